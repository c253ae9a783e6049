package scan_test

import (
	"math"
	"regexp"
	"slices"
	"strconv"
	"strings"
	"testing"
	"unsafe"

	"incipit/scan"
)

const long = 1 << 20

// bytes are all bytes from 0 to 255, each as a text.
func bytes() []string {
	var all []string
	for c := range 256 {
		all = append(all, string([]byte{byte(c)}))
	}
	return all
}

// shortTexts are all of at most so many of the pieces.
func shortTexts(pieces []string, most int) []string {
	texts := []string{""}
	begin := 0
	for range most {
		end := len(texts)
		for _, s := range texts[begin:end] {
			for _, p := range pieces {
				texts = append(texts, s+p)
			}
		}
		begin = end
	}
	return texts
}

// changed are texts that are not quite s: cut at each place, with each byte laid
// in and with each byte in the place of another one.
func changed(s string) []string {
	texts := []string{s}
	for i := range len(s) + 1 {
		texts = append(texts, s[:i], s[i:])
		for _, b := range bytes() {
			texts = append(texts, s[:i]+b+s[i:])
			if i < len(s) {
				texts = append(texts, s[:i]+b+s[i+1:])
			}
		}
	}
	return texts
}

// P8.1

var (
	rule   = regexp.MustCompile(`^(?:\*[ \t]*\*[ \t]*\*[ \t*]*|-[ \t]*-[ \t]*-[ \t-]*|_[ \t]*_[ \t]*_[ \t_]*)$`)
	first  = regexp.MustCompile(`^=+[ \t]*$`)
	second = regexp.MustCompile(`^-+[ \t]*$`)
)

// levelOf is Setext, told by the patterns.
func levelOf(s string) int {
	switch {
	case first.MatchString(s):
		return 1
	case second.MatchString(s):
		return 2
	}
	return 0
}

func checkRule(t *testing.T, s string, want bool) {
	t.Helper()
	if got := scan.Rule(s); got != want {
		t.Errorf("Rule(%q) = %v", s, got)
	}
}

func checkSetext(t *testing.T, s string, want int) {
	t.Helper()
	if got := scan.Setext(s); got != want {
		t.Errorf("Setext(%q) = %d, want %d", s, got, want)
	}
}

func TestRule(t *testing.T) {
	for _, s := range []string{
		"***", "---", "___", "- - -", "*\t*\t*", "_  _ \t _", "-----", "--  -", "- --", "***  ", "---\t", "_ _ _ _ _ \t",
	} {
		checkRule(t, s, true)
	}
	for _, s := range []string{
		"", " ", "*", "-", "_", "**", "--", "__", "* *", "- - ", "_\t_", " ***", "\t---", "+++", "===", "~~~", "**-", "*-*", "_-_", "***-",
		"--- a", "---a", "a---", "- - a", "---\n", "--\n-", "---\r", "---\v", "---\f", "---\u00a0", "\u2014\u2014\u2014", "***\xff", "***\x00",
	} {
		checkRule(t, s, false)
	}
}

func TestSetext(t *testing.T) {
	for _, s := range []string{"=", "==", "=====", "= ", "=\t", "=== \t "} {
		checkSetext(t, s, 1)
	}
	for _, s := range []string{"-", "--", "-----", "- ", "-\t", "--- \t "} {
		checkSetext(t, s, 2)
	}
	for _, s := range []string{
		"", " ", "\t", " =", "\t-", "= =", "- -", "=-", "-=", "==-", "--=", "=a", "-a", "= a", "- a", "a=", "+", "_", "*", "#",
		"=\n", "-\n", "=\r", "-\v", "=\f", "-\u00a0", "=\xff", "-\x00", "\u2014",
	} {
		checkSetext(t, s, 0)
	}
}

func TestRuleAndSetextOfShortTexts(t *testing.T) {
	for _, s := range shortTexts([]string{"*", "-", "_", "=", " ", "\t", "a"}, 6) {
		checkRule(t, s, rule.MatchString(s))
		checkSetext(t, s, levelOf(s))
	}
	for _, s := range []string{"***", "- - -", "_\t_ _ ", "=", "-", "== \t", "--\t "} {
		for _, s := range changed(s) {
			checkRule(t, s, rule.MatchString(s))
			checkSetext(t, s, levelOf(s))
		}
	}
}

// P8.2

var (
	heading = regexp.MustCompile(`(?s)^(#{1,6})(?:[ \t](.*))?$`)
	lastRun = regexp.MustCompile(`(?s)^(?:(.*)[ \t])?#+$`)
)

// headed is Atx, told by the patterns.
func headed(s string) (int, string) {
	found := heading.FindStringSubmatch(s)
	if found == nil {
		return 0, ""
	}
	inner := strings.Trim(found[2], " \t")
	if ahead := lastRun.FindStringSubmatch(inner); ahead != nil {
		inner = ahead[1]
	}
	return len(found[1]), strings.Trim(inner, " \t")
}

func checkAtx(t *testing.T, s string, level int, text string) {
	t.Helper()
	if l, inner := scan.Atx(s); l != level || inner != text {
		t.Errorf("Atx(%q) = %d, %q, want %d, %q", s, l, inner, level, text)
	}
}

func TestAtx(t *testing.T) {
	for level := 1; level <= 6; level++ {
		signs := strings.Repeat("#", level)
		checkAtx(t, signs, level, "")
		checkAtx(t, signs+" ", level, "")
		checkAtx(t, signs+"\t", level, "")
		checkAtx(t, signs+" a", level, "a")
		checkAtx(t, signs+"\ta", level, "a")
		checkAtx(t, signs+" \t a b\t \t", level, "a b")
	}
	for _, s := range []string{
		"", " ", "a", " # a", "\t# a", "#a", "##a", "#######", "####### a", "#\n", "#\na", "#\u00a0a", "#\va", "#\x00", "#\xff", "\\# a", "a # b",
		"=", "-# a",
	} {
		checkAtx(t, s, 0, "")
	}
}

func TestAtxWithoutItsLastRun(t *testing.T) {
	checkAtx(t, "## a #", 2, "a")
	checkAtx(t, "# a ##########", 1, "a")
	checkAtx(t, "### a\t##\t ", 3, "a")
	checkAtx(t, "# a \t #", 1, "a")
	checkAtx(t, "# #", 1, "")
	checkAtx(t, "# ###### ", 1, "")
	checkAtx(t, "###### #######", 6, "")
	// The last run alone goes.
	checkAtx(t, "# # #", 1, "#")
	checkAtx(t, "# a # #", 1, "a #")
	checkAtx(t, "# a # \t ##", 1, "a #")
	checkAtx(t, "# # a", 1, "# a")
	checkAtx(t, "# a # b", 1, "a # b")
	// It stands behind a blank, and at the end.
	checkAtx(t, "# a#", 1, "a#")
	checkAtx(t, "# a #b", 1, "a #b")
	checkAtx(t, "# a ## b##", 1, "a ## b##")
	checkAtx(t, "# #a", 1, "#a")
	checkAtx(t, "# a \\#", 1, "a \\#")
	checkAtx(t, "# a #\\##", 1, "a #\\##")
	checkAtx(t, "# a\n#", 1, "a\n#")
	checkAtx(t, "# a\u00a0#", 1, "a\u00a0#")
	checkAtx(t, "# a #\n", 1, "a #\n")
}

// Blanks alone are trimmed; what bytes the text has does not count.
func TestAtxOfOtherBytes(t *testing.T) {
	checkAtx(t, "# \n a \r ", 1, "\n a \r")
	checkAtx(t, "# \v\f ", 1, "\v\f")
	checkAtx(t, "# \u00a0a\u2003", 1, "\u00a0a\u2003")
	checkAtx(t, "# \xff\x00\xc3 #", 1, "\xff\x00\xc3")
	checkAtx(t, "# \xff#", 1, "\xff#")
	checkAtx(t, "# *a* &amp; `b` \\", 1, "*a* &amp; `b` \\")
}

func TestAtxOfShortTexts(t *testing.T) {
	check := func(s string) {
		level, text := headed(s)
		checkAtx(t, s, level, text)
	}
	for _, s := range shortTexts([]string{"#", " ", "\t", "a", "\\"}, 7) {
		check(s)
		check("######" + s)
	}
	for _, s := range []string{"## a #", "#\t#\t# ", "###### a b##", "# \xff#"} {
		for _, s := range changed(s) {
			check(s)
		}
	}
}

// P8.3

var fences = []*regexp.Regexp{
	regexp.MustCompile("(?s)^(`{3,})[ \t]*([^`]*?)[ \t]*$"),
	regexp.MustCompile("(?s)^(~{3,})[ \t]*(.*?)[ \t]*$"),
}

// fenced is Fence, told by the patterns.
func fenced(s string) (byte, int, string) {
	for _, fence := range fences {
		if found := fence.FindStringSubmatch(s); found != nil {
			return s[0], len(found[1]), found[2]
		}
	}
	return 0, 0, ""
}

// closed is Closes, told by each number of signs that s may be.
func closed(s string, c byte, n int) bool {
	sign := string([]byte{c})
	for k := 1; k <= len(s); k++ {
		behind, ok := strings.CutPrefix(s, strings.Repeat(sign, k))
		if ok && k >= n && strings.Trim(behind, " \t") == "" {
			return true
		}
	}
	return false
}

func checkFence(t *testing.T, s string, c byte, n int, text string) {
	t.Helper()
	if sign, signs, inner := scan.Fence(s); sign != c || signs != n || inner != text {
		t.Errorf("Fence(%q) = %q, %d, %q, want %q, %d, %q", s, sign, signs, inner, c, n, text)
	}
}

func checkCloses(t *testing.T, s string, c byte, n int, want bool) {
	t.Helper()
	if got := scan.Closes(s, c, n); got != want {
		t.Errorf("Closes(%q, %q, %d) = %v", s, c, n, got)
	}
}

func TestFence(t *testing.T) {
	checkFence(t, "~~~ x", '~', 3, "x")
	checkFence(t, "```", '`', 3, "")
	checkFence(t, "~~~", '~', 3, "")
	checkFence(t, "``` ", '`', 3, "")
	checkFence(t, "`````go", '`', 5, "go")
	checkFence(t, "~~~~~~go", '~', 6, "go")
	checkFence(t, "``` \t go run\tx \t", '`', 3, "go run\tx")
	checkFence(t, "~~~\tgo run ", '~', 3, "go run")
	// What the text of each may have.
	checkFence(t, "```~", '`', 3, "~")
	checkFence(t, "``` a~~~b", '`', 3, "a~~~b")
	checkFence(t, "~~~`", '~', 3, "`")
	checkFence(t, "~~~ a`b``` c", '~', 3, "a`b``` c")
	checkFence(t, "~~~~ a~b ~~~", '~', 4, "a~b ~~~")
	checkFence(t, "~~~ ~", '~', 3, "~")
	// As it stands, but for blanks.
	checkFence(t, "``` \\&amp;\\", '`', 3, "\\&amp;\\")
	checkFence(t, "``` \n\v ", '`', 3, "\n\v")
	checkFence(t, "~~~\u00a0\xff\x00", '~', 3, "\u00a0\xff\x00")
}

func TestNoFence(t *testing.T) {
	for _, s := range []string{
		"", " ", "`", "``", "~", "~~", "`` a", "~~ a", "``~", "~~`", "`~`", "~`~", "```a`", "``` a`", "``` ```", "``` a ``` b", "````a`", "```\xff`",
		" ```", "\t~~~", "a```", "---", "\"\"\"", "'''", "\\```",
	} {
		checkFence(t, s, 0, 0, "")
	}
}

func TestCloses(t *testing.T) {
	checkCloses(t, "```", '`', 3, true)
	checkCloses(t, "~~~", '~', 3, true)
	checkCloses(t, "`````", '`', 3, true)
	checkCloses(t, "``` \t ", '`', 3, true)
	checkCloses(t, "~~~~\t", '~', 4, true)
	checkCloses(t, "`", '`', 1, true)
	checkCloses(t, "aa", 'a', 2, true)
	checkCloses(t, "", '`', 3, false)
	checkCloses(t, "``", '`', 3, false)
	checkCloses(t, "`` `", '`', 3, false)
	checkCloses(t, "```", '`', 4, false)
	checkCloses(t, "```", '~', 3, false)
	checkCloses(t, "~~~", '`', 3, false)
	checkCloses(t, "```~", '`', 3, false)
	checkCloses(t, "``` a", '`', 3, false)
	checkCloses(t, "```a", '`', 3, false)
	checkCloses(t, "``` `", '`', 3, false)
	checkCloses(t, " ```", '`', 3, false)
	checkCloses(t, "\t```", '`', 3, false)
	checkCloses(t, "```\n", '`', 3, false)
	checkCloses(t, "```\r", '`', 3, false)
	checkCloses(t, "```\v", '`', 3, false)
	checkCloses(t, "```\u00a0", '`', 3, false)
}

// One at least, however few are asked for.
func TestClosesOfFewAndMany(t *testing.T) {
	for _, n := range []int{1, 0, -1, -3, math.MinInt} {
		checkCloses(t, "", '~', n, false)
		checkCloses(t, " ", '~', n, false)
		checkCloses(t, "a", '~', n, false)
		checkCloses(t, "~", '~', n, true)
		checkCloses(t, "~~\t", '~', n, true)
	}
	for _, n := range []int{4, 5, math.MaxInt32, math.MaxInt} {
		checkCloses(t, "~~~", '~', n, false)
		checkCloses(t, "~~~ ", '~', n, false)
	}
}

// A blank may be asked for, too, and a byte that tells no character.
func TestClosesOfEachByte(t *testing.T) {
	for _, b := range bytes() {
		for _, s := range []string{b, b + b + b, b + b + " \t", b + " " + b, " " + b, "\t \t" + b, b + b + "a", b + "\n"} {
			for n := -1; n < 6; n++ {
				checkCloses(t, s, b[0], n, closed(s, b[0], n))
			}
		}
	}
	checkCloses(t, "   ", ' ', 3, true)
	checkCloses(t, "  ", ' ', 3, false)
	checkCloses(t, "\t\t ", '\t', 2, true)
	checkCloses(t, " \t", '\t', 1, false)
	checkCloses(t, "\xff\xff", 0xff, 2, true)
	checkCloses(t, "\u00ff", 0xff, 1, false)
	checkCloses(t, "\uFFFD", 0xff, 1, false)
}

func TestFencesOfShortTexts(t *testing.T) {
	check := func(s string) {
		c, n, text := fenced(s)
		checkFence(t, s, c, n, text)
		for _, c := range []byte("`~ a") {
			for n := range 5 {
				checkCloses(t, s, c, n, closed(s, c, n))
			}
		}
	}
	for _, s := range shortTexts([]string{"`", "~", " ", "\t", "a"}, 6) {
		check(s)
		check("```" + s)
		check("~~~" + s)
	}
	for _, s := range []string{"```` a b ", "~~~~\ta`", "```", "~~~ "} {
		for _, s := range changed(s) {
			check(s)
		}
	}
}

// P8.4

var (
	bullet  = regexp.MustCompile(`^[-+*](?:[ \t]|$)`)
	ordered = regexp.MustCompile(`^([0-9]{1,9})([.)])(?:[ \t]|$)`)
)

// bulleted is Bullet, told by the pattern.
func bulleted(s string) int {
	if bullet.MatchString(s) {
		return 1
	}
	return 0
}

// numbered is Ordered, told by the pattern.
func numbered(s string) (int, byte, int) {
	found := ordered.FindStringSubmatch(s)
	if found == nil {
		return 0, 0, 0
	}
	number, _ := strconv.Atoi(found[1])
	return number, found[2][0], len(found[1]) + 1
}

func checkBullet(t *testing.T, s string, want int) {
	t.Helper()
	if got := scan.Bullet(s); got != want {
		t.Errorf("Bullet(%q) = %d, want %d", s, got, want)
	}
}

func checkOrdered(t *testing.T, s string, number int, sign byte, size int) {
	t.Helper()
	if k, c, n := scan.Ordered(s); k != number || c != sign || n != size {
		t.Errorf("Ordered(%q) = %d, %q, %d, want %d, %q, %d", s, k, c, n, number, sign, size)
	}
}

func TestBullet(t *testing.T) {
	for _, s := range []string{"-", "+", "*", "- ", "+\t", "* a", "-\ta", "+    a", "- - a", "* *"} {
		checkBullet(t, s, 1)
	}
	for _, s := range []string{
		"", " ", "a", "-a", "+1", "**", "--", "-\n", "+\r", "*\v", "-\u00a0a", "-\xff", "*\x00", " - a", "\t- a", "_ a", "\u2022 a", "1. a", "#",
	} {
		checkBullet(t, s, 0)
	}
}

func TestOrdered(t *testing.T) {
	checkOrdered(t, "12) a", 12, ')', 3)
	checkOrdered(t, "1.", 1, '.', 2)
	checkOrdered(t, "1)", 1, ')', 2)
	checkOrdered(t, "0.", 0, '.', 2)
	checkOrdered(t, "1. a", 1, '.', 2)
	checkOrdered(t, "1.\ta", 1, '.', 2)
	checkOrdered(t, "003) a", 3, ')', 4)
	checkOrdered(t, "000000000.", 0, '.', 10)
	checkOrdered(t, "123456789. a", 123456789, '.', 10)
	checkOrdered(t, "999999999)", 999999999, ')', 10)
	checkOrdered(t, "1. 2) a", 1, '.', 2)
	for _, s := range []string{
		"", " ", "1", "12", "123456789", "1234567890. a", "0000000001.", "9999999999)", ".", ")", ". a", "1.a", "1)a", "1..", "1.)", "1, a", "1: a", "1 .",
		"1 a", "-1. a", "+1. a", " 1. a", "\t1. a", "a. b", "1a. b", "1.\n", "1.\r", "1.\v", "1.\u00a0a", "1.\xff", "1)\x00", "\u0661. a", "(1) a",
	} {
		checkOrdered(t, s, 0, 0, 0)
	}
}

func TestOrderedOfEachNumber(t *testing.T) {
	for _, step := range []int{1, 10, 100, 1000, 10000, 100000, 1000000, 10000000, 100000000, 99999999} {
		for k := range 10 {
			for _, number := range []int{step * k, step*k + k, step*k - 1} {
				if number < 0 || number > 999999999 {
					continue
				}
				digits := strconv.Itoa(number)
				checkOrdered(t, digits+".", number, '.', len(digits)+1)
				checkOrdered(t, digits+")\t-", number, ')', len(digits)+1)
			}
		}
	}
}

func TestItemsOfShortTexts(t *testing.T) {
	check := func(s string) {
		checkBullet(t, s, bulleted(s))
		number, sign, size := numbered(s)
		checkOrdered(t, s, number, sign, size)
	}
	for _, s := range shortTexts([]string{"-", "+", "*", "1", "0", ".", ")", " ", "\t", "a"}, 5) {
		check(s)
	}
	for _, s := range shortTexts([]string{"7", ".", ")", " ", "a"}, 5) {
		check("7654321" + s)
	}
	for _, s := range []string{"- a", "+\t", "*", "12) a", "123456789.\t", "9."} {
		for _, s := range changed(s) {
			check(s)
		}
	}
}

// Rules that hold everywhere

// R1: texts of any length, and of any bytes.
func TestLongLines(t *testing.T) {
	for _, part := range append(bytes(), "- ", "*\t", "` ", "\u20ac", "# ", " #", "~a") {
		s := strings.Repeat(part, long/64)
		checkRule(t, s, rule.MatchString(s))
		checkSetext(t, s, levelOf(s))
		checkBullet(t, s, bulleted(s))
		number, sign, size := numbered(s)
		checkOrdered(t, s, number, sign, size)
		for _, begin := range []string{"", "#", "# a", "```", "~~~ "} {
			level, text := headed(begin + s)
			checkAtx(t, begin+s, level, text)
			c, n, text := fenced(begin + s)
			checkFence(t, begin+s, c, n, text)
		}
	}
	checkCloses(t, strings.Repeat("~", long)+strings.Repeat(" ", long), '~', long, true)
	checkCloses(t, strings.Repeat("~", long), '~', long+1, false)
	checkAtx(t, "# a"+strings.Repeat(" ", long)+strings.Repeat("#", long), 1, "a")
	checkFence(t, strings.Repeat("`", long), '`', long, "")
	checkOrdered(t, strings.Repeat("1", long)+".", 0, 0, 0)
}

// lies: is what is told a piece of the memory of s?
func lies(told, s string) bool {
	from := uintptr(unsafe.Pointer(unsafe.StringData(s)))
	at := uintptr(unsafe.Pointer(unsafe.StringData(told)))
	return told != "" && from <= at && at < from+uintptr(len(s))
}

// R3: an answer is new memory.
func TestTextsAreNewMemory(t *testing.T) {
	for _, s := range []string{"# a", "# a b #", "## #a", "```a", "~~~ a b "} {
		s := strings.Clone(s)
		_, text := scan.Atx(s)
		_, _, info := scan.Fence(s)
		if text+info == "" || lies(text, s) || lies(info, s) {
			t.Errorf("of %q: %q and %q are not new", s, text, info)
		}
	}
}

// Nothing is kept: what is told of a line hangs on no line ahead of it.
func TestNothingIsKept(t *testing.T) {
	tell := func(s string) []any {
		level, text := scan.Atx(s)
		c, n, info := scan.Fence(s)
		number, sign, size := scan.Ordered(s)
		return []any{
			scan.Rule(s), level, text, c, n, info, scan.Closes(s, '~', 3), scan.Setext(s), scan.Bullet(s), number, sign, size,
			scan.Tag(s), scan.HtmlStart(s), scan.HtmlEnds(s, 1), scan.HtmlEnds(s, 7),
		}
	}
	lines := []string{"", "***", "- a", "=", "## a #", "~~~ x", "12) a", "<div>", "<a b=\"", "<!--"}
	for _, s := range lines {
		want := tell(s)
		for _, ahead := range lines {
			tell(ahead)
			if got := tell(s); !slices.Equal(got, want) {
				t.Errorf("of %q %v, and behind %q %v", s, want, ahead, got)
			}
		}
	}
}

func FuzzLine(f *testing.F) {
	for _, s := range []string{"", "- - -", "## a #", "~~~ x", "``` a`", "==", "12) a", "123456789.", "* \xff"} {
		f.Add(s, byte('~'), 3)
	}
	f.Fuzz(func(t *testing.T, s string, c byte, n int) {
		checkRule(t, s, rule.MatchString(s))
		checkSetext(t, s, levelOf(s))
		level, text := headed(s)
		checkAtx(t, s, level, text)
		sign, signs, info := fenced(s)
		checkFence(t, s, sign, signs, info)
		checkCloses(t, s, c, n, closed(s, c, n))
		checkBullet(t, s, bulleted(s))
		number, sign, size := numbered(s)
		checkOrdered(t, s, number, sign, size)
	})
}
