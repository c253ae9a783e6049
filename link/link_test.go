package link_test

import (
	"regexp"
	"slices"
	"strings"
	"testing"
	"unsafe"

	"incipit/escape"
	"incipit/link"
)

const long = 1 << 20

// signs are those that a backslash may stand ahead of.
const signs = "!\"#$%&'()*+,-./:;<=>?@[\\]^_`{|}~"

// behinds are what may stand behind something that is told.
var behinds = []string{"a", " ", "\n", "\t", "\\", "\\]", "]", "[", "(", ")", "<", ">", "\"", "'", "[]", "(/u)", " \"t\"", "\x00", "\xff"}

// bytes are all bytes from 0 to 255, each as a text.
func bytes() []string {
	var all []string
	for c := range 256 {
		all = append(all, string([]byte{byte(c)}))
	}
	return all
}

// shortTexts are all of at most so many of the pieces.
func shortTexts(pieces []string, most int) []string {
	texts := []string{""}
	begin := 0
	for range most {
		end := len(texts)
		for _, s := range texts[begin:end] {
			for _, p := range pieces {
				texts = append(texts, s+p)
			}
		}
		begin = end
	}
	return texts
}

// changed are texts that are not quite s: cut at each place, with each byte laid
// in and with each byte in the place of another one.
func changed(s string) []string {
	texts := []string{s}
	for i := range len(s) + 1 {
		texts = append(texts, s[:i], s[i:])
		for _, b := range bytes() {
			texts = append(texts, s[:i]+b+s[i:])
			if i < len(s) {
				texts = append(texts, s[:i]+b+s[i+1:])
			}
		}
	}
	return texts
}

var (
	pair      = regexp.MustCompile(`\\[!-/:-@\[-` + "`" + `{-~]`)
	beginning = regexp.MustCompile(`^[ \t\n]*`)
	brackets  = regexp.MustCompile(`^\[([^\[\]]*)\]`)
	notWhite  = regexp.MustCompile(`[^ \t\n]`)
	angles    = regexp.MustCompile(`^<([^<>\n]*)>`)
	address   = regexp.MustCompile(`^(` + bare + `)(?:[\x00-\x20\x7f)]|$)`)
	quotes    = regexp.MustCompile(`^(?:` + title + `)`)
	blankLine = regexp.MustCompile(`\n[ \t]*\n`)
	tail      = regexp.MustCompile(`^\([ \t\n]*(?:(<[^<>\n]*>|` + bare + `)(?:[ \t\n]+(` + title + `))?)?[ \t\n]*\)`)
)

// bare is a pattern of an address without < and >, its parentheses as deep as they may be.
var bare = `[^<\x00-\x20\x7f()]` + nested(32) + `|\(` + nested(31) + `\)` + nested(32)

const title = `"[^"]*"|'[^']*'|\([^()]*\)`

// nested is a pattern of bytes of an address with so many levels of parentheses.
func nested(levels int) string {
	inner := `[^\x00-\x20\x7f()]*`
	for range levels {
		inner = `(?:[^\x00-\x20\x7f()]|\(` + inner + `\))*`
	}
	return inner
}

// masked is s with as long a piece of letters for each backslash and the sign
// that it escapes, so that no pattern has to know of these.
func masked(s string) string { return pair.ReplaceAllString(s, "aa") }

// labelled is Label, told by the patterns.
func labelled(s string) (string, int) {
	at := brackets.FindStringSubmatchIndex(masked(s))
	if at == nil || at[3]-at[2] > 999 || !notWhite.MatchString(s[at[2]:at[3]]) {
		return "", 0
	}
	return s[at[2]:at[3]], at[1]
}

// addressed is Dest, told by the patterns.
func addressed(s string) (string, int, bool) {
	if at := angles.FindStringSubmatchIndex(masked(s)); at != nil {
		return escape.Unescape(s[at[2]:at[3]]), at[1], true
	}
	if at := address.FindStringSubmatchIndex(masked(s)); at != nil {
		return escape.Unescape(s[at[2]:at[3]]), at[3], true
	}
	return "", 0, false
}

// titled is Title, told by the patterns.
func titled(s string) (string, int) {
	n := len(quotes.FindString(masked(s)))
	if n == 0 || blankLine.MatchString(s[1:n-1]) {
		return "", 0
	}
	return escape.Unescape(s[1 : n-1]), n
}

// tailed is Tail, told by the patterns.
func tailed(s string) (string, string, int) {
	at := tail.FindStringSubmatchIndex(masked(s))
	if at == nil {
		return "", "", 0
	}
	dest, title := "", ""
	if at[2] >= 0 {
		dest = s[at[2]:at[3]]
		if dest[0] == '<' {
			dest = dest[1 : len(dest)-1]
		}
	}
	if at[4] >= 0 {
		title = s[at[4]+1 : at[5]-1]
		if blankLine.MatchString(title) {
			return "", "", 0
		}
	}
	return escape.Unescape(dest), escape.Unescape(title), at[1]
}

func checkWhite(t *testing.T, s string, want int) {
	t.Helper()
	if got := link.White(s); got != want {
		t.Errorf("White(%q) = %d, want %d", s, got, want)
	}
}

func checkLabel(t *testing.T, s, want string, size int) {
	t.Helper()
	if got, n := link.Label(s); got != want || n != size {
		t.Errorf("Label(%q) = %q, %d, want %q, %d", s, got, n, want, size)
	}
}

func checkDest(t *testing.T, s, want string, size int, is bool) {
	t.Helper()
	if got, n, ok := link.Dest(s); got != want || n != size || ok != is {
		t.Errorf("Dest(%q) = %q, %d, %v, want %q, %d, %v", s, got, n, ok, want, size, is)
	}
}

func checkTitle(t *testing.T, s, want string, size int) {
	t.Helper()
	if got, n := link.Title(s); got != want || n != size {
		t.Errorf("Title(%q) = %q, %d, want %q, %d", s, got, n, want, size)
	}
}

func checkTail(t *testing.T, s, dest, title string, size int) {
	t.Helper()
	if d, u, n := link.Tail(s); d != dest || u != title || n != size {
		t.Errorf("Tail(%q) = %q, %q, %d, want %q, %q, %d", s, d, u, n, dest, title, size)
	}
}

// These hold what is told of s against the patterns.

func sameWhite(t *testing.T, s string) {
	t.Helper()
	checkWhite(t, s, len(beginning.FindString(s)))
}

func sameLabel(t *testing.T, s string) {
	t.Helper()
	want, n := labelled(s)
	checkLabel(t, s, want, n)
}

func sameDest(t *testing.T, s string) {
	t.Helper()
	want, n, ok := addressed(s)
	checkDest(t, s, want, n, ok)
}

func sameTitle(t *testing.T, s string) {
	t.Helper()
	want, n := titled(s)
	checkTitle(t, s, want, n)
}

func sameTail(t *testing.T, s string) {
	t.Helper()
	dest, title, n := tailed(s)
	checkTail(t, s, dest, title, n)
}

// P9.1

func TestWhite(t *testing.T) {
	checkWhite(t, "", 0)
	checkWhite(t, "a", 0)
	checkWhite(t, " ", 1)
	checkWhite(t, "\t\n a ", 3)
	checkWhite(t, "\n\n\n", 3)
	checkWhite(t, " \t\n \r\n", 4)
	for _, b := range bytes() {
		want := 0
		if strings.Contains(" \t\n", b) {
			want = 1
		}
		checkWhite(t, b, want)
		checkWhite(t, b+"a ", want)
		checkWhite(t, " \n"+b+"a", 2+want)
	}
	// White is what the chapter says it is, not what Unicode has.
	for _, s := range []string{"\u00a0", "\u2003", "\u3000", "\u0085", "\ufeff"} {
		checkWhite(t, s, 0)
		checkWhite(t, "  "+s, 2)
	}
}

// wholeLabel: is all of "[inner]" a label, whatever stands behind it?
func wholeLabel(t *testing.T, inner string) {
	t.Helper()
	s := "[" + inner + "]"
	checkLabel(t, s, inner, len(s))
	for _, behind := range behinds {
		checkLabel(t, s+behind, inner, len(s))
	}
}

func noLabel(t *testing.T, texts ...string) {
	t.Helper()
	for _, s := range texts {
		checkLabel(t, s, "", 0)
	}
}

func TestLabel(t *testing.T) {
	checkLabel(t, "[a]b", "a", 3)
	for _, inner := range []string{
		"a", "a b", " a ", "\ta\n", "\n\na\n\n", "a\n\nb", "a\r\nb", "\r", "\v", "\f", "\x00", "\xff", "\u00e9", "\u00a0", "^1", "!", "(", ")", "<", ">", "\"", "'",
		"&amp;", "&lbrack;", "*a*", "`a`", "^", ":",
	} {
		wholeLabel(t, inner)
	}
	noLabel(t, "", "a", "[", "]", "[]", "[ ]", "[\t]", "[\n]", "[ \t\n]", "[a", "[a\n", "a]", " [a]", "![a]", "\\[a]", "[[a]]", "[a[b]]", "[a[b]", "[[]", "[a\n[b]", "(a)", "[ []")
	// The first one ends it.
	checkLabel(t, "[a]]", "a", 3)
	checkLabel(t, "[a][b]", "a", 3)
	// What is told is as it stands.
	checkLabel(t, "[ &lt;\\* ]", " &lt;\\* ", 10)
}

func TestLabelsWithBackslashes(t *testing.T) {
	for _, inner := range []string{
		"\\]", "\\[", "\\\\", "a\\]b", "\\[a\\]", "\\\\\\]", "\\\\\\[", "\\\\\\\\", "\\a", "a\\ ", "\\ ", "\\\n", "\\\u00e9", "\\\xff", "\\a\\]",
	} {
		wholeLabel(t, inner)
	}
	noLabel(t, "[\\]", "[a\\]", "[\\\\\\]", "[\\\\[]", "[\\\\[a]", "[\\a[]", "[\\ []", "\\[a]", "[\\]\\", "[\\][]")
	// The backslash is escaped itself.
	checkLabel(t, "[\\\\]]", "\\\\", 4)
	checkLabel(t, "[a\\\\]b]", "a\\\\", 5)
	// Of what is no sign nothing is escaped.
	checkLabel(t, "[\\a]]", "\\a", 4)
	checkLabel(t, "[\\\xff]]", "\\\xff", 4)
	for _, b := range bytes() {
		switch {
		case b == "]" || b == "[" || b == "\\":
			checkLabel(t, "[\\"+b+"]", "\\"+b, 4)
			checkLabel(t, "[a\\"+b+"\\"+b+"]", "a\\"+b+"\\"+b, 7)
		default:
			checkLabel(t, "[\\"+b+"]", "\\"+b, 4)
			checkLabel(t, "[\\"+b+"\\]]", "\\"+b+"\\]", 6)
		}
	}
}

// At most 999 bytes, however many characters these are.
func TestLabelsAsLongAsTheyMayBe(t *testing.T) {
	a := strings.Repeat("a", 1001)
	for n := 996; n <= 999; n++ {
		wholeLabel(t, a[:n])
	}
	noLabel(t, "["+a[:1000]+"]", "["+a[:1001]+"]", "["+a[:1000]+"]]", "["+a[:999], "["+a[:1000], "["+a[:999]+"[]")
	wholeLabel(t, strings.Repeat("\u00e9", 499)+"a")
	noLabel(t, "["+strings.Repeat("\u00e9", 500)+"]")
	wholeLabel(t, strings.Repeat("\u20ac", 333))
	noLabel(t, "["+strings.Repeat("\u20ac", 333)+"a]")
	wholeLabel(t, a[:997]+"\\]")
	noLabel(t, "["+a[:998]+"\\]", "["+a[:998]+"\\]]", "["+a[:997]+"\\]a]")
	wholeLabel(t, strings.Repeat("\\]", 499)+"a")
	noLabel(t, "["+strings.Repeat("\\]", 500)+"]")
	// White counts, too.
	wholeLabel(t, strings.Repeat(" ", 998)+"a")
	wholeLabel(t, "a"+strings.Repeat("\n", 998))
	noLabel(t, "["+strings.Repeat(" ", 999)+"]", "["+strings.Repeat(" ", 999)+"a]", "[a"+strings.Repeat("\n", 999)+"]")
}

func TestLabelsOfShortTexts(t *testing.T) {
	for _, s := range shortTexts([]string{"[", "]", "\\", "a", " ", "\n", "\t", "\xff"}, 5) {
		sameLabel(t, s)
		sameLabel(t, "["+s)
		sameLabel(t, "[a"+s+"]")
		sameWhite(t, s)
	}
}

// P9.2

// ends: does behind end the address s? Without angles it goes on but for white
// and the like, and for a ")" that is not escaped.
func ends(s, behind string) bool {
	switch {
	case s[0] == '<':
		return true
	case behind[0] == ')':
		return !strings.HasSuffix(masked(s), "\\")
	}
	return behind[0] <= ' ' || behind[0] == 127
}

// wholeDest: is all of s an address, whatever stands behind it that ends it?
func wholeDest(t *testing.T, s, want string) {
	t.Helper()
	checkDest(t, s, want, len(s), true)
	for _, behind := range behinds {
		if ends(s, behind) {
			checkDest(t, s+behind, want, len(s), true)
		}
	}
}

func noDest(t *testing.T, texts ...string) {
	t.Helper()
	for _, s := range texts {
		checkDest(t, s, "", 0, false)
	}
}

func TestDestInAngles(t *testing.T) {
	checkDest(t, "<a b>", "a b", 5, true)
	for s, want := range map[string]string{
		"<>": "", "<a>": "a", "< >": " ", "< a\t>": " a\t", "<a)>": "a)", "<(>": "(", "<((a>": "((a", "<\r>": "\r", "<\x00\x7f\xff>": "\x00\x7f\xff", "<\"'[]>": "\"'[]",
		"<\u00e9>": "\u00e9", "<&lt;&amp;>": "<&", "<&#62;>": ">", "<&no;>": "&no;", "<http://a.b/?c=d&e>": "http://a.b/?c=d&e",
		"<\\>>": ">", "<\\<>": "<", "<\\\\>": "\\", "<\\\\\\>>": "\\>", "<a\\>b\\<c>": "a>b<c", "<\\a>": "\\a", "<\\ >": "\\ ", "<\\\xff>": "\\\xff", "<\\&lt;>": "&lt;",
		"<" + strings.Repeat("(", 40) + ">": strings.Repeat("(", 40),
	} {
		wholeDest(t, s, want)
	}
	// It ends at the first > that is not escaped.
	checkDest(t, "<a>b>", "a", 3, true)
	checkDest(t, "<a>b", "a", 3, true)
	checkDest(t, "<\\\\>>", "\\", 4, true)
	// One that begins so is not told in the other form.
	noDest(t, "<", "<a", "<a b", "<a\n>", "<\n>", "<a<b>", "<<a>", "<<>", "<a\\>", "<\\>", "<\\\n>", "<\\\\<>", "<a\r\n>", "<a<", "<a)")
}

func TestDestWithoutAngles(t *testing.T) {
	for s, want := range map[string]string{
		"a": "a", "/u": "/u", "http://a.b/?c=d&e#f": "http://a.b/?c=d&e#f", "a<b": "a<b", "a>": "a>", ">": ">", "\"t\"": "\"t\"", "'t'": "'t'", "[a]": "[a]", "#": "#",
		"\u00e9": "\u00e9", "\u00a0": "\u00a0", "\x80\xff": "\x80\xff", "a&amp;b": "a&b", "&#32;": " ", "&nbsp;": "\u00a0", "&no;": "&no;", "&#40;": "(",
		"()": "()", "(a)": "(a)", "a(b)c": "a(b)c", "(())": "(())", "()()": "()()", "a(b(c)d(e)f)g": "a(b(c)d(e)f)g",
		"\\(": "(", "\\)": ")", "\\(\\(\\)": "(()", "(\\))": "())", "(\\()": "(()", "a\\)b": "a)b", "\\\\": "\\", "\\\\()": "\\()", "\\<": "<", "\\<a>": "<a>",
		"\\": "\\", "a\\": "a\\", "\\a": "\\a", "\\\\\\)": "\\)", "\\&amp;": "&amp;", "\\\u00e9": "\\\u00e9",
	} {
		wholeDest(t, s, want)
	}
	noDest(t, "", " ", " a", "\n", "\ta", "\x00", "\x1f", "\x7f", "\x7fa", ")", ")a", "))")
	// As many of the one as of the other.
	noDest(t, "(", "((", "(()", "(a", "a(", "a(b", "a(b c)", "(a\n)", "(\\)", "\\\\(", "(()()", "(\x7f)", "a(b)(")
	// These end it.
	checkDest(t, "a)", "a", 1, true)
	checkDest(t, "a)b)", "a", 1, true)
	checkDest(t, "())", "()", 2, true)
	checkDest(t, "(a)b)c", "(a)b", 4, true)
	checkDest(t, "\\))", ")", 2, true)
	checkDest(t, "\\\\)", "\\", 2, true)
	checkDest(t, "\\(a\\))", "(a)", 5, true)
	checkDest(t, "\\ a", "\\", 1, true)
	checkDest(t, "a\\\nb", "a\\", 2, true)
	checkDest(t, "a\\\x7f", "a\\", 2, true)
	checkDest(t, "a\\\\)", "a\\", 3, true)
	checkDest(t, "/u \"t\"", "/u", 2, true)
	// These go on with it.
	checkDest(t, "/u\"t\"", "/u\"t\"", 5, true)
	checkDest(t, "a<b>", "a<b>", 4, true)
	checkDest(t, "a\u00a0b", "a\u00a0b", 4, true)
}

func TestDestOfEachByte(t *testing.T) {
	for c, b := range bytes() {
		switch {
		case b == ")":
			checkDest(t, "a"+b+"c", "a", 1, true)
		case b == "(":
			noDest(t, "a"+b+"c")
		case c <= 32 || c == 127:
			checkDest(t, "a"+b+"c", "a", 1, true)
			noDest(t, b, b+"a")
		default:
			checkDest(t, "a"+b+"c", "a"+b+"c", 3, true)
		}
		switch b {
		case "<", "\n":
			noDest(t, "<a"+b+"c>")
		case ">":
			checkDest(t, "<a"+b+"c>", "a", 3, true)
		default:
			checkDest(t, "<a"+b+"c>", "a"+b+"c", 5, true)
		}
		if strings.Contains(signs, b) {
			checkDest(t, "a\\"+b+"c d", "a"+b+"c", 4, true)
			checkDest(t, "<a\\"+b+"c>d", "a"+b+"c", 6, true)
		}
	}
}

func TestDestsAsDeepAsTheyMayBe(t *testing.T) {
	deep := func(n int) string { return strings.Repeat("(", n) + strings.Repeat(")", n) }
	for n := 1; n <= 32; n++ {
		wholeDest(t, deep(n), deep(n))
		wholeDest(t, "a"+deep(n)+"b"+deep(n), "a"+deep(n)+"b"+deep(n))
	}
	noDest(t, deep(33), deep(34), "a"+deep(33)+"b", deep(32)+deep(33), deep(33)+" ", deep(33)+")", "()"+deep(100))
	// Many, but not at one time; and escaped ones.
	wholeDest(t, strings.Repeat("()", 100), strings.Repeat("()", 100))
	wholeDest(t, strings.Repeat(deep(32), 10), strings.Repeat(deep(32), 10))
	wholeDest(t, strings.Repeat("\\(", 100), strings.Repeat("(", 100))
	wholeDest(t, strings.Repeat("(", 32)+"\\("+strings.Repeat(")", 32), strings.Repeat("(", 33)+strings.Repeat(")", 32))
	for n := range 40 {
		sameDest(t, deep(n))
		sameDest(t, "("+deep(n)+"a)")
		sameDest(t, deep(n)+")")
	}
}

func TestDestsOfShortTexts(t *testing.T) {
	for _, s := range shortTexts([]string{"<", ">", "(", ")", "\\", "a", " ", "\n", "&lt;", "\x7f"}, 4) {
		sameDest(t, s)
		sameDest(t, "<"+s)
		sameDest(t, "<a"+s+">")
		sameDest(t, "(a"+s+")")
	}
	for _, s := range shortTexts([]string{"(", ")", "\\", "a"}, 7) {
		sameDest(t, s)
	}
}

// P9.3

// wholeTitle: is all of s a title, whatever stands behind it?
func wholeTitle(t *testing.T, s, want string) {
	t.Helper()
	checkTitle(t, s, want, len(s))
	for _, behind := range behinds {
		checkTitle(t, s+behind, want, len(s))
	}
}

func noTitle(t *testing.T, texts ...string) {
	t.Helper()
	for _, s := range texts {
		checkTitle(t, s, "", 0)
	}
}

func TestTitle(t *testing.T) {
	checkTitle(t, "'x' y", "x", 3)
	for s, want := range map[string]string{
		"\"\"": "", "''": "", "()": "", "\"a\"": "a", "'a'": "a", "(a)": "a", "\" a b\t\"": " a b\t", "\"'\"": "'", "'\"'": "\"", "\"()\"": "()", "'('": "(", "'\")'": "\")",
		"(\"')": "\"'", "\"&quot;\"": "\"", "'&apos;&#39;'": "''", "(&no;)": "&no;", "\"<a>[b]`\"": "<a>[b]`", "\"\x00\xff\r\"": "\x00\xff\r", "\"\u00e9\"": "\u00e9",
		"\"\\\"\"": "\"", "'\\''": "'", "(\\))": ")", "(\\()": "(", "(\\(\\))": "()", "\"\\\\\"": "\\", "'\\\\\\''": "\\'", "\"a\\\"b\\\"c\"": "a\"b\"c", "\"\\'\"": "'",
		"\"\\a\"": "\\a", "\"\\ \"": "\\ ", "'\\\xff'": "\\\xff", "'\\&amp;'": "&amp;", "'&#92;'": "\\",
	} {
		wholeTitle(t, s, want)
	}
	noTitle(t,
		"", "a", " \"a\"", "\n'a'", "\"", "'", "(", ")", ")a)", "\"a", "'a", "(a", "\"a'", "'a\"", "\"a)", "(a\"", "(a(", "((a)", "(a(b)", "(a(b))", "(()", "[a]", "<a>",
		"\"\\\"", "'a\\'", "(a\\)", "\"\\\\\\\"", "(\\\\()", "\\\"a\"", "`a`", "\u201ca\u201d", "\u00aba\u00bb", ")a(", "\xff",
	)
	// The first one ends it.
	checkTitle(t, "\"a\"b\"", "a", 3)
	checkTitle(t, "'a''", "a", 3)
	checkTitle(t, "(a))", "a", 3)
	checkTitle(t, "\"\\\\\"\"", "\\", 4)
	checkTitle(t, "(\\\\))", "\\", 4)
	// Only of parentheses the one that opens may not stand within.
	checkTitle(t, "\"(\"", "(", 3)
	checkTitle(t, "'(('", "((", 4)
}

func TestTitlesOfLines(t *testing.T) {
	for _, q := range []string{"\"\"", "''", "()"} {
		begin, end := q[:1], q[1:]
		for _, inner := range []string{
			"a\nb", "a\nb\nc", "\n", "\na", "a\n", "\na\n", " \n ", "\t\n\t", " \na\n\t", "\n\\\n", "\n&#32;\n", "\n\r\n", "\n\v\n", "\n\f\n", "\n\x00\n", "\n\u00a0\n", "\n \xff\n",
			"a\n b \nc", "  \na", "a\n  ",
		} {
			wholeTitle(t, begin+inner+end, escape.Unescape(inner))
		}
		for _, inner := range []string{
			"\n\n", "a\n\nb", "a\n\n", "\n\na", "a\n \nb", "a\n\t\nb", "a\n \t \nb", "\n \n", "a\nb\n\nc\nd", "a\nb\n \t\nc", " \n \n ", "\n\n\n", "a\\\n\nb",
		} {
			noTitle(t, begin+inner+end, begin+inner+end+"\n", begin+inner+"\n"+end)
		}
		// A line behind the title is none of its own.
		checkTitle(t, begin+"a"+end+"\n\nb"+end, "a", 3)
		checkTitle(t, begin+"a\n"+end+"\n\n", "a\n", 4)
	}
}

func TestTitlesOfEachByte(t *testing.T) {
	for _, b := range bytes() {
		for _, q := range []string{"\"\"", "''", "()"} {
			begin, end := q[:1], q[1:]
			switch {
			case b == end:
				checkTitle(t, begin+"a"+b+"c"+end, "a", 3)
			case b == "(" && begin == "(":
				noTitle(t, begin+"a"+b+"c"+end)
			default:
				checkTitle(t, begin+"a"+b+"c"+end, "a"+b+"c", 5)
			}
			if strings.Contains(signs, b) {
				checkTitle(t, begin+"a\\"+b+"c"+end, "a"+b+"c", 6)
			}
		}
		if !strings.Contains("\"'(", b) {
			noTitle(t, b, b+b, b+"a"+b, b+"a)", b+"\"a\"")
		}
	}
}

func TestTitlesOfShortTexts(t *testing.T) {
	for _, s := range shortTexts([]string{"\"", "'", "(", ")", "\\", "a", " ", "\t", "\n"}, 5) {
		sameTitle(t, s)
		sameTitle(t, "\""+s+"\"")
		sameTitle(t, "("+s+")")
	}
	for _, s := range shortTexts([]string{"'", "\\", "\n", " ", "a"}, 7) {
		sameTitle(t, "'"+s)
	}
}

// P9.4

// wholeTail: is all of s the address and the title, whatever stands behind it?
func wholeTail(t *testing.T, s, dest, title string) {
	t.Helper()
	checkTail(t, s, dest, title, len(s))
	for _, behind := range behinds {
		checkTail(t, s+behind, dest, title, len(s))
	}
}

func noTail(t *testing.T, texts ...string) {
	t.Helper()
	for _, s := range texts {
		checkTail(t, s, "", "", 0)
	}
}

func TestTail(t *testing.T) {
	checkTail(t, "(/u \"t\")", "/u", "t", 8)
	for _, x := range [][3]string{
		{"()", "", ""}, {"( )", "", ""}, {"(\n\t \n\n)", "", ""}, {"(<>)", "", ""}, {"( <> )", "", ""}, {"(<> 't')", "", "t"},
		{"(/u)", "/u", ""}, {"( /u )", "/u", ""}, {"(\n/u\n)", "/u", ""}, {"(\t\n /u\n\n\t)", "/u", ""}, {"(<a b>)", "a b", ""}, {"(< a >)", " a ", ""},
		{"(/u 't')", "/u", "t"}, {"(/u (t))", "/u", "t"}, {"(/u\n\"t\")", "/u", "t"}, {"( /u \t\n \"t\" \n)", "/u", "t"}, {"(/u\n\n\"t\")", "/u", "t"}, {"(<u v> 't')", "u v", "t"},
		{"(/u \"\")", "/u", ""}, {"(/u ())", "/u", ""}, {"(/u \"a\nb\")", "/u", "a\nb"}, {"(/u \"a \\\" b\")", "/u", "a \" b"}, {"(/u ')')", "/u", ")"},
		{"(a(b)c)", "a(b)c", ""}, {"((a))", "(a)", ""}, {"(())", "()", ""}, {"(a\\)b)", "a)b", ""}, {"(\\()", "(", ""}, {"(<)>)", ")", ""}, {"(<\\>>)", ">", ""},
		{"(&amp; \"&quot;\")", "&", "\""}, {"(a&#32;b)", "a b", ""}, {"(\\\\)", "\\", ""},
		// A title stands behind an address alone: these are addresses.
		{"(\"t\")", "\"t\"", ""}, {"('t')", "'t'", ""}, {"( \"t\" )", "\"t\"", ""}, {"((t))", "(t)", ""}, {"(\"t\" \"u\")", "\"t\"", "u"}, {"(/u\"t\")", "/u\"t\"", ""},
		{"(/u\u00a0\"t\")", "/u\u00a0\"t\"", ""},
	} {
		wholeTail(t, x[0], x[1], x[2])
	}
	// The first one ends it.
	checkTail(t, "(/u))", "/u", "", 4)
	checkTail(t, "(/u 't'))", "/u", "t", 8)
	checkTail(t, "())", "", "", 2)
	checkTail(t, "(a)b)", "a", "", 3)
}

func TestTailsThatAreNone(t *testing.T) {
	noTail(t,
		"", "a", " ", ")", "(", "( ", "(a", "(a ", "/u", " (/u)", "\n()", "\\()", "[/u]", "</u>", "a(b)",
		"(a b)", "(a b c)", "(/u t)", "(<a b)", "(<a\nb>)", "(<a>b)", "(<a> b)", "(<a)", "(<)", "(<a<b>)", "(a(b)", "((a)", "(()", "(a\\)", "(\\)",
		"(/u \"t)", "(/u 't\")", "(/u \"t\"", "(/u \"t\" ", "(/u \"t\"a)", "(/u \"t\" a)", "(/u \"t\" \"u\")", "(/u \"t\"\"u\")", "(/u \"a\"b\")", "(/u (a(b)))", "(/u (t)",
		"(/u \"a\n\nb\")", "(/u 'a\n \t\nb')", "(<a>\"t\")", "(<a>'t')", "(<a>(t))", "(<>\"t\")",
		"(\"a b\")", "('a b')", "(\"t u\")", "(\"t\" u)", "(\r)", "(a\r)", "(a\x00)", "(a\r'b')", "( \u00a0a b)", "(\x7f)", "(/u\v\"t\")", "(a\\ b)",
	)
	noTail(t, "("+strings.Repeat("(", 33)+strings.Repeat(")", 33)+")")
	// An address that is none, and what would be a title.
	noTail(t, "( \"(\" )", "(\"(\" )", "( '('\n)", "(\"(\" \"t\")", "( '\x7f')", "(\x7f 't')", "( (a )", "( ( )")
	checkTail(t, "("+strings.Repeat("(", 32)+strings.Repeat(")", 32)+")", strings.Repeat("(", 32)+strings.Repeat(")", 32), "", 66)
}

func TestTailsOfShortTexts(t *testing.T) {
	for _, s := range shortTexts([]string{"(", ")", "<", ">", "\"", "'", "\\", "a", " ", "\n"}, 4) {
		sameTail(t, s)
		sameTail(t, "("+s+")")
		sameTail(t, "(a"+s+")")
		sameTail(t, "(<>\n"+s+")")
		sameTail(t, "(a (b"+s+")")
	}
	for _, s := range shortTexts([]string{" ", "\n", "<a>", "/u", "\"t\"", "'a\n\nb'", "(t)", "\"(\"", ")"}, 5) {
		sameTail(t, "("+s)
	}
}

// Rules that hold everywhere

func TestEachByteInEachPlace(t *testing.T) {
	for _, s := range []string{
		"[a]", "[\\]b\n]", "<a b>", "<\\>>", "a(b)c", "(\\()", "\"t\"", "'a\nb'", "(\\))", "\"a\\\\\"", "()", "(/u \"t\")", "(<u>\n't' )", "( a(b) (c) )",
	} {
		for _, s := range changed(s) {
			sameWhite(t, s)
			sameLabel(t, s)
			sameDest(t, s)
			sameTitle(t, s)
			sameTail(t, s)
		}
	}
}

// P9.5: what ends with a sign of its own ends there, whatever stands behind; an address
// without < and > ends at what can't go on with it.
func TestWhatStandsBehindSaysNothing(t *testing.T) {
	for _, s := range shortTexts([]string{"[", "]", "(", ")", "<", ">", "\"", "'", "\\", "a", " ", "\n"}, 4) {
		_, label := link.Label(s)
		dest, size, ok := link.Dest(s)
		title, end := link.Title(s)
		_, _, tail := link.Tail(s)
		for _, behind := range []string{"a", " ", "\n", "\\", "]", ")", ">", "\"", "("} {
			if label > 0 {
				checkLabel(t, s[:label]+behind, s[1:label-1], label)
			}
			if ok && ends(s[:size], behind) {
				checkDest(t, s[:size]+behind, dest, size, true)
			}
			if end > 0 {
				checkTitle(t, s[:end]+behind, title, end)
			}
			if tail > 0 {
				d, u, _ := link.Tail(s)
				checkTail(t, s[:tail]+behind, d, u, tail)
			}
		}
	}
}

// R1: texts of any length.
func TestLongTexts(t *testing.T) {
	for _, part := range append(bytes(), "\\\\", "\\]", "\\(", "()", "a ", "a\n", "\n ", "\u20ac", "&amp;", "\\a", "[]", "<>") {
		s := strings.Repeat(part, long/256/len(part))
		sameWhite(t, s)
		for _, begin := range []string{"", "[", "<", "(", "\"", "'", "(/u ", "(<a> \"", "(<"} {
			sameLabel(t, begin+s)
			sameDest(t, begin+s+">")
			sameTitle(t, begin+s+"\"")
			sameTail(t, begin+s+")")
		}
	}
	a := strings.Repeat("a", long)
	white := strings.Repeat(" \n\t", long)
	checkWhite(t, white, 3*long)
	noLabel(t, "["+a+"]", strings.Repeat("[", long))
	checkDest(t, a, a, long, true)
	checkDest(t, "<"+a+">", a, long+2, true)
	noDest(t, "<"+a, strings.Repeat("(", long)+strings.Repeat(")", long))
	checkTitle(t, "'"+a+"'", a, long+2)
	checkTitle(t, "'"+strings.Repeat("a\n", long)+"'", strings.Repeat("a\n", long), 2*long+2)
	noTitle(t, "'"+a, "'"+strings.Repeat("a\n", long)+"\n'")
	checkTail(t, "("+white+a+white+"'"+a+"'"+white+")", a, a, 11*long+4)
}

// lies: is what is told a piece of the memory of s?
func lies(told, s string) bool {
	from := uintptr(unsafe.Pointer(unsafe.StringData(s)))
	at := uintptr(unsafe.Pointer(unsafe.StringData(told)))
	return told != "" && from <= at && at < from+uintptr(len(s))
}

// R3: an answer is new memory.
func TestTextsAreNewMemory(t *testing.T) {
	for _, s := range []string{"[a]", "<ab>", "ab", "'t'", "(ab)", "(u 't')"} {
		s := strings.Clone(s)
		label, _ := link.Label(s)
		dest, _, _ := link.Dest(s)
		title, _ := link.Title(s)
		to, called, _ := link.Tail(s)
		if label+dest+title+to+called == "" {
			t.Errorf("nothing is told of %q", s)
		}
		for _, told := range []string{label, dest, title, to, called} {
			if lies(told, s) {
				t.Errorf("of %q: %q is not new", s, told)
			}
		}
	}
}

// Nothing is kept: what is told of a text hangs on no text ahead of it.
func TestNothingIsKept(t *testing.T) {
	tell := func(s string) []any {
		label, n := link.Label(s)
		dest, size, ok := link.Dest(s)
		title, end := link.Title(s)
		to, called, all := link.Tail(s)
		return []any{label, n, dest, size, ok, title, end, to, called, all, link.White(s)}
	}
	texts := []string{"", "\\", "[\\", "[a]", "<\\", "<a>", "((", "'\\", "'t'", "\"", "(/u", "(/u 't')", " \n", "]", ")", "'"}
	for _, s := range texts {
		want := tell(s)
		for _, ahead := range texts {
			tell(ahead)
			if got := tell(s); !slices.Equal(got, want) {
				t.Errorf("of %q %v, and behind %q %v", s, want, ahead, got)
			}
		}
	}
}

func FuzzLink(f *testing.F) {
	for _, s := range []string{"", "[a]b", "[\\]]", "<a b>", "a(b)\\)", "'x' y", "\"a\n\nb\"", "(/u \"t\")", "(<> (t))", "\xff\\\xa1"} {
		f.Add(s)
	}
	f.Fuzz(func(t *testing.T, s string) {
		sameWhite(t, s)
		for _, begin := range []string{"", "[", "<", "(", "(a ", "\"", "'"} {
			sameLabel(t, begin+s)
			sameDest(t, begin+s)
			sameTitle(t, begin+s)
			sameTail(t, begin+s)
			sameTail(t, begin+s+")")
		}
	})
}
