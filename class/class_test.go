package class_test

import (
	"math"
	"strconv"
	"strings"
	"testing"
	"unicode"
	"unicode/utf8"
	"unsafe"

	"incipit/class"
)

// The ranges as the chapter writes them.
const (
	white    = "9, 10, 12, 13, 32, 160, 5760, 8192 to 8202, 8239, 8287, 12288"
	signs    = "33 to 47, 58 to 64, 91 to 96, 123 to 126, 161 to 169, 171, 172, 174 to 177, 180, 182 to 184, 187, 191, 215, 247, 8208 to 8231, 8240 to 8286, 8352 to 8384, 12289 to 12291, 12296 to 12319, 65281 to 65295"
	by32     = "65 to 90, 192 to 214, 216 to 222, 913 to 929, 931 to 939, 1040 to 1071"
	by80     = "1024 to 1039"
	letters  = "97 to 122, 65 to 90"
	digits   = "48 to 57"
	gaps     = "\t\n\v\f\r "
	mark     = "\uFFFD"
	ordinary = "Some [Text], \u00c4B\u1e9e \u03a3\u03c2 \u0416."
)

// told are the numbers that a list of ranges tells.
func told(t *testing.T, list string) map[rune]bool {
	t.Helper()
	all := map[rune]bool{}
	for _, part := range strings.Split(list, ", ") {
		from, to, more := strings.Cut(part, " to ")
		if !more {
			to = from
		}
		first, err := strconv.Atoi(from)
		if err != nil {
			t.Fatal(err)
		}
		last, err := strconv.Atoi(to)
		if err != nil {
			t.Fatal(err)
		}
		for r := first; r <= last; r++ {
			all[rune(r)] = true
		}
	}
	return all
}

// checkRunes holds is against the list at all characters, and at numbers that are none.
func checkRunes(t *testing.T, name string, is func(rune) bool, list string) {
	t.Helper()
	want := told(t, list)
	for r := rune(-300); r <= utf8.MaxRune+300; r++ {
		if got := is(r); got != want[r] {
			t.Errorf("%s(%d) = %v", name, r, got)
		}
	}
	for _, r := range []rune{math.MinInt32, math.MinInt32 + 32, math.MaxInt32, 1<<16 + 32, 1<<24 + 33} {
		if is(r) {
			t.Errorf("%s(%d) = true", name, r)
		}
	}
}

func checkBytes(t *testing.T, name string, is func(byte) bool, list string) {
	t.Helper()
	want := told(t, list)
	for c := range 256 {
		if got := is(byte(c)); got != want[rune(c)] {
			t.Errorf("%s(%d) = %v", name, c, got)
		}
	}
}

func checkFold(t *testing.T, s, want string) {
	t.Helper()
	if got := class.Fold(s); got != want {
		t.Errorf("Fold(%q) = %q, want %q", s, got, want)
	}
}

func checkLabel(t *testing.T, s, want string) {
	t.Helper()
	if got := class.Label(s); got != want {
		t.Errorf("Label(%q) = %q, want %q", s, got, want)
	}
}

// P3.1

func TestSpace(t *testing.T) {
	checkRunes(t, "Space", class.Space, white)
	// Unicode has these as white; the chapter has not.
	for _, r := range []rune{11, 0x85, 0x200b, 0x2028, 0x2029} {
		if class.Space(r) {
			t.Errorf("Space(%d) = true", r)
		}
	}
}

func TestPunct(t *testing.T) {
	checkRunes(t, "Punct", class.Punct, signs)
	for _, r := range `!"#$%&'()*+,-./:;<=>?@[\]^_` + "`{|}~" {
		if !class.Punct(r) {
			t.Errorf("Punct(%q) = false", r)
		}
	}
}

func TestLetterAndDigit(t *testing.T) {
	checkBytes(t, "Letter", class.Letter, letters)
	checkBytes(t, "Digit", class.Digit, digits)
}

// P3.2

func TestFold(t *testing.T) {
	checkFold(t, "", "")
	checkFold(t, "\u00c4B\u1e9e", "\u00e4bss")
	checkFold(t, "aB-9 [Z]", "ab-9 [z]")
	checkFold(t, "\u00df\u1e9eS", "sssss")
	checkFold(t, "\u03a3\u03c3\u03c2", "\u03c3\u03c3\u03c3")
	checkFold(t, "\u0400\u040f\u0410\u042f", "\u0450\u045f\u0430\u044f")
	checkFold(t, "\u20ac\U0001F600\U0010ffff", "\u20ac\U0001F600\U0010ffff")
	checkFold(t, gaps+"A"+gaps, gaps+"a"+gaps)
}

func TestFoldAtEdges(t *testing.T) {
	checkFold(t, "@AZ[`az{", "@az[`az{")
	checkFold(t, "\u00bf\u00c0\u00d6\u00d7\u00d8\u00de\u00df", "\u00bf\u00e0\u00f6\u00d7\u00f8\u00fess")
	checkFold(t, "\u0390\u0391\u03a1\u03a2\u03a3\u03ab\u03ac", "\u0390\u03b1\u03c1\u03a2\u03c3\u03cb\u03ac")
	checkFold(t, "\u03c1\u03c2\u03c3", "\u03c1\u03c3\u03c3")
	checkFold(t, "\u03ff\u0400\u042f\u0430", "\u03ff\u0450\u044f\u0430")
	// Unicode has small ones of these; the chapter has not.
	checkFold(t, "\u0100\u0178\u0386\u0460\u1e00\u2126\uff21\U00010400", "\u0100\u0178\u0386\u0460\u1e00\u2126\uff21\U00010400")
}

func TestFoldOfEachCharacter(t *testing.T) {
	more, most := told(t, by32), told(t, by80)
	for r := range rune(utf8.MaxRune + 1) {
		if !utf8.ValidRune(r) {
			continue
		}
		want := string(r)
		switch {
		case r == 0:
			want = mark
		case r == 223 || r == 7838:
			want = "ss"
		case r == 962:
			want = string(rune(963))
		case more[r]:
			want = string(r + 32)
		case most[r]:
			want = string(r + 80)
		}
		checkFold(t, string(r), want)
		if (more[r] || most[r]) && want != string(unicode.ToLower(r)) {
			t.Errorf("the test has %q for %q", want, r)
		}
	}
}

// Fold goes by Runes: a byte that tells no character is a mark.
func TestFoldOfOtherBytes(t *testing.T) {
	for c := 128; c < 256; c++ {
		checkFold(t, "A"+string([]byte{byte(c)})+"B", "a"+mark+"b")
	}
	checkFold(t, "\x00", mark)
	checkFold(t, mark, mark)
	checkFold(t, "\xc3", mark)
	checkFold(t, "\xc3A", mark+"a")
	checkFold(t, "\xc1\x81", mark+mark)
	checkFold(t, "\xed\xa0\x80", mark+mark+mark)
	checkFold(t, "\xf4\x90\x80\x80", mark+mark+mark+mark)
}

// P3.3

func TestLabel(t *testing.T) {
	checkLabel(t, "", "")
	checkLabel(t, "a", "a")
	checkLabel(t, " A\n b", "a b")
	checkLabel(t, "Foo  \t Bar", "foo bar")
	checkLabel(t, " \u1e9e ", "ss")
	checkLabel(t, "\r\nA\r\nB\r\n", "a b")
	checkLabel(t, gaps, "")
	checkLabel(t, gaps+gaps+"A"+gaps+"B"+gaps+gaps, "a b")
	checkLabel(t, "\\[ \"*", "\\[ \"*")
	checkLabel(t, " \x00 \xff\xc3 ", mark+" "+mark+mark)
}

func TestLabelOfEachCharacter(t *testing.T) {
	for r := rune(1); r <= utf8.MaxRune; r++ {
		if !utf8.ValidRune(r) {
			continue
		}
		s := string(r)
		if strings.Contains(gaps, s) {
			checkLabel(t, s, "")
			checkLabel(t, s+"a"+s+s+"b"+s, "a b")
			continue
		}
		c := class.Fold(s)
		checkLabel(t, s+"a"+s+s+"b"+s, c+"a"+c+c+"b"+c)
		if class.Space(r) {
			// What is white to Space alone stays, and a blank beside it.
			checkLabel(t, " "+s+" a "+s, s+" a "+s)
		}
	}
}

func TestLabelOfShortTexts(t *testing.T) {
	pieces := []string{"", " ", "\n", "\v", "A", "\u00a0"}
	for n := range 6 * 6 * 6 * 6 * 6 * 6 {
		s := ""
		for ; n > 0; n /= 6 {
			s += pieces[n%6]
		}
		checkLabel(t, s, drawnTogether(s))
	}
}

// drawnTogether is Label, told by replacing again and again.
func drawnTogether(s string) string {
	s = class.Fold(s)
	for _, c := range gaps {
		s = strings.ReplaceAll(s, string(c), " ")
	}
	for strings.Contains(s, "  ") {
		s = strings.ReplaceAll(s, "  ", " ")
	}
	return strings.TrimSuffix(strings.TrimPrefix(s, " "), " ")
}

// P3.4

func checkTwice(t *testing.T, s string) {
	t.Helper()
	checkFold(t, class.Fold(s), class.Fold(s))
	checkLabel(t, class.Label(s), class.Label(s))
	checkLabel(t, class.Fold(s), class.Label(s))
	checkFold(t, class.Label(s), class.Label(s))
}

func TestTwiceIsOnce(t *testing.T) {
	for r := range rune(utf8.MaxRune + 1) {
		checkTwice(t, string(r))
	}
	for first := range 256 {
		for second := range 256 {
			checkTwice(t, " "+string([]byte{byte(first), byte(second), 191})+"\n ")
		}
	}
	checkTwice(t, ordinary)
}

func TestNothingIsWhiteAndASign(t *testing.T) {
	for r := rune(-300); r <= utf8.MaxRune+300; r++ {
		if class.Space(r) && class.Punct(r) {
			t.Errorf("%d is both", r)
		}
	}
}

// R1: texts of any length.
func TestLongTexts(t *testing.T) {
	const n = 1 << 20
	if got := class.Fold(strings.Repeat("\xffA\u1e9e", n)); got != strings.Repeat(mark+"ass", n) {
		t.Errorf("Fold tells %d bytes", len(got))
	}
	if got := class.Label(strings.Repeat(" \vA", n)); got != strings.Repeat("a ", n-1)+"a" {
		t.Errorf("Label tells %d bytes", len(got))
	}
	if got := class.Label(strings.Repeat(gaps, n)); got != "" {
		t.Errorf("Label tells %d bytes", len(got))
	}
}

// R3: an answer is new memory, also where it is what was handed in.
func TestAnswersAreNewMemory(t *testing.T) {
	s := strings.Clone("a b-\u00e4")
	for _, answer := range []string{class.Fold(s), class.Label(s)} {
		if answer != s || unsafe.StringData(answer) == unsafe.StringData(s) {
			t.Errorf("%q is not new", answer)
		}
	}
}

func FuzzClass(f *testing.F) {
	f.Add("")
	f.Add(ordinary)
	f.Add(gaps + "\x00\xff\u00a0A" + gaps)
	f.Fuzz(func(t *testing.T, s string) {
		checkTwice(t, s)
		checkLabel(t, s, drawnTogether(s))
		var want strings.Builder
		for _, r := range s {
			want.WriteString(class.Fold(string(r)))
		}
		checkFold(t, s, want.String())
	})
}
