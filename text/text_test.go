package text_test

import (
	"bytes"
	"slices"
	"strings"
	"testing"
	"unicode/utf8"
	"unsafe"

	"incipit/text"
)

const mark = "\xef\xbf\xbd"

func marks(n int) string { return strings.Repeat(mark, n) }

func checkClean(t *testing.T, b, want string) {
	t.Helper()
	if got := text.Clean([]byte(b)); got != want {
		t.Errorf("Clean(% x) = % x, want % x", b, got, want)
	}
}

// decoded is what the library's decoder makes of b, with the mark for a 0 and for each byte that it refuses.
func decoded(b []byte) string {
	var out []byte
	for len(b) > 0 {
		r, n := utf8.DecodeRune(b)
		if r == 0 {
			r = utf8.RuneError
		}
		out = utf8.AppendRune(out, r)
		b = b[n:]
	}
	return string(out)
}

// P1.1

func TestCleanOrdinary(t *testing.T) {
	checkClean(t, "", "")
	checkClean(t, "A\xff\x00", "A"+marks(2))
	checkClean(t, "# a\r\n\tb\n", "# a\r\n\tb\n")
	checkClean(t, "\u00e9\u20ac\U0001F600", "\u00e9\u20ac\U0001F600")
	if got := text.Clean(nil); got != "" {
		t.Errorf("Clean(nil) = %q", got)
	}
}

func TestCleanZeroAndMark(t *testing.T) {
	checkClean(t, "\x00", mark)
	checkClean(t, "a\x00\x00b", "a"+marks(2)+"b")
	checkClean(t, mark, mark)
	checkClean(t, "a"+mark+"b", "a"+mark+"b")
	checkClean(t, mark[:2], marks(2))
	checkClean(t, mark[1:], marks(2))
}

// Each row: a first byte's range, and the ranges of the bytes behind it.
func TestCleanRanges(t *testing.T) {
	type span struct{ low, high int }
	tail := span{128, 191}
	for _, row := range [][]span{
		{{1, 127}},
		{{194, 223}, tail},
		{{224, 224}, {160, 191}, tail},
		{{225, 236}, tail, tail},
		{{237, 237}, {128, 159}, tail},
		{{238, 239}, tail, tail},
		{{240, 240}, {144, 191}, tail, tail},
		{{241, 243}, tail, tail, tail},
		{{244, 244}, {128, 143}, tail, tail},
	} {
		for first := row[0].low; first <= row[0].high; first++ {
			run := []byte{byte(first)}
			for _, s := range row[1:] {
				run = append(run, byte(s.low))
			}
			checkClean(t, "a"+string(run)+"b", "a"+string(run)+"b")
			for i, s := range row[1:] {
				for c := range 256 {
					b := slices.Clone(run)
					b[i+1] = byte(c)
					good := s.low <= c && c <= s.high
					if got := text.Clean(b); (got == string(b)) != good {
						t.Errorf("Clean(% x) = % x, a good run: %v", b, got, good)
					}
				}
			}
		}
	}
}

func TestCleanNoFirstByte(t *testing.T) {
	for first := 128; first < 256; first++ {
		if first >= 194 && first <= 244 {
			continue
		}
		checkClean(t, string([]byte{byte(first), 'a'}), mark+"a")
		checkClean(t, string([]byte{byte(first), 128, 128, 128}), marks(4))
	}
}

func TestCleanBrokenOff(t *testing.T) {
	for _, run := range []string{"\u00e9", "\u20ac", "\ud7ff", "\uffff", "\U00010000", "\U0010ffff"} {
		for n := 1; n < len(run); n++ {
			checkClean(t, run[:n], marks(n))
			checkClean(t, run[:n]+"a", marks(n)+"a")
			checkClean(t, run[:n]+run, marks(n)+run)
			checkClean(t, run+run[:n], run+marks(n))
		}
	}
}

// Where a run breaks off, only its first byte is passed over.
func TestCleanGoesOnBehindOneByte(t *testing.T) {
	checkClean(t, "\xe2\xc3\xa9", mark+"\u00e9")
	checkClean(t, "\xf0\x90\xc3\xa9", marks(2)+"\u00e9")
	checkClean(t, "\xf1\x80\x80\u20ac", marks(3)+"\u20ac")
	checkClean(t, "\xf4\xf4\x8f\xbf\xbf", mark+"\U0010ffff")
	checkClean(t, "\xe0\x80\x80", marks(3))
	checkClean(t, "\xed\xa0\x80\xed\xb0\x80", marks(6))
	checkClean(t, "\xc1\xbf", marks(2))
	checkClean(t, "\xf0\x8f\xbf\xbf", marks(4))
	checkClean(t, "\xf4\x90\x80\x80", marks(4))
	checkClean(t, "\xf5\x80\x80\x80\x80", marks(5))
}

func TestCleanAsTheDecoder(t *testing.T) {
	for r := range rune(utf8.MaxRune + 1) {
		if !utf8.ValidRune(r) || r == 0 {
			continue
		}
		if s := string(r); text.Clean([]byte(s)) != s {
			t.Fatalf("Clean changes character %x", r)
		}
	}
	edges := []byte{0, 'a', 127, 128, 191, 192, 194, 255}
	for first := range 256 {
		for second := range 256 {
			for _, third := range edges {
				for _, fourth := range edges {
					b := []byte{byte(first), byte(second), third, fourth}
					if got, want := text.Clean(b), decoded(b); got != want {
						t.Fatalf("Clean(% x) = % x, want % x", b, got, want)
					}
				}
			}
		}
	}
}

func TestCleanLeavesItsBytes(t *testing.T) {
	b := []byte("a\x00\xff\u20ac")
	kept := bytes.Clone(b)
	got := text.Clean(b)
	if !bytes.Equal(b, kept) {
		t.Errorf("Clean changed what it was given: % x", b)
	}
	clear(b)
	if got != "a"+marks(2)+"\u20ac" {
		t.Errorf("Clean's text hangs on what it was given: %q", got)
	}
}

// P1.2

func TestRunes(t *testing.T) {
	for _, x := range []struct {
		s    string
		want []rune
	}{
		{"", nil},
		{"a\n", []rune{97, 10}},
		{"\x7f\u0080\u07ff\u0800\ud7ff\ue000\uffff\U00010000\U0010ffff", []rune{0x7f, 0x80, 0x7ff, 0x800, 0xd7ff, 0xe000, 0xffff, 0x10000, 0x10ffff}},
		{"a\x00b", []rune{97, 0xfffd, 98}},
		{mark, []rune{0xfffd}},
		{"\xff\u20ac\xe2\x82", []rune{0xfffd, 0x20ac, 0xfffd, 0xfffd}},
		{"\xed\xa0\x80", []rune{0xfffd, 0xfffd, 0xfffd}},
	} {
		if got := text.Runes(x.s); !slices.Equal(got, x.want) {
			t.Errorf("Runes(% x) = %x, want %x", x.s, got, x.want)
		}
	}
}

func TestRunesAreNewEachTime(t *testing.T) {
	first := text.Runes("ab")
	first[0] = 'x'
	if got := text.Runes("ab"); !slices.Equal(got, []rune{97, 98}) {
		t.Errorf("Runes = %x", got)
	}
}

// P1.3

func TestLines(t *testing.T) {
	for _, x := range []struct {
		s    string
		want []string
	}{
		{"", nil},
		{"a", []string{"a"}},
		{"a\n", []string{"a"}},
		{"a\r", []string{"a"}},
		{"a\r\n", []string{"a"}},
		{"a\nb", []string{"a", "b"}},
		{"a\rb", []string{"a", "b"}},
		{"a\r\nb", []string{"a", "b"}},
		{"a\n\rb", []string{"a", "", "b"}},
		{"a\r\n\nb", []string{"a", "", "b"}},
		{"a\r\r\nb", []string{"a", "", "b"}},
		{"a\r\n\r\nb\r\n", []string{"a", "", "b"}},
		{"\n", []string{""}},
		{"\r", []string{""}},
		{"\r\n", []string{""}},
		{"\n\n", []string{"", ""}},
		{"\r\r", []string{"", ""}},
		{"\r\n\r", []string{"", ""}},
		{"a\n ", []string{"a", " "}},
		{" \t\n\t", []string{" \t", "\t"}},
		{"a\vb\fc\u0085d\u2028e\u2029f", []string{"a\vb\fc\u0085d\u2028e\u2029f"}},
		{"\xff\n\x00\r\xe2\x82\r\n\xc3", []string{"\xff", "\x00", "\xe2\x82", "\xc3"}},
	} {
		if got := text.Lines(x.s); !slices.Equal(got, x.want) {
			t.Errorf("Lines(%q) = %q, want %q", x.s, got, x.want)
		}
	}
}

// R3: a line's memory is none of the text's.
func TestLinesAreNewMemory(t *testing.T) {
	s := strings.Clone("ab\ncd")
	from := uintptr(unsafe.Pointer(unsafe.StringData(s)))
	for _, line := range text.Lines(s) {
		if at := uintptr(unsafe.Pointer(unsafe.StringData(line))); from <= at && at < from+uintptr(len(s)) {
			t.Errorf("line %q lies in the text", line)
		}
	}
}

// cutByEnds is Lines told otherwise: each end is made an LF, and the text is split there.
func cutByEnds(s string) []string {
	s = strings.ReplaceAll(strings.ReplaceAll(s, "\r\n", "\n"), "\r", "\n")
	l := strings.Split(s, "\n")
	if l[len(l)-1] == "" {
		l = l[:len(l)-1]
	}
	return l
}

func TestLinesOfAllShortTexts(t *testing.T) {
	texts := []string{""}
	for n := 0; n < len(texts); n++ {
		s := texts[n]
		if got, want := text.Lines(s), cutByEnds(s); !slices.Equal(got, want) {
			t.Fatalf("Lines(%q) = %q, want %q", s, got, want)
		}
		if len(s) < 7 {
			texts = append(texts, s+"\r", s+"\n", s+"a")
		}
	}
}

func TestLinesOfALongText(t *testing.T) {
	const n = 200000
	got := text.Lines(strings.Repeat("a\r\n", n) + strings.Repeat("b", n))
	if len(got) != n+1 || got[0] != "a" || got[n-1] != "a" || len(got[n]) != n {
		t.Errorf("%d lines", len(got))
	}
}

// P1.4

func TestJoin(t *testing.T) {
	for _, x := range []struct {
		l    []string
		want string
	}{
		{nil, ""},
		{[]string{}, ""},
		{[]string{""}, "\n"},
		{[]string{"a"}, "a\n"},
		{[]string{"", ""}, "\n\n"},
		{[]string{"a", "", " b\t"}, "a\n\n b\t\n"},
		{[]string{"a\r", "b\n"}, "a\r\nb\n\n"},
		{[]string{"\xff\x00"}, "\xff\x00\n"},
	} {
		kept := slices.Clone(x.l)
		if got := text.Join(x.l); got != x.want {
			t.Errorf("Join(%q) = %q, want %q", x.l, got, x.want)
		}
		if !slices.Equal(x.l, kept) {
			t.Errorf("Join changed what it was given: %q", x.l)
		}
	}
}

func TestBlank(t *testing.T) {
	for _, s := range []string{"", " ", "\t", " \t \t", strings.Repeat("\t ", 1000)} {
		if !text.Blank(s) {
			t.Errorf("Blank(%q) is false", s)
		}
	}
	for _, s := range []string{"a", " a", "a ", "\t\ta\t", "\u00a0", "\u3000", mark, "\xa0", "\xff"} {
		if text.Blank(s) {
			t.Errorf("Blank(%q) is true", s)
		}
	}
	for c := range 256 {
		want := c == ' ' || c == '\t'
		for _, s := range []string{string([]byte{byte(c)}), string([]byte{' ', byte(c), '\t'})} {
			if got := text.Blank(s); got != want {
				t.Errorf("Blank(%q) = %v", s, got)
			}
		}
	}
}

// P1.5

func TestCleanIsItsOwn(t *testing.T) {
	for first := range 256 {
		for second := range 256 {
			for _, more := range []string{"", "a", "\x80", "\x80\x80", "\xbf\xbf", "\xff\x00"} {
				s := text.Clean([]byte(string([]byte{byte(first), byte(second)}) + more))
				if !utf8.ValidString(s) || strings.IndexByte(s, 0) >= 0 {
					t.Fatalf("Clean's text is no UTF-8 without 0: % x", s)
				}
				if again := text.Clean([]byte(s)); again != s {
					t.Fatalf("Clean of % x is % x", s, again)
				}
			}
		}
	}
}

func TestLinesOfJoin(t *testing.T) {
	pieces := []string{"", " ", "a", "\t\u20ac", "\xff\x00", "\u2028"}
	lists := [][]string{nil}
	for n := 0; n < len(lists); n++ {
		l := lists[n]
		if got := text.Lines(text.Join(l)); !slices.Equal(got, l) {
			t.Fatalf("Lines of Join of %q: %q", l, got)
		}
		if len(l) < 4 {
			for _, p := range pieces {
				lists = append(lists, append(slices.Clone(l), p))
			}
		}
	}
}

func FuzzText(f *testing.F) {
	for _, s := range []string{"", "A\xff\x00", "a\r\n\nb", "\xf4\x90\x80\x80", mark} {
		f.Add([]byte(s))
	}
	f.Fuzz(func(t *testing.T, b []byte) {
		s := string(b)
		if got, want := text.Clean(b), decoded(b); got != want {
			t.Errorf("Clean(% x) = % x, want % x", b, got, want)
		}
		if got, want := text.Runes(s), []rune(decoded(b)); !slices.Equal(got, want) {
			t.Errorf("Runes(% x) = %x, want %x", s, got, want)
		}
		l := text.Lines(s)
		if want := cutByEnds(s); !slices.Equal(l, want) {
			t.Errorf("Lines(%q) = %q, want %q", s, l, want)
		}
		if got := text.Lines(text.Join(l)); !slices.Equal(got, l) {
			t.Errorf("Lines of Join of %q: %q", l, got)
		}
	})
}
