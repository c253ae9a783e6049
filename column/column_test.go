package column_test

import (
	"math"
	"slices"
	"strings"
	"testing"
	"unicode/utf8"
	"unsafe"

	"incipit/column"
)

const (
	farthest = 1 << 30
	white    = "\t\n\v\f\r "
)

func checkIndent(t *testing.T, s string, col, columns, bytes int) {
	t.Helper()
	if c, b := column.Indent(s, col); c != columns || b != bytes {
		t.Errorf("Indent(%q, %d) = %d, %d, want %d, %d", s, col, c, b, columns, bytes)
	}
}

func checkSkip(t *testing.T, s string, col, n int, left string, at int) {
	t.Helper()
	if l, c := column.Skip(s, col, n); l != left || c != at {
		t.Errorf("Skip(%q, %d, %d) = %q, %d, want %q, %d", s, col, n, l, c, left, at)
	}
}

func checkSpaces(t *testing.T, s string, col int, want string) {
	t.Helper()
	if got := column.Spaces(s, col); got != want {
		t.Errorf("Spaces(%q, %d) = %q, want %q", s, col, got, want)
	}
}

// drawn is the line's blanks as a drawing, a sign a column: a blank is B, a
// tab T with - behind it. It is told by filling up, not by reckoning.
func drawn(s string, col int) (string, int) {
	if col < 0 || col > farthest {
		col = 0
	}
	ahead := strings.Repeat(".", col&3)
	line := ahead
	for i, c := range []byte(s) {
		switch c {
		case ' ':
			line += "B"
		case '\t':
			line += "T"
			for len(line)&3 != 0 {
				line += "-"
			}
		default:
			return line[len(ahead):], i
		}
	}
	return line[len(ahead):], len(s)
}

// skipped is Skip, told by a drawing of the line.
func skipped(s string, col, n int) (string, int) {
	if n < 1 {
		return s, col
	}
	if col < 0 || col > farthest {
		col = 0
	}
	line, bytes := drawn(s, col)
	n = min(n, len(line))
	left := line[n:]
	whole := strings.TrimLeft(left, "-")
	kept := len(strings.ReplaceAll(whole, "-", ""))
	return strings.Repeat(" ", len(left)-len(whole)) + s[bytes-kept:], col + n
}

// texts are all texts of at most that many of the pieces.
func texts(most int, pieces ...string) []string {
	all := []string{""}
	for last := all; most > 0; most-- {
		var next []string
		for _, s := range last {
			for _, p := range pieces {
				next = append(next, s+p)
			}
		}
		all = append(all, next...)
		last = next
	}
	return all
}

var lines = texts(6, " ", "\t", "a")

var columns = []int{0, 1, 2, 3, 4, 5, 6, 7, 8, 101, farthest - 1, farthest, farthest + 1, farthest + 2, -1, -2, -3, -5, math.MinInt, math.MaxInt, math.MaxInt32, math.MinInt32}

var counts = []int{math.MinInt, -farthest, -1, 0, 1, 2, 3, 4, 5, 6, 7, 8, 9, 15, 23, 24, 25, farthest, math.MaxInt - 3, math.MaxInt}

// P2.1

func TestIndent(t *testing.T) {
	checkIndent(t, "", 0, 0, 0)
	checkIndent(t, "a", 0, 0, 0)
	checkIndent(t, " \ta", 0, 4, 2)
	checkIndent(t, " \t", 0, 4, 2)
	checkIndent(t, "   a b\t", 0, 3, 3)
	checkIndent(t, "    \ta", 0, 8, 5)
	checkIndent(t, "\t\ta", 0, 8, 2)
	checkIndent(t, "\t a", 0, 5, 2)
	checkIndent(t, "\t \ta", 0, 8, 3)
	checkIndent(t, "   \t   \t\t ", 0, 13, 10)
}

func TestIndentByColumn(t *testing.T) {
	for col, wide := range []int{4, 3, 2, 1, 4, 3, 2, 1, 4} {
		checkIndent(t, "\t", col, wide, 1)
		checkIndent(t, "\t\ta", col, wide+4, 2)
		checkIndent(t, "  ", col, 2, 2)
	}
	checkIndent(t, " \ta", 3, 5, 2)
	checkIndent(t, "  \ta", 2, 6, 3)
}

func TestIndentEndsAtOtherBytes(t *testing.T) {
	for c := range 256 {
		if c == ' ' || c == '\t' {
			continue
		}
		other := string([]byte{byte(c)})
		checkIndent(t, other+" \t", 0, 0, 0)
		checkIndent(t, "\t "+other+"\t ", 0, 5, 2)
	}
	checkIndent(t, "\u00a0 ", 0, 0, 0)
	checkIndent(t, " \u3000", 0, 1, 1)
}

func TestIndentOfOddColumns(t *testing.T) {
	for _, col := range []int{-1, -2, -3, -4, math.MinInt, farthest + 1, farthest + 2, farthest + 3, math.MaxInt} {
		checkIndent(t, "\ta", col, 4, 1)
		checkIndent(t, " \ta", col, 4, 2)
	}
	checkIndent(t, "\t", farthest, 4, 1)
	checkIndent(t, "\t", farthest-1, 1, 1)
	checkIndent(t, "\t", farthest-3, 3, 1)
	// Columns beyond the last one that may be handed in are columns as well.
	checkIndent(t, " \t", farthest, 4, 2)
	checkIndent(t, "  \t", farthest-1, 5, 3)
}

func TestIndentOfAllShortLines(t *testing.T) {
	for _, s := range lines {
		for _, col := range columns {
			line, bytes := drawn(s, col)
			checkIndent(t, s, col, len(line), bytes)
		}
	}
}

// P2.2

func TestSkip(t *testing.T) {
	checkSkip(t, "\ta", 0, 2, "  a", 2)
	checkSkip(t, "\ta", 0, 1, "   a", 1)
	checkSkip(t, "\ta", 0, 3, " a", 3)
	checkSkip(t, "\ta", 0, 4, "a", 4)
	checkSkip(t, "\ta", 0, 5, "a", 4)
	checkSkip(t, "\ta", 2, 1, " a", 3)
	checkSkip(t, "\ta", 3, 1, "a", 4)
	checkSkip(t, "   a", 0, 2, " a", 2)
	checkSkip(t, "   a", 5, 3, "a", 8)
	checkSkip(t, " a b", 0, 9, "a b", 1)
	checkSkip(t, "a", 7, 1, "a", 7)
	checkSkip(t, "", 7, 1, "", 7)
	checkSkip(t, "  ", 0, 2, "", 2)
	checkSkip(t, "  ", 0, 3, "", 2)
	checkSkip(t, "\t", 1, 9, "", 4)
}

// Only the tab that is cut is told as blanks: those behind it stay.
func TestSkipLeavesTabs(t *testing.T) {
	checkSkip(t, "\t\ta", 0, 2, "  \ta", 2)
	checkSkip(t, " \ta", 0, 1, "\ta", 1)
	checkSkip(t, " \t\t a\t", 0, 2, "  \t a\t", 2)
	checkSkip(t, "\t\ta", 0, 4, "\ta", 4)
	checkSkip(t, "\t\ta", 0, 7, " a", 7)
}

func TestSkipOfNothing(t *testing.T) {
	for _, n := range []int{0, -1, -4, math.MinInt} {
		for _, col := range []int{0, 3, farthest, farthest + 1, -1, math.MinInt, math.MaxInt} {
			checkSkip(t, "", col, n, "", col)
			checkSkip(t, "\t a", col, n, "\t a", col)
			checkSkip(t, "a", col, n, "a", col)
		}
	}
}

func TestSkipOfOddColumns(t *testing.T) {
	for _, col := range []int{-1, -2, math.MinInt, farthest + 1, farthest + 3, math.MaxInt} {
		checkSkip(t, "a", col, 1, "a", 0)
		checkSkip(t, "", col, 1, "", 0)
		checkSkip(t, " a", col, 1, "a", 1)
		checkSkip(t, "\ta", col, 1, "   a", 1)
	}
	checkSkip(t, "a", farthest, 1, "a", farthest)
	checkSkip(t, " \ta", farthest, 1, "\ta", farthest+1)
	checkSkip(t, " \ta", farthest, 2, "  a", farthest+2)
	checkSkip(t, " \ta", farthest, 9, "a", farthest+4)
	checkSkip(t, "\ta", farthest-1, 9, "a", farthest)
}

func TestSkipOfVeryMany(t *testing.T) {
	checkSkip(t, " \t\ta", 3, math.MaxInt, "a", 12)
	checkSkip(t, " \t\ta", farthest, math.MaxInt, "a", farthest+8)
	checkSkip(t, "a", farthest, math.MaxInt, "a", farthest)
}

func TestSkipEndsAtOtherBytes(t *testing.T) {
	for c := range 256 {
		if c == ' ' || c == '\t' {
			continue
		}
		other := string([]byte{byte(c)})
		checkSkip(t, other+"\t", 0, 2, other+"\t", 0)
		checkSkip(t, " "+other+"\t", 0, 2, other+"\t", 1)
		checkSkip(t, "\t"+other+" ", 0, 2, "  "+other+" ", 2)
	}
}

func TestSkipOfAllShortLines(t *testing.T) {
	for _, s := range lines {
		for _, col := range columns {
			for _, n := range counts {
				left, at := skipped(s, col, n)
				checkSkip(t, s, col, n, left, at)
			}
		}
	}
}

// P2.3

func TestSpaces(t *testing.T) {
	checkSpaces(t, "", 0, "")
	checkSpaces(t, "a\t b", 0, "a\t b")
	checkSpaces(t, "  a", 0, "  a")
	checkSpaces(t, "\ta\tb", 0, "    a\tb")
	checkSpaces(t, " \ta", 0, "    a")
	checkSpaces(t, "\ta", 1, "   a")
	checkSpaces(t, "\ta", 3, " a")
	checkSpaces(t, "\t \t", 2, "      ")
	checkSpaces(t, "\ta", -1, "    a")
	checkSpaces(t, "\ta", farthest-1, " a")
	checkSpaces(t, "\ta", farthest+1, "    a")
	checkSpaces(t, " \ta", farthest, "    a")
	checkSpaces(t, "\t\n\t", 0, "    \n\t")
	checkSpaces(t, " \u00a0\t", 0, " \u00a0\t")
	checkSpaces(t, "\t\xff\x00", 0, "    \xff\x00")
}

func TestSpacesOfAllShortLines(t *testing.T) {
	for _, s := range lines {
		for _, col := range columns {
			line, bytes := drawn(s, col)
			checkSpaces(t, s, col, strings.Repeat(" ", len(line))+s[bytes:])
		}
	}
}

func checkTrims(t *testing.T, s, both, left, right string) {
	t.Helper()
	if got := column.Trim(s); got != both {
		t.Errorf("Trim(%q) = %q, want %q", s, got, both)
	}
	if got := column.TrimLeft(s); got != left {
		t.Errorf("TrimLeft(%q) = %q, want %q", s, got, left)
	}
	if got := column.TrimRight(s); got != right {
		t.Errorf("TrimRight(%q) = %q, want %q", s, got, right)
	}
}

func TestTrims(t *testing.T) {
	checkTrims(t, "", "", "", "")
	checkTrims(t, "a", "a", "a", "a")
	checkTrims(t, white, "", "", "")
	checkTrims(t, " a b\t", "a b", "a b\t", " a b")
	checkTrims(t, white+"a"+white+"b"+white, "a"+white+"b", "a"+white+"b"+white, white+"a"+white+"b")
	checkTrims(t, "\u00a0a\u3000", "\u00a0a\u3000", "\u00a0a\u3000", "\u00a0a\u3000")
	checkTrims(t, " \u0085 ", "\u0085", "\u0085 ", " \u0085")
	checkTrims(t, "\t\x80\xff\n", "\x80\xff", "\x80\xff\n", "\t\x80\xff")
	checkTrims(t, "\n\xe2\x80 \x89\r", "\xe2\x80 \x89", "\xe2\x80 \x89\r", "\n\xe2\x80 \x89")
}

func TestTrimsOfEachByte(t *testing.T) {
	for c := range 256 {
		b := string([]byte{byte(c)})
		if c == 32 || 9 <= c && c <= 13 {
			checkTrims(t, b, "", "", "")
			checkTrims(t, b+"a"+b+"a"+b, "a"+b+"a", "a"+b+"a"+b, b+"a"+b+"a")
			continue
		}
		checkTrims(t, b, b, b, b)
		checkTrims(t, "\n"+b+" "+b+"\r", b+" "+b, b+" "+b+"\r", "\n"+b+" "+b)
	}
}

// P2.4

func TestSkipLeavesLessColumns(t *testing.T) {
	for _, s := range lines {
		for col := range 9 {
			was, _ := column.Indent(s, col)
			for n := range 30 {
				left, at := column.Skip(s, col, n)
				if is, _ := column.Indent(left, at); is != max(was-n, 0) {
					t.Errorf("Skip(%q, %d, %d): %d columns of %d are left", s, col, n, is, was)
				}
			}
		}
	}
}

func TestSpacesAreAsWide(t *testing.T) {
	for _, s := range lines {
		for _, col := range columns {
			was, bytes := column.Indent(s, col)
			checkIndent(t, column.Spaces(s, col), col, was, was)
			checkSpaces(t, column.Spaces(s, col), col, column.Spaces(s, col))
			if got := column.Spaces(s, col); got[was:] != s[bytes:] {
				t.Errorf("Spaces(%q, %d) = %q", s, col, got)
			}
		}
	}
}

func TestSkipAndOneMore(t *testing.T) {
	for _, s := range lines {
		for col := range 9 {
			for first := range 12 {
				half, at := column.Skip(s, col, first)
				for more := range 6 {
					left, end := column.Skip(s, col, first+more)
					checkSkip(t, half, at, more, left, end)
				}
			}
		}
	}
}

// R1: texts of any length.
func TestLongTexts(t *testing.T) {
	const n = 1 << 20
	tabs := strings.Repeat("\t", n)
	checkIndent(t, tabs, 1, 4*n-1, n)
	if left, at := column.Skip(tabs, 1, 4*n-2); left != " " || at != 4*n-1 {
		t.Errorf("Skip leaves %d bytes at %d", len(left), at)
	}
	if got := column.Spaces(tabs+"a", 0); got != strings.Repeat(" ", 4*n)+"a" {
		t.Errorf("Spaces tells %d bytes", len(got))
	}
	if got := column.Trim(tabs + "a" + tabs); got != "a" {
		t.Errorf("Trim tells %d bytes", len(got))
	}
}

// R3: what is answered shares no memory with what was handed in.
func TestAnswersAreNewMemory(t *testing.T) {
	s := strings.Clone("a \tb")
	blank := strings.Clone("  \tb")
	var answers []string
	for _, given := range []string{s, blank} {
		for n := range 6 {
			left, _ := column.Skip(given, 0, n)
			answers = append(answers, left)
		}
		answers = append(answers, column.Spaces(given, 0), column.Trim(given), column.TrimLeft(given), column.TrimRight(given))
	}
	for _, answer := range answers {
		if within(answer, s) || within(answer, blank) {
			t.Errorf("%q lies in what was handed in", answer)
		}
	}
	if s != "a \tb" || blank != "  \tb" {
		t.Errorf("what was handed in is %q, %q", s, blank)
	}
}

// within: does the memory of s begin in that of whole?
func within(s, whole string) bool {
	at := uintptr(unsafe.Pointer(unsafe.StringData(s)))
	from := uintptr(unsafe.Pointer(unsafe.StringData(whole)))
	return s != "" && from <= at && at < from+uintptr(len(whole))
}

func FuzzColumn(f *testing.F) {
	f.Add("", 0, 0)
	f.Add(" \ta", 3, 2)
	f.Add("\t\t\xff\u00a0\r\n", farthest, 5)
	f.Add("\v \f", -1, -1)
	f.Fuzz(func(t *testing.T, s string, col, n int) {
		line, bytes := drawn(s, col)
		checkIndent(t, s, col, len(line), bytes)
		checkSpaces(t, s, col, strings.Repeat(" ", len(line))+s[bytes:])
		left, at := skipped(s, col, n)
		checkSkip(t, s, col, n, left, at)
		both, head, tail := trimmed(s)
		checkTrims(t, s, both, head, tail)
	})
}

// trimmed is the three trims, told byte by byte.
func trimmed(s string) (both, left, right string) {
	other := func(b byte) bool { return b >= utf8.RuneSelf || !strings.Contains(white, string(rune(b))) }
	from := slices.IndexFunc([]byte(s), other)
	if from < 0 {
		return "", "", ""
	}
	to := len(s)
	for !other(s[to-1]) {
		to--
	}
	return s[from:to], s[from:], s[:to]
}
