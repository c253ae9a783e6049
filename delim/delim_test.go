package delim_test

import (
	"math"
	"slices"
	"strings"
	"testing"
	"unicode/utf8"

	"incipit/class"
	"incipit/delim"
)

const long = 1 << 19

// A way is how a run stands: may it open, and close?
type way struct{ open, close bool }

var (
	none      = way{}
	opensOnly = way{open: true}
	closeOnly = way{close: true}
	opensToo  = way{open: true, close: true}
)

func opens(c byte, n int) delim.Run  { return delim.Run{C: c, N: n, Open: true} }
func closes(c byte, n int) delim.Run { return delim.Run{C: c, N: n, Close: true} }
func both(c byte, n int) delim.Run   { return delim.Run{C: c, N: n, Open: true, Close: true} }

func checkFlank(t *testing.T, before, after rune, c byte, want way) {
	t.Helper()
	open, close := delim.Flank(before, after, c)
	if got := (way{open, close}); got != want {
		t.Errorf("Flank(%d, %d, %q) = %v, want %v", before, after, c, got, want)
	}
}

func checkMatch(t *testing.T, l []delim.Run, want ...delim.Pair) {
	t.Helper()
	if got := delim.Match(l); !slices.Equal(got, want) {
		t.Errorf("Match(%.80s) = %.80v, want %.80v", shown(l), got, want)
	}
	sameMatch(t, l)
}

// runs is a list.
func runs(l ...delim.Run) []delim.Run { return l }

// P13.1

// Characters of the three sorts.
var (
	whites = []rune{0, 9, 10, 12, 13, 32, 160, 5760, 8192, 8202, 8239, 8287, 12288}
	signs  = []rune{'!', '*', '_', '~', '"', '(', ')', '[', '-', '.', '{', '`', 0xa1, 0xac, 0x2014, 0x20ac, 0x3008, 0xff01}
	words  = []rune{'a', 'Z', '0', 0xe9, 0x3b1, 0x4e00, 0x1f600, utf8.RuneError, 1, 8, 11, 14, 31, 127, 0xad, utf8.MaxRune, utf8.MaxRune + 1, -1, math.MaxInt32, math.MinInt32}
)

// flanks is how a run stands between two sorts, by hand: of "_", and of others.
var flanks = []struct {
	before, after []rune
	under, other  way
}{
	{whites, whites, none, none},
	{whites, signs, opensOnly, opensOnly},
	{whites, words, opensOnly, opensOnly},
	{signs, whites, closeOnly, closeOnly},
	{signs, signs, opensToo, opensToo},
	{signs, words, opensOnly, opensOnly},
	{words, whites, closeOnly, closeOnly},
	{words, signs, closeOnly, closeOnly},
	{words, words, none, opensToo},
}

func TestFlank(t *testing.T) {
	for _, x := range flanks {
		for _, before := range x.before {
			for _, after := range x.after {
				for _, c := range []byte("*~a\x00\xff") {
					checkFlank(t, before, after, c, x.other)
				}
				checkFlank(t, before, after, '_', x.under)
			}
		}
	}
}

// "_" alone goes by a way of its own.
func TestFlankOfEachSign(t *testing.T) {
	for _, x := range flanks {
		for c := range 256 {
			want := x.other
			if c == '_' {
				want = x.under
			}
			checkFlank(t, x.before[1], x.after[1], byte(c), want)
		}
	}
}

// sort is of which of three sorts a character is: white, signs or words.
func sort(r rune) int {
	switch {
	case r == 0 || class.Space(r):
		return 0
	case class.Punct(r):
		return 1
	}
	return 2
}

func TestFlankOfEachCharacter(t *testing.T) {
	others := []rune{' ', '.', 'a'}
	for r := rune(-10); r <= utf8.MaxRune+10; r++ {
		at := sort(r)
		for i, other := range others {
			x := flanks[at*3+i]
			checkFlank(t, r, other, '*', x.other)
			checkFlank(t, r, other, '_', x.under)
			x = flanks[i*3+at]
			checkFlank(t, other, r, '*', x.other)
			checkFlank(t, other, r, '_', x.under)
		}
	}
}

// P13.2

func TestExamples(t *testing.T) {
	checkMatch(t, runs(opens('*', 2), closes('*', 2)), delim.Pair{Open: 0, Close: 1, N: 2})
	checkMatch(t, runs(opens('*', 1), closes('*', 2)), delim.Pair{Open: 0, Close: 1, N: 1})
}

func TestNoPairs(t *testing.T) {
	for _, l := range [][]delim.Run{
		nil, {}, {both('*', 1)}, {both('~', 2)},
		runs(closes('*', 1), opens('*', 1)),
		runs(opens('*', 1), opens('*', 1)),
		runs(closes('*', 1), closes('*', 1)),
		runs(delim.Run{C: '*', N: 1}, closes('*', 1)),
		runs(opens('*', 1), delim.Run{C: '*', N: 1}),
		runs(opens('*', 1), closes('_', 1)),
		runs(opens('a', 1), closes('A', 1)),
		runs(opens('~', 1), closes('*', 1)),
		make([]delim.Run, 5),
	} {
		checkMatch(t, l)
	}
}

func TestHowMany(t *testing.T) {
	for n := 1; n < 40; n++ {
		for k := 1; k < 40; k++ {
			var want []delim.Pair
			for left := min(n, k); left > 0; left -= 2 {
				want = append(want, delim.Pair{Open: 0, Close: 1, N: min(left, 2)})
			}
			checkMatch(t, runs(opens('*', n), closes('*', k)), want...)
			checkMatch(t, runs(opens('_', n), closes('_', k)), want...)
		}
	}
	checkMatch(t, runs(opens('*', 3), closes('*', 3)), delim.Pair{Open: 0, Close: 1, N: 2}, delim.Pair{Open: 0, Close: 1, N: 1})
	checkMatch(t, runs(opens('*', 3), closes('*', 1), closes('*', 3)), delim.Pair{Open: 0, Close: 1, N: 1}, delim.Pair{Open: 0, Close: 2, N: 2})
	checkMatch(t, runs(opens('*', 1), opens('*', 2), closes('*', 3)), delim.Pair{Open: 1, Close: 2, N: 2}, delim.Pair{Open: 0, Close: 2, N: 1})
	checkMatch(t, runs(opens('*', 2), opens('*', 1), closes('*', 4)), delim.Pair{Open: 1, Close: 2, N: 1}, delim.Pair{Open: 0, Close: 2, N: 2})
}

// What fits is the same of each sign but "~".
func TestEachSign(t *testing.T) {
	for c := range 256 {
		l := runs(opens(byte(c), 1), both(byte(c), 2), closes(byte(c), 3))
		if c == '~' {
			checkMatch(t, l)
			continue
		}
		checkMatch(t, l, delim.Pair{Open: 1, Close: 2, N: 2}, delim.Pair{Open: 0, Close: 2, N: 1})
		for other := range 256 {
			if other != c {
				checkMatch(t, runs(opens(byte(c), 1), closes(byte(other), 1)))
			}
		}
	}
}

func TestNearest(t *testing.T) {
	checkMatch(t, runs(opens('*', 1), opens('*', 1), closes('*', 1)), delim.Pair{Open: 1, Close: 2, N: 1})
	checkMatch(t, runs(opens('*', 1), opens('*', 1), closes('*', 1), closes('*', 1)), delim.Pair{Open: 1, Close: 2, N: 1}, delim.Pair{Open: 0, Close: 3, N: 1})
	// One that has none left any more is gone over, and so is one that may not open.
	checkMatch(t, runs(opens('*', 1), opens('*', 1), delim.Run{C: '*', N: 1}, closes('*', 2)), delim.Pair{Open: 1, Close: 3, N: 1}, delim.Pair{Open: 0, Close: 3, N: 1})
	// So is one that does not fit.
	checkMatch(t, runs(opens('*', 2), opens('*', 1), both('*', 2)), delim.Pair{Open: 0, Close: 2, N: 2})
}

// All runs between two of a pair have none left.
func TestBetween(t *testing.T) {
	checkMatch(t, runs(opens('*', 1), opens('_', 1), closes('*', 1), closes('_', 1)), delim.Pair{Open: 0, Close: 2, N: 1})
	checkMatch(t, runs(opens('_', 1), opens('*', 1), opens('~', 1), closes('_', 1), closes('*', 1), closes('~', 1)), delim.Pair{Open: 0, Close: 3, N: 1})
	checkMatch(t, runs(opens('*', 1), opens('_', 3), closes('_', 1), closes('*', 1), closes('_', 2)), delim.Pair{Open: 1, Close: 2, N: 1}, delim.Pair{Open: 0, Close: 3, N: 1})
	// The outer one's are left: it goes on.
	checkMatch(t, runs(opens('*', 2), opens('_', 1), closes('*', 1), closes('_', 1), closes('*', 1)), delim.Pair{Open: 0, Close: 2, N: 1}, delim.Pair{Open: 0, Close: 4, N: 1})
	// What does not fit stands between, too.
	checkMatch(t, runs(opens('*', 2), opens('*', 1), both('*', 2), closes('*', 1)), delim.Pair{Open: 0, Close: 2, N: 2})
	// What stands ahead of the pair has all that it had.
	checkMatch(t, runs(opens('_', 1), opens('*', 1), closes('*', 1), closes('_', 1)), delim.Pair{Open: 1, Close: 2, N: 1}, delim.Pair{Open: 0, Close: 3, N: 1})
	checkMatch(t, runs(opens('~', 1), opens('_', 1), opens('*', 1), closes('_', 1), closes('~', 1)), delim.Pair{Open: 1, Close: 3, N: 1}, delim.Pair{Open: 0, Close: 4, N: 1})
}

// One that closes, and has signs left then, may open for those.
func TestBothClosesAndOpens(t *testing.T) {
	checkMatch(t, runs(both('*', 1), both('*', 1), both('*', 1)), delim.Pair{Open: 0, Close: 1, N: 1})
	checkMatch(t, runs(both('*', 1), both('*', 1), both('*', 1), both('*', 1)), delim.Pair{Open: 0, Close: 1, N: 1}, delim.Pair{Open: 2, Close: 3, N: 1})
	checkMatch(t, runs(opens('*', 1), both('*', 3), closes('*', 2)), delim.Pair{Open: 0, Close: 1, N: 1}, delim.Pair{Open: 1, Close: 2, N: 2})
	checkMatch(t, runs(both('*', 1), both('_', 1), both('*', 1), both('_', 1)), delim.Pair{Open: 0, Close: 2, N: 1})
	// No run belongs to itself.
	checkMatch(t, runs(both('*', 4)))
	checkMatch(t, runs(both('*', 3), both('*', 3)), delim.Pair{Open: 0, Close: 1, N: 2}, delim.Pair{Open: 0, Close: 1, N: 1})
}

// threes: do two runs fit, by hand?
func threes(opener, closer delim.Run) bool {
	if !opener.Close && !closer.Open {
		return true
	}
	a, b := opener.N%3, closer.N%3
	switch {
	case a == 1 && b == 2, a == 2 && b == 1:
		return false
	}
	return true
}

func TestMultiplesOfThree(t *testing.T) {
	for n := 1; n < 20; n++ {
		for k := 1; k < 20; k++ {
			for _, opener := range runs(opens('*', n), both('*', n)) {
				for _, closer := range runs(closes('*', k), both('*', k)) {
					l := runs(opener, closer)
					if got := len(delim.Match(l)) > 0; got != threes(opener, closer) {
						t.Errorf("Match(%s): a pair is %v", shown(l), got)
					}
				}
			}
		}
	}
	checkMatch(t, runs(opens('*', 1), both('*', 2)))
	checkMatch(t, runs(both('*', 2), closes('*', 1)))
	checkMatch(t, runs(both('*', 4), closes('*', 2)))
	checkMatch(t, runs(opens('*', 1), closes('*', 2)), delim.Pair{Open: 0, Close: 1, N: 1})
	checkMatch(t, runs(both('*', 3), both('*', 6)), delim.Pair{Open: 0, Close: 1, N: 2}, delim.Pair{Open: 0, Close: 1, N: 1})
}

// It is the N of runs that count, not what they have left.
func TestMultiplesOfThreeAreOfN(t *testing.T) {
	checkMatch(t, runs(opens('*', 3), closes('*', 1), both('*', 1)), delim.Pair{Open: 0, Close: 1, N: 1}, delim.Pair{Open: 0, Close: 2, N: 1})
	checkMatch(t, runs(opens('*', 1), opens('*', 1), both('*', 3)), delim.Pair{Open: 1, Close: 2, N: 1}, delim.Pair{Open: 0, Close: 2, N: 1})
	checkMatch(t, runs(opens('*', 5), closes('*', 3), both('*', 1)), delim.Pair{Open: 0, Close: 1, N: 2}, delim.Pair{Open: 0, Close: 1, N: 1})
	checkMatch(t, runs(opens('*', 2), both('*', 5), closes('*', 1)), delim.Pair{Open: 0, Close: 1, N: 2})
}

// What one did not find, another one that may open as well as close, or has
// another N, may find.
func TestLookedForAgain(t *testing.T) {
	checkMatch(t, runs(opens('*', 1), both('*', 2), closes('*', 2)), delim.Pair{Open: 1, Close: 2, N: 2})
	checkMatch(t, runs(opens('*', 4), both('_', 1), both('*', 2), closes('_', 1), closes('*', 2)), delim.Pair{Open: 1, Close: 3, N: 1}, delim.Pair{Open: 0, Close: 4, N: 2})
	checkMatch(t, runs(opens('*', 1), both('*', 5), both('*', 4)), delim.Pair{Open: 0, Close: 2, N: 1})
	checkMatch(t, runs(opens('*', 1), both('*', 2), opens('*', 2), both('*', 2)), delim.Pair{Open: 2, Close: 3, N: 2})
	checkMatch(t, runs(opens('*', 1), both('*', 2), opens('_', 1), closes('*', 1)), delim.Pair{Open: 0, Close: 3, N: 1})
	checkMatch(t, runs(closes('*', 1), opens('*', 1), closes('*', 1)), delim.Pair{Open: 1, Close: 2, N: 1})
	checkMatch(t, runs(opens('*', 2), both('*', 1), both('*', 1), both('*', 4)), delim.Pair{Open: 1, Close: 2, N: 1})
}

func TestStruck(t *testing.T) {
	for n := 1; n < 20; n++ {
		for k := 1; k < 20; k++ {
			var want []delim.Pair
			if n == k {
				want = []delim.Pair{{Open: 0, Close: 1, N: n}}
			}
			for _, opener := range runs(opens('~', n), both('~', n)) {
				for _, closer := range runs(closes('~', k), both('~', k)) {
					checkMatch(t, runs(opener, closer), want...)
				}
			}
		}
	}
	checkMatch(t, runs(opens('~', 2), opens('~', 1), closes('~', 2), closes('~', 1)), delim.Pair{Open: 0, Close: 2, N: 2})
	checkMatch(t, runs(opens('~', 2), opens('~', 1), closes('~', 1), closes('~', 2)), delim.Pair{Open: 1, Close: 2, N: 1}, delim.Pair{Open: 0, Close: 3, N: 2})
	checkMatch(t, runs(opens('~', 1), closes('~', 1), closes('~', 1)), delim.Pair{Open: 0, Close: 1, N: 1})
	checkMatch(t, runs(both('~', 2), both('~', 2), both('~', 2), closes('~', 2)), delim.Pair{Open: 0, Close: 1, N: 2}, delim.Pair{Open: 2, Close: 3, N: 2})
	checkMatch(t, runs(opens('~', 1), opens('*', 1), closes('~', 2), closes('*', 1), closes('~', 1)), delim.Pair{Open: 1, Close: 3, N: 1}, delim.Pair{Open: 0, Close: 4, N: 1})
}

// A run of below 1 signs, or of more than 2^30, neither opens nor closes.
func TestNumbersOutOfRange(t *testing.T) {
	for _, c := range []byte("*_~a") {
		for _, n := range []int{0, -1, -2, -3, -1 << 30, math.MinInt, 1<<30 + 1, 1<<30 + 2, 1<<30 + 3, 1 << 31, 1 << 32, 1<<32 + 1, math.MaxInt} {
			checkMatch(t, runs(opens(c, n), closes(c, n)))
			checkMatch(t, runs(opens(c, n), closes(c, 1)))
			checkMatch(t, runs(opens(c, 1), closes(c, n)))
			checkMatch(t, runs(both(c, n), both(c, n), both(c, n)))
			checkMatch(t, runs(opens(c, 1), opens(c, n), both(c, n), closes(c, 1)), delim.Pair{Open: 0, Close: 3, N: 1})
			checkMatch(t, runs(opens(c, n), opens(c, 1), closes(c, 1), closes(c, n)), delim.Pair{Open: 1, Close: 2, N: 1})
		}
		want := delim.Pair{Open: 0, Close: 1, N: 1}
		if c == '~' {
			checkMatch(t, runs(opens(c, 1<<30), closes(c, 1<<30)), delim.Pair{Open: 0, Close: 1, N: 1 << 30})
			continue
		}
		checkMatch(t, runs(opens(c, 1<<30), closes(c, 1)), want)
		checkMatch(t, runs(opens(c, 1), closes(c, 1<<30)), want)
		checkMatch(t, runs(opens(c, 1), both(c, 1<<30-2)))
		checkMatch(t, runs(opens(c, 1), both(c, 1<<30)), want)
		checkMatch(t, runs(opens(c, 2), both(c, 1<<30)))
	}
}

// Texts, with their runs told by Flank, and their pairs by Match.

// split is a text's runs, and what stands ahead of each of them, and behind the
// last one.
func split(s string) ([]delim.Run, []string) {
	var l []delim.Run
	var parts []string
	from := 0
	for at := 0; at < len(s); {
		if !strings.ContainsRune("*_~", rune(s[at])) {
			at++
			continue
		}
		n := len(s[at:]) - len(strings.TrimLeft(s[at:], s[at:at+1]))
		before, _ := utf8.DecodeLastRuneInString(s[:at])
		after, _ := utf8.DecodeRuneInString(s[at+n:])
		if at == 0 {
			before = 0
		}
		if at+n == len(s) {
			after = 0
		}
		open, close := delim.Flank(before, after, s[at])
		l = append(l, delim.Run{C: s[at], N: n, Open: open, Close: close})
		parts = append(parts, s[from:at])
		at += n
		from = at
	}
	return l, append(parts, s[from:])
}

// drawn is a text with its pairs: [ and ] of one sign, { and } of two, < and >
// of "~".
func drawn(s string) string {
	l, parts := split(s)
	begins, ends, left := make([]string, len(l)), make([]string, len(l)), make([]int, len(l))
	for i, r := range l {
		left[i] = r.N
	}
	for _, p := range delim.Match(l) {
		marks := map[int]string{1: "[]", 2: "{}"}[p.N]
		if l[p.Open].C == '~' {
			marks = "<>"
		}
		begins[p.Open] = marks[:1] + begins[p.Open]
		ends[p.Close] += marks[1:]
		left[p.Open] -= p.N
		left[p.Close] -= p.N
	}
	var out strings.Builder
	for i, r := range l {
		out.WriteString(parts[i] + ends[i] + strings.Repeat(string(r.C), left[i]) + begins[i])
	}
	return out.String() + parts[len(l)]
}

func TestTexts(t *testing.T) {
	for _, x := range []struct{ s, want string }{
		{"*a b*", "[a b]"}, {"a * b*", "a * b*"}, {"a*\"b\"*", "a*\"b\"*"}, {"*\u00a0a\u00a0*", "*\u00a0a\u00a0*"}, {"a*b*", "a[b]"}, {"5*6*78", "5[6]78"},
		{"_a b_", "[a b]"}, {"_ a b_", "_ a b_"}, {"a_\"b\"_", "a_\"b\"_"}, {"a_b_", "a_b_"}, {"5_6_78", "5_6_78"}, {"\u00e9_\u00e9_", "\u00e9_\u00e9_"}, {"a-_(b)_", "a-[(b)]"},
		{"_a*", "_a*"}, {"*a b *", "*a b *"}, {"*(*a", "*(*a"}, {"*(*a*)*", "[([a])]"}, {"*a*b", "[a]b"}, {"_a _", "_a _"}, {"_(_a_)_", "[([a])]"}, {"_a_b_c_", "[a_b_c]"}, {"_(a)_.", "[(a)]."},
		{"**a b**", "{a b}"}, {"** a b**", "** a b**"}, {"a**b**", "a{b}"}, {"__a, __b__, c__", "{a, {b}, c}"}, {"a__b__c", "a__b__c"}, {"__a__b__c__", "{a__b__c}"},
		{"*a **b** c*", "[a {b} c]"}, {"*a**b**c*", "[a{b}c]"}, {"*a**b*", "[a**b]"}, {"***a** b*", "[{a} b]"}, {"*a **b***", "[a {b}]"}, {"*a**b***", "[a{b}]"}, {"a***b***c", "a[{b}]c"}, {"a******b*********c", "a{{{b}}}***c"},
		{"***a* b**", "{[a] b}"}, {"**a *b***", "{a [b]}"}, {"__a_", "_[a]"}, {"**a*", "*[a]"}, {"*a**", "[a]*"}, {"***a**", "*{a}"}, {"****a*", "***[a]"}, {"**a***", "{a}*"}, {"*a****", "[a]***"}, {"******a******", "{{{a}}}"}, {"***a***", "[{a}]"}, {"_____a_____", "[{{a}}]"},
		{"*a _b* c_", "[a _b] c_"}, {"*a __b *c d__ e*", "[a {b *c d} e]"}, {"**a **b c**", "**a {b c}"}, {"*a *b c*", "*a [b c]"}, {"a**b*c", "a**b*c"}, {"*a**b c*", "[a**b c]"},
		{"~a~ ~~b~~ ~c~~", "<a> <b> ~c~~"}, {"~a *b~ c*", "<a *b> c*"}, {"a~b~c", "a<b>c"}, {"~~a ~b~ c~~", "<a <b> c>"}, {"~ a ~", "~ a ~"},
		{"", ""}, {"a", "a"}, {"*", "*"}, {"**", "**"}, {"* a *", "* a *"}, {"*_~", "*_~"},
	} {
		if got := drawn(x.s); got != x.want {
			t.Errorf("%q is %q, want %q", x.s, got, x.want)
		}
	}
}

// P13.3, and what holds of all.

// repeated is some runs again and again.
func repeated(n int, l ...delim.Run) []delim.Run { return slices.Repeat(l, n/len(l)) }

// R1: lists of any length, in no more than a few steps for each run.
func TestLongLists(t *testing.T) {
	opener, closer := repeated(long, opens('*', 1)), repeated(long, closes('*', 1))
	for _, x := range []struct {
		l     []delim.Run
		pairs int
	}{
		{opener, 0}, {closer, 0},
		{slices.Concat(opener, closer), long},
		{slices.Concat(closer, opener), 0},
		{slices.Concat(opener, repeated(long, closes('_', 1), closes('~', 1))), 0},
		{slices.Concat(opener, repeated(long, both('*', 2))), long / 2},
		{slices.Concat(opener, repeated(long, opens('_', 1), both('*', 2), closes('_', 1))), long / 3},
		{repeated(long, opens('*', 1), opens('_', 1), closes('*', 1), closes('_', 1)), long / 4},
		{slices.Concat(runs(opens('*', long)), repeated(long, opens('_', 1), closes('*', 1))), long / 2},
		{slices.Concat(repeated(long, opens('_', 1)), runs(opens('*', long)), closer), long},
		{slices.Concat(opener, runs(closes('*', long))), long},
		{runs(opens('*', long), closes('*', long)), long / 2},
		{repeated(long, both('*', 1)), long / 2},
		{slices.Concat(repeated(long, opens('~', 1)), repeated(long, closes('~', 2))), 0},
		{slices.Concat(repeated(long, opens('~', 2), opens('~', 1)), repeated(long, closes('~', 1), closes('~', 2))), long},
		{slices.Concat(opener, ofMoreAndMore()), long},
		{ofEachNumber(0), 0},
		{ofEachNumber(1), long},
		{ofEachSign(), 0},
	} {
		got := delim.Match(x.l)
		if len(got) != x.pairs {
			t.Errorf("Match(%.40s): %d pairs, want %d", shown(x.l[:min(len(x.l), 8)]), len(got), x.pairs)
		}
		sound(t, x.l, got)
	}
}

// ofEachNumber is openers of "~" by each number, and behind them what closes
// those, or by numbers that none of them has.
func ofEachNumber(fit int) []delim.Run {
	var l []delim.Run
	for n := range long {
		l = append(l, opens('~', n+1))
	}
	for n := range long {
		l = append(l, closes('~', (1-fit)*long+long-n))
	}
	return l
}

// ofMoreAndMore is what looks for openers of more than one "*", by each number
// that does not fit, between pairs that leave it none.
func ofMoreAndMore() []delim.Run {
	var l []delim.Run
	for n := range long {
		l = append(l, opens('_', 1), both('*', 3*n+2), closes('_', 1))
	}
	return l
}

// ofEachSign is openers of "*", and behind them what closes other signs.
func ofEachSign() []delim.Run {
	l := repeated(long, opens('*', 1))
	for n := range long {
		if c := byte(n); c != '*' {
			l = append(l, closes(c, n%7+1), opens(c+1, 1<<30+1))
		}
	}
	return l
}

// R3: what is handed in is not changed, and what is told is new.
func TestAnswersAreNewMemory(t *testing.T) {
	l := runs(opens('*', 2), both('_', 1), closes('*', 2), opens('~', 1), closes('~', 1))
	given := slices.Clone(l)
	want := slices.Clone(delim.Match(l))
	first, second := delim.Match(l), delim.Match(l)
	for i := range first {
		first[i] = delim.Pair{}
	}
	if !slices.Equal(second, want) || !slices.Equal(delim.Match(l), want) {
		t.Errorf("two answers share memory")
	}
	if !slices.Equal(l, given) {
		t.Errorf("%v is made of %v", l, given)
	}
	clear(l)
	if !slices.Equal(second, want) {
		t.Errorf("%v is told of a list that is no more", second)
	}
}

// Nothing is kept: what is told of a list hangs on no list ahead of it.
func TestNothingIsKept(t *testing.T) {
	lists := [][]delim.Run{
		nil, runs(opens('*', 1)), runs(closes('*', 1)), runs(both('*', 2), both('*', 1)), runs(opens('~', 1), closes('~', 1)), runs(opens('*', 2), closes('*', 3)), runs(closes('_', 1), opens('_', 1)),
	}
	for _, l := range lists {
		want := delim.Match(l)
		for _, ahead := range lists {
			delim.Match(ahead)
			if got := delim.Match(l); !slices.Equal(got, want) {
				t.Errorf("of %s %v, and behind %s %v", shown(l), want, shown(ahead), got)
			}
		}
	}
}
