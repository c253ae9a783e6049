package delim_test

import (
	"math/rand/v2"
	"slices"
	"strings"
	"testing"

	"incipit/delim"
)

// model is Match step by step, as the chapter's words go.
type model struct {
	l           []delim.Run
	left        []int
	open, close []bool
	pairs       []delim.Pair
}

func newModel(l []delim.Run) *model {
	m := &model{l: l}
	for _, r := range l {
		is := r.N >= 1 && r.N <= 1<<30
		n := 0
		if is {
			n = r.N
		}
		m.left = append(m.left, n)
		m.open = append(m.open, is && r.Open)
		m.close = append(m.close, is && r.Close)
	}
	return m
}

// fits: may the run at j close the one at i?
func (m *model) fits(i, j int) bool {
	if m.l[j].C == '~' {
		return m.left[i] == m.left[j]
	}
	both := m.open[i] && m.close[i] || m.open[j] && m.close[j]
	sum := m.l[i].N + m.l[j].N
	threes := m.l[i].N%3 == 0 && m.l[j].N%3 == 0
	return !(both && sum%3 == 0 && !threes)
}

// nearest is the place of the run that the one at j closes; -1, if there is none.
func (m *model) nearest(j int) int {
	if !m.close[j] || m.left[j] == 0 {
		return -1
	}
	for i := j - 1; i >= 0; i-- {
		if m.open[i] && m.l[i].C == m.l[j].C && m.left[i] > 0 && m.fits(i, j) {
			return i
		}
	}
	return -1
}

func (m *model) pair(i, j int) {
	n := 1
	if m.left[i] >= 2 && m.left[j] >= 2 {
		n = 2
	}
	if m.l[i].C == '~' {
		n = m.left[i]
	}
	m.pairs = append(m.pairs, delim.Pair{Open: i, Close: j, N: n})
	m.left[i] -= n
	m.left[j] -= n
	for between := i + 1; between < j; between++ {
		m.left[between] = 0
	}
}

// modelled is Match, told by the model.
func modelled(l []delim.Run) []delim.Pair {
	m := newModel(l)
	for j := 0; j < len(l); {
		if i := m.nearest(j); i >= 0 {
			m.pair(i, j)
			continue
		}
		if !m.open[j] {
			m.left[j] = 0
		}
		j++
	}
	return m.pairs
}

// sameMatch holds what is told of l against the model, and against P13.3.
func sameMatch(t *testing.T, l []delim.Run) {
	t.Helper()
	given := slices.Clone(l)
	got := delim.Match(l)
	if want := modelled(given); !slices.Equal(got, want) {
		t.Fatalf("Match(%.200s) = %.200v, want %.200v", shown(given), got, want)
	}
	if !slices.Equal(l, given) {
		t.Fatalf("Match(%.200s) made of it %.200s", shown(given), shown(l))
	}
	sound(t, given, got)
}

// sound holds pairs against P13.3: they do not cross, and use up no run more
// than it has.
func sound(t *testing.T, l []delim.Run, pairs []delim.Pair) {
	t.Helper()
	used := make([]int, len(l))
	for _, p := range pairs {
		if p.Open < 0 || p.Open >= p.Close || p.Close >= len(l) || p.N < 1 {
			t.Fatalf("of %.200s: no pair is %v", shown(l), p)
		}
		used[p.Open] += p.N
		used[p.Close] += p.N
	}
	for i, n := range used {
		if n > max(l[i].N, 0) {
			t.Fatalf("of %.200s: %d signs of the run %d", shown(l), n, i)
		}
	}
	nested(t, l, pairs)
}

// nested: does each pair that is found later stand beside the ones ahead of it,
// or around them?
func nested(t *testing.T, l []delim.Run, pairs []delim.Pair) {
	t.Helper()
	var tops []delim.Pair
	for _, p := range pairs {
		for len(tops) > 0 && tops[len(tops)-1].Open >= p.Open {
			tops = tops[:len(tops)-1]
		}
		if len(tops) > 0 && tops[len(tops)-1].Close > p.Open {
			t.Fatalf("of %.200s: %v crosses %v", shown(l), p, tops[len(tops)-1])
		}
		tops = append(tops, p)
	}
}

// shown is runs in short: which may open have an o behind them, which close a c.
func shown(l []delim.Run) string {
	var s strings.Builder
	for _, r := range l {
		if r.N < 0 || r.N > 9 {
			s.WriteString("?")
		}
		s.WriteString(strings.Repeat(string(r.C), min(max(r.N, 0), 9)))
		if r.Open {
			s.WriteString("o")
		}
		if r.Close {
			s.WriteString("c")
		}
		s.WriteString(" ")
	}
	return s.String()
}

// kinds are runs of each sign, by each number of them, in all four ways.
func kinds(signs string, numbers ...int) []delim.Run {
	var all []delim.Run
	for _, c := range []byte(signs) {
		for _, n := range numbers {
			all = append(all, delim.Run{C: c, N: n}, opens(c, n), closes(c, n), both(c, n))
		}
	}
	return all
}

// shortLists goes over all lists of at most so many of the runs.
func shortLists(t *testing.T, runs []delim.Run, most int) {
	t.Helper()
	var list []delim.Run
	var longer func()
	longer = func() {
		sameMatch(t, list)
		if len(list) == most {
			return
		}
		for _, r := range runs {
			list = append(list, r)
			longer()
			list = list[:len(list)-1]
		}
	}
	longer()
}

func TestShortLists(t *testing.T) {
	shortLists(t, kinds("*_~", 1, 2), 4)
	shortLists(t, kinds("*", 1, 2, 3, 4, 5, 6), 4)
	shortLists(t, kinds("~", 1, 2, 3, 4), 4)
	shortLists(t, kinds("*~", 0, 1, 1<<30+1), 3)
	shortLists(t, kinds("*_~a\x00\xff", 1), 4)
	shortLists(t, []delim.Run{opens('*', 1), opens('*', 2), opens('*', 3), closes('*', 1), closes('*', 2), closes('*', 3), both('*', 1), both('*', 2), both('*', 3)}, 6)
	shortLists(t, []delim.Run{opens('*', 4), both('*', 1), both('*', 2), closes('*', 1), opens('_', 1), closes('_', 2), both('~', 1)}, 6)
}

func TestManyLists(t *testing.T) {
	source := rand.New(rand.NewPCG(13, 2))
	runs := kinds("*_~", 1, 2, 3, 4, 5, 6, 7)
	few := kinds("*", 1, 2, 3, 4)
	strange := kinds("*_~#\x00", -1<<62, -1, 0, 1, 2, 3, 50, 1<<30+1, 1<<62)
	for range 40000 {
		for _, from := range [][]delim.Run{runs, few, strange} {
			var l []delim.Run
			for range source.IntN(60) {
				l = append(l, from[source.IntN(len(from))])
			}
			sameMatch(t, l)
		}
	}
}

func FuzzMatch(f *testing.F) {
	for _, s := range []string{"", "\x04\x08", "\x15\x15\x19", "\x06\x0a\x0e", "\x41\x81\xc3"} {
		f.Add(s)
	}
	f.Fuzz(func(t *testing.T, s string) {
		var l []delim.Run
		for _, b := range []byte(s[:min(len(s), 1000)]) { // the model takes long for more
			l = append(l, delim.Run{C: "*_~a"[b>>6], N: int(b>>2&15) - 1, Open: b&1 != 0, Close: b&2 != 0})
		}
		sameMatch(t, l)
	})
}
