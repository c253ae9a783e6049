package delim

// most is how many signs a run has at most that has any.
const most = 1 << 30

// A matcher goes through runs from the first one on.
type matcher struct {
	runs  []Run
	near  *opener          // the nearest opener of any kind
	last  map[kind]*opener // the nearest one of each kind
	done  map[search]int   // the place up to where nothing is to be looked for again
	pairs []Pair
}

// An opener is a run that may open, and has signs left.
type opener struct {
	place, left int
	ahead       *opener // the next one ahead of it, of any kind
	like        *opener // the next one ahead of it that is of its kind
}

// A kind is what an opener has in common with each run that may close it.
type kind struct {
	sign byte
	n    int // of "~" alone, as of others those fit that have not as many
}

// A search is all that it hangs on which openers fit a run that may close: what
// one did not find, no other one of the same search finds ahead of its place.
type search struct {
	kind
	open bool
	rest int // of N by 3
}

// open makes a run an opener.
func (m *matcher) open(place, left int) {
	k := kindOf(m.runs[place])
	m.near = &opener{place: place, left: left, ahead: m.near, like: m.last[k]}
	m.last[k] = m.near
}

// close pairs a run with all openers that it closes, and tells how many signs it
// has left.
func (m *matcher) close(place, left int) int {
	for left > 0 {
		o := m.find(place)
		if o == nil {
			break
		}
		for m.near != o {
			m.drop()
		}
		n := taken(m.runs[place].C, o.left, left)
		m.pairs = append(m.pairs, Pair{Open: o.place, Close: place, N: n})
		o.left -= n
		left -= n
		if o.left == 0 {
			m.drop()
		}
	}
	return left
}

// find is the nearest opener that fits a run; nil, if there is none.
func (m *matcher) find(place int) *opener {
	run := m.runs[place]
	s := search{kind: kindOf(run), open: run.Open, rest: run.N % 3}
	done := m.done[s]
	for o := m.last[s.kind]; o != nil && o.place >= done; o = o.like {
		if fits(m.runs[o.place], run) {
			return o
		}
	}
	m.done[s] = place
	return nil
}

// drop takes the nearest opener away.
func (m *matcher) drop() {
	o := m.near
	m.near = o.ahead
	m.last[kindOf(m.runs[o.place])] = o.like
}

// signs is how many a run has at first.
func signs(run Run) int {
	if run.N < 1 || run.N > most {
		return 0
	}
	return run.N
}

func kindOf(run Run) kind {
	if run.C == '~' {
		return kind{sign: run.C, n: run.N}
	}
	return kind{sign: run.C}
}

// fits: may an opener be closed by a run of its kind?
func fits(opens, closes Run) bool {
	if opens.C == '~' || !opens.Close && !closes.Open {
		return true
	}
	return (opens.N+closes.N)%3 != 0 || opens.N%3 == 0
}

// taken is how many signs two runs give to a pair, by how many they have left.
func taken(sign byte, opens, closes int) int {
	switch {
	case sign == '~':
		return closes
	case opens >= 2 && closes >= 2:
		return 2
	}
	return 1
}
