package inline

import (
	"strings"

	"incipit/api"
	"incipit/class"
	"incipit/refs"
)

// few is how often labels are gone through one by one: a text that asks more
// often has them in maps, and one that asks less often need not make these.
const few = 32

// An index is n labels, to be found by what they are. closers says of how many
// of them have so many ].
type index struct {
	n       int
	label   func(i int) string
	asked   int
	places  map[string]int
	closers map[int]int
}

// find is the place of the first one that is the label of s, which has so many
// ]; -1 if there is none.
func (x *index) find(s string, closers int) int {
	x.asked++
	if x.asked > few {
		return x.look(s, closers)
	}
	label := class.Label(s)
	for i := range x.n {
		if x.label(i) == label {
			return i
		}
	}
	return -1
}

// look is find by the maps.
func (x *index) look(s string, closers int) int {
	if x.places == nil {
		x.fill()
	}
	// A label has as many ] as its text. Of texts in each other the outer ones
	// have more, so that few of them are gone through for each label.
	if x.closers[closers] == 0 {
		return -1
	}
	i, ok := x.places[class.Label(s)]
	if !ok {
		return -1
	}
	return i
}

func (x *index) fill() {
	x.places = make(map[string]int, x.n)
	x.closers = map[int]int{}
	for i := x.n - 1; i >= 0; i-- {
		x.places[x.label(i)] = i
		x.closers[strings.Count(x.label(i), "]")]++
	}
}

// definitions are link reference definitions, to be found by their labels.
type definitions struct {
	l []api.Ref
	x index
}

func newDefinitions(l []api.Ref) definitions {
	return definitions{l, index{n: len(l), label: func(i int) string { return l[i].Label }}}
}

// find is refs.Find.
func (d *definitions) find(label string) (api.Ref, bool) {
	i := d.x.find(label, strings.Count(label, "]"))
	if i < 0 {
		return api.Ref{}, false
	}
	return refs.Find(d.l[i:i+1], label)
}

func newNotes(l []string) index {
	return index{n: len(l), label: func(i int) string { return l[i] }}
}
