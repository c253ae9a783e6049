package inline

import (
	"slices"

	"incipit/api"
	"incipit/delim"
)

// A piece is a part of a text: a node, a run of signs, or an opener.
type piece interface {
	// alone is the piece where nothing else is made of it.
	alone() api.Node
}

// whole is a piece that is a node.
type whole struct{ node api.Node }

// run is some of one sign, and whether it may open, and close.
type run struct {
	signs       string
	open, close bool
}

// opener is the beginning of a link or an image, if it comes to that: its place
// among the pieces, where its bracket stands in the text, and how many ] stand
// ahead of it there.
type opener struct {
	signs                   string
	place, bracket, closers int
}

func (w whole) alone() api.Node  { return w.node }
func (r run) alone() api.Node    { return textNode(r.signs) }
func (o opener) alone() api.Node { return textNode(o.signs) }

func (o opener) ofImage() bool { return o.signs == "![" }

func textNode(s string) api.Node { return api.Node{Kind: api.Text, S: s} }

// A use is what a run does: how many pairs it closes, how many of its signs are
// left over, and which kinds it opens, in the order in which they were found.
type use struct {
	closes, left int
	opens        []int
}

// uses are those of the runs among pieces.
func uses(l []piece) []use {
	var runs []delim.Run
	var all []use
	for _, p := range l {
		if r, ok := p.(run); ok {
			runs = append(runs, delim.Run{C: r.signs[0], N: len(r.signs), Open: r.open, Close: r.close})
			all = append(all, use{left: len(r.signs)})
		}
	}
	for _, pair := range delim.Match(runs) {
		opening, closing := &all[pair.Open], &all[pair.Close]
		opening.opens = append(opening.opens, kindOf(runs[pair.Open].C, pair.N))
		opening.left -= pair.N
		closing.closes++
		closing.left -= pair.N
	}
	return all
}

// kindOf is the kind of what stands between two runs of a pair.
func kindOf(sign byte, n int) int {
	switch {
	case sign == '~':
		return api.Struck
	case n == 2:
		return api.Strong
	}
	return api.Emph
}

// paired are pieces as nodes: what stands between two runs of a pair is in one.
func paired(l []piece) []api.Node {
	all := uses(l)
	var n nest
	for _, p := range l {
		switch p := p.(type) {
		case run:
			n.run(p, all[0])
			all = all[1:]
		case whole, opener:
			n.add(p.alone())
		}
	}
	return n.top
}

// A nest is nodes in each other: top are those of the innermost one that is
// still open, and around are the others, from the outermost one on.
type nest struct {
	kind   int
	top    []api.Node
	around []level
}

// A level is what stands in a node as yet, and of which kind the node is.
type level struct {
	kind int
	l    []api.Node
}

// run does what a run does: its signs that close stand ahead of those that are
// left over, and these ahead of those that open.
func (n *nest) run(r run, u use) {
	for range u.closes {
		n.close()
	}
	n.add(run{signs: r.signs[:u.left]}.alone())
	for _, kind := range slices.Backward(u.opens) {
		n.open(kind)
	}
}

func (n *nest) add(node api.Node) { n.top = append(n.top, node) }

func (n *nest) open(kind int) {
	n.around = append(n.around, level{n.kind, n.top})
	n.kind, n.top = kind, nil
}

func (n *nest) close() {
	last := len(n.around) - 1
	inner := api.Node{Kind: n.kind, L: n.top}
	n.kind, n.top = n.around[last].kind, n.around[last].l
	n.around = n.around[:last]
	n.add(inner)
}
