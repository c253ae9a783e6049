package inline

import (
	"strings"

	"incipit/api"
	"incipit/class"
	"incipit/link"
)

// open makes an opener of the signs at the parser's place.
func (p *parser) open(signs string) {
	o := opener{signs: signs, place: len(p.pieces), bracket: p.at + len(signs) - 1, closers: p.closersAhead()}
	p.pieces = append(p.pieces, o)
	p.openers = append(p.openers, o)
	p.at += len(signs)
}

// close makes of ], and of the last opener, what they are together.
func (p *parser) close() {
	if len(p.openers) == 0 {
		p.tell(1)
		return
	}
	last := len(p.openers) - 1
	o := p.openers[last]
	p.openers = p.openers[:last]
	node, n := p.closed(o)
	if n == 0 {
		// Of the pieces the opener is one for good now: the text that it is.
		p.tell(1)
		return
	}
	p.pieces = p.pieces[:o.place]
	p.add(node, n)
}

// closed is the node that begins with an opener and ends with the ] at the
// parser's place, and how many bytes that is from ] on; 0, if there is none.
func (p *parser) closed(o opener) (api.Node, int) {
	if !o.ofImage() && o.bracket < p.dead {
		return api.Node{}, 0
	}
	if label, ok := p.note(o); ok {
		return api.Node{Kind: api.NoteRef, S: label}, 1
	}
	dest, title, n, ok := p.target(o)
	if !ok {
		return api.Node{}, 0
	}
	node := api.Node{Kind: api.Image, S: dest, T: title, L: paired(p.pieces[o.place+1:])}
	if !o.ofImage() {
		node.Kind = api.Link
		p.dead = o.bracket
	}
	return node, 1 + n
}

// note is the label of a note to which an opener and the ] at the parser's place
// lead; false, if they lead to none.
func (p *parser) note(o opener) (string, bool) {
	if p.mask&api.Footnotes == 0 || o.ofImage() {
		return "", false
	}
	name, ok := strings.CutPrefix(p.s[o.bracket+1:p.at], "^")
	if !ok || name == "" || p.notes.find(name, p.closersAhead()-o.closers) < 0 {
		return "", false
	}
	return class.Label(name), true
}

// closersAhead is how many ] stand ahead of the parser's place.
func (p *parser) closersAhead() int {
	p.closers += strings.Count(p.s[p.counted:p.at], "]")
	p.counted = p.at
	return p.closers
}

// target is the address and the title to which an opener and the ] at the
// parser's place lead, and how many bytes behind ] say so; false, if there is
// none.
func (p *parser) target(o opener) (string, string, int, bool) {
	behind := p.s[p.at+1:]
	dest, title, n := link.Tail(behind)
	if n > 0 {
		return dest, title, n, true
	}
	label, n := link.Label(behind)
	if n == 0 {
		label = ownLabel(p.s[o.bracket : p.at+1])
		n = len("[]")
		if !strings.HasPrefix(behind, "[]") {
			n = 0
		}
	}
	ref, ok := p.refs.find(label)
	return ref.Dest, ref.Title, n, ok
}

// ownLabel is the label that a text in brackets is; "", if it is none.
func ownLabel(s string) string {
	label, n := link.Label(s)
	if n != len(s) {
		return ""
	}
	return label
}
