package block

import (
	"strings"

	"incipit/api"
	"incipit/column"
	"incipit/scan"
)

// From so many columns on an indent makes a Code, and a Note goes on.
const deep = 4

// parser is what is open while lines are gone through, and what is left of the
// line that is.
type parser struct {
	rest
	mask   int
	number int     // of the line
	signs  int     // how many bytes at the line's end may be a Rule
	open   []*part // the document, containers, and, or not, a leaf
	met    int     // how many of them, from the document on, were met or began in this line
}

// line goes through a line.
func (p *parser) line(number int, s string) {
	p.lay(s, 0)
	p.number, p.signs = number, signsAtEnd(s)
	p.meet()
	if p.leafTakes() {
		return
	}
	for !p.blank() {
		switch p.begins() {
		case whole:
			return
		case nothing:
			p.textLine()
			return
		}
	}
	p.blankLine()
}

// meet passes over what the open containers begin with, as long as one is met.
func (p *parser) meet() {
	p.met = 1
	for p.met < len(p.open) && p.meets(p.open[p.met]) {
		p.met++
	}
}

func (p *parser) meets(b *part) bool {
	switch b.Kind {
	case api.List:
		return true
	case api.Quote:
		if !p.quoteSign() {
			return false
		}
		b.Last = p.number
		return true
	case api.Item:
		return (len(b.parts) > 0 || !p.blank()) && p.indented(b.need)
	case api.Note:
		return p.indented(deep)
	}
	return false
}

// quoteSign passes over a Quote's sign, if it stands there.
func (p *parser) quoteSign() bool {
	if p.indent() >= deep || !strings.HasPrefix(p.behind(), ">") {
		return false
	}
	p.pass(1)
	p.skip(1)
	return true
}

// indented passes over an indent of so many columns, if it is there; of a blank
// line fewer will do.
func (p *parser) indented(need int) bool {
	if p.indent() < need && !p.blank() {
		return false
	}
	p.skip(need)
	return true
}

// leaf is the one that is open; nil if none is.
func (p *parser) leaf() *part {
	last := p.open[len(p.open)-1]
	switch last.Kind {
	case api.Para, api.Code, api.Html:
		return last
	}
	return nil
}

// allMet: were all containers met that are open?
func (p *parser) allMet() bool {
	containers := len(p.open)
	if p.leaf() != nil {
		containers--
	}
	return p.met == containers
}

// para is the Para that goes on; nil if none does. Where something began in this
// line, no leaf is open that was open ahead of it.
func (p *parser) para() *part {
	if leaf := p.leaf(); leaf != nil && leaf.Kind == api.Para {
		return leaf
	}
	return nil
}

// code is the Code without fences that goes on; nil if none does.
func (p *parser) code() *part {
	leaf := p.leaf()
	if leaf == nil || leaf.Kind != api.Code || leaf.fenced() || !p.allMet() {
		return nil
	}
	return leaf
}

// leafTakes: does the leaf take all of the line, whatever stands in it?
func (p *parser) leafTakes() bool {
	leaf := p.leaf()
	if leaf == nil || !p.allMet() {
		return false
	}
	switch {
	case leaf.fenced():
		p.fenceTakes(leaf)
		return true
	case leaf.Kind == api.Html:
		return p.htmlTakes(leaf)
	}
	return false
}

// fenceTakes lays the line behind those of a Code in fences, or closes it.
func (p *parser) fenceTakes(code *part) {
	f := code.fence
	if p.indent() < deep && scan.Closes(p.behind(), f.sign, f.signs) {
		code.Last = p.number
		p.shut()
		return
	}
	code.take(p.number, p.without(f.indent))
}

// htmlTakes lays the line behind those of an Html, and closes it if the line
// ends it: false of a blank line that does, which is no line of it.
func (p *parser) htmlTakes(html *part) bool {
	line := p.left()
	ends := scan.HtmlEnds(line, html.N)
	if ends {
		p.shut()
	}
	if ends && p.blank() {
		return false
	}
	html.take(p.number, line)
	return true
}

// textLine lays what is left, in which nothing began, behind a Para's lines.
func (p *parser) textLine() {
	para := p.para()
	if para == nil {
		para = p.begin(Block{Kind: api.Para})
		para.Last = uncounted
	}
	para.take(p.number, column.TrimLeft(p.behind()))
}

// blankLine closes what does not go on behind a blank line.
func (p *parser) blankLine() {
	if code := p.code(); code != nil {
		code.take(p.number, p.without(deep))
		return
	}
	p.shut()
}

// shut closes all behind the containers that were met. What is opened later gets
// memory of its own, by the third index: it is laid on no place in which what
// closed stands.
func (p *parser) shut() {
	if p.met < len(p.open) {
		p.open = p.open[:p.met:p.met]
	}
}
