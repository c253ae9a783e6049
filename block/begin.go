package block

import (
	"strings"

	"incipit/api"
	"incipit/column"
	"incipit/escape"
	"incipit/refs"
	"incipit/scan"
	"incipit/text"
)

// What of a line is gone through when something begins with what is left of it.
const (
	nothing = iota // as nothing begins
	marker         // a container's: more may begin behind it
	whole          // all of the line
)

// loneTag is the kind of an Html that does not begin within a Para.
const loneTag = 7

// begins lays what begins with what is left, which is not blank.
func (p *parser) begins() int {
	switch {
	case p.indent() >= deep:
		return p.beginsCode()
	case p.beginsQuote():
		return marker
	case p.beginsHead(), p.beginsFence(), p.beginsHtml(), p.becomesHead(), p.beginsRule():
		return whole
	case p.beginsNote(), p.beginsItem():
		return marker
	}
	return nothing
}

// begin makes a block that begins the last child of the last container that was
// met, and closes all open behind that.
func (p *parser) begin(b Block) *part {
	if p.open[p.met-1].Kind == api.List && b.Kind != api.Item {
		p.met--
	}
	p.shut()
	b.First, b.Last = p.number, p.number
	begun := &part{Block: b}
	above := p.open[p.met-1]
	above.parts = append(above.parts, begun)
	p.open = append(p.open, begun)
	return begun
}

// enter begins a container.
func (p *parser) enter(b Block) *part {
	begun := p.begin(b)
	p.met++
	return begun
}

// lone begins a block of one line, which is closed.
func (p *parser) lone(b Block) {
	p.begin(b)
	p.shut()
}

// beginsCode lays a line of a Code without fences.
func (p *parser) beginsCode() int {
	if p.para() != nil {
		return nothing
	}
	code := p.code()
	if code == nil {
		code = p.begin(Block{Kind: api.Code})
	}
	code.take(p.number, p.without(deep))
	return whole
}

func (p *parser) beginsQuote() bool {
	if !p.quoteSign() {
		return false
	}
	p.enter(Block{Kind: api.Quote})
	return true
}

func (p *parser) beginsHead() bool {
	level, words := scan.Atx(p.behind())
	if level == 0 {
		return false
	}
	p.lone(Block{Kind: api.Head, S: column.TrimRight(words), N: level})
	return true
}

func (p *parser) beginsFence() bool {
	sign, signs, words := scan.Fence(p.behind())
	if signs == 0 {
		return false
	}
	code := p.begin(Block{Kind: api.Code, T: escape.Unescape(words)})
	code.fence = fence{sign: sign, signs: signs, indent: p.indent()}
	return true
}

func (p *parser) beginsHtml() bool {
	kind := scan.HtmlStart(p.behind())
	if kind == 0 || kind == loneTag && p.para() != nil {
		return false
	}
	return p.htmlTakes(p.begin(Block{Kind: api.Html, N: kind}))
}

// becomesHead makes the Para that goes on a Head, if the line says so.
func (p *parser) becomesHead() bool {
	level := scan.Setext(p.behind())
	para := p.para()
	if level == 0 || para == nil || !p.allMet() {
		return false
	}
	if _, left := refs.All(para.words()); left == "" {
		return false
	}
	para.Kind, para.N, para.Last = api.Head, level, p.number
	p.shut()
	return true
}

func (p *parser) beginsRule() bool {
	// Without the first question a line of many bullets would be gone through
	// up to its end behind each of them.
	if t := p.behind(); len(t) > p.signs || !scan.Rule(t) {
		return false
	}
	p.lone(Block{Kind: api.Rule})
	return true
}

// signsAtEnd is how many bytes at a line's end are blanks, and one sign again
// and again: no more than these can be a Rule.
func signsAtEnd(line string) int {
	const blanks = " \t"
	s := strings.TrimRight(line, blanks)
	if s == "" {
		return 0
	}
	return len(line) - len(strings.TrimRight(s, blanks+s[len(s)-1:]))
}

func (p *parser) beginsNote() bool {
	if p.mask&api.Footnotes == 0 || p.para() != nil {
		return false
	}
	label, n := Label(p.behind())
	if n == 0 {
		return false
	}
	p.pass(n)
	p.skip(p.indent())
	p.enter(Block{Kind: api.Note, S: label})
	return true
}

func (p *parser) beginsItem() bool {
	list, n := listOf(p.behind())
	if n == 0 || p.stays(list, p.behind()[n:]) {
		return false
	}
	ahead := p.indent() + n
	p.pass(n)
	inner := p.indent()
	if p.blank() || inner > deep {
		// What stands behind one column is nothing, or a Code.
		inner = 1
	}
	p.skip(inner)
	if last := p.open[p.met-1]; last.Kind != api.List || last.M != list.M {
		p.enter(list)
	}
	p.enter(Block{Kind: api.Item}).need = ahead + inner
	return true
}

// listOf is the List that a text begins if its first item does, and how many
// bytes the item's sign is; 0 if it is no item's.
func listOf(t string) (Block, int) {
	if n := scan.Bullet(t); n > 0 {
		return Block{Kind: api.List, M: int(t[0])}, n
	}
	number, sign, n := scan.Ordered(t)
	return Block{Kind: api.List, N: number, M: int(sign)}, n
}

// stays: is a sign of that List's items, with that behind it, only a part of the
// Para that goes on?
func (p *parser) stays(list Block, behind string) bool {
	if p.para() == nil || !p.allMet() {
		return false
	}
	numbered := list.M == '.' || list.M == ')'
	return text.Blank(behind) || numbered && list.N != 1
}
