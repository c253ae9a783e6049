package block_test

import (
	"math/rand/v2"
	"strings"
	"testing"

	"incipit/api"
	"incipit/block"
	"incipit/column"
	"incipit/escape"
	"incipit/refs"
	"incipit/scan"
)

// The model goes by the chapter's words, step by step, and by nothing else: it
// cuts what is left off each line as it is passed over, and lays down a line
// that counts for all that is above it at once.

type thing struct {
	block.Block
	up     *thing
	in     []*thing
	lines  []string
	need   int
	sign   byte // of a fence
	signs  int
	indent int
	setext bool
	closed bool
}

type model struct {
	doc   *thing
	mask  int
	at    int
	s     string
	col   int
	began bool
	last  *thing // the last container that was met
	all   bool
}

// opened are the ones that are open, from the document on.
func (m *model) opened() []*thing {
	l := []*thing{m.doc}
	for {
		in := l[len(l)-1].in
		if len(in) == 0 || in[len(in)-1].closed {
			return l
		}
		l = append(l, in[len(in)-1])
	}
}

func isLeaf(b *thing) bool {
	return b.Kind == api.Para || b.Kind == api.Code || b.Kind == api.Html
}

func (m *model) leaf() *thing {
	l := m.opened()
	if b := l[len(l)-1]; isLeaf(b) {
		return b
	}
	return &thing{}
}

func (m *model) paraGoesOn() bool { return m.leaf().Kind == api.Para && !m.began }

func (m *model) indent() int {
	n, _ := column.Indent(m.s, m.col)
	return n
}

func (m *model) behind() string {
	_, n := column.Indent(m.s, m.col)
	return m.s[n:]
}

func (m *model) blank() bool { return strings.Trim(m.s, " \t") == "" }

func (m *model) skip(n int) { m.s, m.col = column.Skip(m.s, m.col, n) }

func (m *model) over(n int) {
	m.skip(m.indent())
	m.s, m.col = m.s[n:], m.col+n
}

// counts: the line counts for b, and for all that b is in.
func (m *model) counts(b *thing) {
	for ; b != nil; b = b.up {
		b.Last = m.at
	}
}

// closeBehind closes all that are open behind b.
func (m *model) closeBehind(b *thing) {
	behind := false
	for _, x := range m.opened() {
		x.closed = x.closed || behind
		behind = behind || x == b
	}
}

func (m *model) begin(b *thing) *thing {
	m.closeBehind(m.last)
	if m.last.Kind == api.List && b.Kind != api.Item {
		m.last.closed = true
		m.last = m.last.up
	}
	b.up, b.First, b.Last = m.last, m.at, -1
	m.last.in = append(m.last.in, b)
	m.began = true
	return b
}

func (m *model) container(b *thing) *thing {
	m.last = m.begin(b)
	m.counts(b)
	return b
}

func (m *model) lay(b *thing, s string) {
	b.lines = append(b.lines, s)
	if strings.Trim(s, " \t") != "" {
		m.counts(b)
	}
}

func (m *model) meets(b *thing) bool {
	switch b.Kind {
	case api.List:
		return true
	case api.Quote:
		if m.indent() < 4 && strings.HasPrefix(m.behind(), ">") {
			m.over(1)
			m.skip(1)
			m.counts(b)
			return true
		}
		return false
	case api.Item:
		if m.blank() && len(b.in) == 0 {
			return false
		}
	case api.Note:
		b.need = 4
	}
	switch {
	case m.indent() >= b.need:
		m.skip(b.need)
		return true
	case m.blank():
		m.s, m.col = "", m.col+m.indent()
		return true
	}
	return false
}

func (m *model) line(s string) {
	m.s, m.col, m.began, m.last, m.all = s, 0, false, m.doc, true
	for _, b := range m.opened()[1:] {
		if isLeaf(b) {
			break
		}
		if !m.meets(b) {
			m.all = false
			break
		}
		m.last = b
	}
	if m.all && m.taken(m.leaf()) {
		return
	}
	for !m.blank() {
		switch m.begins() {
		case "line":
			return
		case "":
			m.text()
			return
		}
	}
	if b := m.leaf(); m.all && !m.began && b.Kind == api.Code && b.signs == 0 {
		m.skip(4)
		m.lay(b, m.s)
		return
	}
	m.closeBehind(m.last)
}

func (m *model) taken(b *thing) bool {
	switch {
	case b.Kind == api.Code && b.signs > 0:
		if m.indent() < 4 && scan.Closes(m.behind(), b.sign, b.signs) {
			m.counts(b)
			b.closed = true
			return true
		}
		m.skip(b.indent)
		m.lay(b, m.s)
		return true
	case b.Kind == api.Html && b.N > 5 && m.blank():
		b.closed = true
	case b.Kind == api.Html:
		m.lay(b, m.s)
		b.closed = b.N < 6 && scan.HtmlEnds(m.s, b.N)
		return true
	}
	return false
}

func (m *model) begins() string {
	if m.indent() >= 4 {
		if m.paraGoesOn() {
			return ""
		}
		b := m.leaf()
		if !m.all || m.began || b.Kind != api.Code || b.signs > 0 {
			b = m.begin(&thing{Block: block.Block{Kind: api.Code}})
		}
		m.skip(4)
		m.lay(b, m.s)
		return "line"
	}
	t := m.behind()
	if strings.HasPrefix(t, ">") {
		m.container(&thing{Block: block.Block{Kind: api.Quote}})
		m.over(1)
		m.skip(1)
		return "container"
	}
	if m.beginsLeaf(t) {
		return "line"
	}
	if label, n := block.Label(t); n > 0 && m.mask&32 != 0 && !m.paraGoesOn() {
		m.container(&thing{Block: block.Block{Kind: api.Note, S: label}})
		m.over(n)
		m.skip(m.indent())
		return "container"
	}
	return m.beginsItem(t)
}

func (m *model) beginsLeaf(t string) bool {
	if n, s := scan.Atx(t); n > 0 {
		b := m.begin(&thing{Block: block.Block{Kind: api.Head, N: n}, closed: true})
		m.lay(b, s)
		m.counts(b)
		return true
	}
	if c, n, s := scan.Fence(t); n > 0 {
		m.counts(m.begin(&thing{Block: block.Block{Kind: api.Code, T: escape.Unescape(s)}, sign: c, signs: n, indent: m.indent()}))
		return true
	}
	if n := scan.HtmlStart(t); n > 0 && !(n == 7 && m.paraGoesOn()) {
		b := m.begin(&thing{Block: block.Block{Kind: api.Html, N: n}})
		m.lay(b, m.s)
		b.closed = n < 6 && scan.HtmlEnds(m.s, n)
		return true
	}
	if n := scan.Setext(t); n > 0 && m.all && m.paraGoesOn() {
		b := m.leaf()
		if _, left := refs.All(joined(b)); left != "" {
			b.Kind, b.N, b.setext, b.closed = api.Head, n, true, true
			m.counts(b)
			return true
		}
	}
	if scan.Rule(t) {
		m.counts(m.begin(&thing{Block: block.Block{Kind: api.Rule}, closed: true}))
		return true
	}
	return false
}

func (m *model) beginsItem(t string) string {
	n, sign, size := scan.Ordered(t)
	other := size > 0 && n != 1
	if scan.Bullet(t) > 0 {
		size, sign = 1, t[0]
	}
	if size == 0 {
		return ""
	}
	if m.all && m.paraGoesOn() && (other || strings.Trim(t[size:], " \t") == "") {
		return ""
	}
	indent := m.indent()
	m.over(size)
	b := m.indent()
	need := indent + size + b
	if m.blank() || b >= 5 {
		need = indent + size + 1
	}
	m.skip(need - indent - size)
	if m.last.Kind != api.List || m.last.M != int(sign) {
		m.container(&thing{Block: block.Block{Kind: api.List, N: n, M: int(sign)}})
	}
	m.container(&thing{Block: block.Block{Kind: api.Item}, need: need})
	return "container"
}

func (m *model) text() {
	b := m.leaf()
	if !m.paraGoesOn() {
		b = m.begin(&thing{Block: block.Block{Kind: api.Para}})
	}
	m.lay(b, column.TrimLeft(m.s))
}

func joined(b *thing) string { return column.TrimRight(strings.Join(b.lines, "\n")) }

func apart(l []*thing) bool {
	for i := range l {
		if i > 0 && l[i].First > max(l[i-1].Last, l[i-1].First)+1 {
			return true
		}
	}
	return false
}

// flags tells of all Lists whether they are tight.
func flags(b *thing) {
	b.Flag = b.Kind == api.List && !apart(b.in)
	for _, x := range b.in {
		b.Flag = b.Flag && !apart(x.in)
		flags(x)
	}
}

func tells(b *thing, defs *[]api.Ref) {
	switch b.Kind {
	case api.Code, api.Html:
		n := len(b.lines)
		for b.Kind == api.Code && b.signs == 0 && n > 0 && strings.Trim(b.lines[n-1], " \t") == "" {
			n--
		}
		for _, s := range b.lines[:n] {
			b.S += s + "\n"
		}
	case api.Para, api.Head:
		b.S = joined(b)
		if b.Kind == api.Para || b.setext {
			l, left := refs.All(b.S)
			b.S = left
			*defs = refs.Add(*defs, l)
		}
	}
	for _, x := range b.in {
		tells(x, defs)
		if x.Kind != api.Para || x.S != "" {
			b.L = append(b.L, x.Block)
		}
	}
}

// modelled is Parse, told by the model.
func modelled(lines []string, mask int) ([]block.Block, []api.Ref) {
	m := &model{doc: &thing{}, mask: mask}
	for i, s := range lines {
		m.at = i
		m.line(s)
	}
	flags(m.doc)
	var defs []api.Ref
	tells(m.doc, &defs)
	return m.doc.L, defs
}

// sameParse holds what is told of lines against the model, up to the first fault.
func sameParse(t *testing.T, lines []string, mask int) {
	t.Helper()
	want, wantRefs := modelled(lines, mask)
	got, gotRefs := block.Parse(lines, mask)
	if told(got) != told(want) || toldRefs(gotRefs) != toldRefs(wantRefs) {
		t.Fatalf("Parse(%q, %d) =\n%s %s, want\n%s %s", lines, mask, told(got), toldRefs(gotRefs), told(want), toldRefs(wantRefs))
	}
}

func sameDoc(t *testing.T, s string) {
	t.Helper()
	sameParse(t, strings.Split(s, "\n"), api.Footnotes)
}

// pieces are what documents are put together from.
var pieces = []string{
	"\n", "\n\n", " ", "  ", "    ", "\t", "a", "\v", "> ", ">", "- ", "-", "* ", "1. ", "2. ", "1) ", "# ", "```", "~~~\n", "---", "===", "<div>", "<b>", "<!--", "-->", "[^n]: ", "[a]: /u", "[b]:\n/v 't'",
}

func TestShortDocuments(t *testing.T) {
	for _, s := range shortTexts(pieces, 3) {
		sameDoc(t, s)
	}
	few := []string{"\n", "  ", "    ", "a", "> ", "- ", "1. ", "```", "\v", "--"}
	for _, s := range shortTexts(few, 5) {
		sameDoc(t, s)
	}
}

func TestShortDocumentsBehindOthers(t *testing.T) {
	for _, begin := range []string{
		"- a\n", "- a\n\n", "- a\n  - b\n", "> a\n", "> - a\n", "- > a\n", "1. a\n\n   b\n", "-\n", "- ```\n", "> ~~~ x\n", "    a\n", "-     a\n\n", "<pre>\n", "> <div>\n", "[^n]: a\n", "[^n]:\n\n    - a\n", "- \v\n", "[a]: /u\n", "a\nb\n", "* # a\n  \v\n", "10) a\n", "x\n\n- \v\n",
	} {
		for _, s := range shortTexts(pieces, 2) {
			sameDoc(t, begin+s)
			sameDoc(t, begin+s+"\nb")
			sameDoc(t, begin+"  "+s+"\n  - b")
		}
	}
}

func TestManyDocuments(t *testing.T) {
	source := rand.New(rand.NewPCG(11, 7))
	for range 60000 {
		var s strings.Builder
		for range source.IntN(40) {
			s.WriteString(pieces[source.IntN(len(pieces))])
		}
		sameDoc(t, s.String())
	}
}

// Lines that more probably go on what is open.
func TestManyIndentedDocuments(t *testing.T) {
	begins := []string{"", "", "  ", "    ", "      ", " ", "   ", "\t", "\t\t", "> ", "> > ", ">", ">   ", "> \t", "  > "}
	inner := []string{"", "", "", "a", "b", "- a", "- ", "-   a", "-\ta", "+ a", "1. a", "2. b", "3) c", "- - a", "- > a", "- # a", "- ```", "```", "``` x", "~~~", "    a", "# a", "---", "===", "* * *", "<pre>", "</pre>", "<div>", "<b>", "\v", "[^n]: a", "[^m]:", "[^n]: - a", "[a]: /u", "[b]: <v>\n't'", "[c]:"}
	source := rand.New(rand.NewPCG(3, 5))
	for range 60000 {
		var lines []string
		for range source.IntN(14) {
			lines = append(lines, begins[source.IntN(len(begins))]+inner[source.IntN(len(inner))])
		}
		sameParse(t, lines, api.Footnotes)
		sameParse(t, lines, api.All-api.Footnotes)
	}
}

func FuzzBlock(f *testing.F) {
	for _, s := range []string{"", "- a\n\n- b", "> a\nb", "-\t\ta\n\n  > ```\n", "1. a\n2) b\n***", "[^n]: a\n\n    b\n\n[a]: /u\n===", "<!-- a\n-->\n<div>\n\v\n\n# b #", "- \v\n\n  a\n---"} {
		f.Add(s)
	}
	f.Fuzz(func(t *testing.T, s string) {
		sameDoc(t, s)
		sameParse(t, strings.Split(s, "\r"), 0)
	})
}
