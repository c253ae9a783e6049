package inline_test

import (
	"math/rand/v2"
	"slices"
	"strings"
	"testing"

	"incipit/api"
	"incipit/class"
	"incipit/delim"
	"incipit/entity"
	"incipit/escape"
	"incipit/inline"
	"incipit/link"
	"incipit/refs"
	"incipit/span"
	"incipit/text"
	"incipit/tree"
)

// thing is a piece: a node, a run or an opener, as it has a kind, a run's N or a
// sign. at is the place of an opener's bracket in the text, or a run's number.
type thing struct {
	api.Node
	run  delim.Run
	sign string
	live bool
	at   int
}

// model is Parse step by step, as the chapter's words go.
type model struct {
	s     string
	at    int
	defs  []api.Ref
	notes []string
	mask  int
	l     []thing
}

func said(s string) thing { return thing{Node: api.Node{Kind: api.Text, S: s}} }

func (m *model) behind() string { return m.s[m.at:] }

func (m *model) lay(x thing, n int) {
	m.l = append(m.l, x)
	m.at += n
}

func (m *model) blanks() {
	for m.at < len(m.s) && (m.s[m.at] == 32 || m.s[m.at] == 9) {
		m.at++
	}
}

// text is what stands from the place on, up to the next byte that is anything.
func (m *model) text() {
	n := 1
	for m.at+n < len(m.s) && strings.IndexByte("\\&`<*_~![]\n", m.s[m.at+n]) < 0 {
		n++
	}
	m.lay(said(m.s[m.at:m.at+n]), n)
}

func (m *model) step() {
	b := m.behind()
	switch b[0] {
	case '\\':
		m.backslash()
	case '&':
		if char, n := entity.Read(b); n > 0 {
			m.lay(said(char), n)
			return
		}
		m.lay(said("&"), 1)
	case '`':
		if inner, n := span.Code(b); n > 0 {
			m.lay(thing{Node: api.Node{Kind: api.Span, S: inner}}, n)
			return
		}
		m.lay(said(b[:span.Run(b)]), span.Run(b))
	case '<':
		m.angle()
	case '*', '_', '~':
		m.signs()
	case '[':
		m.lay(thing{sign: "[", live: true, at: m.at}, 1)
	case ']':
		m.bracket()
	case '\n':
		m.line()
	default:
		if strings.HasPrefix(b, "![") {
			m.lay(thing{sign: "![", live: true, at: m.at + 1}, 2)
			return
		}
		m.text()
	}
}

func (m *model) backslash() {
	b := m.behind()
	switch {
	case len(b) > 1 && b[1] == '\n':
		m.lay(thing{Node: api.Node{Kind: api.Hard}}, 2)
		m.blanks()
	case len(b) > 1 && escape.Sign(b[1]):
		m.lay(said(b[1:2]), 2)
	default:
		m.lay(said(b[:1]), 1)
	}
}

// dead is that no "[" among so many pieces is live any more.
func (m *model) dead(n int) {
	for i := range n {
		if m.l[i].sign == "[" {
			m.l[i].live = false
		}
	}
}

func (m *model) angle() {
	b := m.behind()
	if dest, inner, n := span.Auto(b); n > 0 {
		m.dead(len(m.l))
		m.lay(thing{Node: api.Node{Kind: api.Link, S: dest, L: []api.Node{said(inner).Node}}}, n)
		return
	}
	if n := span.Raw(b); n > 0 {
		m.lay(thing{Node: api.Node{Kind: api.Raw, S: b[:n]}}, n)
		return
	}
	m.lay(said("<"), 1)
}

func (m *model) signs() {
	b := m.behind()
	n := span.Run(b)
	if b[0] == '~' && m.mask&2 == 0 {
		m.text()
		return
	}
	if b[0] == '~' && n > 2 {
		m.lay(said(b[:n]), n)
		return
	}
	before, after := rune(0), rune(0)
	if ahead := text.Runes(m.s[:m.at]); len(ahead) > 0 {
		before = ahead[len(ahead)-1]
	}
	if more := text.Runes(b[n:]); len(more) > 0 {
		after = more[0]
	}
	open, closing := delim.Flank(before, after, b[0])
	m.lay(thing{run: delim.Run{C: b[0], N: n, Open: open, Close: closing}}, n)
}

func (m *model) line() {
	cut := 0
	if last := len(m.l) - 1; last >= 0 {
		for m.l[last].Kind == api.Text && strings.HasSuffix(m.l[last].S, " ") {
			m.l[last].S = m.l[last].S[:len(m.l[last].S)-1]
			cut++
		}
	}
	kind := api.Soft
	if cut >= 2 {
		kind = api.Hard
	}
	m.lay(thing{Node: api.Node{Kind: kind}}, 1)
	m.blanks()
}

// bracket is what P14.2 has for "]".
func (m *model) bracket() {
	last := len(m.l) - 1
	for last >= 0 && m.l[last].sign == "" {
		last--
	}
	if last < 0 {
		m.lay(said("]"), 1)
		return
	}
	o := m.l[last]
	made, n := m.made(o)
	switch {
	case n == 0:
		m.l[last] = said(o.sign)
		m.lay(said("]"), 1)
		return
	case made.Kind == api.Link:
		m.dead(last)
		fallthrough
	case made.Kind == api.Image:
		made.L = paired(m.l[last+1:])
	}
	m.l = m.l[:last]
	m.lay(thing{Node: made}, n)
}

// made is what an opener and the "]" that stands here become, without what stands
// in it, and how many bytes that is from "]" on.
func (m *model) made(o thing) (api.Node, int) {
	t := m.s[o.at+1 : m.at]
	if !o.live {
		return api.Node{}, 0
	}
	if m.mask&32 != 0 && o.sign == "[" && len(t) > 1 && t[0] == '^' && slices.Contains(m.notes, class.Label(t[1:])) {
		return api.Node{Kind: api.NoteRef, S: class.Label(t[1:])}, 1
	}
	kind := api.Link
	if o.sign == "![" {
		kind = api.Image
	}
	b := m.s[m.at+1:]
	if dest, title, n := link.Tail(b); n > 0 {
		return api.Node{Kind: kind, S: dest, T: title}, 1 + n
	}
	label, n := link.Label(b)
	if n > 0 {
		if ref, ok := refs.Find(m.defs, label); ok {
			return api.Node{Kind: kind, S: ref.Dest, T: ref.Title}, 1 + n
		}
		return api.Node{}, 0
	}
	if own, n := link.Label("[" + t + "]"); n == len(t)+2 {
		if ref, ok := refs.Find(m.defs, own); ok {
			size := 1
			if strings.HasPrefix(b, "[]") {
				size = 3
			}
			return api.Node{Kind: kind, S: ref.Dest, T: ref.Title}, size
		}
	}
	return api.Node{}, 0
}

// paired is P14.3: pair by pair, in the order in which they are found, what
// stands between two runs goes into a node, and each run loses its signs.
func paired(l []thing) []api.Node {
	l = slices.Clone(l)
	var runs []delim.Run
	for i := range l {
		if l[i].run.N > 0 {
			l[i].at = len(runs)
			runs = append(runs, l[i].run)
		}
	}
	where := func(n int) int {
		return slices.IndexFunc(l, func(x thing) bool { return x.run.C != 0 && x.at == n })
	}
	for _, p := range delim.Match(runs) {
		i, j := where(p.Open), where(p.Close)
		kind := []int{api.Emph, api.Strong}[p.N-1]
		if l[i].run.C == '~' {
			kind = api.Struck
		}
		inner := alone(l[i+1 : j])
		l[i].run.N -= p.N
		l[j].run.N -= p.N
		l = slices.Concat(l[:i+1], []thing{{Node: api.Node{Kind: kind, L: inner}}}, l[j:])
	}
	return alone(l)
}

// alone are pieces as nodes, each for itself.
func alone(l []thing) []api.Node {
	var all []api.Node
	for _, x := range l {
		switch {
		case x.run.C != 0:
			all = append(all, said(strings.Repeat(string(rune(x.run.C)), x.run.N)).Node)
		case x.sign != "":
			all = append(all, said(x.sign).Node)
		default:
			all = append(all, x.Node)
		}
	}
	return all
}

// tidied is Tidy: what is empty goes away, and then each text into the one ahead.
func tidied(l []api.Node) []api.Node {
	var all []api.Node
	for _, n := range l {
		if n.Kind == api.Text && n.S == "" {
			continue
		}
		if last := len(all) - 1; last >= 0 && n.Kind == api.Text && all[last].Kind == api.Text {
			all[last].S += n.S
			continue
		}
		n.L = tidied(n.L)
		all = append(all, n)
	}
	return all
}

// readable is Plain.
func readable(l []api.Node) string {
	var all strings.Builder
	var more func(l []api.Node)
	more = func(l []api.Node) {
		for _, n := range l {
			switch n.Kind {
			case api.Text, api.Span:
				all.WriteString(n.S)
			case api.Soft, api.Hard:
				all.WriteString(" ")
			}
			more(n.L)
		}
	}
	more(l)
	return all.String()
}

func modelled(s string, defs []api.Ref, notes []string, mask int) []api.Node {
	m := &model{s: s, defs: defs, notes: notes, mask: mask}
	for m.at < len(s) {
		m.step()
	}
	return tidied(paired(m.l))
}

// defs and notes are those of most of the texts here.
func defs() []api.Ref {
	return []api.Ref{{Label: "a", Dest: "/a"}, {Label: "b*", Dest: "/b", Title: "tb"}, {Label: "^n", Dest: "/n"}, {Label: "", Dest: "/none"}, {Label: "a", Dest: "/later"}}
}

func notes() []string { return []string{"n", "a", "", "n", "[^n]", "a*b"} }

// sameParse holds what is told of s against the model, and against what holds
// of all that is told.
func sameParse(t *testing.T, s string, mask int) {
	t.Helper()
	sameParseBy(t, s, defs(), notes(), mask)
}

func sameParseBy(t *testing.T, s string, defs []api.Ref, notes []string, mask int) {
	t.Helper()
	got := inline.Parse(s, defs, notes, mask)
	if want := modelled(s, defs, notes, mask); !equal(got, want) {
		t.Fatalf("Parse(%.200q, %d) = %.600s, want %.600s", s, mask, shown(got), shown(want))
	}
	sound(t, s, got)
}

// sound holds what is told of s against P14.4, P14.5 and P14.6.
func sound(t *testing.T, s string, l []api.Node) {
	t.Helper()
	if !tree.Well(api.Node{Kind: api.Doc, L: []api.Node{{Kind: api.Para, L: l}}}) {
		t.Fatalf("of %.200q: no document has %.600s", s, shown(l))
	}
	if again := inline.Tidy(l); !equal(again, l) {
		t.Fatalf("of %.200q: %.600s is not tidy, but %.600s", s, shown(l), shown(again))
	}
	if got, want := inline.Plain(l), readable(l); got != want {
		t.Fatalf("Plain(%.600s) = %q, want %q", shown(l), got, want)
	}
}

func TestShortTexts(t *testing.T) {
	for _, x := range []struct {
		most  int
		parts []string
	}{
		{6, []string{"*", "_", "a", ".", " "}},
		{5, []string{"*", "**", "***", "_", "a", " "}},
		{5, []string{"~", "~~", "~~~", "*", "a", " "}},
		{6, []string{"[", "]", "(", ")", "!", "a"}},
		{5, []string{"[", "]", "[a]", "![", "(u)", "b*", "*"}},
		{5, []string{"[", "]", "[a]", "[]", "[ ]", "[b*]", "[c]", "!", "a"}},
		{5, []string{"[", "]", "^", "n", "[^", "(u)", "\n", " "}},
		{5, []string{"[", "]", "<ab:c>", "<b>", "\\", "`", "a"}},
		{5, []string{"[", "]", "<", ">", "ab:", "a@", "(u)"}},
		{5, []string{"[", "]", "![", "<ab:c>", "[a]", "(u)", "*"}},
		{5, []string{"`", "``", "```", "\\", "a", " "}},
		{5, []string{"`", "*", "[", "]", "(u)", "\\", "<a>"}},
		{4, []string{"<", ">", "!--", "-->", "?", "!A", "![CDATA[", "]]>"}},
		{5, []string{"\n", " ", "  ", "\t", "\\", "a", "`", "&#32;"}},
		{5, []string{"\n", " ", "!", "]", "*", "~", "&", "&amp;"}},
		{4, []string{"\\", "&", "amp;", "*", "[", "]", "(u)", "a", "\xff", "\x00"}},
		{5, []string{"*", "_", "a", "\u00e9", "\u00a0", "\u2014", "\xff", "\x00"}},
	} {
		for _, s := range shortTexts(x.parts, x.most) {
			sameParse(t, s, api.All)
		}
	}
}

// parts are what long texts are made of.
var parts = []string{
	"*", "**", "***", "_", "__", "~", "~~", "~~~", "`", "``", "\\", "\\\n", "\n", "  \n", " ", "  ", "\t", "[", "![", "!", "]", "](u)", "](<u v> 't')", "][a]", "][B*]", "][]", "][c]", "[a]", "[b*]", "[^n]", "[^", "[^a*b]",
	"<ab:c>", "<x@y.z>", "<b>", "</b>", "<b c='", "<!--", "-->", "<!-->", "<!A", "<?", "?>", "<![CDATA[", "]]>", "<", ">", "&amp;", "&#32;", "&", "&#0;", "a", "b", ".", "(", ")", "'", "\"", "u", "\u00e9", "\u00a0", "\u20ac", "\xff", "\x00", "\r",
}

func someText(source *rand.Rand, from []string, most int) string {
	var s strings.Builder
	for range source.IntN(most) {
		s.WriteString(from[source.IntN(len(from))])
	}
	return s.String()
}

func TestManyTexts(t *testing.T) {
	source := rand.New(rand.NewPCG(14, 1))
	for range 20000 {
		// Of a few parts only, so that more of them belong together.
		var some []string
		for range 2 + source.IntN(8) {
			some = append(some, parts[source.IntN(len(parts))])
		}
		for _, from := range [][]string{parts, some, append(some, "a", "*", "[", "](u)")} {
			sameParse(t, someText(source, from, 40), source.IntN(256)-64)
		}
	}
}

// Labels are found alike however often they are asked for.
func TestManyLabels(t *testing.T) {
	source := rand.New(rand.NewPCG(14, 2))
	names := []string{"a", "A", " a ", "b", "\u1e9e", "SS", "^a", "^b", "^", "", "\v", "a\nb", "A b", "[", "\\[", "\\]", "^[b", "^[b]", "^[^[b]]", "^b]", "a*"}
	for range 3000 {
		var l []api.Ref
		var labels []string
		var s strings.Builder
		for range source.IntN(12) {
			label := class.Label(names[source.IntN(len(names))])
			l = append(l, api.Ref{Label: label, Dest: someText(source, names, 3)})
			labels = append(labels, strings.TrimPrefix(label, "^"))
		}
		for range source.IntN(200) {
			s.WriteString("[" + names[source.IntN(len(names))] + "]" + []string{"", " ", "[]", "x"}[source.IntN(4)])
		}
		sameParseBy(t, s.String(), l, labels, api.Footnotes)
		sameParseBy(t, s.String(), l, labels, 0)
	}
}

func FuzzInline(f *testing.F) {
	for _, s := range []string{"", "a *b*", "[x](/u)", "**a*", "[a][] ![b*]", "[^n]", "<ab:c> <b> <!--", "`` a ` b ``", "~~a~", "a  \nb\\\nc", "\\*&amp;\xff"} {
		f.Add(s, api.All)
	}
	f.Fuzz(func(t *testing.T, s string, mask int) {
		sameParse(t, s[:min(len(s), 2000)], mask) // the model takes long for more
	})
}
