package inline

import (
	"strings"

	"incipit/class"
	"incipit/span"
)

// Kinds of HTML whose end may stand far behind its beginning.
const (
	near = iota
	comment
	instruction
	declaration
	section
	kinds
)

// ends is what is known of ends that are far away, so that nothing that has no
// end is looked for again.
type ends struct {
	// fences are the places where runs of ` stand for the last time, by how many.
	fences map[int]int
	// missing: does no end of a kind of HTML stand behind any more?
	missing [kinds]bool
}

// closes: do as many ` as stand at a place of s stand together again behind it?
func (e *ends) closes(s string, at, fence int) bool {
	if e.fences == nil {
		e.fences = fences(s)
	}
	return e.fences[fence] > at
}

// fences are the places where runs of ` stand for the last time, by how many.
func fences(s string) map[int]int {
	last := map[int]int{}
	for at := strings.IndexByte(s, '`'); at < len(s); {
		n := span.Run(s[at:])
		last[n] = at
		at += n
		next := strings.IndexByte(s[at:], '`')
		if next < 0 {
			break
		}
		at += next
	}
	return last
}

// raw is span.Raw of what is left of a text.
func (e *ends) raw(s string) int {
	kind := htmlKind(s)
	if e.missing[kind] {
		return 0
	}
	n := span.Raw(s)
	e.missing[kind] = n == 0 && kind != near
	return n
}

// htmlKind is which kind of HTML s may begin with.
func htmlKind(s string) int {
	switch {
	case strings.HasPrefix(s, "<!--"):
		return comment
	case strings.HasPrefix(s, "<?"):
		return instruction
	case strings.HasPrefix(s, "<![CDATA["):
		return section
	case strings.HasPrefix(s, "<!") && len(s) > 2 && class.Letter(s[2]):
		return declaration
	}
	return near
}
