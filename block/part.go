package block

import (
	"strings"

	"incipit/api"
	"incipit/column"
	"incipit/refs"
	"incipit/text"
)

// uncounted is the Last of a Para that has lines of white alone: none of them
// counts, and no line is ahead of the first one.
const uncounted = -1

// part is a block that is open, or was. Up to the last line its Last counts the
// lines in which it was met itself, not those in which only what is in it was.
type part struct {
	Block
	parts []*part
	lines []string // of a Code, an Html, a Para, and of a Head that was a Para
	need  int      // of an Item
	fence fence    // of a Code
}

// fence is what a Code in fences begins with; the zero value of one without.
type fence struct {
	sign   byte
	signs  int
	indent int
}

func (b *part) fenced() bool { return b.fence.signs > 0 }

// take lays a line behind the others.
func (b *part) take(number int, line string) {
	b.lines = append(b.lines, line)
	if !text.Blank(line) {
		b.Last = number
	}
}

// words are the lines of a Para as a text.
func (b *part) words() string {
	return column.TrimRight(strings.Join(b.lines, "\n"))
}

// codeLines are a Code's lines that are told.
func (b *part) codeLines() []string {
	n := len(b.lines)
	for !b.fenced() && n > 0 && text.Blank(b.lines[n-1]) {
		n--
	}
	return b.lines[:n]
}

// tight: is it a List without a gap?
func (b *part) tight() bool {
	if gap(b.parts) {
		return false
	}
	for _, item := range b.parts {
		if gap(item.parts) {
			return false
		}
	}
	return true
}

// gap: is there a line between two neighbours that is neither one's?
func gap(parts []*part) bool {
	for i := 1; i < len(parts); i++ {
		ahead := parts[i-1]
		if parts[i].First > max(ahead.First, ahead.Last)+1 {
			return true
		}
	}
	return false
}

// ending makes blocks of parts behind the last line, and gathers definitions.
type ending struct{ found []api.Ref }

func (e *ending) blocks(parts []*part) []Block {
	var l []Block
	for _, b := range parts {
		e.end(b)
		if b.Kind != api.Para || b.S != "" {
			l = append(l, b.Block)
		}
	}
	return l
}

// end tells what hangs on all lines of a part. Its parts stay, with those of
// which nothing is left: a List's Flag hangs on these, too.
func (e *ending) end(b *part) {
	b.L = e.blocks(b.parts)
	for _, inner := range b.parts {
		b.Last = max(b.Last, inner.Last)
	}
	switch b.Kind {
	case api.List:
		b.Flag = b.tight()
	case api.Code:
		b.S = text.Join(b.codeLines())
	case api.Html:
		b.S = text.Join(b.lines)
	case api.Para, api.Head:
		// A Head that was no Para has no lines, but its S already.
		if b.lines != nil {
			b.S = e.define(b.words())
		}
	}
}

// define gathers the definitions with which a text begins; it is what is left.
func (e *ending) define(s string) string {
	found, left := refs.All(s)
	e.found = append(e.found, found...)
	return left
}
