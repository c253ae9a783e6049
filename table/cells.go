package table

import (
	"iter"
	"strings"

	"incipit/column"
)

// bar is what stands between two cells, escaped one that stands in a cell.
const (
	bar     = "|"
	escaped = `\` + bar
)

// cells tells a line's cells, one behind the other.
func cells(s string) iter.Seq[string] {
	return func(yield func(string) bool) {
		line, begin := inner(s), 0
		for i := range len(line) {
			if !divides(line, i) {
				continue
			}
			if !yield(textOf(line[begin:i])) {
				return
			}
			begin = i + 1
		}
		yield(textOf(line[begin:]))
	}
}

// inner is a line without white at its ends, and without the bars there.
func inner(s string) string {
	s = strings.TrimPrefix(column.Trim(s), bar)
	if strings.HasSuffix(s, escaped) {
		return s
	}
	return strings.TrimSuffix(s, bar)
}

// divides: does a bar stand at a place, and no backslash right ahead of it?
func divides(s string, at int) bool {
	return s[at] == '|' && (at == 0 || s[at-1] != '\\')
}

// textOf is the text of what stands between two bars.
func textOf(part string) string {
	return strings.ReplaceAll(column.Trim(part), escaped, bar)
}
