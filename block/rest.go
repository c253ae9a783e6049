package block

import "incipit/column"

// rest is what is left of a line. The blanks that it begins with are measured
// once: what is skipped of them is counted, and cut off only where the text is
// asked for.
type rest struct {
	text    string // from behind the last byte on that was passed over and is no blank
	col     int    // the column of text
	columns int    // of the blanks with which text begins
	bytes   int    // that these are
	skipped int    // how many of these columns are passed over
}

// lay begins anew with s, which stands at the column col.
func (r *rest) lay(s string, col int) {
	columns, bytes := column.Indent(s, col)
	*r = rest{text: s, col: col, columns: columns, bytes: bytes}
}

// indent is how many columns of blanks it begins with.
func (r *rest) indent() int { return r.columns - r.skipped }

// blank: has it nothing but blanks?
func (r *rest) blank() bool { return r.bytes == len(r.text) }

// behind is what follows the indent.
func (r *rest) behind() string { return r.text[r.bytes:] }

// skip passes over n columns of the indent, as far as there are so many.
func (r *rest) skip(n int) { r.skipped += min(n, r.indent()) }

// pass passes over the indent, and n bytes behind it that are no blanks.
func (r *rest) pass(n int) { r.lay(r.behind()[n:], r.col+r.columns+n) }

// left is all of it.
func (r *rest) left() string { return r.without(0) }

// without is all of it but n columns of the indent.
func (r *rest) without(n int) string {
	s, _ := column.Skip(r.text, r.col, r.skipped+n)
	return s
}
