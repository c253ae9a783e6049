package scan

import (
	"strings"

	"incipit/class"
)

// A reader goes over a tag, or a piece of one. Each of its methods goes over
// what it is named after, and tells whether that stood there; if not, it goes
// over nothing.
type reader struct {
	s  string
	at int // where what is left begins
}

// Tag is how long a tag is.
func Tag(s string) int {
	r := &reader{s: s}
	r.first(r.open, r.closing)
	return r.at
}

func (r *reader) open() bool {
	return r.all(r.less, r.name, r.attributes, r.gap, r.slashOrNot, r.greater)
}

func (r *reader) closing() bool {
	return r.all(r.less, r.slash, r.name, r.gap, r.greater)
}

func (r *reader) attributes() bool { return r.often(r.attribute) }

func (r *reader) attribute() bool { return r.all(r.white, r.key, r.worthOrNot) }

func (r *reader) worthOrNot() bool { return r.maybe(r.worth) }

func (r *reader) worth() bool { return r.all(r.gap, r.equals, r.gap, r.value) }

func (r *reader) value() bool { return r.first(r.bare, r.single, r.double) }

func (r *reader) gap() bool { return r.maybe(r.white) }

func (r *reader) slashOrNot() bool { return r.maybe(r.slash) }

func (r *reader) name() bool { return r.word(class.Letter, inName) }

func (r *reader) key() bool { return r.word(beginsKey, inKey) }

func (r *reader) white() bool { return r.word(isWhite, isWhite) }

func (r *reader) bare() bool { return r.word(inBare, inBare) }

func (r *reader) single() bool { return r.quoted('\'') }

func (r *reader) double() bool { return r.quoted('"') }

func (r *reader) less() bool { return r.sign('<') }

func (r *reader) greater() bool { return r.sign('>') }

func (r *reader) slash() bool { return r.sign('/') }

func (r *reader) equals() bool { return r.sign('=') }

// all goes over the parts, one behind the other.
func (r *reader) all(parts ...func() bool) bool {
	from := r.at
	for _, part := range parts {
		if !part() {
			r.at = from
			return false
		}
	}
	return true
}

// first goes over the first of the parts that is there.
func (r *reader) first(parts ...func() bool) bool {
	for _, part := range parts {
		if part() {
			return true
		}
	}
	return false
}

// maybe goes over the part, if it is there.
func (r *reader) maybe(part func() bool) bool {
	part()
	return true
}

// often goes over the part as often as it is there, or not at all.
func (r *reader) often(part func() bool) bool {
	for part() {
	}
	return true
}

// word goes over one byte of the first kind, and all of the second behind it.
func (r *reader) word(begins, goesOn func(b byte) bool) bool {
	if r.at == len(r.s) || !begins(r.s[r.at]) {
		return false
	}
	r.at++
	for r.at < len(r.s) && goesOn(r.s[r.at]) {
		r.at++
	}
	return true
}

// quoted goes over all from one of the sign to the next one.
func (r *reader) quoted(sign byte) bool {
	from := r.at
	if !r.sign(sign) {
		return false
	}
	inner := strings.IndexByte(r.s[r.at:], sign)
	if inner < 0 {
		r.at = from
		return false
	}
	r.at += inner + 1
	return true
}

func (r *reader) sign(sign byte) bool {
	if r.at == len(r.s) || r.s[r.at] != sign {
		return false
	}
	r.at++
	return true
}

func inName(b byte) bool { return class.Letter(b) || class.Digit(b) || b == '-' }

func beginsKey(b byte) bool { return class.Letter(b) || b == '_' || b == ':' }

func inKey(b byte) bool { return beginsKey(b) || class.Digit(b) || b == '.' || b == '-' }

func isWhite(b byte) bool { return isBlank(b) || b == '\n' }

// inBare: may a value have a byte that no quotes stand around?
func inBare(b byte) bool { return !isWhite(b) && strings.IndexByte("\"'=<>`", b) < 0 }
