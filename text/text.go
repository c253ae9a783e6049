// Package text is layer 1, bytes as a text, and its lines: see shared/doc/01-text.md.
package text

import "strings"

// mark stands in a text where the bytes tell no character.
const mark = "\uFFFD"

// Clean is bytes as a text.
func Clean(b []byte) string {
	var out strings.Builder
	out.Grow(len(b))
	at := 0
runs:
	for at < len(b) {
		size, low, high := shape(b[at])
		if size == 0 || size > len(b)-at {
			out.WriteString(mark)
			at++
			continue
		}
		for _, c := range b[at+1 : at+size] {
			if c < low || c > high {
				// Only the first byte is lost: what follows it may begin a good run.
				out.WriteString(mark)
				at++
				continue runs
			}
			low, high = 128, 191
		}
		if b[at] == 0 {
			out.WriteString(mark)
		} else {
			out.Write(b[at : at+size])
		}
		at += size
	}
	return out.String()
}

// shape is how many bytes a good run has that begins with that byte, and
// between which two its second byte is; a size of 0 if none begins with it.
func shape(first byte) (size int, low, high byte) {
	switch {
	case first < 128:
		return 1, 0, 0
	case first < 194:
		return 0, 0, 0
	case first <= 223:
		return 2, 128, 191
	case first == 224:
		return 3, 160, 191
	case first == 237:
		return 3, 128, 159
	case first <= 239:
		return 3, 128, 191
	case first == 240:
		return 4, 144, 191
	case first <= 243:
		return 4, 128, 191
	case first == 244:
		return 4, 128, 143
	}
	return 0, 0, 0
}

// Runes are the numbers of the characters of s, as Clean has them.
func Runes(s string) []rune {
	return []rune(Clean([]byte(s)))
}

// Lines are those of s, without their ends.
func Lines(s string) []string {
	// The lines are pieces of a copy, so that an answer holds no memory of s.
	rest := strings.Clone(s)
	var lines []string
	for rest != "" {
		var line string
		line, rest = cutLine(rest)
		lines = append(lines, line)
	}
	return lines
}

// cutLine is the first line of s, and what stands behind that line's end.
func cutLine(s string) (line, rest string) {
	for i := range len(s) {
		switch {
		case strings.HasPrefix(s[i:], "\r\n"):
			return s[:i], s[i+2:]
		case s[i] == '\r' || s[i] == '\n':
			return s[:i], s[i+1:]
		}
	}
	return s, ""
}

// Join is all lines in one text, an LF behind each.
func Join(l []string) string {
	var out strings.Builder
	for _, line := range l {
		out.WriteString(line)
		out.WriteByte('\n')
	}
	return out.String()
}

// Blank: has s nothing but blanks and tabs?
func Blank(s string) bool {
	return strings.Trim(s, " \t") == ""
}
