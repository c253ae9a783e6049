package scan

import (
	"strings"

	"incipit/class"
)

// The kinds of HTML that lines begin.
const (
	verbatim    = 1 // a tag of a name of which all up to its end is as it is
	comment     = 2
	instruction = 3
	declaration = 4
	data        = 5
	known       = 6 // a tag of a name that is listed
	other       = 7 // a tag of another name
)

// HtmlStart is the kind of HTML that a line begins.
func HtmlStart(s string) int {
	switch {
	case beginsVerbatim(s):
		return verbatim
	case strings.HasPrefix(s, "<!--"):
		return comment
	case strings.HasPrefix(s, "<?"):
		return instruction
	case strings.HasPrefix(s, "<!") && len(s) > 2 && class.Letter(s[2]):
		return declaration
	case strings.HasPrefix(s, "<![CDATA["):
		return data
	case beginsKnown(s):
		return known
	case isOther(s):
		return other
	}
	return 0
}

// HtmlEnds: does a line end it?
func HtmlEnds(s string, kind int) bool {
	switch kind {
	case verbatim:
		return endsVerbatim(s)
	case comment:
		return strings.Contains(s, "-->")
	case instruction:
		return strings.Contains(s, "?>")
	case declaration:
		return strings.Contains(s, ">")
	case data:
		return strings.Contains(s, "]]>")
	case known, other:
		return onlyBlanks(s)
	}
	return false
}

func beginsVerbatim(s string) bool {
	behind, ok := strings.CutPrefix(s, "<")
	if !ok {
		return false
	}
	name, rest := cutName(behind)
	return isVerbatim(name) && (atEnd(rest) || rest[0] == '>')
}

func beginsKnown(s string) bool {
	name, rest := cutTagName(s)
	return isKnown(name) && (atEnd(rest) || rest[0] == '>' || strings.HasPrefix(rest, "/>"))
}

// isOther: is a line one tag that is none of the verbatim ones, and blanks?
func isOther(s string) bool {
	name, _ := cutTagName(s)
	if name == "" || isVerbatim(name) {
		return false
	}
	n := Tag(s)
	return n > 0 && onlyBlanks(s[n:])
}

func endsVerbatim(s string) bool {
	for {
		_, behind, ok := strings.Cut(s, "</")
		if !ok {
			return false
		}
		name, rest := cutName(behind)
		if isVerbatim(name) && strings.HasPrefix(rest, ">") {
			return true
		}
		s = rest
	}
}

// cutTagName is the name behind the < or </ with which s begins, as cutName
// has it; "" if there is none.
func cutTagName(s string) (name, rest string) {
	behind, ok := strings.CutPrefix(s, "<")
	if !ok {
		return "", s
	}
	return cutName(strings.TrimPrefix(behind, "/"))
}

// cutName is the name with which s begins, without capitals, and what stands
// behind it; "" and s if s begins with none. In a name Fold finds no other
// capitals than A to Z.
func cutName(s string) (name, rest string) {
	r := &reader{s: s}
	r.name()
	return class.Fold(s[:r.at]), s[r.at:]
}

func isVerbatim(name string) bool {
	switch name {
	case "script", "pre", "style", "textarea":
		return true
	}
	return false
}

func isKnown(name string) bool {
	switch name {
	case "address", "article", "aside", "base", "basefont", "blockquote", "body",
		"caption", "center", "col", "colgroup", "dd", "details", "dialog", "dir",
		"div", "dl", "dt", "fieldset", "figcaption", "figure", "footer", "form",
		"frame", "frameset", "h1", "h2", "h3", "h4", "h5", "h6", "head", "header",
		"hr", "html", "iframe", "legend", "li", "link", "main", "menu", "menuitem",
		"nav", "noframes", "ol", "optgroup", "option", "p", "param", "search",
		"section", "summary", "table", "tbody", "td", "tfoot", "th", "thead",
		"title", "tr", "track", "ul":
		return true
	}
	return false
}
