package scan_test

import (
	"math"
	"regexp"
	"slices"
	"strconv"
	"strings"
	"testing"

	"incipit/scan"
)

// P8.6

// chapter are the names of 6, as the chapter has them.
const chapter = "address, article, aside, base, basefont, blockquote, body, caption, center, col, colgroup, dd, details, dialog, dir, div, dl, dt, fieldset, figcaption, figure, footer, form, frame, frameset, h1, h2, h3, h4, h5, h6, head, header, hr, html, iframe, legend, li, link, main, menu, menuitem, nav, noframes, ol, optgroup, option, p, param, search, section, summary, table, tbody, td, tfoot, th, thead, title, tr, track, ul"

// blanksAlone are empty lines, and lines of blanks.
var blanksAlone = regexp.MustCompile(`^[ \t]*$`)

var (
	names      = strings.Split(chapter, ", ")
	fourNames  = []string{"script", "pre", "style", "textarea"}
	otherNames = []string{
		"a", "em", "b", "i", "span", "br", "img", "input", "source", "video", "svg", "h", "h0", "h7", "h10", "h1-", "div-x", "divs", "di", "d", "x-y",
		"scripts", "scrip", "pre-x", "pres", "pr", "styles", "textareas", "text", "isindex", "noscript", "template",
	}
	beginnings = []*regexp.Regexp{
		regexp.MustCompile(`^<(?:` + anyCase(fourNames) + `)(?:[ \t>]|$)`),
		regexp.MustCompile(`^<!--`),
		regexp.MustCompile(`^<\?`),
		regexp.MustCompile(`^<![A-Za-z]`),
		regexp.MustCompile(`^<!\[CDATA\[`),
		regexp.MustCompile(`^</?(?:` + anyCase(names) + `)(?:[ \t>]|/>|$)`),
	}
	four = regexp.MustCompile(`^</?(?:` + anyCase(fourNames) + `)[^A-Za-z0-9-]`)
	ends = []*regexp.Regexp{
		regexp.MustCompile(`</(?:` + anyCase(fourNames) + `)>`),
		regexp.MustCompile(`-->`),
		regexp.MustCompile(`\?>`),
		regexp.MustCompile(`>`),
		regexp.MustCompile(`\]\]>`),
		blanksAlone,
		blanksAlone,
	}
)

// anyCase is a pattern of the names with and without capitals. The library's
// own way knows more capitals than A to Z.
func anyCase(names []string) string {
	var all []string
	for _, name := range names {
		pattern := ""
		for _, c := range name {
			pattern += "[" + string(c) + strings.ToUpper(string(c)) + "]"
		}
		all = append(all, pattern)
	}
	return strings.Join(all, "|")
}

// begun is HtmlStart, told by the patterns.
func begun(s string) int {
	for i, begin := range beginnings {
		if begin.MatchString(s) {
			return i + 1
		}
	}
	if n := tagged(s); n > 0 && !four.MatchString(s) && blanksAlone.MatchString(s[n:]) {
		return 7
	}
	return 0
}

// ended is HtmlEnds, told by the patterns.
func ended(s string, kind int) bool {
	return 1 <= kind && kind <= len(ends) && ends[kind-1].MatchString(s)
}

func checkStart(t *testing.T, s string, want int) {
	t.Helper()
	if got := scan.HtmlStart(s); got != want {
		t.Errorf("HtmlStart(%q) = %d, want %d", s, got, want)
	}
}

func checkStarts(t *testing.T, want int, texts ...string) {
	t.Helper()
	for _, s := range texts {
		checkStart(t, s, want)
	}
}

func checkEnds(t *testing.T, s string, kind int, want bool) {
	t.Helper()
	if got := scan.HtmlEnds(s, kind); got != want {
		t.Errorf("HtmlEnds(%q, %d) = %v", s, kind, got)
	}
}

// checkEndsOf: is s an end of these kinds, and of no other one?
func checkEndsOf(t *testing.T, s string, kinds ...int) {
	t.Helper()
	for kind := -1; kind < 10; kind++ {
		checkEnds(t, s, kind, slices.Contains(kinds, kind))
	}
}

// likeIt are a name, that name with capitals, and with some.
func likeIt(name string) []string {
	return []string{name, strings.ToUpper(name), strings.ToUpper(name[:1]) + name[1:], name[:len(name)-1] + strings.ToUpper(name[len(name)-1:])}
}

func TestHtmlStartOfTheFourNames(t *testing.T) {
	for _, name := range fourNames {
		for _, n := range likeIt(name) {
			checkStarts(t, 1, "<"+n, "<"+n+" ", "<"+n+"\t", "<"+n+">", "<"+n+" a", "<"+n+"\ta=b>", "<"+n+">a</"+n+">", "<"+n+" <")
			checkStarts(t, 0, "</"+n, "</"+n+" ", "</"+n+">", "</"+n+" > ", "<"+n+"/>", "<"+n+"/> ", "<"+n+"\n>", "<"+n+"\n a='b'>", "</"+n+"\n>")
			checkStarts(t, 0, "<"+n+"<", "<"+n+"\r", "<"+n+"\u00a0", "<"+n+"=", "<"+n+"1", "< "+n+">", " <"+n+">", n+">")
			// Of these the name is another one.
			checkStarts(t, 7, "<"+n+"x>", "<"+n+"->", "<"+n+"1>", "</"+n+"-"+n+">", "<x"+n+">")
		}
	}
	// An s or a k that is no letter of a to z.
	checkStarts(t, 0, "<\u017fcript>", "<\u017ftyle>", "<trac\u212a>", "<\u017fection>", "<\u00dfcript>")
}

func TestHtmlStartOfOtherSigns(t *testing.T) {
	checkStarts(t, 2, "<!--", "<!-->", "<!-- a", "<!-- a -->", "<!---", "<!--\xff", "<!--<div>")
	checkStarts(t, 3, "<?", "<?>", "<?php", "<? a ?>", "<?\n")
	checkStarts(t, 4, "<!a", "<!Z", "<!DOCTYPE html>", "<!doctype", "<!a\xff")
	checkStarts(t, 5, "<![CDATA[", "<![CDATA[]]>", "<![CDATA[ a", "<![CDATA[[")
	checkStarts(t, 0,
		"", " ", "a", "<", "<!", "<!-", "<!- -", "<! a", "<!1", "<!\u00e9", "<!>", "<![", "<![CDATA", "<![cdata[", "<![CData[]]>", "<! [CDATA[", "<!_",
		" <!--", "\t<?", "!--", "?", "-->", "<->", "< ?", "< !a", "</", "</?", "</!a>", "</!-- -->", "&lt;div>", "<!\x00", "<!\xff", "</>", "<>",
	)
}

func TestHtmlStartOfTheNames(t *testing.T) {
	if len(names) != 62 {
		t.Errorf("%d names", len(names))
	}
	for _, name := range names {
		for _, n := range likeIt(name) {
			for _, begin := range []string{"<", "</"} {
				s := begin + n
				checkStarts(t, 6, s, s+" ", s+"\t", s+">", s+"/>", s+" a", s+"\ta", s+">a", s+"/>a", s+" <", s+"> <a>", s+" =", s+" \xff", s+"/>/")
				checkStarts(t, 0, s+"/", s+"/ >", s+"//>", s+"=", s+"<", s+"\r", s+"\u00a0>", s+"\u00e9", s+"1", s+"-", s+"x ", s+"1 a", s+"_>", s+".>", s+":>", " "+s, "<"+s)
				checkStarts(t, 7, s+"-x>", s+"0> \t")
			}
			checkStarts(t, 0, n, n+">", "< "+n, "</ "+n, "<//"+n+">", "<\\"+n+">")
			// LF is no blank, but white in a tag.
			checkStarts(t, 7, "<"+n+"\n>", "<"+n+"\na=b> ", "</"+n+"\n>")
		}
	}
}

// Each short name is one of 6 if it is listed, and else any other tag's.
func TestHtmlStartOfShortNames(t *testing.T) {
	want := map[bool]int{true: 6, false: 7}
	for _, name := range shortTexts(strings.Split("abcdefghijklmnopqrstuvwxyz0123456789-", ""), 3) {
		if name == "" || name[0] < 'a' || name == "pre" {
			continue
		}
		listed := slices.Contains(names, name)
		checkStart(t, "<"+name+">", want[listed])
		checkStart(t, "</"+name+">", want[listed])
		checkStart(t, "<"+name+">a", want[listed]%7)
	}
}

func TestHtmlStartOfOtherTags(t *testing.T) {
	for _, n := range otherNames {
		for _, s := range []string{"<" + n + ">", "</" + n + ">", "<" + n + "/>", "<" + n + " a='b' c>", "<" + n + "\n>", strings.ToUpper("</" + n + " >")} {
			checkStarts(t, 7, s, s+" ", s+"\t", s+" \t ")
			checkStarts(t, 0, s+"a", s+" a", s+"<b>", s+"\n", s+" \r", s+"\v", s+"\u00a0", s+"\x00", s+">", " "+s)
		}
		checkStarts(t, 0, "<"+n, "</"+n, "<"+n+" ", "</"+n+"/>", "</"+n+" a>", "<"+n+" =>", "<"+n+" a='b>", "<"+n+" a='b'c>")
	}
	checkStarts(t, 0, "<1>", "<_a>", "<a:b>", "<http://a.b>", "<a@b.c>", "</1>")
	checkStart(t, "<a b='>'>", 7)
	checkStart(t, "<a b='> '> ", 7)
	checkStart(t, "<a b=\"> c", 0)
}

func TestHtmlEnds(t *testing.T) {
	for _, name := range fourNames {
		for _, n := range likeIt(name) {
			for _, s := range []string{"</" + n + ">", "a</" + n + ">b", "</</" + n + ">", "<a></x></" + n + "></y>", "</" + n + " </" + n + ">", "\xff</" + n + ">\xff"} {
				checkEndsOf(t, s, 1, 4)
			}
			checkEndsOf(t, "</"+n)
			checkEndsOf(t, "</"+n+" ")
			checkEndsOf(t, n)
			for _, s := range []string{"</" + n + " >", "</" + n + "\n>", "</ " + n + ">", "<" + n + ">", "< /" + n + ">", "</" + n + "/>", "</" + n + "x>", "</" + n + "->", "</x" + n + ">", "</\xff" + n + ">", "<//" + n + ">"} {
				checkEndsOf(t, s, 4)
			}
		}
	}
	checkEndsOf(t, "</div>", 4)
	checkEndsOf(t, "</\u017fcript>", 4)
	checkEndsOf(t, "</\u017ftyle>", 4)
	checkEndsOf(t, "</>", 4)
	checkEndsOf(t, "-->", 2, 4)
	checkEndsOf(t, "a --> b", 2, 4)
	checkEndsOf(t, "--->", 2, 4)
	checkEndsOf(t, "<!-->", 2, 4)
	checkEndsOf(t, "->", 4)
	checkEndsOf(t, "-- >", 4)
	checkEndsOf(t, "--")
	checkEndsOf(t, "?>", 3, 4)
	checkEndsOf(t, "a ??>b", 3, 4)
	checkEndsOf(t, "<?>", 3, 4)
	checkEndsOf(t, "? >", 4)
	checkEndsOf(t, "?")
	checkEndsOf(t, ">", 4)
	checkEndsOf(t, "a\xff>\x00", 4)
	checkEndsOf(t, "a")
	checkEndsOf(t, "<")
	checkEndsOf(t, "]]>", 4, 5)
	checkEndsOf(t, "a]]]>b", 4, 5)
	checkEndsOf(t, "] ]>", 4)
	checkEndsOf(t, "]>", 4)
	checkEndsOf(t, "]]")
	checkEndsOf(t, "", 6, 7)
	checkEndsOf(t, " ", 6, 7)
	checkEndsOf(t, "\t", 6, 7)
	checkEndsOf(t, " \t \t", 6, 7)
	checkEndsOf(t, " a")
	checkEndsOf(t, "\n")
	checkEndsOf(t, " \r")
	checkEndsOf(t, "\v")
	checkEndsOf(t, "\f ")
	checkEndsOf(t, "\u00a0")
	checkEndsOf(t, "\x00")
	checkEndsOf(t, "\xff")
	checkEndsOf(t, "</pre>--> ?> ]]>", 1, 2, 3, 4, 5)
}

func TestHtmlEndsOfOtherKinds(t *testing.T) {
	kinds := []int{math.MinInt, math.MinInt + 1, math.MinInt32, math.MaxInt32, math.MaxInt, math.MaxInt - 1, 1<<32 + 1, 1<<8 + 6, 1<<16 + 7}
	for kind := -300; kind < 300; kind++ {
		if kind < 1 || kind > 7 {
			kinds = append(kinds, kind)
		}
	}
	for _, kind := range kinds {
		for _, s := range []string{"", " ", ">", "</pre>", "</script>--> ?> ]]>", "a"} {
			checkEnds(t, s, kind, false)
		}
	}
}

// checkHtml holds what is told of s against the patterns.
func checkHtml(t *testing.T, s string) {
	t.Helper()
	checkStart(t, s, begun(s))
	for kind := range 9 {
		checkEnds(t, s, kind, ended(s, kind))
	}
}

func TestHtmlOfShortTexts(t *testing.T) {
	for _, s := range shortTexts([]string{"<", "/", "pre", "P", "a", "!", "-", "?", ">", " ", "]"}, 5) {
		checkHtml(t, s)
	}
	for _, s := range shortTexts([]string{"/", "pre", "STYLE", "div", "a", "\n", ">", " ", "=", "'"}, 4) {
		checkHtml(t, "<"+s)
		checkHtml(t, "</"+s+">")
		checkHtml(t, "x</"+s)
	}
	for _, s := range []string{
		"<pre>", "<Script a>", "</style>", "a</textarea>b", "<!-- a -->", "<? a ?>", "<!a>", "<![CDATA[a]]>", "<div>", "</h1/>", "<a b='c'>  ", "</a >", " \t",
	} {
		for _, s := range changed(s) {
			checkHtml(t, s)
		}
	}
}

// R1: lines of any length.
func TestLongHtml(t *testing.T) {
	for _, part := range []string{"<", "</", "</a", "</pre", "</pre ", "</scrip>", "a", "p", "<pre>", "-", "--", "?", "]", " ", "\n", " a='b'", "\xff", "\u00df"} {
		parts := strings.Repeat(part, long/64/len(part))
		for _, begin := range []string{"", "<", "</", "<a", "<pre", "<!--", "<p "} {
			for _, end := range []string{"", ">", "</pre>", "-->", "]]>"} {
				checkHtml(t, begin+parts+end)
			}
		}
		parts = strings.Repeat(part, long)
		checkEnds(t, parts, 1, false)
		checkEnds(t, parts+"</Pre>", 1, true)
		checkStart(t, "<pre "+parts, 1)
		checkStart(t, "</div\t"+parts, 6)
	}
	checkStart(t, "<"+strings.Repeat("pre", long), 0)
	checkStart(t, "<"+strings.Repeat("div", long)+">", 7)
	checkStart(t, "<a"+strings.Repeat(" b='c'", long)+">"+strings.Repeat("\t", long), 7)
}

func FuzzHtml(f *testing.F) {
	for i, s := range []string{"", "<pre>", "</Style>", "<!-- -->", "<??>", "<!A>", "<![CDATA[]]>", "</H1/>", "<a b='c'> ", "<\u017fcript>", "\xff"} {
		f.Add(s, strconv.Itoa(i))
	}
	f.Fuzz(func(t *testing.T, s, behind string) {
		checkHtml(t, s)
		checkHtml(t, "<"+s)
		checkHtml(t, "</"+s+">"+behind)
		checkHtml(t, "<a "+s+">"+behind)
	})
}
