package scan_test

import (
	"regexp"
	"strings"
	"testing"

	"incipit/scan"
)

// P8.5

// tag is an open or a closing tag.
var tag = regexp.MustCompile(`^(?:<[A-Za-z][A-Za-z0-9-]*` +
	`(?:[ \t\n]+[A-Za-z_:][A-Za-z0-9_.:-]*(?:[ \t\n]*=[ \t\n]*(?:[^ \t\n"'=<>` + "`" + `]+|'[^']*'|"[^"]*"))?)*` +
	`[ \t\n]*/?>|</[A-Za-z][A-Za-z0-9-]*[ \t\n]*>)`)

// tagged is Tag, told by the pattern.
func tagged(s string) int { return len(tag.FindString(s)) }

func checkTag(t *testing.T, s string, want int) {
	t.Helper()
	if got := scan.Tag(s); got != want {
		t.Errorf("Tag(%q) = %d, want %d", s, got, want)
	}
}

// checkWhole: is all of s a tag, whatever stands behind it?
func checkWhole(t *testing.T, s string) {
	t.Helper()
	checkTag(t, s, len(s))
	for _, behind := range []string{"a", ">", " ", "\n", "\"", "'", "<b>", "\xff"} {
		checkTag(t, s+behind, len(s))
	}
}

func checkNone(t *testing.T, texts ...string) {
	t.Helper()
	for _, s := range texts {
		checkTag(t, s, 0)
	}
}

func TestOpenTag(t *testing.T) {
	for _, s := range []string{
		"<a>", "<Z>", "<div>", "<H1>", "<a->", "<a-b-1>", "<a1b2>", "<a/>", "<a />", "<a >", "<a \t\n>", "<a\n\n/>",
		"<script>", "<nosuchname>",
	} {
		checkWhole(t, s)
	}
	checkNone(t,
		"", "<", ">", "a", "<>", "< a>", "<1>", "<->", "<-a>", "<_a>", "<:a>", "<a", "<a ", "<a/", "<a /", "<a/ >", "<a//>", "<a/b>", "<a.b>", "<a:b>",
		"<a_>", "<a<", "<a\"\">", "<a=b>", "<a\r>", "<a\v>", "<a\f>", "<a\u00a0>", "<\u00e9>", "<a\u00e9>", "<a\xff>", "<a\x00>", "a<a>", " <a>", "<<a>",
		"<!a>", "<?a>", "<!-->", "&lt;a>",
	)
}

func TestAttributes(t *testing.T) {
	for _, s := range []string{
		"<a b>", "<a b c>", "<a b/>", "<a b />", "<a\tb>", "<a\nb>", "<a \t\n b \n c\t>", "<a B>", "<a _>", "<a :>", "<a _b.c:d-1>", "<a :.>", "<a b..->",
		"<a b b b>", "<a b=c>", "<a b =c>", "<a b= c>", "<a b \t\n=\n\t c>", "<a b=c d=e>", "<a b c=d e>", "<a b=c/>", "<a b=c />", "<a b =c d = 'e' f>",
	} {
		checkWhole(t, s)
	}
	checkNone(t,
		"<a 1>", "<a -b>", "<a .b>", "<a *b>", "<a \"b\">", "<a 'b'>", "<a =>", "<a =b>", "<a = b>", "<a b=>", "<a b= >", "<a b=", "<a b==c>", "<a b=c=d>",
		"<a b = = c>", "<a b,c>", "<a b*>", "<a b\u00e9>", "<a \u00e9>", "<a b\xff>", "<a b", "<a b ", "<a b/", "<a b=c", "<a b=c ", "<a / b>", "<a b/c>",
		"<a b\rc>", "<a\rb>", "<a b\v>", "<a b\fc>", "<a b\u00a0c>", "<a b=\rc=d>", "<a b \r= c>",
	)
}

func TestValuesWithoutQuotes(t *testing.T) {
	for _, s := range []string{
		"<a b=c>", "<a b=/>", "<a b=//>", "<a b=c/d>", "<a b=/ />", "<a b=1>", "<a b=->", "<a b=a&amp;b>", "<a b=\\>", "<a b=#?[]{}|^~!*;,.:@$%+()>",
		"<a b=\u00e9\u20ac>", "<a b=\xff\x00>", "<a b=\r>", "<a b=\v\f>", "<a b=\u00a0>", "<a b=c\rd>", "<a b=c/ d=e>",
	} {
		checkWhole(t, s)
	}
	checkNone(t,
		"<a b=c\"d>", "<a b=c'd>", "<a b=c=d>", "<a b=c<d>", "<a b=c`d>", "<a b=`c`>", "<a b=<>", "<a b=c\">", "<a b=c'>", "<a b=c\rd=e>",
	)
	// The first > ends it.
	checkTag(t, "<a b=c>d>", 7)
	checkTag(t, "<a b=/>/>", 7)
	// Bytes of a value, one by one.
	for _, b := range bytes() {
		switch {
		case strings.Contains("\"'=<`", b):
			checkNone(t, "<a b=c"+b+"d>")
		case b == ">":
			checkTag(t, "<a b=c"+b+"d>", 7)
		default:
			checkTag(t, "<a b=c"+b+"d>", 9)
		}
	}
}

func TestValuesInQuotes(t *testing.T) {
	for _, s := range []string{
		"<a b=''>", "<a b=\"\">", "<a b='c'>", "<a b=\"c\">", "<a b='\"'>", "<a b=\"'\">", "<a b='\"\"\"' c=\"'''\">", "<a b='<>=`'>", "<a b=\"<a>\">",
		"<a b='\n\r\t\v\f'>", "<a b=\"\u00e9\xff\x00\">", "<a b='\\'>", "<a b=\"\\\">", "<a b='c'/>", "<a b='c' />", "<a b='c'\n>", "<a b= 'c'>",
		"<a b\n=\n\"c\"\nd='e'>", "<a b='c' d>", "<a b=\"c/>\">", "<a b='/>'/>",
	} {
		checkWhole(t, s)
	}
	checkNone(t,
		"<a b='>", "<a b=\">", "<a b='c>", "<a b=\"c>", "<a b='c\">", "<a b=\"c'>", "<a b='c'd>", "<a b=\"c\"d=e>", "<a b='c''d'>", "<a b='c'\"d\">",
		"<a b=''c>", "<a b='c'=>", "<a b=\"\\\"\">", "<a b='\\''>", "<a b='c'/ >", "<a b='c", "<a b=\"", "<a b='c'", "<a b=\"c\" ", "<a b='c'/",
	)
	// An attribute goes on up to its own quote, whatever is between.
	checkTag(t, "<a b='>'>", 9)
	checkTag(t, "<a b=\"c>d\">e\">", 11)
}

func TestClosingTag(t *testing.T) {
	for _, s := range []string{"</a>", "</Z>", "</h1>", "</a-b->", "</a >", "</a \t\n>", "</a\n\n>", "</script>"} {
		checkWhole(t, s)
	}
	checkNone(t,
		"</", "</>", "</ >", "</ a>", "< /a>", "</1>", "</-a>", "</_>", "</:a>", "</a", "</a ", "</a/>", "</a />", "</a b>", "</a b=c>", "</a\"\">",
		"<//a>", "</a\r>", "</a\v>", "</a\u00a0>", "</\u00e9>", "</a\xff>", "</a\x00>", "/a>", " </a>",
	)
}

// All short ones, by pieces that stand alone or go on.
func TestTagsOfShortTexts(t *testing.T) {
	for _, s := range shortTexts([]string{"<", "/", "a", "1", "-", " ", ">", "=", "\""}, 5) {
		checkTag(t, s, tagged(s))
		checkTag(t, "<a"+s, tagged("<a"+s))
		checkTag(t, "</a"+s, tagged("</a"+s))
		checkTag(t, "<a b"+s, tagged("<a b"+s))
	}
	for _, s := range shortTexts([]string{" ", "\n", "b", "=", "'", "\"", "/", ">", "c=", " d"}, 5) {
		checkTag(t, "<a b="+s, tagged("<a b="+s))
		checkTag(t, "<a b='"+s, tagged("<a b='"+s))
		checkTag(t, "<a b=\"c"+s+">", tagged("<a b=\"c"+s+">"))
	}
}

func TestTagsWithEachByteInEachPlace(t *testing.T) {
	for _, s := range []string{
		"<a>", "<ab-1 />", "</ab-1\n>", "<a b>", "<a b=c>", "<a _b.c:d-1\t= e/>", "<a b='c'\nd=\"e\" />", "<a b c = d e>", "<!-- a -->",
	} {
		for _, s := range changed(s) {
			checkTag(t, s, tagged(s))
			checkTag(t, s+">", tagged(s+">"))
		}
	}
}

// R1: tags of any length.
func TestLongTags(t *testing.T) {
	for _, part := range []string{
		"a", "-", "<", "</", "<a", " ", "\n", " b", " b=c", " b='c'", " b=\"c\"", "\n b\t= \n c", "=", " =", "'", "\"", "/", " /", "<a b='", "b=", "\xff",
	} {
		parts := strings.Repeat(part, long/64/len(part))
		for _, begin := range []string{"", "<a", "</a", "<a ", "<a b", "<a b=", "<a b='", "<a b=\""} {
			for _, end := range []string{"", ">", " >", "/>", "'>", "\">", " <"} {
				checkTag(t, begin+parts+end, tagged(begin+parts+end))
			}
		}
	}
	for _, part := range []string{"a", "-", " ", "\n", " b", " b=c", " b = 'c'", "\n\tb\n=\n\"c\""} {
		parts := strings.Repeat(part, long)
		checkTag(t, "<a"+parts, 0)
		checkTag(t, "<a"+parts+"=>", 0)
		checkTag(t, "<a"+parts+">", len(parts)+3)
		checkTag(t, "<a b=\""+strings.ReplaceAll(parts, "\"", "'")+"\" />", len(parts)+10)
	}
}

func FuzzTag(f *testing.F) {
	for _, s := range []string{"", "<a>", "</a >", "<a b=c d='e' f=\"g\" h />", "<a\nb\n=\nc>", "<a b=\"", "<\xff>"} {
		f.Add(s)
	}
	f.Fuzz(func(t *testing.T, s string) {
		checkTag(t, s, tagged(s))
		checkTag(t, "<a "+s, tagged("<a "+s))
		checkTag(t, "<a b='"+s+">", tagged("<a b='"+s+">"))
	})
}
