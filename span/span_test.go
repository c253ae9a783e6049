package span_test

import (
	"regexp"
	"slices"
	"strings"
	"testing"
	"unsafe"

	"incipit/span"
)

const long = 1 << 20

// behinds are what may stand behind something that is told.
var behinds = []string{
	"a", " ", "\n", "\t", "\\", ">", "<", "-", "--", "-->", "?>", "]]>", "!", "\"", "'", "@", ".", "/", "=", "<a>", "a`", " `", "\x00", "\x7f", "\xff", "\u00e9",
}

// bytes are all bytes from 0 to 255, each as a text.
func bytes() []string {
	var all []string
	for c := range 256 {
		all = append(all, string([]byte{byte(c)}))
	}
	return all
}

// shortTexts are all of at most so many of the pieces.
func shortTexts(pieces []string, most int) []string {
	texts := []string{""}
	begin := 0
	for range most {
		end := len(texts)
		for _, s := range texts[begin:end] {
			for _, p := range pieces {
				texts = append(texts, s+p)
			}
		}
		begin = end
	}
	return texts
}

// changed are texts that are not quite s: cut at each place, with each byte laid
// in and with each byte in the place of another one.
func changed(s string) []string {
	texts := []string{s}
	for i := range len(s) + 1 {
		texts = append(texts, s[:i], s[i:])
		for _, b := range bytes() {
			texts = append(texts, s[:i]+b+s[i:])
			if i < len(s) {
				texts = append(texts, s[:i]+b+s[i+1:])
			}
		}
	}
	return texts
}

var (
	ticks   = regexp.MustCompile("`+")
	padded  = regexp.MustCompile(`(?s)^ (.*[^ ].*) $`)
	address = regexp.MustCompile(`^<([A-Za-z][A-Za-z0-9+.-]{1,31}:[^\x00-\x20\x7f<>]*)>`)
	mailbox = regexp.MustCompile(`^<([A-Za-z0-9.!#$%&'*+/=?^_` + "`" + `{|}~-]+@` + part + `(?:\.` + part + `)*)>`)
	raw     = regexp.MustCompile(`(?s)^(?:` + tag + `|<!-->|<!--->|<!--.*?-->|<\?.*?\?>|<![A-Za-z].*?>|<!\[CDATA\[.*?\]\]>)`)
)

const (
	part = `[A-Za-z0-9](?:[A-Za-z0-9-]{0,61}[A-Za-z0-9])?`
	tag  = `<[A-Za-z][A-Za-z0-9-]*` +
		`(?:[ \t\n]+[A-Za-z_:][A-Za-z0-9_.:-]*(?:[ \t\n]*=[ \t\n]*(?:[^ \t\n"'=<>` + "`" + `]+|'[^']*'|"[^"]*"))?)*` +
		`[ \t\n]*/?>|</[A-Za-z][A-Za-z0-9-]*[ \t\n]*>`
)

// coded is Code, told by the runs of ` in all of s.
func coded(s string) (string, int) {
	runs := ticks.FindAllStringIndex(s, -1)
	if len(runs) == 0 || runs[0][0] != 0 {
		return "", 0
	}
	first := runs[0][1]
	for _, run := range runs[1:] {
		if run[1]-run[0] == first {
			inner := strings.ReplaceAll(s[first:run[0]], "\n", " ")
			return padded.ReplaceAllString(inner, "$1"), run[1]
		}
	}
	return "", 0
}

// addressed is Auto, told by the patterns.
func addressed(s string) (string, string, int) {
	if at := address.FindStringSubmatch(s); at != nil {
		return at[1], at[1], len(at[0])
	}
	if at := mailbox.FindStringSubmatch(s); at != nil {
		return "mailto:" + at[1], at[1], len(at[0])
	}
	return "", "", 0
}

// html is Raw, told by the pattern.
func html(s string) int { return len(raw.FindString(s)) }

func checkRun(t *testing.T, s string, want int) {
	t.Helper()
	if got := span.Run(s); got != want {
		t.Errorf("Run(%.80q) = %d, want %d", s, got, want)
	}
}

func checkCode(t *testing.T, s, want string, size int) {
	t.Helper()
	if got, n := span.Code(s); got != want || n != size {
		t.Errorf("Code(%.80q) = %.80q, %d, want %.80q, %d", s, got, n, want, size)
	}
}

func checkAuto(t *testing.T, s, dest, text string, size int) {
	t.Helper()
	if d, u, n := span.Auto(s); d != dest || u != text || n != size {
		t.Errorf("Auto(%.80q) = %.80q, %.80q, %d, want %.80q, %.80q, %d", s, d, u, n, dest, text, size)
	}
}

func checkRaw(t *testing.T, s string, want int) {
	t.Helper()
	if got := span.Raw(s); got != want {
		t.Errorf("Raw(%.80q) = %d, want %d", s, got, want)
	}
}

// same holds what is told of s against the patterns.
func same(t *testing.T, s string) {
	t.Helper()
	sameCode(t, s)
	sameAuto(t, s)
	checkRaw(t, s, html(s))
}

func sameCode(t *testing.T, s string) {
	t.Helper()
	want, n := coded(s)
	checkCode(t, s, want, n)
}

func sameAuto(t *testing.T, s string) {
	t.Helper()
	dest, text, n := addressed(s)
	checkAuto(t, s, dest, text, n)
}

// P12.1

func TestRun(t *testing.T) {
	checkRun(t, "", 0)
	checkRun(t, "a", 1)
	checkRun(t, "aaab", 3)
	checkRun(t, "aab aa", 2)
	checkRun(t, "aA", 1)
	checkRun(t, "```", 3)
	checkRun(t, "`` `", 2)
	checkRun(t, "**_*", 2)
	checkRun(t, "\n\n ", 2)
	// Bytes are counted, not characters.
	checkRun(t, "\u00e9\u00e9", 1)
	checkRun(t, "\u00e9", 1)
	checkRun(t, "\xff\xff\xfe", 2)
	for _, b := range bytes() {
		for _, other := range bytes() {
			n := 2
			if other == b {
				n = 5
			}
			checkRun(t, b+b+other+b+b, n)
		}
		checkRun(t, b, 1)
		checkRun(t, strings.Repeat(b, 300), 300)
	}
}

// wholeCode: is all of s a code, whatever stands behind it that is no `?
func wholeCode(t *testing.T, s, want string) {
	t.Helper()
	checkCode(t, s, want, len(s))
	for _, behind := range behinds {
		checkCode(t, s+behind, want, len(s))
	}
}

func noCode(t *testing.T, texts ...string) {
	t.Helper()
	for _, s := range texts {
		checkCode(t, s, "", 0)
	}
}

func TestCode(t *testing.T) {
	checkCode(t, "``a`b``", "a`b", 7)
	checkCode(t, "`` a`b ``", "a`b", 9)
	for s, want := range map[string]string{
		"`a`": "a", "``a``": "a", "```a```": "a", "`a b`": "a b", "`a``b`": "a``b", "``a`b```c``": "a`b```c", "```a``b````c```": "a``b````c", "`a\\`": "a\\",
		"`\\`": "\\", "`&amp;`": "&amp;", "`<a href=\"`": "<a href=\"", "`*a*`": "*a*", "`[a](b)`": "[a](b)", "`\x00\xff`": "\x00\xff", "`\u00e9`": "\u00e9", "`a\r`": "a\r",
	} {
		wholeCode(t, s, want)
	}
	noCode(t,
		"", "a", " ", "a`b`", " `a`", "\n`a`", "\\`a`", "'a'", "~a~",
		"`", "``", "```", "````", "``````", "`a", "`a\n", "`a``", "``a`", "``a```", "```a``", "```a````", "`a``b", "``a`b", "`a``b```", "``a`b`c```d", "` ``", "`` `", "`\xff",
	)
	// The first of as many ends it.
	checkCode(t, "`a`b`", "a", 3)
	checkCode(t, "`a` `b`", "a", 3)
	checkCode(t, "``a``b``", "a", 5)
	checkCode(t, "`a``b`c`", "a``b", 6)
	checkCode(t, "`a``", "", 0)
	checkCode(t, "`a```b`", "a```b", 7)
}

// One blank at each end goes away, if there are two, and something between them.
func TestBlanksOfCodes(t *testing.T) {
	for inner, want := range map[string]string{
		" a ": "a", "  a  ": " a ", " a  ": "a ", "  a ": " a", " a": " a", "a ": "a ", "  a": "  a", "a  ": "a  ", " a b ": "a b", " `` ": "``", "  ``  ": " `` ", " ``a": " ``a", "a`` ": "a`` ",
		" ": " ", "  ": "  ", "   ": "   ", "     ": "     ",
		"\ta\t": "\ta\t", " \t ": "\t", "\t": "\t", " \t": " \t", "\t ": "\t ", "\t \t": "\t \t", " \r ": "\r", "\r \r": "\r \r", " \v ": "\v", " \x00 ": "\x00",
		" \u00a0 ": "\u00a0", "\u00a0a\u00a0": "\u00a0a\u00a0", "\u2003a ": "\u2003a ", " \xff ": "\xff",
	} {
		wholeCode(t, "`"+inner+"`", want)
		wholeCode(t, "```"+inner+"```", want)
	}
}

// A line's end is a blank, and is so ahead of what blanks do.
func TestLinesOfCodes(t *testing.T) {
	for inner, want := range map[string]string{
		"a\nb": "a b", "a\n\nb": "a  b", "a\n b": "a  b", "a \nb": "a  b", "\n": " ", "\n\n": "  ", "\n \n": "   ", " \n ": "   ", "\na\n": "a", "\na ": "a", " a\n": "a", "\na": " a", "a\n": "a ",
		"\n\na\n\n": " a ", "a\r\nb": "a\r b", "\r\na\r\n": "\r a\r ", "\n\t\n": "\t", "\n``\n": "``", "a\n\tb": "a \tb",
	} {
		wholeCode(t, "`"+inner+"`", want)
		wholeCode(t, "````"+inner+"````", want)
	}
}

func TestCodesOfEachByte(t *testing.T) {
	for _, b := range bytes() {
		switch b {
		case "`":
			noCode(t, "`"+b+"`", "``a"+b+"c")
			checkCode(t, "``a"+b+"c``", "a`c", 7)
		case "\n":
			wholeCode(t, "`a"+b+"c`", "a c")
			wholeCode(t, "`"+b+"`", " ")
		default:
			wholeCode(t, "`a"+b+"c`", "a"+b+"c")
			wholeCode(t, "`"+b+"`", b)
			noCode(t, b+"a"+b, b+b+"a"+b+b, b+"`a`", "`a"+b)
		}
		if b != " " && b != "\n" {
			wholeCode(t, "`` "+b+" ``", b)
			wholeCode(t, "``\n"+b+"  ``", b+" ")
		}
	}
}

// Each number of ` against each other one.
func TestCodesByHowMany(t *testing.T) {
	for n := 1; n <= 70; n++ {
		fence := strings.Repeat("`", n)
		for m := 1; m <= 70; m++ {
			other := strings.Repeat("`", m)
			if n == m {
				wholeCode(t, fence+"a"+other, "a")
				continue
			}
			noCode(t, fence+"a"+other, fence+"a"+other+"b"+other)
			checkCode(t, fence+" "+other+" "+fence+" "+fence, other, 2*n+m+2)
		}
	}
}

func TestCodesOfShortTexts(t *testing.T) {
	for _, s := range shortTexts([]string{"`", "a", " ", "\n", "\t"}, 7) {
		sameCode(t, s)
		sameCode(t, "`"+s+"`")
		sameCode(t, "`` "+s+"``")
	}
}

// P12.2

// wholeAddress: is all of <text> an address, whatever stands behind it?
func wholeAddress(t *testing.T, text string) {
	t.Helper()
	for _, behind := range append(behinds, "") {
		checkAuto(t, "<"+text+">"+behind, text, text, len(text)+2)
	}
}

// wholeMailbox: likewise, is it a mailbox?
func wholeMailbox(t *testing.T, text string) {
	t.Helper()
	for _, behind := range append(behinds, "") {
		checkAuto(t, "<"+text+">"+behind, "mailto:"+text, text, len(text)+2)
	}
}

func noAuto(t *testing.T, texts ...string) {
	t.Helper()
	for _, s := range texts {
		checkAuto(t, s, "", "", 0)
	}
}

func TestAddress(t *testing.T) {
	for _, text := range []string{
		"http://a.b", "https://a.b/c?d=e&f#g", "HTTP://A", "irc://foo.bar:2233/baz", "mailto:x@y.z", "MAILTO:FOO@BAR.BAZ", "a+b+c:d", "made-up-scheme://foo,bar", "http://../", "localhost:5001/foo",
		"ab:", "ab:c", "a1:", "a+:", "a.:", "a-:", "a--:", "a.b:c", "Zz:", "ab::", "ab:c:d", "ab:@", "ab:\\[\\", "ab:\"'()[]{}`*_~!$%^&;,=+|/?#-.", "ab:&amp;", "ab:%20",
		"ab:\u00e9\u20ac", "ab:\u00a0", "ab:\x80\xff", "ab:x@y.z",
	} {
		wholeAddress(t, text)
	}
	noAuto(t,
		"", "<", ">", "a", "<>", "< >", "<ab>", "<a:b>", "<a:>", "<:b>", "<:>", "<:ab:>", "<1a:b>", "<+a:b>", "<-a:b>", "<.a:b>", "<11:b>", "<\u00e9a:b>", "<ab\u00e9:c>", "<a_b:c>", "<a/b:c>", "<a@b:c>",
		"<ab:c", "<ab:", "<ab:c d>", "<ab: >", "< ab:c>", "<ab:c >", "<ab :c>", "<ab:c\n>", "<ab:c\td>", "<ab:\x00>", "<ab:\x1f>", "<ab:\x7f>", "<ab:c<d>", "<ab:<>", "<<ab:c>", "<ab:c<", "<ab<:c>",
		" <ab:c>", "ab:c>", "ab:c", "\\<ab:c>", "(ab:c)", "<http//a.b>", "<http;//a.b>", "<m:abc>", "<foo.bar.baz>", "<https>", "<a b:c>", "<ab\x7f:c>", "<ab\xff:c>",
	)
	// The first > ends it.
	checkAuto(t, "<ab:c>d>", "ab:c", "ab:c", 6)
	checkAuto(t, "<ab:>>", "ab:", "ab:", 5)
	checkAuto(t, "<ab:c\\>", "ab:c\\", "ab:c\\", 7)
	checkAuto(t, "<ab:c><ab:d>", "ab:c", "ab:c", 6)
}

// A scheme is a letter, and 1 to 31 more.
func TestSchemesAsLongAsTheyMayBe(t *testing.T) {
	for _, more := range []string{"a", "Z", "0", "9", "+", ".", "-"} {
		for n := range 70 {
			scheme := "a" + strings.Repeat(more, n)
			switch {
			case 1 <= n && n <= 31:
				wholeAddress(t, scheme+":")
				wholeAddress(t, scheme+":b:c")
			default:
				noAuto(t, "<"+scheme+":>", "<"+scheme+":b>", "<"+scheme+":b:c>")
			}
			noAuto(t, "<"+scheme+">", "<"+scheme)
		}
	}
}

func TestAddressesOfEachByte(t *testing.T) {
	const letters = "abcdefghijklmnopqrstuvwxyzABCDEFGHIJKLMNOPQRSTUVWXYZ"
	for _, b := range bytes() {
		// As the first one of a scheme, and as a later one.
		if strings.Contains(letters, b) {
			wholeAddress(t, b+"b:c")
		} else {
			noAuto(t, "<"+b+"b:c>", "<"+b+"bb:c>")
		}
		switch {
		case strings.Contains(letters+"0123456789+.-", b):
			wholeAddress(t, "a"+b+":c")
			wholeAddress(t, "a"+b+"b:c")
		case b == ":":
			noAuto(t, "<a"+b+":c>")
		default:
			noAuto(t, "<a"+b+":c>", "<a"+b+"b:c>")
		}
		// Behind the colon.
		switch {
		case b == ">":
			checkAuto(t, "<ab:"+b+"c>", "ab:", "ab:", 5)
		case b[0] <= 32, b[0] == 127, b == "<":
			noAuto(t, "<ab:"+b+">", "<ab:"+b+"c>", "<ab:c"+b+">", "<ab:c"+b+"c>")
		default:
			wholeAddress(t, "ab:"+b)
			wholeAddress(t, "ab:c"+b+"c")
		}
	}
}

func TestMailbox(t *testing.T) {
	checkAuto(t, "<x@y.z>", "mailto:x@y.z", "x@y.z", 7)
	for _, text := range []string{
		"a@b", "A@B", "1@2", "x@y.z", "foo@bar.example.com", "foo+special@Bar.baz-bar0.com", "a.b@c", ".@a", "..@a", ".a.@b", "-@a", "_@a", "!@a", "`@a", "a`b@c", "a@1.2.3.4", "a@b-c.d--e.f",
		"!#$%&'*+/=?^_`{|}~-.@a", "mailto@a", "a&amp@b",
	} {
		wholeMailbox(t, text)
	}
	noAuto(t,
		"<@>", "<@a>", "<a@>", "<a>", "<a@b", "<a@b.c", "<a@.>", "<a@.b>", "<a@b.>", "<a@b..c>", "<a@b.c.>", "<a@b.c..>", "<a@-b>", "<a@b->", "<a@->", "<a@b.-c>", "<a@b.c->", "<a@b-.c>", "<a@b1->", "<a@b.->", "<a@-.b>",
		"<a@b@c>", "<a@@b>", "<@a@b>", "<a@b.c@d>", "<a@b_c>", "<a@b+c>", "<a@b/c>", "<a@b:c>", "<a@b\u00e9>", "<a@\u00e9>", "<\u00e9@a>", "<a\xff@b>", "<a@b\xff>", "<a@[1.2]>", "<a,b@c>", "<a;b@c>", "<a:b@c>",
		"<a(b@c>", "<a)b@c>", "<\"a\"@b>", "<a\\@b>", "<foo\\+@bar.example.com>", "<a b@c>", "<a @b>", "<a@ b>", "<a@b >", "< a@b>", "<a@b\n>", "<a\n@b>", "<a@b.\nc>", "<a@b\t>", "<a@b\x00>", "<a@b\x7f>",
		"<a@b<c>", "<<a@b>", "<a<@b>", "<a@<b>", " <a@b>", "a@b>", "a@b", "\\<a@b>", "<[a@b>", "<a]@b>",
	)
	// The first > ends it.
	checkAuto(t, "<a@b>>", "mailto:a@b", "a@b", 5)
	checkAuto(t, "<a@b>c>", "mailto:a@b", "a@b", 5)
	noAuto(t, "<a>@b>", "<a@>b>")
}

// A part of the host is 1 to 63 bytes, and there may be any number of parts.
func TestPartsAsLongAsTheyMayBe(t *testing.T) {
	for _, byThis := range []string{"a", "Z", "0", "-"} {
		for n := 1; n <= 130; n++ {
			host := "a"
			if n > 1 {
				host += strings.Repeat(byThis, n-2) + "b"
			}
			if n <= 63 {
				wholeMailbox(t, "a@"+host)
				wholeMailbox(t, "a@"+host+"."+host+"."+host)
				continue
			}
			noAuto(t, "<a@"+host+">", "<a@"+host+".b>", "<a@b."+host+">", "<a@b."+host+".c>")
		}
	}
	for n := 1; n <= 70; n++ {
		wholeMailbox(t, strings.Repeat("a", n)+"@b")
		wholeMailbox(t, "a@"+strings.Repeat("b.", n)+"c")
	}
}

func TestMailboxesOfEachByte(t *testing.T) {
	const plain = "abcdefghijklmnopqrstuvwxyzABCDEFGHIJKLMNOPQRSTUVWXYZ0123456789"
	for _, b := range bytes() {
		if strings.Contains(plain+".!#$%&'*+/=?^_`{|}~-", b) {
			wholeMailbox(t, b+"@a")
			wholeMailbox(t, "a"+b+"@a")
			wholeMailbox(t, b+"a@a")
		} else {
			noAuto(t, "<"+b+"@a>", "<a"+b+"@a>", "<"+b+"a@a>")
		}
		switch {
		case strings.Contains(plain, b):
			wholeMailbox(t, "a@"+b)
			wholeMailbox(t, "a@"+b+".a")
			wholeMailbox(t, "a@a."+b)
			wholeMailbox(t, "a@a"+b+"a")
		case b == "-" || b == ".":
			wholeMailbox(t, "a@a"+b+"a")
			noAuto(t, "<a@"+b+">", "<a@"+b+"a>", "<a@a"+b+">", "<a@a."+b+">", "<a@"+b+".a>", "<a@a"+b+".a>", "<a@a."+b+"a>")
		case b == ">":
			checkAuto(t, "<a@a"+b+"a>", "mailto:a@a", "a@a", 5)
			noAuto(t, "<a@"+b+"a>", "<a@a."+b)
		default:
			noAuto(t, "<a@"+b+">", "<a@"+b+"a>", "<a@a"+b+">", "<a@a"+b+"a>", "<a@a."+b+">", "<a@a."+b+"a>")
		}
	}
}

func TestAutosOfShortTexts(t *testing.T) {
	for _, s := range shortTexts([]string{"a", "1", ":", "@", ".", "-", "+", "<", ">", " "}, 5) {
		sameAuto(t, s)
		sameAuto(t, "<"+s)
		sameAuto(t, "<"+s+">")
		sameAuto(t, "<a@b"+s+">")
		sameAuto(t, "<ab"+s+">")
	}
	for _, s := range shortTexts([]string{"a", "-", ".", "@", "_"}, 7) {
		sameAuto(t, "<a@"+s+">")
	}
}

// P12.3

// wholeRaw: is all of s HTML, whatever stands behind it?
func wholeRaw(t *testing.T, texts ...string) {
	t.Helper()
	for _, s := range texts {
		checkRaw(t, s, len(s))
		for _, behind := range behinds {
			checkRaw(t, s+behind, len(s))
		}
	}
}

func noRaw(t *testing.T, texts ...string) {
	t.Helper()
	for _, s := range texts {
		checkRaw(t, s, 0)
	}
}

func TestTags(t *testing.T) {
	wholeRaw(t, "<a>", "<A1-b/>", "<a />", "<a\n>", "</a>", "</a\t\n>", "<a b c='d>' _e.f:g-1 = \"h\ni\" j=k />", "<script>", "</pre>", "<a b='<!--'>", "<a b=\"?>\">")
	noRaw(t, "", "a", "<", ">", "<>", "</>", "< a>", "<a", "<a/", "<a b=>", "<a b='c>", "<a b='c'd>", "<a:b>", "<1>", "</a b>", "</a/>", "<a/ >", "<a\r>", " <a>", "a<a>", "<\u00e9>", "<a\xff>", "&lt;a>", "\\<a>")
	checkRaw(t, "<a>b>", 3)
	checkRaw(t, "<a b='c'>'>", 9)
	// An address is none.
	noRaw(t, "<ab:c>", "<x@y.z>")
}

func TestComments(t *testing.T) {
	checkRaw(t, "<!-->", 5)
	checkRaw(t, "<!--->", 6)
	wholeRaw(t,
		"<!-->", "<!--->", "<!---->", "<!----->", "<!------>", "<!-- -->", "<!--a-->", "<!-- a -->", "<!--a--->", "<!-- a -- b -->", "<!-- a --- b -->", "<!--a\nb-->", "<!--\n\n-->", "<!--a->-->", "<!-- > -->", "<!-- >\n->-->",
		"<!--<!---->", "<!--<a>-->", "<!--?>]]>-->", "<!--\x00\xff\u00e9\r-->", "<!-- -\\->-->", "<!--!>-->", "<!--a--!>-->", "<!-- --\n>-->", "<!----!-->",
	)
	noRaw(t,
		"<!", "<!-", "<!--", "<!---", "<!----", "<!-- ", "<!-- a", "<!-- a -", "<!-- a --", "<!-- a ->", "<!-- a - ->", "<!-- a -- >", "<!-- a --\n>", "<!->", "<!- a -->", "<! -- a -->", "<! --a-->", "< !--a-->", "<--a-->",
		"<-->", "<!>", "<!a", "!--a-->", " <!-->", "\\<!-->", "<!--a--!>", "<!--a-\\->", "&lt;!-->", "<!-a-->",
	)
	// These two end at once, whatever stands behind.
	checkRaw(t, "<!-->-->", 5)
	checkRaw(t, "<!--> a -->", 5)
	checkRaw(t, "<!--->-->", 6)
	checkRaw(t, "<!---> a -->", 6)
	// The first one ends it.
	checkRaw(t, "<!---->-->", 7)
	checkRaw(t, "<!--a-->b-->", 8)
	checkRaw(t, "<!-- a --> <!-- b -->", 10)
}

func TestInstructions(t *testing.T) {
	wholeRaw(t, "<??>", "<?a?>", "<? ?>", "<?php a\nb; ?>", "<???>", "<????>", "<?>?>", "<?a>b?>", "<?<a>?>", "<?-->]]>?>", "<?\n\n?>", "<?\x00\xff\u00e9?>", "<?? >?>", "<?'?\\>'?>")
	noRaw(t, "<?", "<?>", "<?a", "<?a?", "<?a>", "<?a? >", "<? a ?\n>", "< ?a?>", "?a?>", "<a?>", "<?a?\\>", " <??>", "<!?a?>", "<?a-->", "<\\?a?>")
	checkRaw(t, "<??>?>", 4)
	checkRaw(t, "<?a?>b?>", 5)
	checkRaw(t, "<?>a?>?>", 6)
}

func TestDeclarations(t *testing.T) {
	wholeRaw(t, "<!a>", "<!Z>", "<!DOCTYPE html>", "<!doctype html>", "<!ELEMENT br EMPTY>", "<!a\nb\n>", "<!a'b'\"c\">", "<!a<b>", "<!a--?]]>", "<!a\x00\xff\u00e9>", "<!a->", "<!a<!-->", "<!CDATA[>", "<!a\\>")
	noRaw(t, "<!a", "<!a\n", "<!DOCTYPE html", "<!>", "<! a>", "<!1>", "<!_a>", "<!-a>", "<!:a>", "<![a]>", "<!\u00e9>", "<!\xffa>", "<!\na>", "< !a>", "!a>", "<!!a>", "<a!>", "</!a>", " <!a>", "<\\!a>", "<!a&gt;")
	checkRaw(t, "<!a>b>", 4)
	checkRaw(t, "<!a>>", 4)
	checkRaw(t, "<!a -- > -->", 8)
	checkRaw(t, "<!a '>' >", 6)
	for _, b := range bytes() {
		if regexp.MustCompile(`^[A-Za-z]$`).MatchString(b) {
			checkRaw(t, "<!"+b+">", 4)
			checkRaw(t, "<!"+b+" a>", 6)
		} else {
			noRaw(t, "<!"+b+">", "<!"+b+" a>", "<!"+b+"a]]>")
		}
	}
}

func TestData(t *testing.T) {
	wholeRaw(t, "<![CDATA[]]>", "<![CDATA[a]]>", "<![CDATA[ a\n\nb ]]>", "<![CDATA[]]]>", "<![CDATA[]]]]>", "<![CDATA[>]]>", "<![CDATA[>&<]]>", "<![CDATA[]>]]>", "<![CDATA[]] >]]>", "<![CDATA[-->?>]]>", "<![CDATA[<![CDATA[]]>", "<![CDATA[\x00\xff\u00e9]]>")
	noRaw(t,
		"<![", "<![CDATA", "<![CDATA[", "<![CDATA[a", "<![CDATA[a]", "<![CDATA[a]]", "<![CDATA[a]>", "<![CDATA[a] ]>", "<![CDATA[a]]\n>", "<![CDATA]]>", "<![CDATA ]]>", "<![CDATA>", "<![CDATA[>", "<![CDATA[]>", "<![cdata[a]]>", "<![CDATa[a]]>",
		"<![ CDATA[a]]>", "<! [CDATA[a]]>", "< ![CDATA[a]]>", "<![CDATA [a]]>", "<![a]]>", "![CDATA[a]]>", " <![CDATA[a]]>", "<![CDAT[a]]>", "<![CDATA[a]]\\>",
	)
	checkRaw(t, "<![CDATA[a]]>]]>", 13)
	checkRaw(t, "<![CDATA[]]>]]>", 12)
}

func TestRawsOfShortTexts(t *testing.T) {
	for _, s := range shortTexts([]string{"<", "!", "-", ">", "a", "?", "/", " "}, 5) {
		checkRaw(t, s, html(s))
		checkRaw(t, "<"+s, html("<"+s))
		checkRaw(t, "<!--"+s, html("<!--"+s))
		checkRaw(t, "<!"+s+"-->", html("<!"+s+"-->"))
		checkRaw(t, "<?"+s, html("<?"+s))
	}
	for _, s := range shortTexts([]string{"-", ">", "--", "!", "\n", "<!--"}, 6) {
		checkRaw(t, "<!-"+s, html("<!-"+s))
	}
	for _, s := range shortTexts([]string{"[", "]", ">", "CDATA", "a", "\n", "<!"}, 5) {
		checkRaw(t, "<!"+s, html("<!"+s))
		checkRaw(t, "<![CDATA["+s, html("<![CDATA["+s))
	}
	for _, s := range shortTexts([]string{"<a", "</a", " b", "=", "'", "\"", "c", "/", ">", "\n"}, 5) {
		checkRaw(t, s, html(s))
	}
}

// Rules that hold everywhere

func TestEachByteInEachPlace(t *testing.T) {
	for _, s := range []string{
		"`a`", "`` a`b ``", "`\n \n`", "<ab:c>", "<a+b.c-1:d/e?f>", "<x@y.z>", "<a.b@c-d.e>", "<a b='c' />", "</a >", "<!-->", "<!--->", "<!-- a -->", "<?a?>", "<!A b>", "<![CDATA[a]]>",
	} {
		for _, s := range changed(s) {
			same(t, s)
			same(t, s+">")
			same(t, s+"`")
		}
	}
}

// P12.4: what stands behind says nothing, but for ` behind a code.
func TestWhatStandsBehindSaysNothing(t *testing.T) {
	for _, s := range shortTexts([]string{"`", "<", ">", "a", "!", "-", "--", "?", ":", "@", ".", "\n"}, 4) {
		for _, s := range []string{s, "`" + s, "<" + s, "<ab" + s} {
			code, size := span.Code(s)
			dest, text, auto := span.Auto(s)
			n := span.Raw(s)
			for _, behind := range append(behinds, "") {
				if size > 0 {
					checkCode(t, s[:size]+behind, code, size)
				}
				if auto > 0 {
					checkAuto(t, s[:auto]+behind, dest, text, auto)
				}
				if n > 0 {
					checkRaw(t, s[:n]+behind, n)
				}
			}
			if auto > 0 {
				checkAuto(t, s[:auto]+"`", dest, text, auto)
			}
			if n > 0 {
				checkRaw(t, s[:n]+"`", n)
			}
		}
	}
	// More ` behind are none of the code: it is not ended there.
	noCode(t, "`a``", "`a``b", "``a```", "```a````")
	checkCode(t, "`a``b`", "a``b", 6)
	checkCode(t, "`a`\n`", "a", 3)
	checkCode(t, "``a```b``", "a```b", 9)
}

// R2: where there is none, all of what is told is zero.
func TestNothingAtAll(t *testing.T) {
	for _, s := range []string{"", "a", "`", "<", "<ab:c", "<x@y.z", "<a", "`a", "\x00", "\xff"} {
		noCode(t, s)
		noAuto(t, s)
		noRaw(t, s)
	}
}

// R1: texts of any length.
func TestLongTexts(t *testing.T) {
	for _, part := range append(bytes(), "`a", "``a", "` ", "a.", "a@", "ab:", "<a", "<!--", "<?", "<!a", "<![CDATA[", "-->", "?>", "]]>", " b", "--", "]]") {
		s := strings.Repeat(part, long/256/len(part))
		for _, begin := range []string{"", "`", "``", "<", "<ab:", "<a@", "<a ", "<!--", "<?", "<!a", "<![CDATA["} {
			for _, end := range []string{"", ">", "`", "``", "-->", "?>", "]]>"} {
				same(t, begin+s+end)
			}
		}
	}
	a := strings.Repeat("a", long)
	checkRun(t, a, long)
	checkRun(t, a+"b", long)
	wholeCode(t, "`"+a+"`", a)
	fence := strings.Repeat("`", long)
	wholeCode(t, fence+a+fence, a)
	noCode(t, fence, "`"+a, fence+a+fence+"`", "`"+strings.Repeat("a``", long))
	checkCode(t, "`"+strings.Repeat("\n", long)+"`", strings.Repeat(" ", long), long+2)
	checkCode(t, "` "+strings.Repeat("\n", long)+"a `", strings.Repeat(" ", long)+"a", long+5)
	checkAuto(t, "<ab:"+a+">", "ab:"+a, "ab:"+a, long+5)
	checkAuto(t, "<"+a+"@b>", "mailto:"+a+"@b", a+"@b", long+4)
	dots := strings.Repeat("b.", long)
	checkAuto(t, "<a@"+dots+"c>", "mailto:a@"+dots+"c", "a@"+dots+"c", 2*long+5)
	noAuto(t, "<ab:"+a, "<"+a+":>", "<a@"+a+">", "<a@"+dots+">", strings.Repeat("<", long))
	for _, s := range []string{"<a b='" + a + "'>", "<!--" + a + "-->", "<?" + a + "?>", "<!a" + a + ">", "<![CDATA[" + a + "]]>"} {
		checkRaw(t, s, len(s))
		noRaw(t, s[:len(s)-1])
	}
}

// lies: is what is told a piece of the memory of s?
func lies(told, s string) bool {
	from := uintptr(unsafe.Pointer(unsafe.StringData(s)))
	at := uintptr(unsafe.Pointer(unsafe.StringData(told)))
	return told != "" && from <= at && at < from+uintptr(len(s))
}

// R3: an answer is new memory.
func TestTextsAreNewMemory(t *testing.T) {
	for _, s := range []string{"`a`", "` ab `", "`a\nb`", "<ab:c>", "<x@y.z>"} {
		s := strings.Clone(s)
		code, _ := span.Code(s)
		dest, text, _ := span.Auto(s)
		if code+dest+text == "" {
			t.Errorf("nothing is told of %q", s)
		}
		for _, told := range []string{code, dest, text} {
			if lies(told, s) {
				t.Errorf("of %q: %q is not new", s, told)
			}
		}
	}
}

// Nothing is kept: what is told of a text hangs on no text ahead of it.
func TestNothingIsKept(t *testing.T) {
	tell := func(s string) []any {
		code, n := span.Code(s)
		dest, text, size := span.Auto(s)
		return []any{span.Run(s), code, n, dest, text, size, span.Raw(s)}
	}
	texts := []string{"", "`", "`a`", "``a", "` a `", "<ab:c>", "<x@y.z>", "<x@y.-", "<a>", "<!--", "<!-->", "<?a?>", "<![CDATA[", "a", "\n"}
	for _, s := range texts {
		want := tell(s)
		for _, ahead := range texts {
			tell(ahead)
			if got := tell(s); !slices.Equal(got, want) {
				t.Errorf("of %q %v, and behind %q %v", s, want, ahead, got)
			}
		}
	}
}

func FuzzSpan(f *testing.F) {
	for _, s := range []string{"", "`` a`b ``", "`\n`", "<ab:c>", "<x@y.z>", "<a b='c'>", "<!-->", "<!--a-->", "<?a?>", "<!A>", "<![CDATA[]]>", "\xff\x00"} {
		f.Add(s)
	}
	f.Fuzz(func(t *testing.T, s string) {
		for _, begin := range []string{"", "`", "``", "<", "<ab:", "<a@", "<a ", "<!--", "<?", "<!a", "<![CDATA["} {
			same(t, begin+s)
			same(t, begin+s+">")
			same(t, begin+s+"`")
		}
	})
}
