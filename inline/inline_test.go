package inline_test

import (
	"slices"
	"strconv"
	"strings"
	"testing"
	"unsafe"

	"incipit/api"
	"incipit/inline"
	"incipit/tree"
)

const long = 1 << 17

// bytes are all bytes from 0 to 255, each as a text.
func bytes() []string {
	var all []string
	for c := range 256 {
		all = append(all, string([]byte{byte(c)}))
	}
	return all
}

// shortTexts are all of at most so many of the pieces.
func shortTexts(pieces []string, most int) []string {
	texts := []string{""}
	begin := 0
	for range most {
		end := len(texts)
		for _, s := range texts[begin:end] {
			for _, p := range pieces {
				texts = append(texts, s+p)
			}
		}
		begin = end
	}
	return texts
}

// names are the kinds' names in what is shown.
var names = map[int]string{
	api.Soft: "soft", api.Hard: "hard", api.Span: "span", api.Emph: "emph", api.Strong: "strong", api.Link: "link", api.Image: "image", api.Raw: "raw", api.Struck: "struck", api.NoteRef: "note",
}

// shown are nodes in short: a text in quotes, all others by their names, with S
// and T, if they have them, and what stands in them in brackets.
func shown(l []api.Node) string {
	var all []string
	for _, n := range l {
		s := names[n.Kind]
		switch {
		case n.Kind == api.Text:
			s = strconv.Quote(n.S)
		case s == "":
			s = "kind " + strconv.Itoa(n.Kind) + " " + strconv.Quote(n.S)
		case n.S != "":
			s += " " + strconv.Quote(n.S)
		}
		if n.T != "" {
			s += " T " + strconv.Quote(n.T)
		}
		if n.N != 0 || n.M != 0 || n.Flag {
			s += " N " + strconv.Itoa(n.N) + " M " + strconv.Itoa(n.M) + " Flag " + strconv.FormatBool(n.Flag)
		}
		if len(n.L) > 0 {
			s += "[" + shown(n.L) + "]"
		}
		all = append(all, s)
	}
	return strings.Join(all, " ")
}

// equal: are nodes the same, at any depth?
func equal(a, b []api.Node) bool {
	return slices.EqualFunc(a, b, tree.Same)
}

// is holds what is told of s, with all extensions, against what is shown.
func is(t *testing.T, s, want string) {
	t.Helper()
	isBy(t, s, api.All, want)
}

func isBy(t *testing.T, s string, mask int, want string) {
	t.Helper()
	got := inline.Parse(s, defs(), notes(), mask)
	if shown(got) != want {
		t.Errorf("Parse(%.100q, %d): %.300s\nwant %.300s", s, mask, shown(got), want)
	}
	sound(t, s, got)
}

// each holds what is told of the first of two against what is shown in the second.
func each(t *testing.T, l [][2]string) {
	t.Helper()
	for _, x := range l {
		is(t, x[0], x[1])
	}
}

func TestExamples(t *testing.T) {
	is(t, "a *b*", `"a " emph["b"]`)
	is(t, "[x](/u)", `link "/u"["x"]`)
	is(t, "**a*", `"*" emph["a"]`)
}

// P14.1

func TestBackslashes(t *testing.T) {
	each(t, [][2]string{
		{`\`, `"\\"`}, {`\\`, `"\\"`}, {`\\\`, `"\\\\"`}, {`\a`, `"\\a"`}, {`a\`, `"a\\"`},
		{`\*a\*`, `"*a*"`}, {`\\*a*`, `"\\" emph["a"]`}, {`*a\*`, `"*a*"`}, {`*a\**`, `emph["a*"]`}, {`\**a*`, `"*" emph["a"]`},
		{`\[a]`, `"[a]"`}, {`[a\]`, `"[a]"`}, {`\![a]`, `"!" link "/a"["a"]`}, {`!\[a]`, `"![a]"`}, {`[a]\(u)`, `link "/a"["a"] "(u)"`}, {`[x]\[a]`, `"[x][a]"`},
		{"\\`a`", "\"`a`\""}, {"\\``a`", "\"`\" span \"a\""}, {`\<b>`, `"<b>"`}, {`\<ab:c>`, `"<ab:c>"`}, {`\&amp;`, `"&amp;"`}, {`\~a~`, `"~a~"`},
		{"a\\\nb", `"a" hard "b"`}, {"a\\\n \t b", `"a" hard "b"`}, {"a  \\\nb", `"a  " hard "b"`}, {"\\\n", `hard`}, {"\\\n\n", `hard soft`}, {"\\\n\\\n", `hard hard`}, {"\\\\\n", `"\\" soft`}, {"\\\\\\\n", `"\\" hard`},
		{"\\ \n", `"\\" soft`}, {"\\\r\n", `"\\\r" soft`}, {"*a\\\nb*", `emph["a" hard "b"]`},
	})
	is(t, "\\\u00e9", strconv.Quote("\\\u00e9"))
	is(t, "\\\xff", strconv.Quote("\\\xff"))
	is(t, "\\\x00", strconv.Quote("\\\x00"))
	is(t, "\\ a", `"\\ a"`)
	is(t, "\\\ta", `"\\\ta"`)
}

func TestBackslashesAheadOfEachByte(t *testing.T) {
	for _, b := range bytes() {
		want := strconv.Quote("a\\" + b + "c")
		switch {
		case b == "\n":
			want = `"a" hard "c"`
		case strings.Contains("!\"#$%&'()*+,-./:;<=>?@[\\]^_`{|}~", b):
			want = strconv.Quote("a" + b + "c")
		}
		is(t, "a\\"+b+"c", want)
	}
}

func TestReferences(t *testing.T) {
	each(t, [][2]string{
		{"&amp;", `"&"`}, {"&#65;&#x42;", `"AB"`}, {"a&lt;b", `"a<b"`}, {"&amp;amp;", `"&amp;"`}, {"&#0;", `"` + "\uFFFD" + `"`},
		{"&", `"&"`}, {"&amp", `"&amp"`}, {"&;", `"&;"`}, {"&&amp;", `"&&"`}, {"&none;", `"&none;"`}, {"&#;", `"&#;"`}, {"&#12345678;", `"&#12345678;"`}, {"& amp;", `"& amp;"`}, {"&*a*", `"&" emph["a"]`},
		// What it is is a text alone.
		{"&#42;a*", `"*a*"`}, {"*a&#42;", `"*a*"`}, {"&#91;a]", `"[a]"`}, {"[a&#93;", `"[a]"`}, {"&lt;b>", `"<b>"`}, {"&#96;a`", "\"`a`\""}, {"&#92;*a*", `"\\" emph["a"]`}, {"a&#10;b", `"a\nb"`}, {"&#33;[a]", `"!" link "/a"["a"]`},
		{"[&#97;]", `"[a]"`},
	})
}

func TestCodes(t *testing.T) {
	each(t, [][2]string{
		{"`a`", `span "a"`}, {"``a`b``", "span \"a`b\""}, {"` a `b", `span "a" "b"`}, {"`a\nb`", `span "a b"`}, {"` `", `span " "`},
		{"`", "\"`\""}, {"``", "\"``\""}, {"`a", "\"`a\""}, {"a`", "\"a`\""}, {"``a`", "\"``a`\""}, {"`a``", "\"`a``\""}, {"`a``b`", "span \"a``b\""}, {"``a`b`", "\"``a\" span \"b\""}, {"`a`b`", "span \"a\" \"b`\""},
		{"`a``b```c", "\"`a``b```c\""}, {"```a``b`c``", "\"```a\" span \"b`c\""}, {"`a` ``b`` `c", "span \"a\" \" \" span \"b\" \" `c\""}, {"```a`b`", "\"```a\" span \"b\""}, {"`a```b```c`", "span \"a```b```c\""}, {"``a`b``c`", "span \"a`b\" \"c`\""},
		// Nothing in it is anything else.
		{"`*a*`", `span "*a*"`}, {"*`a*`", `"*" span "a*"`}, {"`\\`a`", "span \"\\\\\" \"a`\""}, {"`&amp;`", `span "&amp;"`}, {"`<b>`", `span "<b>"`}, {"`[a]`", `span "[a]"`}, {"[`a](u)`", `"[" span "a](u)"`}, {"`<b c='`'>", "span \"<b c='\" \"'>\""}, {"`a  \nb`", `span "a   b"`},
		// What stands ahead of it is gone over.
		{"<b c='`'>`", "raw \"<b c='`'>\" \"`\""}, {"<ab:`>`", "link \"ab:`\"[\"ab:`\"] \"`\""}, {"[x](`)`a`", "link \"`\"[\"x\"] span \"a\""}, {"\\``a`", "\"`\" span \"a\""},
	})
}

func TestAddresses(t *testing.T) {
	each(t, [][2]string{
		{"<ab:c>", `link "ab:c"["ab:c"]`}, {"a<ab:c>b", `"a" link "ab:c"["ab:c"] "b"`}, {"<x@y.z>", `link "mailto:x@y.z"["x@y.z"]`}, {"<ab:*c*>", `link "ab:*c*"["ab:*c*"]`}, {"*<ab:c*>", `"*" link "ab:c*"["ab:c*"]`}, {"<ab:&amp;\\*>", `link "ab:&amp;\\*"["ab:&amp;\\*"]`},
		{"<a:b>", `"<a:b>"`}, {"<ab:c d>", `"<ab:c d>"`}, {"<ab:c", `"<ab:c"`}, {"<<ab:c>", `"<" link "ab:c"["ab:c"]`}, {"<ab:c>>", `link "ab:c"["ab:c"] ">"`},
		// No "[" ahead of it is live any more.
		{"[x <ab:c>](u)", `"[x " link "ab:c"["ab:c"] "](u)"`}, {"[<ab:c>][a]", `"[" link "ab:c"["ab:c"] "]" link "/a"["a"]`}, {"[[x <ab:c>](u)](v)", `"[[x " link "ab:c"["ab:c"] "](u)](v)"`},
		{"![x <ab:c>](u)", `image "u"["x " link "ab:c"["ab:c"]]`}, {"[![x <ab:c>](u)](v)", `"[" image "u"["x " link "ab:c"["ab:c"]] "](v)"`}, {"<ab:c>[x](u)", `link "ab:c"["ab:c"] link "u"["x"]`}, {"[x <ab:c> [y](u)](v)", `"[x " link "ab:c"["ab:c"] " " link "u"["y"] "](v)"`},
		{"[x](u) <ab:c>", `link "u"["x"] " " link "ab:c"["ab:c"]`}, {"[<ab:c>] [x](u)", `"[" link "ab:c"["ab:c"] "] " link "u"["x"]`}, {"[x](<ab:c>)", `link "ab:c"["x"]`},
	})
}

func TestHtml(t *testing.T) {
	each(t, [][2]string{
		{"<b>", `raw "<b>"`}, {"a<b c='d'>e</b>f", `"a" raw "<b c='d'>" "e" raw "</b>" "f"`}, {"<b\nc>", `raw "<b\nc>"`}, {"<!-- *a* -->", `raw "<!-- *a* -->"`}, {"<!-->-->", `raw "<!-->" "-->"`}, {"<!--->", `raw "<!--->"`}, {"<?a?>", `raw "<?a?>"`}, {"<!A>", `raw "<!A>"`}, {"<![CDATA[]]]]>", `raw "<![CDATA[]]]]>"`},
		{"<", `"<"`}, {"<>", `"<>"`}, {"< b>", `"< b>"`}, {"<b", `"<b"`}, {"<1>", `"<1>"`}, {"<!-- a", `"<!-- a"`}, {"<? a >", `"<? a >"`}, {"<!1>", `"<!1>"`}, {"<![CDATA[ ]>", `"<![CDATA[ ]>"`}, {"<*a*>", `"<" emph["a"] ">"`}, {"<b *c*>", `"<b " emph["c"] ">"`},
		{"*<b c='*'>", `"*" raw "<b c='*'>"`}, {"[x <b c='](u)'>](v)", `link "v"["x " raw "<b c='](u)'>"]`}, {"<b>_a_</b>", `raw "<b>" emph["a"] raw "</b>"`}, {"[<b>](u)", `link "u"[raw "<b>"]`},
		// That one has no end says nothing of others.
		{"<!-- <? ?>", `"<!-- " raw "<? ?>"`}, {"<? <!-- -->", `"<? " raw "<!-- -->"`}, {"<!1> <!A>", `"<!1> " raw "<!A>"`}, {"<! <!A>", `"<! " raw "<!A>"`}, {"<![CDATA[ <!A>", `"<![CDATA[ " raw "<!A>"`}, {"<!a <![CDATA[ ]]>", `raw "<!a <![CDATA[ ]]>"`}, {"<!-- <b> <!-- -->", `raw "<!-- <b> <!-- -->"`},
		{"<!-- <b> <!--", `"<!-- " raw "<b>" " <!--"`}, {"<?<?<b>", `"<?<?" raw "<b>"`}, {"<!a<!b<? ?", `"<!a<!b<? ?"`}, {"<b <b>", `"<b " raw "<b>"`}, {"<b c=' <b>", `"<b c=' " raw "<b>"`}, {"<b ? <?>?>", `"<b ? " raw "<?>?>"`}, {"<?> <!-- -> <?a?>", `raw "<?> <!-- -> <?a?>"`},
	})
}

func TestRuns(t *testing.T) {
	each(t, [][2]string{
		{"*a*", `emph["a"]`}, {"_a_", `emph["a"]`}, {"**a**", `strong["a"]`}, {"__a__", `strong["a"]`}, {"*", `"*"`}, {"**", `"**"`}, {"* a *", `"* a *"`}, {"*a", `"*a"`}, {"a*", `"a*"`}, {"*a *", `"*a *"`}, {"* a*", `"* a*"`},
		{"a*b*c", `"a" emph["b"] "c"`}, {"a_b_c", `"a_b_c"`}, {"_a_b", `"_a_b"`}, {"a_b_", `"a_b_"`}, {"a _b_ c", `"a " emph["b"] " c"`}, {"(_a_)", `"(" emph["a"] ")"`}, {"a*(b)*", `"a*(b)*"`}, {"a *(b)*", `"a " emph["(b)"]`}, {"*(a)*b", `"*(a)*b"`}, {"*a_", `"*a_"`},
		{"*a\nb*", `emph["a" soft "b"]`}, {"*a\n*", `"*a" soft "*"`}, {"*\na*", `"*" soft "a*"`}, {"a\n*b*\nc", `"a" soft emph["b"] soft "c"`}, {"*\ta*", `"*\ta*"`},
		// The characters are those of the text as it stands there.
		{"&nbsp;_a_", `"` + `\u00a0` + `" emph["a"]`}, {"&#97;_b_", `"a" emph["b"]`}, {"`a`_b_", `span "a" emph["b"]`}, {"a_b_&#97;", `"a_b_a"`}, {"_a_&#97;", `emph["a"] "a"`}, {"\\._a_", `"." emph["a"]`}, {"a\\_b_", `"a_b_"`}, {"*a*\\a", `emph["a"] "\\a"`}, {"_a_\\a", `emph["a"] "\\a"`},
		{"*_a_*", `emph[emph["a"]]`}, {"_*a*_", `emph[emph["a"]]`}, {"a*_b_*", `"a*" emph["b"] "*"`},
	})
	for s, want := range map[string]string{
		"*\u00a0a*": `"*` + `\u00a0` + `a*"`, "\u00a0_a_": `"` + `\u00a0` + `" emph["a"]`, "\u2014_a_": `"` + "\u2014" + `" emph["a"]`, "\u00e9_a_": `"` + "\u00e9" + `_a_"`, "_a_\u00e9": `"_a_` + "\u00e9" + `"`, "_a_\u2014": `emph["a"] "` + "\u2014" + `"`, "\U0001F600_a_": `"` + "\U0001F600" + `_a_"`,
		"a*\u2014b*": `"a*` + "\u2014" + `b*"`, "\u20ac*.a*": `"` + "\u20ac" + `" emph[".a"]`,
		// What is no character is the mark, and so is 0: neither white nor a sign.
		"\xff_a_": `"\xff_a_"`, "_a_\xff": `"_a_\xff"`, "\x00_a_": `"\x00_a_"`, "_a_\x00": `"_a_\x00"`, "*\x00a\x00*": `emph["\x00a\x00"]`, "\xe2\x80_a_": `"\xe2\x80_a_"`, "\x80\x94_a_": `"\x80\x94_a_"`, "_a_\xe2\x80": `"_a_\xe2\x80"`, "\xe2\xe2\x80\x94_a_": `"\xe2` + "\u2014" + `" emph["a"]`,
	} {
		is(t, s, want)
	}
}

func TestTildes(t *testing.T) {
	each(t, [][2]string{
		{"~a~", `struck["a"]`}, {"~~a~~", `struck["a"]`}, {"~~~a~~~", `"~~~a~~~"`}, {"~a~~", `"~a~~"`}, {"~~a~", `"~~a~"`}, {"~~ a ~~", `"~~ a ~~"`}, {"~", `"~"`}, {"~~", `"~~"`}, {"~~~~", `"~~~~"`}, {"a~b~c", `"a" struck["b"] "c"`}, {"~~~ ~a~", `"~~~ " struck["a"]`}, {"~a~~~b~", `struck["a~~~b"]`},
		{"~a ~~b~~ c~", `struck["a " struck["b"] " c"]`}, {"*a ~b* c~", `emph["a ~b"] " c~"`}, {"~*a*~", `struck[emph["a"]]`}, {"\\~a~", `"~a~"`}, {"~`a~`", "\"~\" span \"a~\""},
	})
	for _, s := range []string{"~a~", "~~a~~", "*~a~*", "~", "~~~", "~ [a] ~"} {
		plain := strings.ReplaceAll(s, "~", "\\~")
		for mask := range 256 {
			want := shown(inline.Parse(s, defs(), notes(), api.All))
			if mask&api.Strike == 0 {
				want = shown(inline.Parse(plain, defs(), notes(), api.All))
			}
			isBy(t, s, mask, want)
		}
	}
	isBy(t, "~a~ *b*", api.All&^api.Strike, `"~a~ " emph["b"]`)
	isBy(t, "~a~", api.Strike, `struck["a"]`)
	isBy(t, "~a~", -1, `struck["a"]`)
	isBy(t, "~a~", -1&^api.Strike, `"~a~"`)
}

func TestLines(t *testing.T) {
	each(t, [][2]string{
		{"\n", `soft`}, {" \n", `soft`}, {"  \n", `hard`}, {"\n\n", `soft soft`}, {"a\nb", `"a" soft "b"`}, {"a \nb", `"a" soft "b"`}, {"a  \nb", `"a" hard "b"`}, {"a     \nb", `"a" hard "b"`}, {"a\n  b", `"a" soft "b"`}, {"a\n \t \tb", `"a" soft "b"`}, {"a  \n\t b", `"a" hard "b"`},
		{"a\t\nb", `"a\t" soft "b"`}, {"a \t \nb", `"a \t" soft "b"`}, {"a\t  \nb", `"a\t" hard "b"`}, {"a\r\nb", `"a\r" soft "b"`}, {"a  \r\nb", `"a  \r" soft "b"`}, {"a\n\r b", `"a" soft "\r b"`}, {"a  b", `"a  b"`}, {"a  ", `"a  "`}, {"a\n", `"a" soft`},
		{"a\n\nb", `"a" soft soft "b"`}, {"a\n  \nb", `"a" soft soft "b"`}, {"a  \n  \nb", `"a" hard soft "b"`}, {"a\u00a0\nb", `"a` + `\u00a0` + `" soft "b"`},
		// Of the last piece alone, if it is a text.
		{"*a*  \nb", `emph["a"] hard "b"`}, {"`a`  \nb", `span "a" hard "b"`}, {"`a`\nb", `span "a" soft "b"`}, {"` a  `\nb", `span "a " soft "b"`}, {"]  \nb", `"]" hard "b"`}, {"[  \nb", `"[" hard "b"`}, {"[\nb", `"[" soft "b"`}, {"*  \nb", `"*" hard "b"`}, {"*\nb", `"*" soft "b"`}, {"a *\nb", `"a *" soft "b"`}, {"!  \nb", `"!" hard "b"`}, {"~  \nb", `"~" hard "b"`}, {"<b>  \nb", `raw "<b>" hard "b"`}, {"&amp;  \nb", `"&" hard "b"`}, {"\\a  \nb", `"\\a" hard "b"`},
		{"a&#32;\nb", `"a" soft "b"`}, {"a&#32;&#32;\nb", `"a " soft "b"`}, {"a &#32; \nb", `"a  " soft "b"`}, {"&#32;  \nb", `" " hard "b"`}, {"a  \\\nb", `"a  " hard "b"`}, {"[x](u)  \nb", `link "u"["x"] hard "b"`}, {"[x  \ny](u)", `link "u"["x" hard "y"]`}, {"[^n]  \nb", `note "n" hard "b"`}, {"[x  ](u)\nb", `link "u"["x  "] soft "b"`}, {"[x  ]\nb", `"[x  ]" soft "b"`},
		{"*a  \nb*", `emph["a" hard "b"]`}, {"`a\n  b`", `span "a   b"`}, {"<b\n  c>", `raw "<b\n  c>"`},
	})
}

func TestOthers(t *testing.T) {
	each(t, [][2]string{
		{"", ""}, {"a", `"a"`}, {" ", `" "`}, {" a ", `" a "`}, {"!", `"!"`}, {"!!", `"!!"`}, {"a!", `"a!"`}, {"!a", `"!a"`}, {"! [a]", `"! " link "/a"["a"]`}, {"!![a]", `"!" image "/a"["a"]`}, {"!(a)", `"!(a)"`}, {"!]", `"!]"`}, {"a b\tc", `"a b\tc"`}, {"(a)", `"(a)"`}, {"\x00\xff", `"\x00\xff"`}, {"{}\"'=>|^$#@", `"{}\"'=>|^$#@"`},
	})
}

func TestEachByte(t *testing.T) {
	for _, b := range bytes() {
		if b == "\n" {
			is(t, b, "soft")
			is(t, "a"+b+"c", `"a" soft "c"`)
			continue
		}
		is(t, b, strconv.Quote(b))
		is(t, "a"+b+"c", strconv.Quote("a"+b+"c"))
		is(t, "*a*"+b, `emph["a"] `+strconv.Quote(b))
		for _, other := range bytes() {
			sameParse(t, b+other, api.All)
			sameParse(t, "["+b+"]("+other+")", api.All)
			sameParse(t, "_a_"+b+other+"_a_", api.All)
		}
	}
}

// P14.2

func TestAddressesBehindBrackets(t *testing.T) {
	each(t, [][2]string{
		{"[x](u)", `link "u"["x"]`}, {"[x](<u v> 't')", `link "u v" T "t"["x"]`}, {"[x]()", `link["x"]`}, {"[](u)", `link "u"`}, {"[]()", `link`}, {"[x](\nu\n\"t\"\n)y", `link "u" T "t"["x"] "y"`}, {"[x](u\\*&amp;)", `link "u*&"["x"]`}, {"[x y](u)", `link "u"["x y"]`},
		{"![x](u)", `image "u"["x"]`}, {"![x](u 't')", `image "u" T "t"["x"]`}, {"![](u)", `image "u"`}, {"![]()", `image`}, {"a![x](u)b", `"a" image "u"["x"] "b"`}, {"!![x](u)", `"!" image "u"["x"]`}, {"![x *y*](u)", `image "u"["x " emph["y"]]`},
		{"[x](u", `"[x](u"`}, {"[x] (u)", `"[x] (u)"`}, {"[x](u v)", `"[x](u v)"`}, {"[x](u 't)", `"[x](u 't)"`}, {"[x](u)(v)", `link "u"["x"] "(v)"`}, {"[x]", `"[x]"`}, {"![x]", `"![x]"`}, {"[x", `"[x"`}, {"x](u)", `"x](u)"`}, {"]", `"]"`}, {"[]", `"[]"`}, {"[", `"["`}, {"![", `"!["`}, {"![]", `"![]"`}, {"]]", `"]]"`}, {"](u)[x](v)", `"](u)" link "v"["x"]`},
		// An address is what it is ahead of a label.
		{"[a](u)", `link "u"["a"]`}, {"[a](u)[a]", `link "u"["a"] link "/a"["a"]`}, {"[a](u", `link "/a"["a"] "(u"`}, {"[a](u v)", `link "/a"["a"] "(u v)"`}, {"[a] (u)", `link "/a"["a"] " (u)"`}, {"[a]()", `link["a"]`},
		{"[x](u*v*)", `link "u*v*"["x"]`}, {"*[x](u*)", `"*" link "u*"["x"]`}, {"[x](`u`)`", "link \"`u`\"[\"x\"] \"`\""}, {"[x](<b>)", `link "b"["x"]`}, {"[x](u\\\nv)", `"[x](u" hard "v)"`},
	})
}

func TestLabels(t *testing.T) {
	each(t, [][2]string{
		{"[x][a]", `link "/a"["x"]`}, {"[x][ A\n]", `link "/a"["x"]`}, {"[x][b*]", `link "/b" T "tb"["x"]`}, {"[x][B*]y", `link "/b" T "tb"["x"] "y"`}, {"![x][a]", `image "/a"["x"]`}, {"[][a]", `link "/a"`}, {"[*x*][a]", `link "/a"[emph["x"]]`}, {"[x] [a]", `"[x] " link "/a"["a"]`}, {"[x]\n[a]", `"[x]" soft link "/a"["a"]`},
		// A label behind that is no definition's: nor is what stands in the brackets.
		{"[x][c]", `"[x][c]"`}, {"[a][c]", `"[a][c]"`}, {"[a][c]d", `"[a][c]d"`}, {"[a][c](u)", `"[a]" link "u"["c"]`}, {"[x][c][a]", `"[x]" link "/a"["c"]`}, {"[a][c][]", `"[a][c][]"`}, {"[c][a][]", `link "/a"["c"] "[]"`}, {"[a][\\]]", `"[a][]]"`}, {"![a][c]", `"![a][c]"`},
		{"[a][]", `link "/a"["a"]`}, {"[ A ][]", `link "/a"[" A "]`}, {"![a][]", `image "/a"["a"]`}, {"[b*][]*", `link "/b" T "tb"["b*"] "*"`}, {"[x][]", `"[x][]"`}, {"[a][][]", `link "/a"["a"] "[]"`}, {"[a][](u)", `link "/a"["a"] "(u)"`}, {"[a][](", `link "/a"["a"] "("`}, {"[][]", `"[][]"`}, {"[x][](u)", `"[x]" link "u"`},
		{"[a]", `link "/a"["a"]`}, {"[A]", `link "/a"["A"]`}, {"[\na\n]", `link "/a"[soft "a" soft]`}, {"![a]", `image "/a"["a"]`}, {"[b*]", `link "/b" T "tb"["b*"]`}, {"[*b*]", `"[" emph["b"] "]"`}, {"x[a]y", `"x" link "/a"["a"] "y"`}, {"[[a]]", `"[" link "/a"["a"] "]"`}, {"[a]: /u", `link "/a"["a"] ": /u"`}, {"[a][", `link "/a"["a"] "["`}, {"[a][x", `link "/a"["a"] "[x"`}, {"[a][[x]]", `link "/a"["a"] "[[x]]"`},
		{"[\\a]", `"[\\a]"`}, {"[a\\]", `"[a]"`}, {"[&#97;]", `"[a]"`}, {"[ab]", `"[ab]"`}, {"[]", `"[]"`}, {"[ ]", `"[ ]"`}, {"[\v]", `"[\v]"`}, {"[x][\v]", `"[x][\v]"`},
		// What has only white in its brackets is no label: it is not gone over.
		{"[a][ ]", `link "/a"["a"] "[ ]"`}, {"[a][\n]", `link "/a"["a"] "[" soft "]"`}, {"[a][ ](u)", `link "/a"["a"] link "u"[" "]`}, {"[x][ ]", `"[x][ ]"`},
	})
	// A definition's own fields are told as they are; of several the first one is it.
	l := []api.Ref{{Label: "x", Dest: "\xff\n", Title: "\\*"}, {Label: "x", Dest: "/later"}, {Label: "X", Dest: "/none"}, {Label: " y", Dest: "/none"}, {Label: "", Dest: "/none"}}
	for s, want := range map[string]string{"[X]": `link "\xff\n" T "\\*"["X"]`, "[ y]": `"[ y]"`, "[]": `"[]"`, "[a]": `"[a]"`, "[\v]": `"[\v]"`} {
		if got := shown(inline.Parse(s, l, nil, 0)); got != want {
			t.Errorf("Parse(%q): %s, want %s", s, got, want)
		}
	}
}

// What stands in brackets is a label, if all of it is.
func TestOwnLabels(t *testing.T) {
	l := []api.Ref{{Label: "`", Dest: "/code"}, {Label: "<b c='", Dest: "/tag"}, {Label: "<ab:", Dest: "/address"}, {Label: "\\]", Dest: "/escaped"}, {Label: "![x", Dest: "/image"}, {Label: strings.Repeat("a", 999), Dest: "/long"}, {Label: strings.Repeat("a", 1000), Dest: "/longer"}}
	many, more := strings.Repeat("a", 999), strings.Repeat("a", 1000)
	for _, x := range [][2]string{
		{"[`]`]", `"[" span "]" "]"`}, {"[<b c=']'>]", `"[" raw "<b c=']'>" "]"`}, {"![<ab:]>]", `"![" link "ab:]"["ab:]"] "]"`}, {"[`]", `link "/code"["` + "`" + `"]`}, {"[\\]]", `link "/escaped"["]"]`}, {"[![x]", `"[![x]"`}, {"[x][\\]]", `link "/escaped"["x"]`},
		{"[" + many + "]", `link "/long"["` + many + `"]`}, {"[" + more + "]", `"[` + more + `]"`}, {"[x][" + many + "]", `link "/long"["x"]`}, {"[x][" + more + "]", `"[x][` + more + `]"`},
		// What is too long is no label, so what stands ahead of it may be one.
		{"[`][" + strings.Repeat("b", 999) + "]", "\"[`][" + strings.Repeat("b", 999) + "]\""}, {"[`][" + strings.Repeat("b", 1000) + "]", "link \"/code\"[\"`\"] \"[" + strings.Repeat("b", 1000) + "]\""},
	} {
		if got := shown(inline.Parse(x[0], l, nil, 0)); got != x[1] {
			t.Errorf("Parse(%.80q): %.200s\nwant %.200s", x[0], got, x[1])
		}
		sameParseBy(t, x[0], l, nil, 0)
	}
}

func TestOpenersThatAreNotLive(t *testing.T) {
	each(t, [][2]string{
		{"[x [y](u) z](v)", `"[x " link "u"["y"] " z](v)"`}, {"[[a]](u)", `"[" link "/a"["a"] "](u)"`}, {"[[x](u)][a]", `"[" link "u"["x"] "]" link "/a"["a"]`}, {"[x [y [z](u)](v)](w)", `"[x [y " link "u"["z"] "](v)](w)"`}, {"[x](u) [y](v)", `link "u"["x"] " " link "v"["y"]`}, {"[[x](u) [y](v)](w)", `"[" link "u"["x"] " " link "v"["y"] "](w)"`},
		{"[[x](u)] [y](v)", `"[" link "u"["x"] "] " link "v"["y"]`}, {"[[x](u)", `"[" link "u"["x"]`}, {"[ [x](u) ![y](v) ](w)", `"[ " link "u"["x"] " " image "v"["y"] " ](w)"`},
		// Images may have links in them, and other ones.
		{"![[x](u)](v)", `image "v"[link "u"["x"]]`}, {"[![x](u)](v)", `link "v"[image "u"["x"]]`}, {"![![x](u)](v)", `image "v"[image "u"["x"]]`}, {"[![[x](u)](v)](w)", `"[" image "v"[link "u"["x"]] "](w)"`}, {"![[[x](u)](v)](w)", `image "w"["[" link "u"["x"] "](v)"]`}, {"![x [y](u) ![z](v)](w)", `image "w"["x " link "u"["y"] " " image "v"["z"]]`},
		// An opener ahead of a link within an image says nothing of those behind.
		{"![ [x](u) ](v) [y](w)", `image "v"[" " link "u"["x"] " "] " " link "w"["y"]`}, {"[ ![ [x](u) ](v) ] [y](w)", `"[ " image "v"[" " link "u"["x"] " "] " ] " link "w"["y"]`}, {"![a a [x](u) ](v)[y](w)", `image "v"["a a " link "u"["x"] " "] link "w"["y"]`}, {"[x ![y](u)](v)", `link "v"["x " image "u"["y"]]`},
		// Each "]" takes one opener.
		{"[x [y](u) ] ](v)", `"[x " link "u"["y"] " ] ](v)"`}, {"[a [c] b](u)", `link "u"["a [c] b"]`}, {"[a ![c] b](u)", `link "u"["a ![c] b"]`}, {"![a [c] b](u)", `image "u"["a [c] b"]`}, {"[x][y](u)", `"[x]" link "u"["y"]`}, {"[x] y](u)", `"[x] y](u)"`},
	})
}

func TestNotes(t *testing.T) {
	each(t, [][2]string{
		{"[^n]", `note "n"`}, {"a[^n]b", `"a" note "n" "b"`}, {"[^N]", `note "n"`}, {"[^ n\n]", `note "n"`}, {"[^a]", `note "a"`}, {"[^n][^a]", `note "n" note "a"`}, {"[^x]", `"[^x]"`}, {"[^x](u)", `link "u"["^x"]`}, {"[^]", `"[^]"`}, {"[^](u)", `link "u"["^"]`}, {"[^ ]", `note`}, {"[^n", `"[^n"`}, {"[n]", `"[n]"`}, {"[ ^n]", `link "/n"[" ^n"]`}, {"[\\^n]", `"[^n]"`}, {"^[n]", `"^[n]"`}, {"[^^n]", `"[^^n]"`},
		// A note is what it is ahead of an address, or a label.
		{"[^n](u)", `note "n" "(u)"`}, {"[^n][a]", `note "n" link "/a"["a"]`}, {"[^n][]", `note "n" "[]"`}, {"![^n]", `image "/n"["^n"]`}, {"![^a](u)", `image "u"["^a"]`}, {"![^a]", `"![^a]"`},
		// What stands in it goes away.
		{"[^a*b]*", `note "a*b" "*"`}, {"*[^a*b]", `"*" note "a*b"`}, {"[^[^n]]", `note "[^n]"`}, {"[^[^a]]", `"[^" note "a" "]"`},
		// It is no link: what is live stays so.
		{"[x [^n] y](u)", `link "u"["x " note "n" " y"]`}, {"![x [^n]](u)", `image "u"["x " note "n"]`}, {"[x [y](u) [^n]](v)", `"[x " link "u"["y"] " " note "n" "](v)"`}, {"*[^n]*", `emph[note "n"]`}, {"[[^n]](u)", `link "u"[note "n"]`},
	})
	// An opener that is not live leads to no note.
	l := []string{"[x](u)", "![x](u)", "`]`", "\xff"}
	for s, want := range map[string]string{
		"[^[x](u)]": `"[^" link "u"["x"] "]"`, "[^![x](u)]": `note "![x](u)"`, "[^`]`]": "note \"`]`\"", "[^\uFFFD]": `"[^` + "\uFFFD" + `]"`, "[^\xff]": `"[^\xff]"`, "[^ ]": `"[^ ]"`,
	} {
		if got := shown(inline.Parse(s, nil, l, api.Footnotes)); got != want {
			t.Errorf("Parse(%q): %s, want %s", s, got, want)
		}
	}
	for mask := range 256 {
		want := `link "/n"["^n"]`
		if mask&api.Footnotes != 0 {
			want = `note "n"`
		}
		isBy(t, "[^n]", mask, want)
	}
	isBy(t, "[^a]", 0, `"[^a]"`)
	isBy(t, "[^n]", -1, `note "n"`)
}

// P14.3

func TestPairs(t *testing.T) {
	each(t, [][2]string{
		{"***a***", `emph[strong["a"]]`}, {"****a****", `strong[strong["a"]]`}, {"*****a*****", `emph[strong[strong["a"]]]`}, {"___a___", `emph[strong["a"]]`}, {"**a*", `"*" emph["a"]`}, {"*a**", `emph["a"] "*"`}, {"***a*", `"**" emph["a"]`}, {"*a***", `emph["a"] "**"`}, {"***a**", `"*" strong["a"]`}, {"**a***", `strong["a"] "*"`}, {"****a*", `"***" emph["a"]`},
		{"***a** b*", `emph[strong["a"] " b"]`}, {"***a* b**", `strong[emph["a"] " b"]`}, {"*a **b***", `emph["a " strong["b"]]`}, {"**a *b***", `strong["a " emph["b"]]`}, {"*a *b**", `emph["a " emph["b"]]`}, {"*a *b* c*", `emph["a " emph["b"] " c"]`}, {"**a **b** c**", `strong["a " strong["b"] " c"]`}, {"**a *b", `"**a *b"`}, {"*a* *b*", `emph["a"] " " emph["b"]`},
		// Signs that close stand first, then those that are left over, then those that open.
		{"*a***b**", `emph["a"] strong["b"]`}, {"*a****b*", `emph["a"] "**" emph["b"]`}, {"**a***b*", `strong["a"] emph["b"]`}, {"*a*b*", `emph["a"] "b*"`}, {"*a**b*", `emph["a**b"]`}, {"**a*b**", `strong["a*b"]`},
		{"*a _b* c_", `emph["a _b"] " c_"`}, {"*a __b *c d__ e*", `emph["a " strong["b *c d"] " e"]`}, {"**a _b** c_", `strong["a _b"] " c_"`}, {"*a **b* c**", `emph["a " emph[emph["b"] " c"]]`}, {"~a *b~ c*", `struck["a *b"] " c*"`}, {"*~a*~", `emph["~a"] "~"`},
		{"*a `b` <b> [x](u)*", `emph["a " span "b" " " raw "<b>" " " link "u"["x"]]`}, {"*a\nb*", `emph["a" soft "b"]`}, {"**<b>**", `strong[raw "<b>"]`}, {"*\\a*", `emph["\\a"]`},
		// Openers are the text that they are.
		{"*[a*", `emph["[a"]`}, {"[*a*", `"[" emph["a"]`}, {"*![a*", `emph["![a"]`}, {"*[x*]", `emph["[x"] "]"`}, {"*x]*", `emph["x]"]`}, {"[ ![ [", `"[ ![ ["`},
		// What stands in a link is paired for itself.
		{"*[x*](u)", `"*" link "u"["x*"]`}, {"[*x](u)*", `link "u"["*x"] "*"`}, {"*[x](u)*", `emph[link "u"["x"]]`}, {"[*x*](u)", `link "u"[emph["x"]]`}, {"*a [b* c](u) d*", `emph["a " link "u"["b* c"] " d"]`}, {"**[*x*](u)**", `strong[link "u"[emph["x"]]]`}, {"![*x*](u)*", `image "u"[emph["x"]] "*"`}, {"*a [*b*](u) c*", `emph["a " link "u"[emph["b"]] " c"]`}, {"*x [*y](u)* z", `emph["x " link "u"["*y"]] " z"`},
	})
	is(t, strings.Repeat("*", 9)+"a"+strings.Repeat("*", 9), `emph[strong[strong[strong[strong["a"]]]]]`)
}

// P14.4

func word(s string, l ...api.Node) api.Node { return api.Node{Kind: api.Text, S: s, L: l} }

func node(kind int, l ...api.Node) api.Node { return api.Node{Kind: kind, L: l} }

func checkTidy(t *testing.T, l, want []api.Node) {
	t.Helper()
	given := shown(l)
	if got := inline.Tidy(l); !equal(got, want) {
		t.Errorf("Tidy(%s): %s, want %s", given, shown(got), shown(want))
	}
	if shown(l) != given {
		t.Errorf("Tidy(%s) made of it %s", given, shown(l))
	}
}

func TestTidy(t *testing.T) {
	soft := node(api.Soft)
	a, b := api.Node{Kind: api.Text, S: "a", T: "ta", N: 1, M: 2, Flag: true}, api.Node{Kind: api.Text, S: "b", T: "tb", N: 3, M: 4}
	ab, ba := a, b
	ab.S, ba.S = "ab", "ba"
	for _, x := range []struct{ l, want []api.Node }{
		{nil, nil}, {[]api.Node{}, nil}, {[]api.Node{word("")}, nil}, {[]api.Node{word(""), word("")}, nil}, {[]api.Node{word("a")}, []api.Node{word("a")}}, {[]api.Node{word("a"), word("b"), word("c")}, []api.Node{word("abc")}}, {[]api.Node{word("a"), soft, word("b")}, []api.Node{word("a"), soft, word("b")}},
		{[]api.Node{word("a"), word(""), word("b")}, []api.Node{word("ab")}}, {[]api.Node{word(""), soft, word(""), soft, word("")}, []api.Node{soft, soft}}, {[]api.Node{soft, word("a"), word("b"), soft, word("c"), word("d")}, []api.Node{soft, word("ab"), soft, word("cd")}},
		// The first one stays that is not empty, with all that it has.
		{[]api.Node{a, b}, []api.Node{ab}}, {[]api.Node{b, a}, []api.Node{ba}}, {[]api.Node{a, word(""), b}, []api.Node{ab}}, {[]api.Node{{Kind: api.Text, T: "t", N: 9, L: []api.Node{soft}}, a, b}, []api.Node{ab}}, {[]api.Node{a, {Kind: api.Text, T: "t", N: 9, L: []api.Node{soft}}}, []api.Node{a}},
		{[]api.Node{word("a", soft), word("b", word("c"), word("d"))}, []api.Node{word("ab", soft)}}, {[]api.Node{word("a"), word("b", soft)}, []api.Node{word("ab")}}, {[]api.Node{word("", word("c")), soft}, []api.Node{soft}},
		// At any depth, whatever the kinds are.
		{[]api.Node{node(api.Emph, word("a"), word("b"))}, []api.Node{node(api.Emph, word("ab"))}}, {[]api.Node{node(api.Emph, word("")), node(api.Emph)}, []api.Node{node(api.Emph), node(api.Emph)}}, {[]api.Node{word("a", word("b"), word("c"))}, []api.Node{word("a", word("bc"))}}, {[]api.Node{node(api.Doc, node(api.Para, node(api.Span, word("b"), word("c"))))}, []api.Node{node(api.Doc, node(api.Para, node(api.Span, word("bc"))))}},
		{[]api.Node{node(-7, word("a"), node(99, word("b"), word("c")), word("d"))}, []api.Node{node(-7, word("a"), node(99, word("bc")), word("d"))}}, {[]api.Node{word("a"), node(api.Emph), word("b")}, []api.Node{word("a"), node(api.Emph), word("b")}},
		// Only Texts are told as one, and go away.
		{[]api.Node{{Kind: api.Span, S: "a"}, {Kind: api.Span, S: "b"}, {Kind: api.Raw}, {Kind: api.Raw}, {Kind: api.Span}}, []api.Node{{Kind: api.Span, S: "a"}, {Kind: api.Span, S: "b"}, {Kind: api.Raw}, {Kind: api.Raw}, {Kind: api.Span}}},
		{[]api.Node{{Kind: api.Link, S: "s", T: "t", N: -1, M: 1 << 40, Flag: true, L: []api.Node{word("x"), word("y")}}}, []api.Node{{Kind: api.Link, S: "s", T: "t", N: -1, M: 1 << 40, Flag: true, L: []api.Node{word("xy")}}}},
	} {
		checkTidy(t, x.l, x.want)
	}
	for kind := -1; kind < 40; kind++ {
		l := []api.Node{word("a"), {Kind: kind}, {Kind: kind, S: "b"}, word("c")}
		want := l
		if kind == api.Text {
			want = []api.Node{word("abc")}
		}
		checkTidy(t, l, want)
	}
}

// forests are all lists of nodes of a few sorts, so deep and so long at most.
func forests(depth, most int) [][]api.Node {
	all := [][]api.Node{nil}
	if depth == 0 {
		return all
	}
	inner := forests(depth-1, 1)
	begin := 0
	for range most {
		end := len(all)
		for _, ahead := range all[begin:end] {
			for _, l := range inner {
				for _, n := range []api.Node{word(""), word("a"), {Kind: api.Text, S: "b", T: "t"}, {Kind: api.Emph}, {Kind: api.Span, S: "c"}, {Kind: api.Raw, S: "d"}, {Kind: api.Hard}} {
					n.L = l
					all = append(all, append(slices.Clone(ahead), n))
				}
			}
		}
		begin = end
	}
	return all
}

func TestTidyAndPlainOfShortLists(t *testing.T) {
	for _, l := range append(forests(1, 5), forests(2, 3)...) {
		checkTidy(t, l, tidied(l))
		if got, want := inline.Plain(l), readable(l); got != want {
			t.Errorf("Plain(%s) = %q, want %q", shown(l), got, want)
		}
		if inline.Plain(inline.Tidy(l)) != readable(tidied(l)) {
			t.Errorf("Plain of Tidy(%s)", shown(l))
		}
	}
}

// Parse's answer is tidy: texts that stand side by side are one.
func TestParseIsTidy(t *testing.T) {
	each(t, [][2]string{
		{"a&amp;b\\*c!d]e<f", `"a&b*c!d]e<f"`}, {"*a* **", `emph["a"] " **"`}, {"[a] b [c](", `link "/a"["a"] " b [c]("`}, {"*a&amp;b*", `emph["a&b"]`}, {"[x!y\\](u)", `"[x!y](u)"`}, {"[x&amp;y](u)", `link "u"["x&y"]`}, {"  \n  \n", `hard soft`}, {"&amp; \n", `"&" soft`},
	})
}

// P14.5

func checkPlain(t *testing.T, l []api.Node, want string) {
	t.Helper()
	if got := inline.Plain(l); got != want {
		t.Errorf("Plain(%s) = %q, want %q", shown(l), got, want)
	}
}

func TestPlain(t *testing.T) {
	checkPlain(t, nil, "")
	for _, x := range [][2]string{
		{"", ""}, {"a *b* **c** d", "a b c d"}, {"`a``b`", "a``b"}, {"a\nb  \nc\\\nd", "a b c d"}, {"[x *y*](u 't')", "x y"}, {"![x ![y](u)](v)", "x y"}, {"<b>a</b><!-- c -->", "a"}, {"a[^n]b", "ab"}, {"~a~", "a"}, {"<x@y.z>", "x@y.z"}, {"&amp;\\*", "&*"}, {"\xff\x00", "\xff\x00"},
	} {
		checkPlain(t, inline.Parse(x[0], defs(), notes(), api.All), x[1])
	}
	// Of each kind: what it has itself, and what stands in it.
	for kind := -1; kind < 40; kind++ {
		own := ""
		switch kind {
		case api.Text, api.Span:
			own = "s"
		case api.Soft, api.Hard:
			own = " "
		}
		n := api.Node{Kind: kind, S: "s", T: "t", N: 1, Flag: true}
		checkPlain(t, []api.Node{word("a"), n, word("b")}, "a"+own+"b")
		n.L = []api.Node{word("x"), node(api.Emph, word("y"))}
		checkPlain(t, []api.Node{word("a"), n, word("b")}, "a"+own+"xyb")
		n.L = []api.Node{n}
		checkPlain(t, []api.Node{n}, own+own+"xy")
	}
}

// P14.6

func TestNoLinkInALink(t *testing.T) {
	for _, s := range shortTexts([]string{"[", "![", "](u)", "][a]", "]", "<ab:c>", "a", "[^n]"}, 6) {
		l := inline.Parse(s, defs(), notes(), api.All)
		if !tree.Well(node(api.Doc, node(api.Para, l...))) {
			t.Fatalf("of %q: %s", s, shown(l))
		}
	}
}

// A text without signs and LF is a Text.
func TestTextsWithoutSigns(t *testing.T) {
	var others []string
	for _, b := range bytes() {
		if b != "\n" && !strings.Contains("!\"#$%&'()*+,-./:;<=>?@[\\]^_`{|}~", b) {
			others = append(others, b)
		}
	}
	for _, s := range append(shortTexts(others, 2)[1:], strings.Join(others, ""), strings.Repeat(strings.Join(others, ""), 1000)) {
		for _, mask := range []int{0, api.All, -1} {
			l := inline.Parse(s, defs(), notes(), mask)
			if len(l) != 1 || !tree.Same(l[0], word(s)) {
				t.Fatalf("Parse(%.80q) = %.200s", s, shown(l))
			}
		}
	}
}

// What holds of all.

// Of a mask only the bits of Strike and Footnotes count here.
func TestMasks(t *testing.T) {
	s := "~a~ [^n] [a] <b> www.a.b | *c*"
	for mask := -300; mask < 300; mask++ {
		want := inline.Parse(s, defs(), notes(), mask&(api.Strike|api.Footnotes))
		if got := inline.Parse(s, defs(), notes(), mask); !equal(got, want) {
			t.Errorf("by %d: %s, want %s", mask, shown(got), shown(want))
		}
	}
}

// many is a text again and again, of so many bytes at most.
func many(s string) string { return strings.Repeat(s, long/len(s)) }

// R1: texts of any length, in no more than a few steps for each byte.
func TestLongTexts(t *testing.T) {
	l := defs()
	for i := range 2000 {
		l = append(l, api.Ref{Label: "d" + strconv.Itoa(i), Dest: "/d"})
	}
	labels := append(notes(), strings.Repeat("n", 500))
	for _, part := range append(bytes(),
		"*a ", "a* ", "*a* ", "**a *b* ", "_a_", "*a_b ", "~a~ ", "~~a ~b", "[a", "a]", "![", "[a](", "[a](b", "[a](b(", "[a](b)", "![a](b)", "[a](<b", "[a](b \"", "[a](b (c", "[d1] ", "[d1][] ", "[x][d1999] ", "[zz]", "[^n]", "[^", "[^ ", "[^n [a](b) ",
		"<a", "<a b='", "<a b=\"<a b='", "<ab:c>", "<!--", "<!A", "<?", "<![CDATA[", "<!-- a -->", "&amp;", "&#1", "` ", "``a`b", "\\\n", " \n", "  \n", "!a", "[a <ab:c>](u) ", "[![a](b)", "\xff*", "][", "][a", "[](",
	) {
		s := many(part)
		sound(t, s, inline.Parse(s, l, labels, api.All))
	}
}

// halves is a text of two halves, each of one thing again and again.
func halves(opening, closing string) string { return many(opening) + many(closing) }

func TestLongTextsOfHalves(t *testing.T) {
	for _, s := range []string{
		halves("[", "]"), halves("[", "[a](b)"), halves("[^", "]"), halves("[^ ", "]"), halves("[", "](u)"), halves("![", "]"), halves("[a", "][a]"), halves("*", "a*"), halves("*", "_a_*"), halves("[", "<ab:c>]"), halves("<!-- ", "-->"), halves("<a b='", "'>"), halves("`", "a`a"), halves("``a", "`a"), many("<!-- <? <!A <![CDATA[ "), many("[^" + strings.Repeat("n", 400)),
	} {
		sound(t, s, inline.Parse(s, defs(), append(notes(), many("n")), api.All))
	}
	// Runs of ` that are all of another length, and more and more labels.
	var fences, labels strings.Builder
	for n := range 1000 {
		fences.WriteString(strings.Repeat("`", 1000-n) + "a")
	}
	is(t, fences.String(), strconv.Quote(fences.String()))
	for n := range long / 4 {
		labels.WriteString("[x" + strconv.Itoa(n) + "][^" + strconv.Itoa(n) + "]")
	}
	is(t, labels.String(), strconv.Quote(labels.String()))
	var l []api.Ref
	var all []string
	for n := range long / 8 {
		l = append(l, api.Ref{Label: "x" + strconv.Itoa(n), Dest: "/x"})
		all = append(all, strconv.Itoa(n))
	}
	if got := len(inline.Parse(labels.String(), l, all, api.All)); got != long/4+1 {
		t.Errorf("of many labels %d nodes", got)
	}
}

// deepest is how deep nodes are, gone through without a call for each of them.
func deepest(l []api.Node) int {
	depth := 0
	for len(l) > 0 {
		depth++
		var below []api.Node
		for _, n := range l {
			below = append(below, n.L...)
		}
		l = below
	}
	return depth
}

func TestDeepTexts(t *testing.T) {
	const deep = 1 << 16
	for _, x := range []struct {
		s     string
		depth int
	}{
		{strings.Repeat("*a ", deep-1) + strings.Repeat("a* ", deep-1), deep},
		{strings.Repeat("**", deep-1) + "a" + strings.Repeat("**", deep-1), deep},
		{strings.Repeat("![", deep-1) + "a" + strings.Repeat("](b)", deep-1), deep},
		{strings.Repeat("*a _b ", deep/2) + strings.Repeat("b_ a* ", deep/2), deep + 1},
		{strings.Repeat("~~a ", deep-1) + strings.Repeat("a~~ ", deep-1), deep},
		{strings.Repeat("![*a ", deep/2) + strings.Repeat("a*][a]", deep/2), deep + 1},
		{strings.Repeat("[", deep) + "a" + strings.Repeat("](b)", deep), 2},
	} {
		l := inline.Parse(x.s, defs(), nil, api.All)
		if got := deepest(l); got != x.depth {
			t.Errorf("of %.20q: %d deep, want %d", x.s, got, x.depth)
		}
		sound(t, x.s, l)
	}
}

// lies: is what is told a piece of the memory of s?
func lies(told, s string) bool {
	from := uintptr(unsafe.Pointer(unsafe.StringData(s)))
	at := uintptr(unsafe.Pointer(unsafe.StringData(told)))
	return told != "" && from <= at && at < from+uintptr(len(s))
}

// textsOf are all texts of nodes, at any depth.
func textsOf(l []api.Node) []string {
	var all []string
	for _, n := range l {
		all = append(append(all, n.S, n.T), textsOf(n.L)...)
	}
	return all
}

// fresh: has what is told none of the memory of the texts that were handed in?
func fresh(t *testing.T, told []api.Node, given ...string) {
	t.Helper()
	for _, s := range textsOf(told) {
		for _, x := range given {
			if lies(s, x) {
				t.Errorf("%q is not new", s)
			}
		}
	}
}

// spoil lays something else into all of nodes, at any depth, and behind them.
func spoil(l []api.Node) {
	for i := range l {
		spoil(l[i].L)
		l[i] = api.Node{Kind: api.Raw, S: "spoilt"}
	}
	behind := l[len(l):cap(l)]
	for i := range behind {
		behind[i] = api.Node{Kind: api.Raw, S: "spoilt"}
	}
}

// R3: what is handed in is neither changed nor kept, and what is told is new.
func TestAnswersAreNewMemory(t *testing.T) {
	s := strings.Clone("a *b* `c` <ab:c> <b> [x](u 't') ![y][a] [b*] [^n]  \n\\* &amp; ~~d~~ ]")
	l := []api.Ref{{Label: strings.Clone("a"), Dest: strings.Clone("dest"), Title: strings.Clone("title")}, {Label: "b*", Dest: strings.Clone("other")}}
	labels := []string{strings.Clone("n")}
	givenL, givenLabels := slices.Clone(l), slices.Clone(labels)
	first, second := inline.Parse(s, l, labels, api.All), inline.Parse(s, l, labels, api.All)
	fresh(t, first, s, l[0].Label, l[0].Dest, l[0].Title, l[1].Dest, labels[0])
	want := shown(second)
	spoil(first)
	if shown(second) != want || shown(inline.Parse(s, l, labels, api.All)) != want {
		t.Errorf("two answers share memory")
	}
	if !slices.Equal(l, givenL) || !slices.Equal(labels, givenLabels) {
		t.Errorf("%v, %v are made of what was handed in", l, labels)
	}
	clear(l)
	clear(labels)
	if shown(second) != want {
		t.Errorf("%s is told of lists that are no more", shown(second))
	}
}

// Many labels are asked for in another way, and told likewise.
func TestAnswersOfManyLabelsAreNewMemory(t *testing.T) {
	l := []api.Ref{{Label: strings.Clone("a"), Dest: strings.Clone("dest"), Title: strings.Clone("title")}}
	labels := []string{strings.Clone("n")}
	told := inline.Parse(strings.Repeat("[a] [^n] ", 200), l, labels, api.All)
	fresh(t, told, l[0].Label, l[0].Dest, l[0].Title, labels[0])
	if want := strings.TrimSpace(strings.Repeat(`link "dest" T "title"["a"] " " note "n" " " `, 200)); shown(told) != want {
		t.Errorf("of many labels %.200s", shown(told))
	}
}

func TestTidyAndPlainAreNewMemory(t *testing.T) {
	s, title := strings.Clone("abc"), strings.Clone("title")
	l := []api.Node{{Kind: api.Text, S: s, T: title}, {Kind: api.Emph, S: s, T: title, L: []api.Node{{Kind: api.Span, S: s}, {Kind: api.Text, S: s, L: []api.Node{{Kind: api.Raw, T: title}}}}}}
	want := shown(l)
	first, second := inline.Tidy(l), inline.Tidy(l)
	fresh(t, first, s, title)
	spoil(first)
	if shown(second) != want || shown(l) != want {
		t.Errorf("an answer of Tidy is no tree of its own: %s, %s", shown(second), shown(l))
	}
	spoil(l)
	if shown(second) != want {
		t.Errorf("%s is told of a tree that is no more", shown(second))
	}
	// Nor is anything laid behind the end of a list that is handed in.
	roomy := append(make([]api.Node, 0, 8), word("a"), word("b"))
	inline.Tidy(roomy)
	if !tree.Same(roomy[:3][2], api.Node{}) || !equal(roomy, []api.Node{word("a"), word("b")}) {
		t.Errorf("Tidy writes into a list: %s", shown(roomy[:3]))
	}
	if told := inline.Plain([]api.Node{{Kind: api.Text, S: s}}); lies(told, s) {
		t.Errorf("Plain: %q is not new", told)
	}
}

// Nothing is kept: what is told of a text hangs on no text ahead of it.
func TestNothingIsKept(t *testing.T) {
	texts := []string{"", "*", "a*", "*a*", "[", "]", "[x](u)", "[a]", "[^n]", "`", "`a`", "<!--", "<!-- -->", "<ab:c>", "~a~", "\n", "a  \n", "\\"}
	for _, s := range texts {
		want := shown(inline.Parse(s, defs(), notes(), api.All))
		for _, ahead := range texts {
			inline.Parse(ahead, nil, nil, 0)
			inline.Tidy(inline.Parse(ahead, defs(), notes(), api.All))
			isBy(t, s, api.All, want)
			sameParseBy(t, s, nil, nil, 0)
		}
	}
}
