package block_test

import (
	"math"
	"reflect"
	"regexp"
	"slices"
	"strconv"
	"strings"
	"testing"
	"unsafe"

	"incipit/api"
	"incipit/block"
)

const long = 1 << 16

// shortTexts are all of at most so many of the pieces.
func shortTexts(pieces []string, most int) []string {
	texts := []string{""}
	begin := 0
	for range most {
		end := len(texts)
		for _, s := range texts[begin:end] {
			for _, p := range pieces {
				texts = append(texts, s+p)
			}
		}
		begin = end
	}
	return texts
}

var names = map[int]string{api.Quote: "Quote", api.List: "List", api.Item: "Item", api.Code: "Code", api.Html: "Html", api.Para: "Para", api.Head: "Head", api.Rule: "Rule", api.Note: "Note"}

// one is a block without what is in it, as a text; of each field that its kind
// does not have it says so, if it isn't zero.
func one(b block.Block) string {
	var s string
	switch b.Kind {
	case api.List:
		s = string(rune(b.M))
		if b.M == '.' || b.M == ')' {
			s = strconv.Itoa(b.N) + s
			b.N = 0
		}
		if !b.Flag {
			s += " loose"
		}
		b.M, b.Flag = 0, false
	case api.Code:
		if b.T != "" {
			s = " " + b.T + " "
		}
		s += strconv.Quote(b.S)
		b.S, b.T = "", ""
	case api.Html, api.Head:
		s = strconv.Itoa(b.N)
		fallthrough
	case api.Para, api.Note:
		s += strconv.Quote(b.S)
		b.S, b.N = "", 0
	}
	if b.S != "" || b.T != "" || b.N != 0 || b.M != 0 || b.Flag {
		s += "!!!"
	}
	return names[b.Kind] + s
}

// tree are blocks as a text, with their lines or without.
func tree(l []block.Block, lines bool) string {
	var all []string
	for _, b := range l {
		s := one(b)
		if lines {
			s += "@" + strconv.Itoa(b.First) + "-" + strconv.Itoa(b.Last)
		}
		if len(b.L) > 0 {
			s += "(" + tree(b.L, lines) + ")"
		}
		all = append(all, s)
	}
	return strings.Join(all, " ")
}

func told(l []block.Block) string { return tree(l, true) }

func toldRefs(l []api.Ref) string {
	var all []string
	for _, r := range l {
		all = append(all, r.Label+"="+r.Dest+" "+r.Title)
	}
	return strings.Join(all, ", ")
}

// is: is the document, with the bit Footnotes alone, told so?
func is(t *testing.T, doc, want string) {
	t.Helper()
	isTree(t, doc, want, false)
}

// stands: likewise, with the blocks' lines.
func stands(t *testing.T, doc, want string) {
	t.Helper()
	isTree(t, doc, want, true)
}

func isTree(t *testing.T, doc, want string, lines bool) {
	t.Helper()
	l, _ := block.Parse(strings.Split(doc, "\n"), api.Footnotes)
	if got := tree(l, lines); got != want {
		t.Errorf("of %q:\n%s, want\n%s", doc, got, want)
	}
	sameDoc(t, doc)
}

// defines: likewise, with the definitions.
func defines(t *testing.T, doc, want, definitions string) {
	t.Helper()
	is(t, doc, want)
	if _, l := block.Parse(strings.Split(doc, "\n"), api.Footnotes); toldRefs(l) != definitions {
		t.Errorf("of %q: %s, want %s", doc, toldRefs(l), definitions)
	}
}

// P11.1

func TestColumns(t *testing.T) {
	is(t, "\ta", `Code"a\n"`)
	is(t, " \ta", `Code"a\n"`)
	is(t, "   \ta", `Code"a\n"`)
	is(t, "\t\ta", `Code"\ta\n"`)
	is(t, "  \t  a", `Code"  a\n"`)
	is(t, "   a", `Para"a"`)
	// Behind a sign the columns go on.
	is(t, ">\ta", `Quote(Para"a")`)
	is(t, ">\t\ta", `Quote(Code"  a\n")`)
	is(t, ">\t\t\ta", `Quote(Code"  \ta\n")`)
	is(t, " >\t  \ta", `Quote(Code" a\n")`)
	is(t, ">    \ta", `Quote(Code"  a\n")`)
	is(t, "> \ta", `Quote(Para"a")`)
	is(t, "-\ta\n\n   b", `List-(Item(Para"a")) Para"b"`)
	is(t, "-\ta\n\n    b", `List- loose(Item(Para"a" Para"b"))`)
	is(t, "-\t\ta", `List-(Item(Code"  a\n"))`)
	is(t, "- \t\ta", `List-(Item(Code"  a\n"))`)
	is(t, " -\t\ta", `List-(Item(Code" a\n"))`)
	is(t, "  -\ta\n\n\tb", `List- loose(Item(Para"a" Para"b"))`)
	is(t, "10.\ta\n\n\tb", `List10. loose(Item(Para"a" Para"b"))`)
	is(t, "100.\ta\n\n       b", `List100.(Item(Para"a")) Code"   b\n"`)
	is(t, "100.\ta\n\n\t\tb", `List100. loose(Item(Para"a" Para"b"))`)
	is(t, "> -\ta\n>\n>  b", `Quote(List-(Item(Para"a")) Para"b")`)
	is(t, "> -\ta\n>\n> \tb", `Quote(List- loose(Item(Para"a" Para"b")))`)
	is(t, "> -\ta\n>\n>\t  b", `Quote(List- loose(Item(Para"a" Para"b")))`)
	is(t, ">>\ta", `Quote(Quote(Para"a"))`)
	is(t, ">>\t\ta", `Quote(Quote(Code" a\n"))`)
	is(t, ">>\t\t a", `Quote(Quote(Code"  a\n"))`)
	// Each line begins at the column 0.
	is(t, "- a\n\n\tb\n\tc", `List- loose(Item(Para"a" Para"b\nc"))`)
	is(t, "> a\n\n\tb", `Quote(Para"a") Code"b\n"`)
	// A byte that is passed over is a column: of a label, too.
	is(t, "[^\u00e9]:-\ta\n\n      b", `Note"é"(List- loose(Item(Para"a" Para"b")))`)
	is(t, "[^e]:-\ta\n\n      b", `Note"e"(List-(Item(Para"a")) Para"b")`)
	is(t, "[^e]:-\ta\n\n       b", `Note"e"(List- loose(Item(Para"a" Para"b")))`)
	is(t, "[^n]:\t>\ta", `Note"n"(Quote(Para"a"))`)
	is(t, "[^n]: >\t\ta", `Note"n"(Quote(Code"a\n"))`)
}

func TestNoLines(t *testing.T) {
	for _, lines := range [][]string{nil, {}, {""}, {"", " ", "\t", ""}, {"\v"}, {"\f \r", " \n"}} {
		if l, defs := block.Parse(lines, api.All); len(l) > 0 || len(defs) > 0 {
			t.Errorf("of %q: %s, %s", lines, told(l), toldRefs(defs))
		}
	}
}

// P11.2

func TestQuotesThatAreMet(t *testing.T) {
	is(t, "> a\n> b", `Quote(Para"a\nb")`)
	is(t, "> a\n>b", `Quote(Para"a\nb")`)
	is(t, ">     a\n   >     b\n>    c", `Quote(Code"a\nb\n" Para"c")`)
	is(t, "> a\n    > b", `Quote(Para"a\n> b")`)
	is(t, "> # a\n    > b", `Quote(Head1"a") Code"> b\n"`)
	is(t, "> # a\nb", `Quote(Head1"a") Para"b"`)
	is(t, "> a\n\n> b", `Quote(Para"a") Quote(Para"b")`)
	is(t, "> a\n>\n> b", `Quote(Para"a" Para"b")`)
	is(t, "> > # a\n> b", `Quote(Quote(Head1"a") Para"b")`)
	is(t, "> > # a\n>> b", `Quote(Quote(Head1"a" Para"b"))`)
	is(t, ">\n> a", `Quote(Para"a")`)
	is(t, ">", `Quote`)
	is(t, "> ```\n>   a\n>b\n>\tc", `Quote(Code"  a\nb\n  c\n")`)
}

func TestItemsThatAreMet(t *testing.T) {
	is(t, "- # a\n  b", `List-(Item(Head1"a" Para"b"))`)
	is(t, "- # a\n b", `List-(Item(Head1"a")) Para"b"`)
	is(t, "- # a\n\n  b", `List- loose(Item(Head1"a" Para"b"))`)
	is(t, "- # a\n\n b", `List-(Item(Head1"a")) Para"b"`)
	is(t, "-   # a\n   b", `List-(Item(Head1"a")) Para"b"`)
	is(t, "-   # a\n    b", `List-(Item(Head1"a" Para"b"))`)
	is(t, "  - # a\n   b", `List-(Item(Head1"a")) Para"b"`)
	is(t, "  - # a\n    b", `List-(Item(Head1"a" Para"b"))`)
	is(t, "12) # a\n   b", `List12)(Item(Head1"a")) Para"b"`)
	is(t, "12) # a\n    b", `List12)(Item(Head1"a" Para"b"))`)
	// Without a child an Item does not go on behind a blank line.
	is(t, "-\n  a", `List-(Item(Para"a"))`)
	is(t, "-\n\n  a", `List-(Item) Para"a"`)
	is(t, "-\n   \n  a", `List-(Item) Para"a"`)
	is(t, "- \n\n- a", `List- loose(Item Item(Para"a"))`)
	is(t, "-\n a", `List-(Item) Para"a"`)
	is(t, "-   \n  a\n\n  b", `List- loose(Item(Para"a" Para"b"))`)
	is(t, "- [a]: /u\n\n  b", `List- loose(Item(Para"b"))`)
	is(t, "- \v\n\n  b", `List- loose(Item(Para"b"))`)
	is(t, ">-\n>\n>  a", `Quote(List-(Item) Para"a")`)
	// Of a blank line as many columns are skipped as there are.
	is(t, "- ```\n\n   \n    a", `List-(Item(Code"\n \n  a\n"))`)
	is(t, "-   ```\n  \n     \n    a", `List-(Item(Code"\n \na\n"))`)
	is(t, "-     a\n\n        \n      b", `List-(Item(Code"a\n\n  \nb\n"))`)
	is(t, "- <!--\n\n   \n  a", `List-(Item(Html2"<!--\n\n \na\n"))`)
	// Behind a List that is met and has no Item that is, too.
	is(t, "- a\n\n\n\n- b", `List- loose(Item(Para"a") Item(Para"b"))`)
	is(t, "- a\n\nb\n\n- c", `List-(Item(Para"a")) Para"b" List-(Item(Para"c"))`)
	is(t, "- - a\n\n\n    b", `List-(Item(List- loose(Item(Para"a" Para"b"))))`)
	is(t, "- - a\n\n\n  b", `List- loose(Item(List-(Item(Para"a")) Para"b"))`)
	is(t, "- - # a\n   b", `List-(Item(List-(Item(Head1"a")) Para"b"))`)
}

func TestNotesThatAreMet(t *testing.T) {
	is(t, "[^n]: # a\n    b", `Note"n"(Head1"a" Para"b")`)
	is(t, "[^n]: # a\n   b", `Note"n"(Head1"a") Para"b"`)
	is(t, "[^n]: # a\n\tb\n\n     c", `Note"n"(Head1"a" Para"b" Para"c")`)
	is(t, "[^n]: # a\n        b", `Note"n"(Head1"a" Code"b\n")`)
	is(t, "[^n]: ```\n  \n     \n    a", `Note"n"(Code"\n \na\n")`)
	is(t, "[^n]:\n\n\n    a", `Note"n"(Para"a")`)
	is(t, "[^n]:\na", `Note"n" Para"a"`)
	is(t, "- [^n]: # a\n      b\n  # c", `List-(Item(Note"n"(Head1"a" Para"b") Head1"c"))`)
}

// P11.3

func TestFencesThatAreOpen(t *testing.T) {
	is(t, "```\na\n```\nb", `Code"a\n" Para"b"`)
	is(t, "```\n```", `Code""`)
	is(t, "```\n# a\n- b\n> c\n\n<div>\n===", `Code"# a\n- b\n> c\n\n<div>\n===\n"`)
	is(t, "~~~\n```\n~~~~ \t\na", `Code"`+"```"+`\n" Para"a"`)
	is(t, "````\n```\n   `````\na", `Code"`+"```"+`\n" Para"a"`)
	is(t, "```\n    ```\na", `Code"    `+"```"+`\na\n"`)
	is(t, "```\n``` a\n``", `Code"`+"``` a"+`\n`+"``"+`\n"`)
	is(t, "```\n\n  \n\n", `Code"\n  \n\n\n"`)
	is(t, "```\na\n\n```\n\nb", `Code"a\n\n" Para"b"`)
	// An indent, at most the fence's, is left out.
	is(t, "   ```\n    a\n  b\n   c\nd\n   \n     ", `Code" a\nb\nc\nd\n\n  \n"`)
	is(t, "  ```\n\ta\n \tb", `Code"  a\n  b\n"`)
	is(t, " ```\n  ```", `Code""`)
	is(t, "- ```\n  a\n  ```\n  b", `List-(Item(Code"a\n" Para"b"))`)
	is(t, "-   ```\n     a\n       ```\n    b", `List-(Item(Code" a\n" Para"b"))`)
	is(t, "- ```\n      ```\n  ```\n  b", "List-(Item(Code\"    ```\\n\" Para\"b\"))")
	// Unless all are met the line is none of it.
	is(t, "- ```\na", `List-(Item(Code"")) Para"a"`)
	is(t, "> ```\na", `Quote(Code"") Para"a"`)
	is(t, "> ```\n\n> a", `Quote(Code"") Quote(Para"a")`)
	is(t, "> ```\n```\na", `Quote(Code"") Code"a\n"`)
	is(t, "> ```\n    a", `Quote(Code"") Code"a\n"`)
	is(t, "- ```\n- ```\n  a", `List-(Item(Code"") Item(Code"a\n"))`)
	is(t, "- ```\n\n      a\n  b\n c", `List-(Item(Code"\n    a\nb\n")) Para"c"`)
}

func TestHtmlThatIsOpen(t *testing.T) {
	is(t, "<pre>\na\n\n  b\n</pre> c\nd", `Html1"<pre>\na\n\n  b\n</pre> c\n" Para"d"`)
	is(t, "<!-- a\n\n- b\n-->\nc", `Html2"<!-- a\n\n- b\n-->\n" Para"c"`)
	is(t, "<?\n>\n?>\na", `Html3"<?\n>\n?>\n" Para"a"`)
	is(t, "<!a\n\nb>\nc", `Html4"<!a\n\nb>\n" Para"c"`)
	is(t, "<![CDATA[\n\n]]>\na", `Html5"<![CDATA[\n\n]]>\n" Para"a"`)
	is(t, "<div>\n  a\n# b\n</div>\n\nc", `Html6"<div>\n  a\n# b\n</div>\n" Para"c"`)
	is(t, "<b>\na\n \t\n    c", `Html7"<b>\na\n" Code"c\n"`)
	is(t, "<div>\n\v\n\na", `Html6"<div>\n\v\n" Para"a"`)
	is(t, "<!--\n\n\n", `Html2"<!--\n\n\n\n"`)
	is(t, "</pre>\n\na", `Para"</pre>" Para"a"`)
	// What ends one kind does not end others.
	is(t, "<!--\n?>\n</pre>\n>\n]]>\n\n --> a\nb", `Html2"<!--\n?>\n</pre>\n>\n]]>\n\n --> a\n" Para"b"`)
	is(t, "<pre>\n-->\n\n</style>\na", `Html1"<pre>\n-->\n\n</style>\n" Para"a"`)
	is(t, "<div>\n-->\n</pre>\n</div>\na", `Html6"<div>\n-->\n</pre>\n</div>\na\n"`)
	// In containers.
	is(t, "- <div>\n    a\n\n  b", `List- loose(Item(Html6"<div>\n  a\n" Para"b"))`)
	is(t, "-\t<pre>\n\n\t\ta\n     </pre>\n    b", `List-(Item(Html1"<pre>\n\n\ta\n </pre>\n" Para"b"))`)
	is(t, ">\t<pre>\n>\ta\n> \ta", `Quote(Html1"  <pre>\n  a\n\ta\n")`)
	is(t, "> <div>\n>\n> a", `Quote(Html6"<div>\n" Para"a")`)
	is(t, "> <div>\na", `Quote(Html6"<div>\n") Para"a"`)
	is(t, "> <!--\n-->", `Quote(Html2"<!--\n") Para"-->"`)
	is(t, "- <!--\n-->\n  a", `List-(Item(Html2"<!--\n")) Para"-->\na"`)
	is(t, "> <!--\n\n> -->", `Quote(Html2"<!--\n") Quote(Para"-->")`)
}

// P11.4

func TestCodeBegins(t *testing.T) {
	is(t, "    a\n    b", `Code"a\nb\n"`)
	is(t, "a\n    b", `Para"a\nb"`)
	is(t, "a\n\n    b", `Para"a" Code"b\n"`)
	is(t, "    a\nb\n    c", `Code"a\n" Para"b\nc"`)
	is(t, "# a\n    b\n# c", `Head1"a" Code"b\n" Head1"c"`)
	is(t, "    > a\n    - b\n    # c\n    ```\n    ---\n    <div>", "Code\"> a\\n- b\\n# c\\n```\\n---\\n<div>\\n\"")
	is(t, "> a\n     b", `Quote(Para"a\nb")`)
	is(t, "> a\n>     b", `Quote(Para"a\nb")`)
	is(t, ">     a\n    b", `Quote(Code"a\n") Code"b\n"`)
	is(t, ">     a\n>     b", `Quote(Code"a\nb\n")`)
	is(t, "> ```\n    b", `Quote(Code"") Code"b\n"`)
	is(t, "-     a\n      b", `List-(Item(Code"a\nb\n"))`)
	is(t, "-     a\n    b", `List-(Item(Code"a\n" Para"b"))`)
	is(t, "-     a\n-     b", `List-(Item(Code"a\n") Item(Code"b\n"))`)
	is(t, "- # a\n      b", `List-(Item(Head1"a" Code"b\n"))`)
	is(t, "    a\n>     b", `Code"a\n" Quote(Code"b\n")`)
	is(t, "    \v", `Code"\v\n"`)
	is(t, "    [^n]: a", `Code"[^n]: a\n"`)
}

func TestQuoteBegins(t *testing.T) {
	is(t, ">a", `Quote(Para"a")`)
	is(t, "   > a", `Quote(Para"a")`)
	is(t, ">  a", `Quote(Para"a")`)
	is(t, ">     a", `Quote(Code"a\n")`)
	is(t, ">      a", `Quote(Code" a\n")`)
	is(t, "a\n> b", `Para"a" Quote(Para"b")`)
	is(t, ">>> a", `Quote(Quote(Quote(Para"a")))`)
	is(t, "> > # a\n>>> b", `Quote(Quote(Head1"a" Quote(Para"b")))`)
	is(t, "- > a\n- > b", `List-(Item(Quote(Para"a")) Item(Quote(Para"b")))`)
	is(t, "- a\n> b", `List-(Item(Para"a")) Quote(Para"b")`)
	is(t, "\u00a0> a", `Para"\u00a0> a"`)
	is(t, "\\> a", `Para"\\> a"`)
	is(t, "> # a\n> ---\n> ```\n> ```", `Quote(Head1"a" Rule Code"")`)
}

func TestHeadBegins(t *testing.T) {
	is(t, "# a", `Head1"a"`)
	is(t, "###### a ##", `Head6"a"`)
	is(t, "####### a", `Para"####### a"`)
	is(t, "#a", `Para"#a"`)
	is(t, "#", `Head1""`)
	is(t, "   ## a\n    # b", `Head2"a" Code"# b\n"`)
	is(t, "a\n# b\nc", `Para"a" Head1"b" Para"c"`)
	is(t, "# a\n===\n# b\n---", `Head1"a" Para"===" Head1"b" Rule`)
	is(t, "> a\n# b", `Quote(Para"a") Head1"b"`)
	is(t, "- # a\n# b", `List-(Item(Head1"a")) Head1"b"`)
	// Without white at its end, and with white at its beginning.
	is(t, "# a\v\f", `Head1"a"`)
	is(t, "# \va", `Head1"\va"`)
	is(t, "# \v", `Head1""`)
	defines(t, "# [a]: /u", `Head1"[a]: /u"`, "")
}

func TestFenceBegins(t *testing.T) {
	is(t, "``` go", `Code go ""`)
	is(t, "~~~ a `b` ~", "Code a `b` ~ \"\"")
	is(t, "``` a`", "Para\"``` a`\"")
	is(t, "``", "Para\"``\"")
	is(t, "``` \\*&amp;\\a&x;", `Code *&\a&x; ""`)
	is(t, "a\n```\nb", `Para"a" Code"b\n"`)
	is(t, "a\n~~~\nb\n~~~\nc", `Para"a" Code"b\n" Para"c"`)
	is(t, "    ```", "Code\"```\\n\"")
	is(t, "> a\n```", `Quote(Para"a") Code""`)
	is(t, "- ~~~~ x\n  ~~~\n  ~~~~", `List-(Item(Code x "~~~\n"))`)
}

func TestHtmlBegins(t *testing.T) {
	is(t, "<script>\n\na", `Html1"<script>\n\na\n"`)
	is(t, "<pre>a</pre>\nb", `Html1"<pre>a</pre>\n" Para"b"`)
	is(t, "<!-- a -->\nb", `Html2"<!-- a -->\n" Para"b"`)
	is(t, "<?a?> b\nc", `Html3"<?a?> b\n" Para"c"`)
	is(t, "<!A b>\nc", `Html4"<!A b>\n" Para"c"`)
	is(t, "<![CDATA[a]]>\nb", `Html5"<![CDATA[a]]>\n" Para"b"`)
	is(t, "</td >\na", `Html6"</td >\na\n"`)
	is(t, "<a b='c'>\nd", `Html7"<a b='c'>\nd\n"`)
	is(t, "<a> b", `Para"<a> b"`)
	is(t, "   <div>\na", `Html6"   <div>\na\n"`)
	is(t, "    <div>", `Code"<div>\n"`)
	is(t, ">    <div>", `Quote(Html6"   <div>\n")`)
	// The kind 7 does not begin where a Para goes on, others do.
	is(t, "a\n<b>", `Para"a\n<b>"`)
	is(t, "> a\n<b>", `Quote(Para"a\n<b>")`)
	is(t, "> a\n> <b>", `Quote(Para"a\n<b>")`)
	is(t, "> a\n- <b>", `Quote(Para"a") List-(Item(Html7"<b>\n"))`)
	is(t, "a\n> <b>", `Para"a" Quote(Html7"<b>\n")`)
	is(t, "# a\n<b>", `Head1"a" Html7"<b>\n"`)
	for _, s := range []string{"1<pre>", "2<!--", "3<?", "4<!a", "5<![CDATA[", "6</p>"} {
		is(t, "a\n"+s[1:], `Para"a" Html`+s[:1]+`"`+s[1:]+`\n"`)
		is(t, "> a\n"+s[1:], `Quote(Para"a") Html`+s[:1]+`"`+s[1:]+`\n"`)
	}
}

func TestParaBecomesHead(t *testing.T) {
	is(t, "a\n===", `Head1"a"`)
	is(t, "a\nb\n-", `Head2"a\nb"`)
	is(t, "a\n   ---  ", `Head2"a"`)
	is(t, "a\n    ---", `Para"a\n---"`)
	is(t, "  a  \n = ", `Head1"a"`)
	is(t, "a\n===\n===", `Head1"a" Para"==="`)
	is(t, "a\n---\n---", `Head2"a" Rule`)
	is(t, "===", `Para"==="`)
	is(t, "===\n===", `Head1"==="`)
	is(t, "a\n\n===", `Para"a" Para"==="`)
	is(t, "# a\n===", `Head1"a" Para"==="`)
	is(t, "a\n- -", `Para"a" List-(Item(List-(Item)))`)
	is(t, "a\n= =", `Para"a\n= ="`)
	is(t, "a\n-\n-", `Head2"a" List-(Item)`)
	// Only if all are met.
	is(t, "> a\n===", `Quote(Para"a\n===")`)
	is(t, "> a\n---", `Quote(Para"a") Rule`)
	is(t, "> a\n> ---", `Quote(Head2"a")`)
	is(t, "> a\n--", `Quote(Para"a\n--")`)
	is(t, "- a\n---", `List-(Item(Para"a")) Rule`)
	is(t, "- a\n  ---", `List-(Item(Head2"a"))`)
	is(t, "- a\n===", `List-(Item(Para"a\n==="))`)
	is(t, "a\n> ===", `Para"a" Quote(Para"===")`)
	// Only if something is left behind the definitions.
	defines(t, "[a]: /u\n===", `Para"==="`, "a=/u ")
	defines(t, "[a]: /u\n---", `Rule`, "a=/u ")
	defines(t, "[a]: /u\n-", `Para"-"`, "a=/u ")
	defines(t, "[a]: /u\n--\n--", `Head2"--"`, "a=/u ")
	defines(t, "[a]: /u\n===\n===", `Head1"==="`, "a=/u ")
	defines(t, "[a]: /u\nb\n===", `Head1"b"`, "a=/u ")
	defines(t, "[a]: /u\n't\n===", `Head1"'t"`, "a=/u ")
	defines(t, "[a]:\n===", `Head1"[a]:"`, "")
	defines(t, "[a]: /u \v\n===", `Para"[a]: /u \v\n==="`, "")
	is(t, "\v\n===", `Para"\n==="`)
	is(t, "\va\n===", `Head1"a"`)
}

func TestRuleBegins(t *testing.T) {
	is(t, "***\n---\n___", `Rule Rule Rule`)
	is(t, "  * * *  ", `Rule`)
	is(t, "- - -\n-\t-\t-", `Rule Rule`)
	is(t, "--", `Para"--"`)
	is(t, "+++", `Para"+++"`)
	is(t, "a\n***\nb", `Para"a" Rule Para"b"`)
	is(t, "a\n- - -", `Para"a" Rule`)
	is(t, "- a\n***\n- b", `List-(Item(Para"a")) Rule List-(Item(Para"b"))`)
	is(t, "- a\n- - -\n- b", `List-(Item(Para"a")) Rule List-(Item(Para"b"))`)
	is(t, "- ***", `List-(Item(Rule))`)
	is(t, "- - - a", `List-(Item(List-(Item(List-(Item(Para"a"))))))`)
	is(t, "- * * *", `List-(Item(Rule))`)
	is(t, "* - - -\t ", `List*(Item(Rule))`)
	is(t, "- a - - -", `List-(Item(Para"a - - -"))`)
	is(t, "- > - - -", `List-(Item(Quote(Rule)))`)
	is(t, "1. ***\n2. _ _ _", `List1.(Item(Rule) Item(Rule))`)
	is(t, "* * a *", `List*(Item(List*(Item(Para"a *"))))`)
	is(t, "> ---\n***", `Quote(Rule) Rule`)
	is(t, "- - --", `Rule`)
	is(t, "+ - --", `List+(Item(Rule))`)
	is(t, "+ - -", `List+(Item(List-(Item(List-(Item)))))`)
}

func TestNoteBegins(t *testing.T) {
	is(t, "[^n]: a", `Note"n"(Para"a")`)
	is(t, "[^n]:a", `Note"n"(Para"a")`)
	defines(t, "[^A b]: /u", ``, "^a b=/u ")
	defines(t, "   [^AB]: /u", `Note"AB"(Para"/u")`, "")
	is(t, "    [^n]: a", `Code"[^n]: a\n"`)
	is(t, "[^n]:         a", `Note"n"(Para"a")`)
	is(t, "[^n]: \t\ta\n    b", `Note"n"(Para"a\nb")`)
	is(t, "[^n]:", `Note"n"`)
	is(t, "[^n]: [^m]: a\n        b\n    c\nd", `Note"n"(Note"m"(Para"a\nb\nc\nd"))`)
	is(t, "[^n]: [^m]: # a\n        b\n\n    c", `Note"n"(Note"m"(Head1"a" Para"b") Para"c")`)
	is(t, "[^n]: - a\n      b", `Note"n"(List-(Item(Para"a\nb")))`)
	is(t, "> [^n]: a", `Quote(Note"n"(Para"a"))`)
	is(t, "[^n]: a\n[^m]: b", `Note"n"(Para"a\n[^m]: b")`)
	is(t, "[^n]: # a\n[^m]: b", `Note"n"(Head1"a") Note"m"(Para"b")`)
	is(t, "[^n]: a\n\n[^n]: b", `Note"n"(Para"a") Note"n"(Para"b")`)
	// Not where a Para goes on, even if not all are met.
	is(t, "a\n[^n]: b", `Para"a\n[^n]: b"`)
	is(t, "> a\n[^n]: b", `Quote(Para"a\n[^n]: b")`)
	is(t, "- a\n[^n]: b", `List-(Item(Para"a\n[^n]: b"))`)
	is(t, "- # a\n[^n]: b", `List-(Item(Head1"a")) Note"n"(Para"b")`)
	is(t, "a\n> [^n]: b", `Para"a" Quote(Note"n"(Para"b"))`)
	defines(t, "[^]: /u", ``, "^=/u ")
	is(t, "[^n] : a", `Para"[^n] : a"`)
}

// Of the mask the bit Footnotes alone says something here.
func TestMasks(t *testing.T) {
	lines := []string{"[^n]: /u", "", "    a", "- [ ] b", "| c |", "|-|", "~~www.d.e~~", "", "<title>", "", "# f"}
	const without = `Code"a\n" List-(Item(Para"[ ] b\n| c |\n|-|\n~~www.d.e~~")) Html6"<title>\n" Head1"f"`
	const with = `Note"n"(Para"/u" Code"a\n")`
	for mask := -300; mask < 600; mask++ {
		l, defs := block.Parse(lines, mask)
		got := tree(l, false) + " " + toldRefs(defs)
		want := without + " ^n=/u "
		if mask&32 != 0 {
			want = strings.Replace(without, `Code"a\n"`, `Note"n"(Para"/u" Para"a")`, 1) + " "
		}
		if got != want {
			t.Errorf("with %d: %s, want %s", mask, got, want)
		}
	}
	for _, mask := range []int{math.MinInt, math.MaxInt, math.MinInt32, math.MaxInt32} {
		sameParse(t, lines, mask)
	}
}

func TestItemBegins(t *testing.T) {
	is(t, "- a", `List-(Item(Para"a"))`)
	is(t, "+ a", `List+(Item(Para"a"))`)
	is(t, "*\ta", `List*(Item(Para"a"))`)
	is(t, "-a", `Para"-a"`)
	is(t, "1. a", `List1.(Item(Para"a"))`)
	is(t, "007) a", `List7)(Item(Para"a"))`)
	is(t, "0. a", `List0.(Item(Para"a"))`)
	is(t, "123456789. a", `List123456789.(Item(Para"a"))`)
	is(t, "1234567890. a", `Para"1234567890. a"`)
	is(t, "1.a", `Para"1.a"`)
	is(t, "-1. a", `Para"-1. a"`)
	is(t, "   - a\n    - b", `List-(Item(Para"a\n- b"))`)
	is(t, "    - a", `Code"- a\n"`)
	// What is needed.
	for _, x := range []struct {
		begin string
		need  int
	}{{"- ", 2}, {"-  ", 3}, {"-   ", 4}, {"-    ", 5}, {" - ", 3}, {"   -    ", 8}, {"1. ", 3}, {"  10)  ", 7}, {"123456789.    ", 14}, {"-\t", 4}, {" -\t", 4}, {"  1.\t", 8}, {"   -\t", 8}} {
		list := "List" + strings.Trim(x.begin, " \t")
		is(t, x.begin+"# a\n"+strings.Repeat(" ", x.need)+"b", list+`(Item(Head1"a" Para"b"))`)
		is(t, x.begin+"# a\n"+strings.Repeat(" ", x.need-1)+"b", list+`(Item(Head1"a")) `+outside(x.need-1))
	}
	// Behind five columns and more it is a Code, and one of them is needed.
	is(t, "-     a\n  b", `List-(Item(Code"a\n" Para"b"))`)
	is(t, "-      a\n b", `List-(Item(Code" a\n")) Para"b"`)
	is(t, "1.     a\n   b", `List1.(Item(Code"a\n" Para"b"))`)
	is(t, "-      \n   a", `List-(Item(Para"a"))`)
	is(t, "-\n   a", `List-(Item(Para"a"))`)
	is(t, "-\n      a", `List-(Item(Code"a\n"))`)
	is(t, "  1.\n    a", `List1.(Item) Code"a\n"`)
	is(t, "  1.\n     a", `List1.(Item(Para"a"))`)
	is(t, "-   \n  ```", `List-(Item(Code""))`)
	is(t, "-     - a", `List-(Item(Code"- a\n"))`)
	is(t, "- - a", `List-(Item(List-(Item(Para"a"))))`)
	is(t, "- 1. > a", `List-(Item(List1.(Item(Quote(Para"a")))))`)
	is(t, "- -", `List-(Item(List-(Item)))`)
	is(t, "- \v", `List-(Item)`)
}

// outside is a line of so many columns and "b", in no container.
func outside(columns int) string {
	if columns < 4 {
		return `Para"b"`
	}
	return `Code"` + strings.Repeat(" ", columns-4) + `b\n"`
}

func TestItemsOfOneList(t *testing.T) {
	is(t, "- a\n- b\n- c", `List-(Item(Para"a") Item(Para"b") Item(Para"c"))`)
	is(t, "- a\n+ b\n* c", `List-(Item(Para"a")) List+(Item(Para"b")) List*(Item(Para"c"))`)
	is(t, "1. a\n5. b\n1. c", `List1.(Item(Para"a") Item(Para"b") Item(Para"c"))`)
	is(t, "2) a\n3. b\n4) c", `List2)(Item(Para"a")) List3.(Item(Para"b")) List4)(Item(Para"c"))`)
	is(t, "1. a\n- b", `List1.(Item(Para"a")) List-(Item(Para"b"))`)
	is(t, "- a\n - b\n  - c\n   - d\n    - e", `List-(Item(Para"a") Item(Para"b") Item(Para"c") Item(Para"d\n- e"))`)
	is(t, "- a\n  - b\n    - c\n  - d\n- e", `List-(Item(Para"a" List-(Item(Para"b" List-(Item(Para"c"))) Item(Para"d"))) Item(Para"e"))`)
	is(t, "- a\n  + b\n  - c", `List-(Item(Para"a" List+(Item(Para"b")) List-(Item(Para"c"))))`)
	is(t, "-\n-\n- a", `List-(Item Item Item(Para"a"))`)
	is(t, "- a\n\n# b\n- c", `List-(Item(Para"a")) Head1"b" List-(Item(Para"c"))`)
	is(t, "> - a\n- b", `Quote(List-(Item(Para"a"))) List-(Item(Para"b"))`)
	is(t, "> - a\n> - b", `Quote(List-(Item(Para"a") Item(Para"b")))`)
	is(t, "> - a\n\n> - b", `Quote(List-(Item(Para"a"))) Quote(List-(Item(Para"b")))`)
	is(t, "- a\n    - b", `List-(Item(Para"a" List-(Item(Para"b"))))`)
	is(t, "1. a\n  2. b\n   3. c", `List1.(Item(Para"a") Item(Para"b") Item(Para"c"))`)
	is(t, "- a\n- b\n\n      c", `List- loose(Item(Para"a") Item(Para"b" Code"c\n"))`)
}

// An Item begins where a Para goes on only if something stands behind its sign,
// and of numbers only 1; but where not all are met each one does.
func TestItemsBehindParas(t *testing.T) {
	is(t, "a\n- b", `Para"a" List-(Item(Para"b"))`)
	is(t, "a\n1. b", `Para"a" List1.(Item(Para"b"))`)
	is(t, "a\n01) b", `Para"a" List1)(Item(Para"b"))`)
	is(t, "a\n2. b", `Para"a\n2. b"`)
	is(t, "a\n0. b", `Para"a\n0. b"`)
	is(t, "a\n11. b", `Para"a\n11. b"`)
	is(t, "a\n*", `Para"a\n*"`)
	is(t, "a\n+ \t", `Para"a\n+"`)
	is(t, "a\n1.", `Para"a\n1."`)
	is(t, "a\n* \v", `Para"a" List*(Item)`)
	is(t, "# a\n2. b", `Head1"a" List2.(Item(Para"b"))`)
	is(t, "# a\n*", `Head1"a" List*(Item)`)
	is(t, "> a\n2. b", `Quote(Para"a") List2.(Item(Para"b"))`)
	is(t, "> a\n*", `Quote(Para"a") List*(Item)`)
	is(t, "> a\n> 2. b\n> *", `Quote(Para"a\n2. b\n*")`)
	is(t, "1. a\n2. b\n3.", `List1.(Item(Para"a") Item(Para"b") Item)`)
	is(t, "- a\n  2. b\n  +", `List-(Item(Para"a\n2. b\n+"))`)
	is(t, "- a\n -\n- b", `List-(Item(Para"a") Item Item(Para"b"))`)
	is(t, "a\n- 2. b", `Para"a" List-(Item(List2.(Item(Para"b"))))`)
	is(t, "a\n> *", `Para"a" Quote(List*(Item))`)
}

// What begins closes what is open behind the last container that was met.
func TestWhatBeginsCloses(t *testing.T) {
	is(t, "> a\n>\n> > b\n> c\n>\n> d", `Quote(Para"a" Quote(Para"b\nc") Para"d")`)
	is(t, "- > # a\n  ```\n  b", `List-(Item(Quote(Head1"a") Code"b\n"))`)
	is(t, "- # a\n\n# b\n- c\n\n  # d", `List-(Item(Head1"a")) Head1"b" List- loose(Item(Para"c" Head1"d"))`)
	is(t, "- # a\n[^n]: b", `List-(Item(Head1"a")) Note"n"(Para"b")`)
	is(t, "- # a\n<div>", `List-(Item(Head1"a")) Html6"<div>\n"`)
	is(t, "- - # a\n  ***\n  b", `List-(Item(List-(Item(Head1"a")) Rule Para"b"))`)
	is(t, "<div>\n\n- a", `Html6"<div>\n" List-(Item(Para"a"))`)
	is(t, "    a\n# b\n    c", `Code"a\n" Head1"b" Code"c\n"`)
	is(t, "> ***\n>\n***\n>", `Quote(Rule) Rule Quote`)
}

// P11.5

func TestBlankLines(t *testing.T) {
	is(t, "a\n\nb", `Para"a" Para"b"`)
	is(t, "a\n \t\nb", `Para"a" Para"b"`)
	is(t, "> a\n\nb", `Quote(Para"a") Para"b"`)
	is(t, "> a\n>\nb", `Quote(Para"a") Para"b"`)
	is(t, "> a\n>  \t\n> b", `Quote(Para"a" Para"b")`)
	is(t, "- a\n\nb", `List-(Item(Para"a")) Para"b"`)
	is(t, "- > a\n\n  b", `List- loose(Item(Quote(Para"a") Para"b"))`)
	is(t, "- a\n\n> b", `List-(Item(Para"a")) Quote(Para"b")`)
	// Lines of a Code without fences.
	is(t, "    a\n\n  \n      \n    b\n\n", `Code"a\n\n\n  \nb\n"`)
	is(t, "    a\n\n\t\tb", `Code"a\n\n\tb\n"`)
	is(t, "    a\n \t  \n    b", `Code"a\n  \nb\n"`)
	is(t, "    a\n\nb", `Code"a\n" Para"b"`)
	is(t, "-     a\n\n\n      b", `List-(Item(Code"a\n\n\nb\n"))`)
	is(t, ">     a\n>\n>     b", `Quote(Code"a\n\nb\n")`)
	is(t, ">     a\n\n>     b", `Quote(Code"a\n") Quote(Code"b\n")`)
	is(t, ">     a\n\n    b", `Quote(Code"a\n") Code"b\n"`)
	is(t, "    a\n> \n    b", `Code"a\n" Quote Code"b\n"`)
	is(t, "    a\n-\n      b", `Code"a\n" List-(Item(Code"b\n"))`)
}

func TestParasThatGoOn(t *testing.T) {
	is(t, "a\nb\n   c \n\t\td  ", `Para"a\nb\nc \nd"`)
	is(t, "> a\nb", `Quote(Para"a\nb")`)
	is(t, "> > a\n> b\nc", `Quote(Quote(Para"a\nb\nc"))`)
	is(t, "> > a\nb\n> > c\n> d", `Quote(Quote(Para"a\nb\nc\nd"))`)
	is(t, "- a\nb\n  c", `List-(Item(Para"a\nb\nc"))`)
	is(t, "- a\nb\n- c", `List-(Item(Para"a\nb") Item(Para"c"))`)
	is(t, "> - a\nb\n> c", `Quote(List-(Item(Para"a\nb\nc")))`)
	is(t, "> - a\nb\n>\n>   c", `Quote(List- loose(Item(Para"a\nb" Para"c")))`)
	is(t, "[^n]: a\nb\n    c", `Note"n"(Para"a\nb\nc")`)
	is(t, "> a\n\nb", `Quote(Para"a") Para"b"`)
	is(t, "> # a\nb", `Quote(Head1"a") Para"b"`)
	is(t, ">     a\nb", `Quote(Code"a\n") Para"b"`)
	is(t, "> a\n\v\n> b", `Quote(Para"a\n\nb")`)
}

func TestParas(t *testing.T) {
	is(t, "  a", `Para"a"`)
	is(t, "\v\f a\v\n \v b\t\v", `Para"a\v\nb"`)
	is(t, "a\n\v\nb", `Para"a\n\nb"`)
	is(t, "\v\na", `Para"\na"`)
	is(t, "\v", ``)
	is(t, "\u00a0", `Para"\u00a0"`)
	is(t, "\x00\xff", `Para"\x00\xff"`)
	is(t, "a\\", `Para"a\\"`)
	is(t, "- \v\n- a", `List-(Item Item(Para"a"))`)
	// White that no line can have, but those that are handed in.
	for _, x := range []struct {
		lines []string
		want  string
	}{{[]string{"\r\n a\r", "\n", "\rb\n"}, `Para"a\r\n\nb"`}, {[]string{"# a\r", "\n#b"}, `Head1"a" Para"#b"`}, {[]string{"a\nb", "==="}, `Head1"a\nb"`}, {[]string{"- \n", "- a\nb"}, `List-(Item Item(Para"a\nb"))`}} {
		if l, _ := block.Parse(x.lines, 0); tree(l, false) != x.want {
			t.Errorf("of %q: %s, want %s", x.lines, tree(l, false), x.want)
		}
		sameParse(t, x.lines, 0)
	}
}

// P11.6

func TestWhereBlocksStand(t *testing.T) {
	stands(t, "a\nb\n\nc", `Para"a\nb"@0-1 Para"c"@3-3`)
	stands(t, "# a\n\n***\n", `Head1"a"@0-0 Rule@2-2`)
	stands(t, "\na\nb\n===\n\n", `Head1"a\nb"@1-3`)
	stands(t, "    a\n\n    b\n\n", `Code"a\n\nb\n"@0-2`)
	stands(t, "```\n\na\n\n```\n\n", `Code"\na\n\n"@0-4`)
	stands(t, "```\n\na\n\n", `Code"\na\n\n\n"@0-2`)
	stands(t, "```\n\v\n", `Code"\v\n\n"@0-1`)
	stands(t, "> ```\n> \n>   a\n>", `Quote@0-3(Code"\n  a\n\n"@0-2)`)
	stands(t, "<!--\n\na\n\n", `Html2"<!--\n\na\n\n\n"@0-2`)
	stands(t, "<!--\n\n-->\na", `Html2"<!--\n\n-->\n"@0-2 Para"a"@3-3`)
	stands(t, "<div>\na\n\n", `Html6"<div>\na\n"@0-1`)
	stands(t, ">\n> a\n>\n\n", `Quote@0-2(Para"a"@1-1)`)
	stands(t, "> > a\n>\n> > b\n>", `Quote@0-3(Quote@0-0(Para"a"@0-0) Quote@2-2(Para"b"@2-2))`)
	stands(t, "> a\nb", `Quote@0-1(Para"a\nb"@0-1)`)
	stands(t, "> - a\nb\n>\n", `Quote@0-2(List-@0-1(Item@0-1(Para"a\nb"@0-1)))`)
	stands(t, "- a\n\n\n  b\n\n\n", `List- loose@0-3(Item@0-3(Para"a"@0-0 Para"b"@3-3))`)
	stands(t, "- a\n\n- b\n  - c\n\n", `List- loose@0-3(Item@0-0(Para"a"@0-0) Item@2-3(Para"b"@2-2 List-@3-3(Item@3-3(Para"c"@3-3))))`)
	stands(t, "-\n\n\n- \n", `List- loose@0-3(Item@0-0 Item@3-3)`)
	stands(t, "- > a\n  >\n\n", `List-@0-1(Item@0-1(Quote@0-1(Para"a"@0-0)))`)
	stands(t, "- ```\n\n  ```\n\n", `List-@0-2(Item@0-2(Code"\n"@0-2))`)
	stands(t, "- # a\n  -\n\n", `List-@0-1(Item@0-1(Head1"a"@0-0 List-@1-1(Item@1-1)))`)
	stands(t, "[^n]:\n\n    a\n\n", `Note"n"@0-2(Para"a"@2-2)`)
	stands(t, "[^n]:\n\n", `Note"n"@0-0`)
	stands(t, "- a\n# b", `List-@0-0(Item@0-0(Para"a"@0-0)) Head1"b"@1-1`)
	stands(t, "[a]: /u\nb\n[c]: /v", `Para"b\n[c]: /v"@0-2`)
	stands(t, "> [a]: /u\n\nb", `Quote@0-0 Para"b"@2-2`)
	stands(t, "a\n    \v", `Para"a"@0-0`)
	// A line of white alone that became a Para's does not count.
	stands(t, "> a\n\v", `Quote@0-0(Para"a"@0-0)`)
	stands(t, "> a\n>\v", `Quote@0-1(Para"a"@0-0)`)
	stands(t, "- a\n  \v\n\v", `List-@0-0(Item@0-0(Para"a"@0-0))`)
	stands(t, "- # a\n  \v", `List-@0-0(Item@0-0(Head1"a"@0-0))`)
	stands(t, "- # a\n  \v\n  b", `List-@0-2(Item@0-2(Head1"a"@0-0 Para"\nb"@1-2))`)
	stands(t, "- \v", `List-@0-0(Item@0-0)`)
	stands(t, "- \v\n  a", `List-@0-1(Item@0-1(Para"\na"@0-1))`)
	stands(t, "> \v", `Quote@0-0`)
	stands(t, "    \v", `Code"\v\n"@0-0`)
	stands(t, "<div>\n \v", `Html6"<div>\n \v\n"@0-1`)
}

func TestTightLists(t *testing.T) {
	is(t, "- a\n- b", `List-(Item(Para"a") Item(Para"b"))`)
	is(t, "- a\n\n- b\n- c", `List- loose(Item(Para"a") Item(Para"b") Item(Para"c"))`)
	is(t, "- a\n- b\n\n- c", `List- loose(Item(Para"a") Item(Para"b") Item(Para"c"))`)
	is(t, "- a\n  b\n\n", `List-(Item(Para"a\nb"))`)
	is(t, "- a\n\n  b\n- c", `List- loose(Item(Para"a" Para"b") Item(Para"c"))`)
	is(t, "- a\n- b\n\n  # c", `List- loose(Item(Para"a") Item(Para"b" Head1"c"))`)
	is(t, "- a\n-\n\n- b", `List- loose(Item(Para"a") Item Item(Para"b"))`)
	is(t, "- a\n  > b\n  >\n- c", `List-(Item(Para"a" Quote(Para"b")) Item(Para"c"))`)
	is(t, "- a\n  > b\n\n- c", `List- loose(Item(Para"a" Quote(Para"b")) Item(Para"c"))`)
	is(t, "- > a\n\n  > b", `List- loose(Item(Quote(Para"a") Quote(Para"b")))`)
	is(t, "- > a\n  >\n  > b", `List-(Item(Quote(Para"a" Para"b")))`)
	is(t, "- ```\n  a\n\n\n  ```\n- b", `List-(Item(Code"a\n\n\n") Item(Para"b"))`)
	is(t, "- ```\n  a\n\n- b", `List- loose(Item(Code"a\n\n") Item(Para"b"))`)
	is(t, "- ***\n\n  - a", `List- loose(Item(Rule List-(Item(Para"a"))))`)
	is(t, "-     a\n\n      b\n- c", `List-(Item(Code"a\n\nb\n") Item(Para"c"))`)
	is(t, "- <!--\n\n  -->\n- b", `List-(Item(Html2"<!--\n\n-->\n") Item(Para"b"))`)
	is(t, "- <!--\n\n- b", `List- loose(Item(Html2"<!--\n\n") Item(Para"b"))`)
	// What is in a List within does not say anything of the outer one, but for its lines.
	is(t, "- a\n  - b\n\n    c\n- d", `List-(Item(Para"a" List- loose(Item(Para"b" Para"c"))) Item(Para"d"))`)
	is(t, "- a\n  - b\n\n  - c\n- d", `List-(Item(Para"a" List- loose(Item(Para"b") Item(Para"c"))) Item(Para"d"))`)
	is(t, "- a\n\n  - b\n- c", `List- loose(Item(Para"a" List-(Item(Para"b"))) Item(Para"c"))`)
	is(t, "- a\n  - b\n\n- c", `List- loose(Item(Para"a" List-(Item(Para"b"))) Item(Para"c"))`)
	is(t, "- > a\n  >\n  > - b\n  >\n  >   c", `List-(Item(Quote(Para"a" List- loose(Item(Para"b" Para"c")))))`)
	is(t, "- a\n\n\n\nb", `List-(Item(Para"a")) Para"b"`)
	is(t, "- a\n\n+ b", `List-(Item(Para"a")) List+(Item(Para"b"))`)
	is(t, "> - a\n> \n> - b", `Quote(List- loose(Item(Para"a") Item(Para"b")))`)
	// Paras that go away count, and what comes behind lines that do not.
	is(t, "- a\n\n  [b]: /u\n- c", `List- loose(Item(Para"a") Item(Para"c"))`)
	is(t, "- [b]: /u\n\n  a", `List- loose(Item(Para"a"))`)
	is(t, "- [a]: /u\n- b", `List-(Item Item(Para"b"))`)
	is(t, "- a\n  \v\n- b", `List- loose(Item(Para"a") Item(Para"b"))`)
	is(t, "- a\n\v\n- b", `List- loose(Item(Para"a") Item(Para"b"))`)
	is(t, "- # a\n  \v\n- b", `List- loose(Item(Head1"a") Item(Para"b"))`)
	is(t, "- # a\n  \v\n  # b", `List-(Item(Head1"a" Head1"b"))`)
	is(t, "x\n\n- \v\n  # a\n- b", `Para"x" List-(Item(Head1"a") Item(Para"b"))`)
	is(t, "- \v\n- a", `List-(Item Item(Para"a"))`)
	is(t, "- \v\n\n  a", `List- loose(Item(Para"a"))`)
}

// P11.7

func TestTexts(t *testing.T) {
	is(t, "    a  \n      b\n", `Code"a  \n  b\n"`)
	is(t, "```\n\n\n", `Code"\n\n\n"`)
	is(t, "    a\n    \v\n     \n", `Code"a\n\v\n"`)
	is(t, "<!--\n\n", `Html2"<!--\n\n\n"`)
	is(t, "<div>\n  a  \n\n\n", `Html6"<div>\n  a  \n"`)
	is(t, "a  \nb  \v\t", `Para"a  \nb"`)
	is(t, "a\n\v\n\f\n\nb", `Para"a" Para"b"`)
	is(t, "a \n \vb\v \n=", `Head1"a \nb"`)
}

func TestDefinitions(t *testing.T) {
	defines(t, "[a]: /u", ``, "a=/u ")
	defines(t, "a\n\n[b]: /u 't'\nc", `Para"a" Para"c"`, "b=/u t")
	defines(t, "[a]: /u\n[b]: /v\nx\n[c]: /w", `Para"x\n[c]: /w"`, "a=/u , b=/v ")
	defines(t, "[a]: /u\n# b", `Head1"b"`, "a=/u ")
	defines(t, "x\n[a]: /u", `Para"x\n[a]: /u"`, "")
	defines(t, "  [a]:\n  /u\n  't'  ", ``, "a=/u t")
	defines(t, "[a]: /u \v", ``, "a=/u ")
	defines(t, "[a]: /u \v\nx", `Para"[a]: /u \v\nx"`, "")
	defines(t, "\v\n[a]: /u", `Para"\n[a]: /u"`, "")
	defines(t, "[a]: /u\n\v\nx", `Para"\nx"`, "a=/u ")
	// The document's, in order, at any depth: the first one of a label counts.
	defines(t, "> [b]: /1\n\n- [a]: /2\n\n  [B]: /3\n\n[A]: /4\n[c]: /5", `Quote List- loose(Item)`, "b=/1 , a=/2 , c=/5 ")
	defines(t, "[a]: /1\nx\n===\n\n[^n]: > [a]: /2\n    > [d]: /3", `Head1"x" Note"n"(Quote)`, "a=/1 , d=/3 ")
	defines(t, "> [a]: /u\n[b]: /v\nx", `Quote(Para"x")`, "a=/u , b=/v ")
	defines(t, "[a]: /u\n    [b]: /v", ``, "a=/u , b=/v ")
	defines(t, "- - [a]: /1\n- [b]: /2\n\n[c]: /3\nx", `List-(Item(List-(Item)) Item) Para"x"`, "a=/1 , b=/2 , c=/3 ")
	// Not of others.
	defines(t, "    [a]: /u\n\n# [b]: /v\n\n```\n[c]: /w\n```\n<div>\n[d]: /x", `Code"[a]: /u\n" Head1"[b]: /v" Code"[c]: /w\n" Html6"<div>\n[d]: /x\n"`, "")
	var doc, want strings.Builder
	for i := range 5000 {
		n := strconv.Itoa(i)
		doc.WriteString("> [a" + n + "]: /" + n + "\n\n[A" + n + "]: /x\n\n")
		want.WriteString(", a" + n + "=/" + n + " ")
	}
	if _, l := block.Parse(strings.Split(doc.String(), "\n"), 0); toldRefs(l) != want.String()[2:] {
		t.Error("many definitions are not told in order")
	}
}

// P11.8

func TestNodes(t *testing.T) {
	l := []block.Block{
		{Kind: api.Quote, First: 1, Last: 2, L: []block.Block{{Kind: api.List, N: 3, M: '.', Flag: true, L: []block.Block{{Kind: api.Item}, {}}}}},
		{Kind: api.Code, S: "s", T: "t", N: -1, M: -2, Flag: true, First: 9},
		{Kind: 99, S: "\xff"},
	}
	want := []api.Node{
		{Kind: api.Quote, L: []api.Node{{Kind: api.List, N: 3, M: '.', Flag: true, L: []api.Node{{Kind: api.Item}, {}}}}},
		{Kind: api.Code, S: "s", T: "t", N: -1, M: -2, Flag: true},
		{Kind: 99, S: "\xff"},
	}
	if got := block.Nodes(l); !reflect.DeepEqual(got, want) {
		t.Errorf("Nodes(%v) = %v, want %v", l, got, want)
	}
	for _, l := range [][]block.Block{nil, {}} {
		if got := block.Nodes(l); len(got) > 0 {
			t.Errorf("Nodes(%v) = %v", l, got)
		}
	}
	if got := block.Nodes([]block.Block{{Kind: api.Note, L: []block.Block{}}}); len(got) != 1 || len(got[0].L) > 0 {
		t.Errorf("%v", got)
	}
	blocks, _ := block.Parse([]string{"1) a", "", "   > ~~~ b", "---"}, 0)
	want = []api.Node{{Kind: api.List, N: 1, M: ')', L: []api.Node{{Kind: api.Item, L: []api.Node{{Kind: api.Para, S: "a"}, {Kind: api.Quote, L: []api.Node{{Kind: api.Code, T: "b"}}}}}}}, {Kind: api.Rule}}
	if got := block.Nodes(blocks); !reflect.DeepEqual(got, want) {
		t.Errorf("%v, want %v", got, want)
	}
}

var label = regexp.MustCompile(`^\[\^([^ \t\n\[\]]+)\]:`)

func checkLabel(t *testing.T, s string) {
	t.Helper()
	want, size := "", 0
	if l := label.FindStringSubmatch(s); l != nil {
		want, size = l[1], len(l[0])
	}
	if got, n := block.Label(s); got != want || n != size {
		t.Errorf("Label(%q) = %q, %d, want %q, %d", s, got, n, want, size)
	}
}

func TestLabel(t *testing.T) {
	for s, want := range map[string]string{"[^a]:": "a", "[^a]: b]:": "a", "[^^]:": "^", "[^a:]:x": "a:", "[^\\]:": "\\", "[^\u00e9\v\r\x00]:": "\u00e9\v\r\x00", "[^Ab]::": "Ab"} {
		if got, n := block.Label(s); got != want || n != len(want)+4 {
			t.Errorf("Label(%q) = %q, %d", s, got, n)
		}
	}
	for _, s := range []string{"", "[", "[^", "[^]", "[^]:", "[^a", "[^a]", "[^a] :", "[^a b]:", "[^a\tb]:", "[^a\nb]:", "[^a[b]:", "[^a\\]b]:", "[a]:", " [^a]:", "^a]:", "[ ^a]:", "[^ a]:", "[^a ]:", "x[^a]:", "[^]]:", "[^[]:"} {
		if got, n := block.Label(s); got != "" || n != 0 {
			t.Errorf("Label(%q) = %q, %d", s, got, n)
		}
	}
	for _, s := range shortTexts([]string{"[", "^", "]", ":", "a", " ", "\n", "\\"}, 5) {
		checkLabel(t, s)
		checkLabel(t, "[^"+s)
	}
	for c := range 256 {
		b := string([]byte{byte(c)})
		for _, s := range []string{b + "^a]:", "[" + b + "a]:", "[^" + b + "]:", "[^a" + b + "b]:", "[^a" + b + ":", "[^a]" + b, "[^a]:" + b, b + "[^a]:"} {
			checkLabel(t, s)
		}
	}
	a := strings.Repeat("a", 1<<20)
	checkLabel(t, "[^"+a+"]:"+a)
	checkLabel(t, "[^"+a)
}

// Rules that hold everywhere

func TestEachByteInEachPlace(t *testing.T) {
	for _, s := range []string{"- a\n\n  b", "> ~~~ x\n> a\n~~~", "1. a\n<b>\n", "a\n===", "[^n]: x\n    y", "-\t\ta\n\n b", "[a]: /u\nx", "# a #\n***"} {
		for i := range len(s) + 1 {
			for c := range 256 {
				sameDoc(t, s[:i]+string([]byte{byte(c)})+s[i:])
				if i < len(s) {
					sameDoc(t, s[:i]+string([]byte{byte(c)})+s[i+1:])
				}
			}
		}
	}
}

// R1: lines of any length, and as many as there are.
func TestLongDocuments(t *testing.T) {
	for c := range 256 {
		b := string([]byte{byte(c)})
		sameParse(t, []string{strings.Repeat(b, 1000)}, api.All)
		sameParse(t, strings.Split(strings.Repeat(b+"\n", 1000), "\n"), api.All)
	}
	for _, s := range pieces {
		sameDoc(t, strings.Repeat(s, 200))
		sameDoc(t, strings.Repeat(s+"\n", 200))
		sameDoc(t, "- a\n"+strings.Repeat("  "+s+"\n", 200))
	}
	l, _ := block.Parse(slices.Repeat([]string{"a " + strings.Repeat("b", 100)}, long), 0)
	if len(l) != 1 || len(l[0].S) != long*103-1 || l[0].Last != long-1 {
		t.Error("a long Para is not told")
	}
	l, _ = block.Parse(slices.Repeat([]string{"- a", ""}, long), 0)
	if len(l) != 1 || len(l[0].L) != long || l[0].Flag {
		t.Error("a long List is not told")
	}
}

// deepest is how many levels there are at the first of each.
func deepest(l []block.Block) int {
	n := 0
	for len(l) > 0 {
		l = l[0].L
		n++
	}
	return n
}

// Up to the document's own bound of levels all is told, and in good time.
func TestDeepDocuments(t *testing.T) {
	for _, x := range []struct {
		piece  string
		n      int
		levels int // a piece
		behind []string
		want   string
	}{
		{">", long, 1, []string{strings.Repeat(">", long) + "b", "c"}, "a\nb\nc"},
		{"> ", long, 1, []string{"", "b"}, "a"},
		{">\t", long / 2, 1, []string{"b", strings.Repeat("> ", long/2) + "c"}, "a\nb\nc"},
		{"- ", long / 2, 2, []string{strings.Repeat(" ", long) + "b", "c"}, "a\nb\nc"},
		{"-\t", long / 2, 2, []string{strings.Repeat("\t", long/2) + "b", "c"}, "a\nb\nc"},
		{"1. ", long / 2, 2, []string{"b", "", "2. c"}, "a\nb"},
		{"- > * ", long / 5, 5, []string{"b"}, "a\nb"},
		{"[^n]:", long, 1, []string{strings.Repeat("    ", long) + "b", "c"}, "a\nb\nc"},
	} {
		l, _ := block.Parse(append([]string{strings.Repeat(x.piece, x.n) + "a"}, x.behind...), api.Footnotes)
		nodes := block.Nodes(l)
		if got := deepest(l); got != x.n*x.levels+1 {
			t.Errorf("%q: %d levels", x.piece, got)
			continue
		}
		for range x.n * x.levels {
			nodes = nodes[0].L
		}
		if len(nodes) != 1 || nodes[0].S != x.want {
			t.Errorf("%q: at the last level stands %v", x.piece, nodes)
		}
	}
}

// lies: is what is told a piece of the memory of s?
func lies(told, s string) bool {
	from := uintptr(unsafe.Pointer(unsafe.StringData(s)))
	at := uintptr(unsafe.Pointer(unsafe.StringData(told)))
	return told != "" && from <= at && at < from+uintptr(len(s))
}

// textsOf are all texts of blocks.
func textsOf(l []block.Block) []string {
	var all []string
	for _, b := range l {
		all = append(append(all, b.S, b.T), textsOf(b.L)...)
	}
	return all
}

func nodeTexts(l []api.Node) []string {
	var all []string
	for _, n := range l {
		all = append(append(all, n.S, n.T), nodeTexts(n.L)...)
	}
	return all
}

// R3: what is handed in is not changed, and an answer is new memory.
func TestAnswersAreNewMemory(t *testing.T) {
	source := strings.Clone("# head\npara\n\nunder\n===\n~~~ info\ncode\n~~~\n\n    deep\n\n<div>\n\n> quoted\n\n[^note]: noted\n\n- item\n\n[a]: /u 't'\nleft\n\n[b]: <v>")
	lines := strings.Split(source, "\n")
	before := slices.Clone(lines)
	l, defs := block.Parse(lines, api.All)
	if !slices.Equal(lines, before) {
		t.Errorf("the lines are changed: %q", lines)
	}
	for _, r := range defs {
		if lies(r.Label, source) || lies(r.Dest, source) || lies(r.Title, source) {
			t.Errorf("%q is not new", r)
		}
	}
	texts := textsOf(l)
	for _, s := range texts {
		if lies(s, source) {
			t.Errorf("%q is not new", s)
		}
	}
	for _, s := range nodeTexts(block.Nodes(l)) {
		for _, other := range texts {
			if lies(s, other) {
				t.Errorf("of a node %q is not new", s)
			}
		}
	}
	s := strings.Clone("[^label]: x")
	if got, _ := block.Label(s); lies(got, s) {
		t.Errorf("the label %q is not new", got)
	}
	first := told(l)
	block.Nodes(l)[0].Kind = 0
	if told(l) != first {
		t.Error("Nodes changes blocks")
	}
}

// No two lists of an answer share memory: what is laid behind one is in no other.
func TestListsAreTheirOwn(t *testing.T) {
	l, _ := block.Parse(strings.Split("> a\n\n> b\n>\n> c\n\n- d\n- e\n\n  f", "\n"), 0)
	want := told(l)
	for i := range l {
		for j := range l[i].L {
			_ = append(l[i].L[j].L, block.Block{Kind: 99})
		}
		_ = append(l[i].L, block.Block{Kind: 99})
	}
	if told(l) != want {
		t.Errorf("%s, want %s", told(l), want)
	}
}

// Nothing is kept: what is told hangs on no call ahead of it.
func TestNothingIsKept(t *testing.T) {
	docs := []string{"", "- a", "- a\n\n- b", "> a\nb", "```\na", "[a]: /u", "[^n]: a", "<!--", "    a"}
	for _, s := range docs {
		for _, ahead := range docs {
			l, _ := block.Parse(strings.Split(ahead, "\n"), api.All)
			block.Nodes(l)
			sameDoc(t, s)
		}
	}
}
