package refs_test

import (
	"regexp"
	"slices"
	"strconv"
	"strings"
	"testing"
	"unsafe"

	"incipit/api"
	"incipit/class"
	"incipit/escape"
	"incipit/refs"
)

const long = 1 << 20

// behinds are what may stand in the line behind a definition.
var behinds = []string{"x", " ", "\n", "\t", "\\", "]", "[", "[a]", "[a]:", "[b]: /v", "\"t\"", "'t'", "(t)", "\x00", "\xff"}

// bytes are all bytes from 0 to 255, each as a text.
func bytes() []string {
	var all []string
	for c := range 256 {
		all = append(all, string([]byte{byte(c)}))
	}
	return all
}

// shortTexts are all of at most so many of the pieces.
func shortTexts(pieces []string, most int) []string {
	texts := []string{""}
	begin := 0
	for range most {
		end := len(texts)
		for _, s := range texts[begin:end] {
			for _, p := range pieces {
				texts = append(texts, s+p)
			}
		}
		begin = end
	}
	return texts
}

// changed are texts that are not quite s: cut at each place, with each byte laid
// in and with each byte in the place of another one.
func changed(s string) []string {
	texts := []string{s}
	for i := range len(s) + 1 {
		texts = append(texts, s[:i], s[i:])
		for _, b := range bytes() {
			texts = append(texts, s[:i]+b+s[i:])
			if i < len(s) {
				texts = append(texts, s[:i]+b+s[i+1:])
			}
		}
	}
	return texts
}

var (
	pair      = regexp.MustCompile(`\\[!-/:-@\[-` + "`" + `{-~]`)
	notWhite  = regexp.MustCompile(`[^ \t\n]`)
	blankLine = regexp.MustCompile(`\n[ \t]*\n`)
	titled    = regexp.MustCompile(begins + someGap + `("[^"]*"|'[^']*'|\([^()]*\))` + lineEnd)
	untitled  = regexp.MustCompile(begins + lineEnd)
)

// begins is a pattern of a label, ":", a gap and an address.
var begins = `^\[([^\[\]]*)\]:` + anyGap + `(<[^<>\n]*>|[^<\x00-\x20\x7f()]` + nested(32) + `|\(` + nested(31) + `\)` + nested(32) + `)`

const (
	anyGap  = `[ \t]*\n?[ \t]*`
	someGap = `(?:[ \t]+\n?[ \t]*|\n[ \t]*)`
	lineEnd = `[ \t]*(?:\n|$)`
)

// nested is a pattern of bytes of an address with so many levels of parentheses.
func nested(levels int) string {
	inner := `[^\x00-\x20\x7f()]*`
	for range levels {
		inner = `(?:[^\x00-\x20\x7f()]|\(` + inner + `\))*`
	}
	return inner
}

// masked is s with as long a piece of letters for each backslash and the sign
// that it escapes, so that no pattern has to know of these.
func masked(s string) string { return pair.ReplaceAllString(s, "aa") }

// taken is Take, told by the patterns.
func taken(s string) (api.Ref, int) {
	m := masked(s)
	at := titled.FindStringSubmatchIndex(m)
	if at == nil || blankLine.MatchString(s[at[6]:at[7]]) {
		at = untitled.FindStringSubmatchIndex(m)
	}
	if at == nil || at[3]-at[2] > 999 || !notWhite.MatchString(s[at[2]:at[3]]) {
		return api.Ref{}, 0
	}
	dest, title := s[at[4]:at[5]], ""
	if dest[0] == '<' {
		dest = dest[1 : len(dest)-1]
	}
	if len(at) > 6 {
		title = s[at[6]+1 : at[7]-1]
	}
	return api.Ref{Label: class.Label(s[at[2]:at[3]]), Dest: escape.Unescape(dest), Title: escape.Unescape(title)}, at[1]
}

// allOf is All, told by the patterns.
func allOf(s string) ([]api.Ref, string) {
	var l []api.Ref
	for {
		ref, n := taken(s)
		if n == 0 {
			return l, s
		}
		l, s = append(l, ref), s[n:]
	}
}

// has: stands one of that label in l?
func has(l []api.Ref, label string) bool {
	return slices.ContainsFunc(l, func(ref api.Ref) bool { return ref.Label == label })
}

// added is Add, each held against each one ahead of it.
func added(l, more []api.Ref) []api.Ref {
	all := slices.Clone(l)
	for _, ref := range more {
		if !has(all, ref.Label) {
			all = append(all, ref)
		}
	}
	return all
}

// found is Find, from behind.
func found(l []api.Ref, label string) (api.Ref, bool) {
	var ref api.Ref
	ok := false
	for i := len(l) - 1; i >= 0; i-- {
		if label := class.Label(label); label != "" && l[i].Label == label {
			ref, ok = l[i], true
		}
	}
	return ref, ok
}

// ref is a definition; of such a label, address and title.
func ref(label, dest, title string) api.Ref {
	return api.Ref{Label: label, Dest: dest, Title: title}
}

// labelled are definitions of these labels, their addresses unlike.
func labelled(labels ...string) []api.Ref {
	var l []api.Ref
	for i, label := range labels {
		l = append(l, ref(label, "/"+strconv.Itoa(i), "t"+strconv.Itoa(i)))
	}
	return l
}

func checkTake(t *testing.T, s string, want api.Ref, size int) {
	t.Helper()
	if got, n := refs.Take(s); got != want || n != size {
		t.Errorf("Take(%q) = %q, %d, want %q, %d", s, got, n, want, size)
	}
}

func checkAll(t *testing.T, s string, want []api.Ref, left string) {
	t.Helper()
	if got, rest := refs.All(s); !slices.Equal(got, want) || rest != left {
		t.Errorf("All(%q) = %q, %q, want %q, %q", s, got, rest, want, left)
	}
}

func checkAdd(t *testing.T, l, more, want []api.Ref) {
	t.Helper()
	if got := refs.Add(l, more); !slices.Equal(got, want) {
		t.Errorf("Add(%q, %q) = %q, want %q", l, more, got, want)
	}
}

func checkFind(t *testing.T, l []api.Ref, label string, want api.Ref, is bool) {
	t.Helper()
	if got, ok := refs.Find(l, label); got != want || ok != is {
		t.Errorf("Find(%q, %q) = %q, %v, want %q, %v", l, label, got, ok, want, is)
	}
}

// These hold what is told against the patterns, and the like.

func sameTake(t *testing.T, s string) {
	t.Helper()
	want, n := taken(s)
	checkTake(t, s, want, n)
}

func sameAll(t *testing.T, s string) {
	t.Helper()
	want, left := allOf(s)
	checkAll(t, s, want, left)
}

func sameFind(t *testing.T, l []api.Ref, label string) {
	t.Helper()
	want, ok := found(l, label)
	checkFind(t, l, label, want, ok)
}

// P10.1

// whole: is all of s that definition, whatever stands in the lines behind it?
func whole(t *testing.T, s string, want api.Ref) {
	t.Helper()
	checkTake(t, s, want, len(s))
	checkTake(t, s+"\n", want, len(s)+1)
	for _, behind := range behinds {
		// A line behind an address may be its title.
		if want.Title != "" {
			checkTake(t, s+"\n"+behind, want, len(s)+1)
		}
		checkTake(t, s+"\nx"+behind, want, len(s)+1)
	}
}

func none(t *testing.T, texts ...string) {
	t.Helper()
	for _, s := range texts {
		checkTake(t, s, api.Ref{}, 0)
	}
}

func TestTake(t *testing.T) {
	checkTake(t, "[a]: /u\nx", ref("a", "/u", ""), 8)
	checkTake(t, "[a]: /u 't'\nx", ref("a", "/u", "t"), 12)
	for s, want := range map[string]api.Ref{
		"[a]:/u": ref("a", "/u", ""), "[a]: /u": ref("a", "/u", ""), "[a]:\t \t/u": ref("a", "/u", ""), "[a]:\n/u": ref("a", "/u", ""), "[a]: \n\t /u": ref("a", "/u", ""),
		"[a]:<>": ref("a", "", ""), "[a]: <b c>": ref("a", "b c", ""), "[a]: <b> 't'": ref("a", "b", "t"), "[a]:<>\n(t)": ref("a", "", "t"),
		"[a]: /u \t ": ref("a", "/u", ""), "[a]: /u\t": ref("a", "/u", ""), "[a]: <>  ": ref("a", "", ""), "[a]: /u 't' \t": ref("a", "/u", "t"),
		"[a]: /u \"t\"": ref("a", "/u", "t"), "[a]: /u (t)": ref("a", "/u", "t"), "[a]: /u\t't'": ref("a", "/u", "t"), "[a]: /u\n't'": ref("a", "/u", "t"), "[a]: /u \t\n\t 't'": ref("a", "/u", "t"),
		"[a]:\n/u\n't'": ref("a", "/u", "t"), "[a]: /u 'b\nc'": ref("a", "/u", "b\nc"), "[a]: /u\n'\nb\n'": ref("a", "/u", "\nb\n"), "[a]: /u 'b\n[c]: /v'": ref("a", "/u", "b\n[c]: /v"),
		"[a]: /u\"t\"": ref("a", "/u\"t\"", ""), "[a]: 't'": ref("a", "'t'", ""), "[a]: 't' 'u'": ref("a", "'t'", "u"), "[a]: [b]": ref("a", "[b]", ""), "[a]: [b]:": ref("a", "[b]:", ""),
		"[a]:::": ref("a", "::", ""), "[a]: :": ref("a", ":", ""), "[a]: (b(c))": ref("a", "(b(c))", ""), "[a]: \\(": ref("a", "(", ""), "[a]: /\u00e9": ref("a", "/\u00e9", ""), "[a]: /u\u00a0": ref("a", "/u\u00a0", ""),
		"[a]: \\*&amp;\\a '\\'&lt;&no;'": ref("a", "*&\\a", "'<&no;"), "[a]: <\\>&#65;> \"\\\"\"": ref("a", ">A", "\""), "[a]: /u '\\\\'": ref("a", "/u", "\\"),
		"[^1]: /u": ref("^1", "/u", ""), "[!]: /u": ref("!", "/u", ""), "[&amp;]: /u": ref("&amp;", "/u", ""), "[*a*]: /u": ref("*a*", "/u", ""),
	} {
		whole(t, s, want)
	}
	// A title of nothing is one, and is told as none is.
	for _, s := range []string{"[a]: /u ''", "[a]: /u \"\"", "[a]: /u\n()", "[a]: /u\n'' \t"} {
		whole(t, s, ref("a", "/u", ""))
		checkTake(t, s+"\n'x'", ref("a", "/u", ""), len(s)+1)
	}
}

func TestTakeOfWhatIsNone(t *testing.T) {
	none(t,
		"", "a", "\n", "[", "[a", "[a]", "[a] ", "[a]x", "[a]:", "[a]: ", "[a]:\n", "[a]: \n", "[a]:\n\n", "[a]:\n\n/u", "[a]: \n \n/u", "[a]:\n/u x", "[a] : /u", "[a]\n: /u", "[a]\\: /u",
		" [a]: /u", "\n[a]: /u", "x[a]: /u", "\\[a]: /u", "![a]: /u", "[[a]: /u", "[a]]: /u", "[]: /u", "[ \n\t]: /u", "[a[b]: /u", "[a\\]: /u", "(a): /u", "[a]\": /u", "[a]; /u", "[a]\x3a\x00",
		"[a]: /u x", "[a]: /u /v", "[a]: /u x\n't'", "[a]: <b>c", "[a]: <b>'t'", "[a]: <>()", "[a]: <b", "[a]: <b\n>", "[a]: <b<c>", "[a]: (b", "[a]: b)", "[a]: b(", "[a]: )", "[a]: \x7f", "[a]: /u\x7f", "[a]: /u\x00",
		"[a]: /u\r", "[a]: /u \r\n", "[a]:\r/u", "[a]:\v/u", "[a]:\f/u", "[a]: /u\v", "[a]: /u\f't'", "[a]: /u \u00a0", "[a]: /u\r't'",
		"[a]: /u 't'x", "[a]: /u 't' x", "[a]: /u 't' 'u'", "[a]: /u 't' 'u'\n'v'", "[a]: /u 't", "[a]: /u t'", "[a]: /u 't\"", "[a]: /u (t", "[a]: /u ((t))", "[a]: /u 't'\\", "[a]: /u 't'\r", "[a]: /u 't'\u00a0", "[a]: /u 't'\x00",
		"[a]: /u 'b\n\nc'", "[a]: /u \"b\n \t\nc\"", "[a]: /u '\n\n'", "[a]: /u \"", "[a]: /u (", "[a]: /u \\'t'", "[a]: /u 'b\nc' d", "[a]: /u t",
	)
	none(t, "["+strings.Repeat("a", 1000)+"]: /u", "["+strings.Repeat(" ", 999)+"a]: /u", "[a]: "+strings.Repeat("(", 33)+strings.Repeat(")", 33))
	deep := strings.Repeat("(", 32) + strings.Repeat(")", 32)
	whole(t, "["+strings.Repeat("a", 999)+"]: "+deep, ref(strings.Repeat("a", 999), deep, ""))
}

// What stands in the next line and is no title is no part of the definition; nor
// is one that stands behind a line's end too many.
func TestTakeUpToTheAddress(t *testing.T) {
	for _, behind := range []string{
		"x", "'t' x", "'t'x", "'t", "\"t", "(t", "(t(u))", "t", "'t' 'u'", "'b\n\nc'", "\"b\n \nc\"", " 't' x", "\t'b\nc' d", "\n't'", " \n't'", "\t\n\"t\"", "\n\n't'", "\r't'", "\u00a0't'", "\\'t'", "[b]: /v", "'\n\n'",
	} {
		checkTake(t, "[a]: /u\n"+behind, ref("a", "/u", ""), 8)
		checkTake(t, "[a]: /u \t\n"+behind, ref("a", "/u", ""), 10)
		checkTake(t, "[a]: <> \n"+behind, ref("a", "", ""), 9)
		checkTake(t, "[a]:\n/u\n"+behind, ref("a", "/u", ""), 8)
	}
	// The first line's end is it.
	checkTake(t, "[a]: /u\n\n", ref("a", "/u", ""), 8)
	checkTake(t, "[a]: /u\n \n", ref("a", "/u", ""), 8)
	checkTake(t, "[a]: /u 't'\n\n", ref("a", "/u", "t"), 12)
	checkTake(t, "[a]: /u 't' \n \n", ref("a", "/u", "t"), 13)
	checkTake(t, "[a]: /u\n't'\n'u'", ref("a", "/u", "t"), 12)
}

func TestLabelsOfDefinitions(t *testing.T) {
	for inner, want := range map[string]string{
		"A": "a", "a b": "a b", " A \t\n b\n": "a b", "\u00c4B\u1e9e": "\u00e4bss", "a\\]b": "a\\]b", "\\[": "\\[", "\\a": "\\a", "&AMP;": "&amp;", "a\vb\rc": "a b c", "a\u00a0B": "a\u00a0b", "\xff": "\ufffd",
		// White that is none of link's.
		"\v": "", "\r\n\f": "",
	} {
		whole(t, "["+inner+"]: /u 't'", ref(want, "/u", "t"))
		if want != class.Label(inner) {
			t.Errorf("%q is not the label of %q", want, inner)
		}
	}
}

func TestTakeOfEachByte(t *testing.T) {
	for c, b := range bytes() {
		switch b {
		case " ", "\t":
			whole(t, "[a]:"+b+"/u"+b+"'t'"+b, ref("a", "/u", "t"))
			none(t, b+"[a]: /u", "[a]"+b+": /u")
		case "\n":
			checkTake(t, "[a]:"+b+"/u"+b+"'t'"+b+b, ref("a", "/u", "t"), 12)
			checkTake(t, "[a]: /u"+b+"x", ref("a", "/u", ""), 8)
			checkTake(t, "[a]: /u 't'"+b+"x", ref("a", "/u", "t"), 12)
		default:
			none(t, "[a]"+b+": /u", "[a]: /u "+b, "[a]: /u 't'"+b, "[a]: /u 't' "+b, "[a]: <b>"+b)
			if c < 32 || c == 127 {
				none(t, "[a]:"+b+"/u", "[a]: /u"+b+"'t'", "[a]: /u"+b)
			}
		}
		if b != ":" {
			none(t, "[a]"+b+" /u")
		}
		if b != "[" {
			none(t, b+"a]: /u")
		}
	}
}

func TestTakeOfShortTexts(t *testing.T) {
	for _, s := range shortTexts([]string{"[", "]", ":", "a", "\\", " ", "\n", "<>", "''"}, 5) {
		sameTake(t, s)
		sameTake(t, "[a"+s)
		sameTake(t, "[a]"+s)
	}
	for _, s := range shortTexts([]string{" ", "\t", "\n", "/u", "<a>", "'t'", "(", ")", "\"", "\\", "x"}, 4) {
		sameTake(t, "[a]:"+s)
		sameTake(t, "[a]: /u"+s)
		sameTake(t, "[a]: <u>"+s)
		sameTake(t, "[a]: /u 'b"+s+"' ")
		sameTake(t, "[a]: /u\n\"b\""+s)
	}
}

// P10.2

func TestAll(t *testing.T) {
	a, b, c := ref("a", "/u", ""), ref("b", "/v", "t"), ref("c", "", "")
	checkAll(t, "", nil, "")
	checkAll(t, "x", nil, "x")
	checkAll(t, "x\n[a]: /u\n", nil, "x\n[a]: /u\n")
	checkAll(t, "\n[a]: /u", nil, "\n[a]: /u")
	checkAll(t, "[a]: /u", []api.Ref{a}, "")
	checkAll(t, "[a]: /u\n", []api.Ref{a}, "")
	checkAll(t, "[a]: /u\nx", []api.Ref{a}, "x")
	checkAll(t, "[a]: /u\n\n", []api.Ref{a}, "\n")
	checkAll(t, "[a]: /u\n\n[b]: /v 't'", []api.Ref{a}, "\n[b]: /v 't'")
	checkAll(t, "[a]: /u\n[b]: /v 't'", []api.Ref{a, b}, "")
	checkAll(t, "[a]: /u\n[b]: /v 't'\n[c]: <>", []api.Ref{a, b, c}, "")
	checkAll(t, "[b]: /v\n't'\n[a]:\n/u\n[c]:<> \nx [a]", []api.Ref{b, a, c}, "x [a]")
	checkAll(t, "[a]: /u\nx\n[b]: /v 't'", []api.Ref{a}, "x\n[b]: /v 't'")
	checkAll(t, "[a]: /u\n [b]: /v 't'", []api.Ref{a}, " [b]: /v 't'")
	checkAll(t, "[a]: /u\n't' x\n[b]: /v", []api.Ref{a}, "'t' x\n[b]: /v")
	checkAll(t, "[a]: /u [b]: /v", nil, "[a]: /u [b]: /v")
	checkAll(t, "[a]: /u\n[b]: /v 't' x", []api.Ref{a}, "[b]: /v 't' x")
	checkAll(t, "[a]: /u\n[a]: /v\n[A]: /u", []api.Ref{a, ref("a", "/v", ""), a}, "")
	checkAll(t, "[a]:\n[b]: /v", nil, "[a]:\n[b]: /v")
	checkAll(t, "[a]:\n[b]:\n/v", []api.Ref{ref("a", "[b]:", "")}, "/v")
}

func TestAllOfShortTexts(t *testing.T) {
	for _, s := range shortTexts([]string{"[a]: /u", "[b]:", " 't'", "\n", "/v", "'", "x", " "}, 5) {
		sameAll(t, s)
		sameAll(t, "[c]: <>\n"+s)
		sameAll(t, s+"\n[A]: /w")
	}
}

func TestManyDefinitions(t *testing.T) {
	var s strings.Builder
	var want []api.Ref
	for i := range 20000 {
		n := strconv.Itoa(i)
		s.WriteString("[a" + n + "]: /" + n + "\n 'T" + n + "' \n")
		want = append(want, ref("a"+n, "/"+n, "T"+n))
	}
	checkAll(t, s.String(), want, "")
	checkAll(t, s.String()+"x\n"+s.String(), want, "x\n"+s.String())
}

// P10.3

func TestAdd(t *testing.T) {
	checkAdd(t, nil, nil, nil)
	checkAdd(t, []api.Ref{}, []api.Ref{}, nil)
	l := labelled("a", "b", "a", "", "c", "b", "A", "a ")
	checkAdd(t, l, nil, l)
	checkAdd(t, nil, l[:2], l[:2])
	// Ones of l are not looked through; of more the first one stays.
	checkAdd(t, nil, l, []api.Ref{l[0], l[1], l[3], l[4], l[6], l[7]})
	checkAdd(t, l[:1], l[1:], []api.Ref{l[0], l[1], l[3], l[4], l[6], l[7]})
	checkAdd(t, l[:3], l[3:], []api.Ref{l[0], l[1], l[2], l[3], l[4], l[6], l[7]})
	checkAdd(t, l, l, l)
	checkAdd(t, l[4:5], l[5:6], l[4:6])
	// A label is held against others as it stands.
	checkAdd(t, labelled("a"), labelled("A", " a", "a\x00"), append(labelled("a"), labelled("A", " a", "a\x00")...))
	// What is told of it else says nothing.
	checkAdd(t, []api.Ref{ref("a", "/u", "t")}, []api.Ref{ref("a", "/v", ""), ref("b", "/u", "t"), ref("b", "", "")}, []api.Ref{ref("a", "/u", "t"), ref("b", "/u", "t")})
	checkAdd(t, []api.Ref{{}}, []api.Ref{{}, ref("", "/u", "")}, []api.Ref{{}})
}

func TestAddOfShortLists(t *testing.T) {
	for _, s := range shortTexts([]string{"a", "b", "-"}, 7) {
		l := labelled(strings.Split(s, "")...)
		for n := range len(l) + 1 {
			checkAdd(t, l[:n], l[n:], added(l[:n], l[n:]))
		}
	}
}

func TestFind(t *testing.T) {
	l := labelled("a", "b c", "a", "A", "\u00e4", "", " d", "ss")
	for label, at := range map[string]int{
		"a": 0, "A": 0, " a\n": 0, "\va\t": 0, "b c": 1, "B \n\tC": 1, "\u00c4": 4, "\u00e4": 4, "\u00df": 7, "\u1e9e ": 7, "Ss": 7,
	} {
		checkFind(t, l, label, l[at], true)
		checkFind(t, nil, label, api.Ref{}, false)
		checkFind(t, []api.Ref{}, label, api.Ref{}, false)
	}
	for _, label := range []string{"bc", "b", "c", "d", " d", "a b", "[a]", "a\x00", "\u00a0a", "/0", "t0", "a\\"} {
		checkFind(t, l, label, api.Ref{}, false)
	}
	// The label of l is held as it stands.
	checkFind(t, labelled("A"), "A", api.Ref{}, false)
	checkFind(t, labelled("A"), "a", api.Ref{}, false)
	// What is white alone is no label, even if there is such a definition.
	for _, label := range []string{"", " ", "\n", "\v\f\r", "\t \n"} {
		checkFind(t, l, label, api.Ref{}, false)
		checkFind(t, nil, label, api.Ref{}, false)
		checkFind(t, []api.Ref{{}}, label, api.Ref{}, false)
	}
}

func TestFindOfShortLists(t *testing.T) {
	for _, s := range shortTexts([]string{"a", "b", " ", "C"}, 5) {
		l := labelled(strings.Split(s, "")...)
		for _, label := range []string{"a", "A", "b", "B ", "c", "C", "", " ", "ab"} {
			sameFind(t, l, label)
		}
	}
}

// P10.4: of what All leaves Take tells none, and All neither; definitions that come
// later with the same label say nothing.
func TestWhatIsLeft(t *testing.T) {
	for _, s := range shortTexts([]string{"[a]: /u", "[b]:<>", "\n", " 't'", "(", "[", "]:"}, 5) {
		_, left := refs.All(s)
		checkTake(t, left, api.Ref{}, 0)
		checkAll(t, left, nil, left)
		if !strings.HasSuffix(s, left) {
			t.Errorf("All(%q) leaves %q, which is not its end", s, left)
		}
	}
}

func TestLaterOnesSayNothing(t *testing.T) {
	first, _ := refs.All("[A b]: /1\n[c]: /2")
	later, _ := refs.All("[a\nB]: /3 't'\n[C]: /4\n[d]: /5\n[D]: /6")
	l := refs.Add(refs.Add(nil, first), later)
	for label, dest := range map[string]string{"a b": "/1", "A B": "/1", "c": "/2", "C": "/2", "d": "/5"} {
		checkFind(t, l, label, ref(class.Label(label), dest, ""), true)
		checkFind(t, refs.Add(l, later), label, ref(class.Label(label), dest, ""), true)
		// Nor do they in a list that was not put together by Add.
		checkFind(t, append(slices.Clone(l), later...), label, ref(class.Label(label), dest, ""), true)
	}
	checkAdd(t, l, later, l)
	checkAdd(t, l, first, l)
}

// Rules that hold everywhere

func TestEachByteInEachPlace(t *testing.T) {
	for _, s := range []string{
		"[a]: /u", "[\\]b\n]:\n<a b>\n", "[a]:b(c) \t\n'd\ne' \nf", "[a]: <> (t)\n[b]: \"t\"", "[a]: \\( \"\\\"\"\n\n",
	} {
		for _, s := range changed(s) {
			sameTake(t, s)
			sameAll(t, s)
		}
	}
}

// R1: texts and lists of any length.
func TestLongTexts(t *testing.T) {
	for _, part := range append(bytes(), "\\\\", "()", "a ", "a\n", "\n ", "[a]", "[a]:", "[a]: /u\n", "'\n", "'b'\n") {
		s := strings.Repeat(part, long/256/len(part))
		for _, begin := range []string{"", "[a", "[a]:", "[a]: <", "[a]: /u", "[a]: /u '", "[a]: /u\n(", "[a]: /u 't'"} {
			sameTake(t, begin+s)
			sameAll(t, begin+s+"\n")
		}
	}
	a := strings.Repeat("a", long)
	white := strings.Repeat(" \t", long)
	whole(t, "[a]:"+white+"\n"+white+a+white+"\n"+white+"'"+a+"'"+white, ref("a", a, a))
	checkTake(t, "[a]: /u"+white+"\n"+white+"\n't'", ref("a", "/u", ""), 8+2*long)
	none(t, "[a]:"+white+"\n"+white+"\n/u", "[a]: /u '"+a)
}

func TestLongLists(t *testing.T) {
	var labels []string
	for i := range 1 << 17 {
		labels = append(labels, "a"+strconv.Itoa(i/2))
	}
	l := labelled(labels...)
	var odd []api.Ref
	for i := 0; i < len(l); i += 2 {
		odd = append(odd, l[i])
	}
	checkAdd(t, nil, l, odd)
	checkAdd(t, odd, l, odd)
	checkFind(t, l, "A65535", l[131070], true)
	checkFind(t, l, "A65536", api.Ref{}, false)
}

// lies: is what is told a piece of the memory of s?
func lies(told, s string) bool {
	from := uintptr(unsafe.Pointer(unsafe.StringData(s)))
	at := uintptr(unsafe.Pointer(unsafe.StringData(told)))
	return told != "" && from <= at && at < from+uintptr(len(s))
}

// lieIn: is a text of one of the definitions a piece of the memory of s?
func lieIn(l []api.Ref, s string) bool {
	return slices.ContainsFunc(l, func(r api.Ref) bool { return lies(r.Label, s) || lies(r.Dest, s) || lies(r.Title, s) })
}

// R3: what is handed in is not changed, and an answer is new memory.
func TestAnswersAreNewMemory(t *testing.T) {
	s := strings.Clone("[a]: /u 't'\n[b]: <v>\n\"t\"\nleft")
	one, n := refs.Take(s)
	all, left := refs.All(s)
	if n == 0 || len(all) != 2 || left == "" {
		t.Fatalf("of %q too little is told", s)
	}
	if lieIn([]api.Ref{one}, s) || lieIn(all, s) || lies(left, s) {
		t.Errorf("of %q: %q, %q, %q are not new", s, one, all, left)
	}
	two, more := slices.Clone(all), labelled("c", "a")
	sum := refs.Add(all, more)
	found, _ := refs.Find(all, "a")
	for _, r := range append(slices.Clone(all), more...) {
		for _, s := range []string{r.Label, r.Dest, r.Title} {
			if lieIn(sum, s) || lieIn([]api.Ref{found}, s) {
				t.Errorf("of %q: %q, %q are not new", r, sum, found)
			}
		}
	}
	for i := range sum {
		sum[i].Dest = "changed"
	}
	if !slices.Equal(all, two) || !slices.Equal(more, labelled("c", "a")) {
		t.Errorf("an answer of Add is no list of its own: %q, %q", all, more)
	}
	// Nor is anything laid behind the end of a list that is handed in.
	roomy := append(make([]api.Ref, 0, 8), all...)
	refs.Add(roomy, more)
	if roomy[:3][2] != (api.Ref{}) {
		t.Errorf("Add writes %q behind a list", roomy[:3][2])
	}
}

// Nothing is kept: what is told hangs on no call ahead of it.
func TestNothingIsKept(t *testing.T) {
	texts := []string{"", "[a]: /u", "[a]: /v 't'\nx", "[b]: <>\n[a]: /w", "[a]: /u '", "x", "\\", "[\v]: /u"}
	for _, s := range texts {
		for _, ahead := range texts {
			l, _ := refs.All(ahead)
			refs.Take(ahead)
			refs.Find(refs.Add(l, l), "a")
			sameTake(t, s)
			sameAll(t, s)
			checkAdd(t, nil, labelled("a", "a"), labelled("a"))
			checkFind(t, nil, "a", api.Ref{}, false)
		}
	}
}

func FuzzRefs(f *testing.F) {
	for _, s := range []string{"", "[a]: /u\nx", "[a]: /u 't'", "[\\]b]:\n<c d>\n(t)\n[a]: b(c)\\)", "[a]: /u\n'b\n\nc'", "[\v]: &amp; \"\xff\"", "[a]: /u 't' x"} {
		f.Add(s)
	}
	f.Fuzz(func(t *testing.T, s string) {
		for _, begin := range []string{"", "[", "[a]:", "[a]: /u", "[a]: <u>\n'", "[a]: /u 't'"} {
			sameTake(t, begin+s)
			sameAll(t, begin+s)
		}
		l, left := refs.All(s)
		checkTake(t, left, api.Ref{}, 0)
		checkAdd(t, l, l, l)
		checkAdd(t, nil, l, added(nil, l))
		sameFind(t, l, s)
		for _, r := range l {
			sameFind(t, l, r.Label)
		}
	})
}
