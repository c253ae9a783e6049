package escape_test

import (
	"fmt"
	"html"
	"regexp"
	"slices"
	"strings"
	"testing"
	"unicode/utf8"
	"unsafe"

	"incipit/entity"
	"incipit/escape"
)

const (
	mark     = "\uFFFD"
	ordinary = "A \"text\" \\* of <b>bytes</b> & 'signs', &lt;\u00e9&euro;&no;\\\\ \U0001F600."
	// signs are those of ASCII, in order.
	signs = "!\"#$%&'()*+,-./:;<=>?@[\\]^_`{|}~"
	// asTheyAre is what P5.2 leaves.
	asTheyAre = "abcdefghijklmnopqrstuvwxyzABCDEFGHIJKLMNOPQRSTUVWXYZ0123456789!#$%()*+,-./:;=?@_~"
)

func checkHtml(t *testing.T, s, want string) {
	t.Helper()
	if got := escape.Html(s); got != want {
		t.Errorf("Html(%q) = %q, want %q", s, got, want)
	}
}

func checkHref(t *testing.T, s, want string) {
	t.Helper()
	if got := escape.Href(s); got != want {
		t.Errorf("Href(%q) = %q, want %q", s, got, want)
	}
}

func checkUnescape(t *testing.T, s, want string) {
	t.Helper()
	if got := escape.Unescape(s); got != want {
		t.Errorf("Unescape(%q) = %q, want %q", s, got, want)
	}
}

// bytes are all bytes from 0 to 255, in order.
func bytes() string {
	all := make([]byte, 256)
	for i := range all {
		all[i] = byte(i)
	}
	return string(all)
}

// inHtml is Html, told by replacing one sign behind the other: & ahead of those that bring one.
func inHtml(s string) string {
	s = strings.ReplaceAll(s, "&", "&amp;")
	s = strings.ReplaceAll(s, "<", "&lt;")
	s = strings.ReplaceAll(s, ">", "&gt;")
	return strings.ReplaceAll(s, "\"", "&quot;")
}

// inHref is Href, told byte by byte.
func inHref(s string) string {
	var all []string
	for _, c := range []byte(s) {
		switch {
		case slices.Contains([]byte(asTheyAre), c):
			all = append(all, string([]byte{c}))
		case c == 38:
			all = append(all, "&amp;")
		case c == 39:
			all = append(all, "&#39;")
		default:
			all = append(all, fmt.Sprintf("%%%02X", c))
		}
	}
	return strings.Join(all, "")
}

// form is a backslash and a sign, or what may be a reference. What may be one, and
// is none, has no backslash and no & behind its first byte, so it is gone over as a whole.
var form = regexp.MustCompile(`\\[!-/:-@\[-` + "`" + `{-~]|&[0-9A-Za-z]+;|&#[0-9]{1,7};|&#[xX][0-9a-fA-F]{1,6};`)

// unescaped is Unescape, told by form.
func unescaped(s string) string {
	return form.ReplaceAllStringFunc(s, func(part string) string {
		if part[0] == '\\' {
			return part[1:]
		}
		if char, n := entity.Read(part); n > 0 {
			return char
		}
		return part
	})
}

// shortTexts are all of at most so many of the pieces.
func shortTexts(pieces []string, most int) []string {
	texts := []string{""}
	begin := 0
	for range most {
		end := len(texts)
		for _, s := range texts[begin:end] {
			for _, p := range pieces {
				texts = append(texts, s+p)
			}
		}
		begin = end
	}
	return texts
}

// P5.1

func TestSign(t *testing.T) {
	for c := range 256 {
		want := 33 <= c && c <= 47 || 58 <= c && c <= 64 || 91 <= c && c <= 96 || 123 <= c && c <= 126
		if got := escape.Sign(byte(c)); got != want {
			t.Errorf("Sign(%d) = %v", c, got)
		}
		if want != strings.Contains(signs, string(rune(c))) {
			t.Errorf("the test has %v for %d", want, c)
		}
	}
}

// These are characters' numbers that are signs, but no such bytes.
func TestSignAboveAscii(t *testing.T) {
	for _, c := range []byte{127, 128, 161, 169, 171, 174, 180, 191, 215, 247, 255} {
		if escape.Sign(c) {
			t.Errorf("Sign(%d) = true", c)
		}
	}
}

func TestHtml(t *testing.T) {
	checkHtml(t, "", "")
	checkHtml(t, "a", "a")
	checkHtml(t, "a<b", "a&lt;b")
	checkHtml(t, "<&>\"", "&lt;&amp;&gt;&quot;")
	checkHtml(t, "&amp;", "&amp;amp;")
	checkHtml(t, "&lt;", "&amp;lt;")
	checkHtml(t, "&&<<", "&amp;&amp;&lt;&lt;")
	checkHtml(t, "<a href=\"/u?a&b\">", "&lt;a href=&quot;/u?a&amp;b&quot;&gt;")
	checkHtml(t, "'`=\\\x7f\x01\t\n\r ", "'`=\\\x7f\x01\t\n\r ")
	checkHtml(t, "\u00e9 < \u20ac > \U0001F600", "\u00e9 &lt; \u20ac &gt; \U0001F600")
}

func TestHtmlOfEachByte(t *testing.T) {
	for _, c := range []byte(bytes()) {
		s := string([]byte{c})
		want := s
		switch c {
		case 38:
			want = "&amp;"
		case 60:
			want = "&lt;"
		case 62:
			want = "&gt;"
		case 34:
			want = "&quot;"
		}
		checkHtml(t, s, want)
		checkHtml(t, "a"+s+s+"b", "a"+want+want+"b")
	}
}

func TestHtmlOfOtherBytes(t *testing.T) {
	checkHtml(t, "\x00\xff\xc3<\x80", "\x00\xff\xc3&lt;\x80")
	checkHtml(t, "\xe2\x82", "\xe2\x82")
	checkHtml(t, bytes(), inHtml(bytes()))
}

func TestHtmlOfShortTexts(t *testing.T) {
	for _, s := range shortTexts([]string{"&", "<", ">", "\"", "'", "amp;", "\\", "\u00e9", "\xff"}, 5) {
		checkHtml(t, s, inHtml(s))
		if utf8.ValidString(s) && html.UnescapeString(escape.Html(s)) != s {
			t.Errorf("HTML reads %q as another text", escape.Html(s))
		}
	}
}

// P5.2

func TestHref(t *testing.T) {
	checkHref(t, "", "")
	checkHref(t, "a", "a")
	checkHref(t, " \u00e9", "%20%C3%A9")
	checkHref(t, "http://a.b/c_d~e?f=g&h='i'#j", "http://a.b/c_d~e?f=g&amp;h=&#39;i&#39;#j")
	checkHref(t, "mailto:a+b@c.d", "mailto:a+b@c.d")
	checkHref(t, "%20%c3%", "%20%c3%")
	checkHref(t, "&amp;&#39;", "&amp;amp;&amp;#39;")
	checkHref(t, "\"<>\\^`{|}[]", "%22%3C%3E%5C%5E%60%7B%7C%7D%5B%5D")
	checkHref(t, "!#$%()*+,-./:;=?@_~", "!#$%()*+,-./:;=?@_~")
	checkHref(t, "\x00\x01\t\n\r\x1f\x7f", "%00%01%09%0A%0D%1F%7F")
	checkHref(t, "\u20ac\U0001F600", "%E2%82%AC%F0%9F%98%80")
	checkHref(t, "/:09@AZ[`az{", "/:09@AZ%5B%60az%7B")
	// Letters and digits are ASCII's alone.
	checkHref(t, "\u00c4\u0661", "%C3%84%D9%A1")
}

func TestHrefOfEachByte(t *testing.T) {
	for _, c := range []byte(bytes()) {
		s := string([]byte{c})
		want := inHref(s)
		checkHref(t, s, want)
		checkHref(t, "a"+s+s+"b", "a"+want+want+"b")
	}
}

func TestHrefOfOtherBytes(t *testing.T) {
	checkHref(t, "\xff", "%FF")
	checkHref(t, "\xe2\x82a\x80", "%E2%82a%80")
	checkHref(t, mark, "%EF%BF%BD")
	checkHref(t, bytes(), inHref(bytes()))
}

func TestHrefOfShortTexts(t *testing.T) {
	for _, s := range shortTexts([]string{"&", "'", "\"", "%", "2F", "amp;", "\\", "\u00e9", "\xff"}, 5) {
		checkHref(t, s, inHref(s))
	}
}

// P5.3

func TestUnescape(t *testing.T) {
	checkUnescape(t, "", "")
	checkUnescape(t, "a", "a")
	checkUnescape(t, "\\*&lt;", "*<")
	checkUnescape(t, "a\\.b\\!c", "a.b!c")
	checkUnescape(t, "&copy; 1 &amp; &#65;&#x42;&#X43;", "\u00a9 1 & ABC")
	checkUnescape(t, "&#0;&#xD800;&#1114112;", mark+mark+mark)
	checkUnescape(t, "&ClockwiseContourIntegral;&HilbertSpace;", "\u2232\u210b")
	checkUnescape(t, "&nbsp;&nbsp;x", "\u00a0\u00a0x")
}

func TestUnescapeBackslashes(t *testing.T) {
	checkUnescape(t, "\\", "\\")
	checkUnescape(t, "a\\", "a\\")
	checkUnescape(t, "\\\\", "\\")
	checkUnescape(t, "\\\\\\", "\\\\")
	checkUnescape(t, "\\\\\\\\", "\\\\")
	checkUnescape(t, "\\\\*", "\\*")
	checkUnescape(t, "\\\\\\*", "\\*")
	checkUnescape(t, "\\a\\0\\ \\\t\\\n\\\r", "\\a\\0\\ \\\t\\\n\\\r")
	checkUnescape(t, "\\\u00e9\\\u00a1\\\u2014\\\xa1\\\x00\\\x7f", "\\\u00e9\\\u00a1\\\u2014\\\xa1\\\x00\\\x7f")
	// A sign that is escaped goes no further: it begins nothing.
	checkUnescape(t, "\\&amp;", "&amp;")
	checkUnescape(t, "\\&#65;", "&#65;")
	checkUnescape(t, "\\\\&amp;", "\\&")
	checkUnescape(t, "\\\\\\&amp;", "\\&amp;")
	checkUnescape(t, "&\\amp;", "&\\amp;")
	checkUnescape(t, "&\\#65;", "&#65;")
	checkUnescape(t, "&amp\\;", "&amp;")
	checkUnescape(t, "&#65\\;", "&#65;")
}

func TestUnescapeBackslashAheadOfEachByte(t *testing.T) {
	for _, c := range []byte(bytes()) {
		s := string([]byte{c})
		want := "\\" + s
		if c < 128 && strings.Contains(signs, s) {
			want = s
		}
		checkUnescape(t, "\\"+s, want)
		checkUnescape(t, "a\\"+s+"b", "a"+want+"b")
		checkUnescape(t, "\\"+s+"\\"+s, want+want)
	}
	all, want := "", ""
	for _, c := range []byte(signs) {
		all += "\\" + string([]byte{c})
		want += string([]byte{c})
	}
	checkUnescape(t, all, want)
}

func TestUnescapeReferences(t *testing.T) {
	for _, name := range entity.Names() {
		char, _ := entity.Named(name)
		checkUnescape(t, "&"+name+";", char)
		checkUnescape(t, "a&"+name+";&"+name+";b", "a"+char+char+"b")
		checkUnescape(t, "&"+name, "&"+name)
		checkUnescape(t, "&&"+name+";;", "&"+char+";")
		checkUnescape(t, "\\&"+name+";", "&"+name+";")
	}
	// None of these is one.
	for _, s := range []string{
		"&", "&&", "&;", "&#;", "&#x;", "&amp", "& amp;", "&AMP;", "&no;", "&#65", "&#12345678;", "&#x1234567;", "&#xg;", "&#a;",
		"amp;", "#65;", "&\u00e9;", "&am\xffp;",
	} {
		checkUnescape(t, s, s)
		checkUnescape(t, s+"&lt;"+s, s+"<"+s)
	}
}

// What is told is not read again.
func TestUnescapeIsDoneOnce(t *testing.T) {
	checkUnescape(t, "&amp;amp;", "&amp;")
	checkUnescape(t, "&amp;lt;", "&lt;")
	checkUnescape(t, "&#38;lt;", "&lt;")
	checkUnescape(t, "&#38;#65;", "&#65;")
	checkUnescape(t, "&#92;*", "\\*")
	checkUnescape(t, "&#92;&#42;", "\\*")
	checkUnescape(t, "\\&#92;*", "&#92;*")
	checkUnescape(t, "&amp;\\lt;", "&\\lt;")
	checkUnescape(t, "\\\\&#92;\\\\", "\\\\\\")
}

func TestUnescapeOtherBytes(t *testing.T) {
	checkUnescape(t, "\x00\xff\xc3\\*\x80&lt;\xe2\x82", "\x00\xff\xc3*\x80<\xe2\x82")
	checkUnescape(t, bytes(), unescaped(bytes()))
	checkUnescape(t, "\r\n\v\f\x7f'", "\r\n\v\f\x7f'")
}

func TestUnescapeShortTexts(t *testing.T) {
	for _, s := range shortTexts([]string{"\\", "&", "amp;", "#", "65;", "*", "a", ";", "\n", "\u00e9", "\xff"}, 5) {
		checkUnescape(t, s, unescaped(s))
	}
}

func TestUnescapeEachByteInEachPlace(t *testing.T) {
	for _, s := range []string{"\\*", "a\\\\b", "&lt;", "\\&lt;", "&sup1;", "&#1;", "&#x1;", "&lt;&gt;", "\\<&amp;\\>"} {
		for i := range s {
			for _, c := range []byte(bytes()) {
				b := string([]byte{c})
				for _, s := range []string{s[:i] + b + s[i+1:], s[:i] + b + s[i:], s[:i] + b} {
					checkUnescape(t, s, unescaped(s))
				}
			}
		}
	}
}

// P5.4

// checkSound holds what is told of s against what follows from the promises.
func checkSound(t *testing.T, s string) {
	t.Helper()
	if got := escape.Html(s); strings.ContainsAny(got, "<>\"") {
		t.Errorf("Html(%q) = %q", s, got)
	}
	href := escape.Href(s)
	for _, c := range []byte(href) {
		if c < 33 || c > 126 || c == '<' || c == '>' || c == '"' {
			t.Errorf("Href(%q) = %q", s, href)
			break
		}
	}
	if !strings.ContainsAny(s, "\\&") {
		checkUnescape(t, s, s)
	}
	// With no backslash of its own a text in HTML, unescaped, is the text again.
	if !strings.Contains(s, "\\") {
		checkUnescape(t, escape.Html(s), s)
	}
}

func TestSound(t *testing.T) {
	checkSound(t, "")
	checkSound(t, ordinary)
	checkSound(t, bytes())
	checkSound(t, strings.NewReplacer("\\", "", "&", "").Replace(bytes()))
	for first := range 256 {
		for second := range 256 {
			checkSound(t, string([]byte{byte(first), byte(second)}))
		}
	}
	for _, name := range entity.Names() {
		char, _ := entity.Named(name)
		checkSound(t, char+name+";")
		checkSound(t, "&"+name+";")
	}
}

func TestEachCharacterIsItsOwn(t *testing.T) {
	for r := range rune(utf8.MaxRune + 1) {
		s := string(r)
		if r > 127 {
			checkHtml(t, s, s)
		}
		if r != '\\' && r != '&' {
			checkUnescape(t, s, s)
		}
	}
}

// R1: texts of any length.
func TestLongTexts(t *testing.T) {
	const n = 1 << 20
	for _, part := range []string{"a", "\\", "&", "\\&", "&a", "&amp;", "&#", "&#1", "<", "\"", "\xff", "\u20ac", ordinary} {
		s := strings.Repeat(part, n/len(part))
		if escape.Html(s) != inHtml(s) {
			t.Errorf("Html of many %q", part)
		}
		if escape.Href(s) != strings.Repeat(inHref(part), n/len(part)) {
			t.Errorf("Href of many %q", part)
		}
		if escape.Unescape(s) != unescaped(s) {
			t.Errorf("Unescape of many %q", part)
		}
	}
	checkUnescape(t, "&"+strings.Repeat("a", n)+";", "&"+strings.Repeat("a", n)+";")
}

// R3: an answer is new memory, also where it is what was handed in.
func TestAnswersAreNewMemory(t *testing.T) {
	for _, s := range []string{"a", "ab-c", strings.Repeat("a", 100)} {
		s := strings.Clone(s)
		for _, answer := range []string{escape.Html(s), escape.Href(s), escape.Unescape(s)} {
			if answer != s || unsafe.StringData(answer) == unsafe.StringData(s) {
				t.Errorf("%q is not new", answer)
			}
		}
	}
	s := strings.Clone("\\*")
	from := uintptr(unsafe.Pointer(unsafe.StringData(s)))
	answer := escape.Unescape(s)
	if at := uintptr(unsafe.Pointer(unsafe.StringData(answer))); from <= at && at < from+uintptr(len(s)) {
		t.Errorf("%q lies in the text", answer)
	}
}

func FuzzEscape(f *testing.F) {
	for _, s := range []string{"", ordinary, "\\", "\\\\&amp;", "&#38;lt;", "&#92;*", "a<b", " \u00e9", "\x00\xff\\\xa1"} {
		f.Add(s)
	}
	f.Fuzz(func(t *testing.T, s string) {
		checkSound(t, s)
		checkHtml(t, s, inHtml(s))
		checkHref(t, s, inHref(s))
		checkUnescape(t, s, unescaped(s))
	})
}
