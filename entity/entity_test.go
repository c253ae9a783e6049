package entity_test

import (
	"html"
	"regexp"
	"slices"
	"strconv"
	"strings"
	"testing"
	"unicode/utf8"
	"unsafe"

	"incipit/class"
	"incipit/entity"
)

const mark = "\uFFFD"

// listed are the names as the chapter writes them, each with its character's number.
const listed = "AElig 198, Aacute 193, Acirc 194, Agrave 192, Alpha 913, Aring 197, Atilde 195, Auml 196, " +
	"Beta 914, Ccedil 199, ClockwiseContourIntegral 8754, Dagger 8225, Dcaron 270, Delta 916, DifferentialD 8518, " +
	"ETH 208, Eacute 201, Ecirc 202, Egrave 200, Euml 203, Gamma 915, HilbertSpace 8459, Iacute 205, Icirc 206, " +
	"Igrave 204, Iuml 207, Ntilde 209, OElig 338, Oacute 211, Ocirc 212, Ograve 210, Omega 937, Oslash 216, " +
	"Otilde 213, Ouml 214, Scaron 352, THORN 222, Uacute 218, Ucirc 219, Ugrave 217, Uuml 220, Yacute 221, " +
	"Yuml 376, aacute 225, acirc 226, acute 180, aelig 230, agrave 224, alpha 945, amp 38, apos 39, aring 229, " +
	"asymp 8776, atilde 227, auml 228, bdquo 8222, beta 946, brvbar 166, bull 8226, cap 8745, ccedil 231, " +
	"cedil 184, cent 162, circ 710, clubs 9827, copy 169, cup 8746, curren 164, dagger 8224, darr 8595, deg 176, " +
	"delta 948, diams 9830, divide 247, eacute 233, ecirc 234, egrave 232, empty 8709, emsp 8195, ensp 8194, " +
	"epsilon 949, equiv 8801, eth 240, euml 235, euro 8364, exist 8707, fnof 402, forall 8704, frac12 189, " +
	"frac14 188, frac34 190, gamma 947, ge 8805, gt 62, harr 8596, hearts 9829, hellip 8230, iacute 237, icirc 238, " +
	"iexcl 161, igrave 236, infin 8734, int 8747, iquest 191, isin 8712, iuml 239, lambda 955, laquo 171, larr 8592, " +
	"ldquo 8220, le 8804, lsaquo 8249, lsquo 8216, lt 60, macr 175, mdash 8212, micro 181, middot 183, minus 8722, " +
	"mu 956, nabla 8711, nbsp 160, ndash 8211, ne 8800, ni 8715, not 172, ntilde 241, oacute 243, ocirc 244, " +
	"oelig 339, ograve 242, omega 969, oplus 8853, ordf 170, ordm 186, oslash 248, otilde 245, otimes 8855, " +
	"ouml 246, para 182, part 8706, permil 8240, perp 8869, pi 960, plusmn 177, pound 163, prod 8719, quot 34, " +
	"radic 8730, raquo 187, rarr 8594, rdquo 8221, reg 174, rsaquo 8250, rsquo 8217, sbquo 8218, scaron 353, " +
	"sdot 8901, sect 167, shy 173, sigma 963, spades 9824, sub 8834, sum 8721, sup 8835, sup1 185, sup2 178, " +
	"sup3 179, szlig 223, thinsp 8201, thorn 254, tilde 732, times 215, trade 8482, uacute 250, uarr 8593, " +
	"ucirc 251, ugrave 249, uml 168, uuml 252, yacute 253, yen 165, yuml 255"

// told is the character of each name that the chapter lists.
func told(t testing.TB) map[string]string {
	t.Helper()
	all := map[string]string{}
	for _, part := range strings.Split(listed, ", ") {
		name, number, _ := strings.Cut(part, " ")
		n, err := strconv.Atoi(number)
		if err != nil {
			t.Fatal(err)
		}
		all[name] = string(rune(n))
	}
	return all
}

func checkNamed(t *testing.T, name, char string, is bool) {
	t.Helper()
	if c, ok := entity.Named(name); c != char || ok != is {
		t.Errorf("Named(%q) = %q, %v, want %q, %v", name, c, ok, char, is)
	}
}

func checkRead(t *testing.T, s, char string, bytes int) {
	t.Helper()
	if c, n := entity.Read(s); c != char || n != bytes {
		t.Errorf("Read(%q) = %q, %d, want %q, %d", s, c, n, char, bytes)
	}
}

// form is a reference at the beginning of a text: its name, its decimal digits, or its others.
var form = regexp.MustCompile(`^&(?:([0-9A-Za-z]+)|#([0-9]{1,7})|#[xX]([0-9a-fA-F]{1,6}));`)

// formed is Read, told by form.
func formed(names map[string]string, s string) (string, int) {
	m := form.FindStringSubmatch(s)
	switch {
	case m == nil:
		return "", 0
	case m[1] == "":
		return numbered(m[2], m[3]), len(m[0])
	case names[m[1]] == "":
		return "", 0
	}
	return names[m[1]], len(m[0])
}

// numbered is the character of decimal digits, or of others if there are none.
func numbered(decimal, hex string) string {
	n, err := strconv.ParseInt(decimal, 10, 64)
	if err != nil {
		n, _ = strconv.ParseInt(hex, 16, 64)
	}
	if n == 0 || n >= 55296 && n <= 57343 || n > 1114111 {
		return mark
	}
	return string(rune(n))
}

// P4.1

func TestNamed(t *testing.T) {
	names := told(t)
	if len(names) != 183 {
		t.Fatalf("the test has %d names", len(names))
	}
	for name, char := range names {
		checkNamed(t, name, char, true)
		if want := html.UnescapeString("&" + name + ";"); char != want {
			t.Errorf("the test has %q for %s, HTML5 %q", char, name, want)
		}
	}
	checkNamed(t, "amp", "&", true)
	checkNamed(t, "ClockwiseContourIntegral", "\u2232", true)
	checkNamed(t, "euro", "\u20ac", true)
}

func TestNamedOfOthers(t *testing.T) {
	for _, name := range []string{
		"", " ", "\x00", "\xff", "a", "A", "zzz", "0", "&", ";", "#65", "#x41", "&amp;", "amp;", "&amp", " amp", "amp ", "amp\x00",
		// HTML5 has these; the chapter has not.
		"AMP", "LT", "Tab", "NewLine", "hbar", "theta", "Theta", "colon", "num", "lbrace", "zwj", "yacy", "zwnj", "AElig2", "Aogon",
	} {
		checkNamed(t, name, "", false)
	}
}

// A name that is short of a byte, or has one more, or another one, is itself one, or none.
func TestNamedBesideNames(t *testing.T) {
	names := told(t)
	check := func(name string) {
		t.Helper()
		char, ok := names[name]
		checkNamed(t, name, char, ok)
	}
	for name := range names {
		check(strings.ToUpper(name))
		check(strings.ToLower(name))
		for i := range name {
			check(name[:i])
			check(name[i:])
			check(name[:i] + name[i+1:])
			for c := range 256 {
				check(name[:i] + string([]byte{byte(c)}) + name[i+1:])
			}
		}
		for c := range 256 {
			check(name + string([]byte{byte(c)}))
			check(string([]byte{byte(c)}) + name)
		}
	}
}

func TestNamesAreListedAndSorted(t *testing.T) {
	var want []string
	for name := range told(t) {
		want = append(want, name)
	}
	slices.Sort(want)
	if got := entity.Names(); !slices.Equal(got, want) {
		t.Errorf("Names() = %q, want %q", got, want)
	}
}

// R3: a list that was told is one's own.
func TestNamesAreNewEachTime(t *testing.T) {
	first := entity.Names()
	want := slices.Clone(first)
	for i := range first {
		first[i] = "x"
	}
	if got := entity.Names(); !slices.Equal(got, want) {
		t.Errorf("Names() = %q, want %q", got, want)
	}
	checkNamed(t, "amp", "&", true)
	checkNamed(t, "x", "", false)
}

// P4.2

func TestRead(t *testing.T) {
	checkRead(t, "&amp;x", "&", 5)
	checkRead(t, "&#65;", "A", 5)
	checkRead(t, "&#0;", mark, 4)
	checkRead(t, "&x;", "", 0)
	checkRead(t, "&#x41;", "A", 6)
	checkRead(t, "&#X41;", "A", 6)
	checkRead(t, "&frac12;", "\u00bd", 8)
	checkRead(t, "&ClockwiseContourIntegral;", "\u2232", 26)
	checkRead(t, "&quot;&amp;", "\"", 6)
	checkRead(t, "&#38;amp;", "&", 5)
}

func TestReadNames(t *testing.T) {
	for name, char := range told(t) {
		checkRead(t, "&"+name+";", char, len(name)+2)
		checkRead(t, "&"+name, "", 0)
		checkRead(t, name+";", "", 0)
		checkRead(t, "&"+name+" ;", "", 0)
		checkRead(t, "& "+name+";", "", 0)
		checkRead(t, "&#"+name+";", "", 0)
		checkRead(t, "&"+name+"&"+name+";", "", 0)
		checkRead(t, " &"+name+";", "", 0)
	}
}

func TestReadNothing(t *testing.T) {
	for _, s := range []string{
		"", "&", "&;", "&#", "&#;", "&#x", "&#x;", "&#X;", ";", "a", "amp;", "a&amp;", " &amp;", "\\&amp;",
		"&&amp;", "&amp", "&amp ;", "& amp;", "&amp:", "&AMP;", "&Amp;", "&am\u00e4p;", "&amp\x00;", "&\x00amp;", "&\xff;", "\xff&amp;",
		"&#65", "&#65 ;", "& #65;", "&# 65;", "&#a;", "&#6a;", "&#+5;", "&#-5;", "&#6_5;", "&#6.5;", "&#\u0661;", "#65;",
		"&#x41", "&#xg;", "&#x4g;", "&x41;", "&#0x41;", "&# x41;", "&#xx41;", "&#x 41;", "&#x-1;", "&#x+1;", "&#x1_1;", "&#y41;",
		"&#x4\u00e4;", "&nosuchname;", "&#\uff11;",
	} {
		checkRead(t, s, "", 0)
	}
}

func TestReadDigitsAtMost(t *testing.T) {
	checkRead(t, "&#0000065;", "A", 10)
	checkRead(t, "&#00000065;", "", 0)
	checkRead(t, "&#0000000;", mark, 10)
	checkRead(t, "&#00000000;", "", 0)
	checkRead(t, "&#9999999;", mark, 10)
	checkRead(t, "&#10000000;", "", 0)
	checkRead(t, "&#12345678", "", 0)
	checkRead(t, "&#x000041;", "A", 10)
	checkRead(t, "&#x0000041;", "", 0)
	checkRead(t, "&#xffffff;", mark, 10)
	checkRead(t, "&#XFFFFFF;", mark, 10)
	checkRead(t, "&#x1000000;", "", 0)
	checkRead(t, "&#4294967361;", "", 0)
	checkRead(t, "&#x100000041;", "", 0)
	checkRead(t, "&#18446744073709551681;", "", 0)
}

func TestReadNumbersAtEdges(t *testing.T) {
	for number, want := range map[int]string{
		0: mark, 1: "\x01", 9: "\t", 10: "\n", 127: "\x7f", 128: "\u0080", 159: "\u009f", 255: "\u00ff",
		55295: "\ud7ff", 55296: mark, 56320: mark, 57343: mark, 57344: "\ue000",
		64976: "\ufdd0", 65533: mark, 65534: "\ufffe", 65535: "\uffff", 65536: "\U00010000",
		1114111: "\U0010ffff", 1114112: mark, 9999999: mark,
	} {
		s := "&#" + strconv.Itoa(number) + ";"
		checkRead(t, s, want, len(s))
		s = "&#x" + strconv.FormatInt(int64(number), 16) + ";"
		checkRead(t, s, want, len(s))
	}
}

func TestReadEachNumber(t *testing.T) {
	for number := range int64(utf8.MaxRune + 300) {
		decimal, hex := strconv.FormatInt(number, 10), strconv.FormatInt(number, 16)
		want := numbered(decimal, "")
		checkRead(t, "&#"+decimal+";", want, len(decimal)+3)
		checkRead(t, "&#x"+hex+";", want, len(hex)+4)
		checkRead(t, "&#X"+strings.ToUpper(hex)+";", want, len(hex)+4)
	}
}

func TestReadEachByteInEachPlace(t *testing.T) {
	names := told(t)
	for _, s := range []string{"&lt;", "&sup1;", "&#1;", "&#0;", "&#x1;", "&#Xf;", "&#1234567;", "&#x123456;"} {
		for i := range s {
			for c := range 256 {
				b := string([]byte{byte(c)})
				for _, s := range []string{s[:i] + b + s[i+1:], s[:i] + b + s[i:], s[:i] + b} {
					char, n := formed(names, s)
					checkRead(t, s, char, n)
				}
			}
		}
	}
}

func TestReadShortTexts(t *testing.T) {
	names := told(t)
	pieces := []string{"&", "#", "x", "X", "lt", "sup", "1", "0", "A", "g", ";"}
	texts := []string{"", "&"}
	for n := 0; n < len(texts); n++ {
		s := texts[n]
		char, bytes := formed(names, s)
		checkRead(t, s, char, bytes)
		if s == "" || len(s) > 6 {
			continue
		}
		for _, p := range pieces {
			texts = append(texts, s+p)
		}
	}
}

// R1: texts of any length.
func TestReadLongTexts(t *testing.T) {
	const n = 1 << 22
	checkRead(t, "&"+strings.Repeat("a", n)+";", "", 0)
	checkRead(t, "&#"+strings.Repeat("0", n)+";", "", 0)
	checkRead(t, "&#x"+strings.Repeat("0", n)+";", "", 0)
	checkRead(t, strings.Repeat("&", n)+"amp;", "", 0)
	checkRead(t, "&amp;"+strings.Repeat("&amp;", n), "&", 5)
	checkNamed(t, strings.Repeat("a", n), "", false)
	checkNamed(t, "amp"+strings.Repeat("p", n), "", false)
}

// R3: an answer is new memory.
func TestReadIsNewMemory(t *testing.T) {
	for _, s := range []string{"&amp;&", "&euro;\u20ac", "&#8364;\u20ac", "&#x20ac;\u20ac"} {
		s = strings.Clone(s)
		char, _ := entity.Read(s)
		from := uintptr(unsafe.Pointer(unsafe.StringData(s)))
		if at := uintptr(unsafe.Pointer(unsafe.StringData(char))); from <= at && at < from+uintptr(len(s)) {
			t.Errorf("%q lies in the text", char)
		}
	}
}

// P4.3

// checkMore holds what is read of a reference against what is read with more behind it.
func checkMore(t *testing.T, reference string) {
	t.Helper()
	char, n := entity.Read(reference)
	if n != len(reference) || utf8.RuneCountInString(char) != 1 || !utf8.ValidString(char) {
		t.Fatalf("Read(%q) = %q, %d", reference, char, n)
	}
	for c := range 256 {
		checkRead(t, reference+string([]byte{byte(c)}), char, n)
	}
	for _, more := range []string{";;", "amp;", "&amp;", "&#65;", "#65;", "0;", " ;", "\xff\x00", reference} {
		checkRead(t, reference+more, char, n)
	}
	for i := range reference {
		checkRead(t, reference[:i], "", 0)
		if i > 0 {
			checkRead(t, reference[i:], "", 0)
		}
	}
}

func TestMoreMayFollow(t *testing.T) {
	for name := range told(t) {
		checkMore(t, "&"+name+";")
	}
	for _, digits := range []string{"0", "1", "65", "0000065", "55296", "1114111", "1114112", "9999999"} {
		checkMore(t, "&#"+digits+";")
	}
	for _, digits := range []string{"0", "f", "F", "41", "000041", "d800", "DfFf", "10FFFF", "110000", "ffffff"} {
		checkMore(t, "&#x"+digits+";")
		checkMore(t, "&#X"+digits+";")
	}
}

// No name has another sign than a letter or a digit, so where it ends is no question.
func TestNamesAreOfLettersAndDigits(t *testing.T) {
	for _, name := range entity.Names() {
		for _, c := range []byte(name) {
			if !class.Letter(c) && !class.Digit(c) {
				t.Errorf("%q has %q", name, c)
			}
		}
	}
}

func FuzzEntity(f *testing.F) {
	for _, s := range []string{"", "&", "&amp;x", "&#65;", "&#x10FFFF;", "&#0;", "&sup1;", "&#00000065;", "&\xff;"} {
		f.Add(s)
	}
	names := told(f)
	f.Fuzz(func(t *testing.T, s string) {
		for _, s := range []string{s, "&" + s, "&" + s + ";", "&#" + s + ";", "&#x" + s + ";"} {
			char, n := formed(names, s)
			checkRead(t, s, char, n)
		}
		char, ok := names[s]
		checkNamed(t, s, char, ok)
	})
}
