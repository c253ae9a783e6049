package table_test

import (
	"fmt"
	"math"
	"slices"
	"strconv"
	"strings"
	"testing"
	"unsafe"

	"incipit/api"
	"incipit/column"
	"incipit/table"
	"incipit/tree"
)

const long = 1 << 20

// bytes are all bytes from 0 to 255, each as a text.
func bytes() []string {
	var all []string
	for c := range 256 {
		all = append(all, string([]byte{byte(c)}))
	}
	return all
}

// shortTexts are all of at most so many of the pieces.
func shortTexts(pieces []string, most int) []string {
	texts := []string{""}
	begin := 0
	for range most {
		end := len(texts)
		for _, s := range texts[begin:end] {
			for _, p := range pieces {
				texts = append(texts, s+p)
			}
		}
		begin = end
	}
	return texts
}

// changed are texts that are not quite s: cut at each place, with each byte laid
// in and with each byte in the place of another one.
func changed(s string) []string {
	texts := []string{s}
	for i := range len(s) + 1 {
		texts = append(texts, s[:i], s[i:])
		for _, b := range bytes() {
			texts = append(texts, s[:i]+b+s[i:])
			if i < len(s) {
				texts = append(texts, s[:i]+b+s[i+1:])
			}
		}
	}
	return texts
}

// shown is the beginning of what is told, as it is printed.
func shown(told any) string {
	return fmt.Sprintf("%.200s", fmt.Sprintf("%#v", told))
}

func checkCells(t *testing.T, s string, want ...string) {
	t.Helper()
	if got := table.Cells(s); !slices.Equal(got, want) {
		t.Errorf("Cells(%.80q) = %s, want %s", s, shown(got), shown(want))
	}
}

func checkAligns(t *testing.T, s string, want []int, ok bool) {
	t.Helper()
	got, gotOk := table.Aligns(s)
	if !slices.Equal(got, want) || gotOk != ok {
		t.Errorf("Aligns(%.80q) = %s, %t, want %s, %t", s, shown(got), gotOk, shown(want), ok)
	}
	if !gotOk && got != nil {
		t.Errorf("Aligns(%.80q) tells a list beside false", s)
	}
}

// aligned holds a line that tells alignments against them.
func aligned(t *testing.T, s string, want ...int) {
	t.Helper()
	checkAligns(t, s, want, true)
}

// unaligned are lines that tell none.
func unaligned(t *testing.T, l ...string) {
	t.Helper()
	for _, s := range l {
		checkAligns(t, s, nil, false)
	}
}

func checkSplit(t *testing.T, s, ahead string, rows [][]string, aligns []int) {
	t.Helper()
	gotAhead, gotRows, gotAligns := table.Split(s)
	if gotAhead != ahead || !slices.EqualFunc(gotRows, rows, slices.Equal) || !slices.Equal(gotAligns, aligns) {
		t.Errorf("Split(%.80q) = %.80q, %s, %s, want %.80q, %s, %s", s, gotAhead, shown(gotRows), shown(gotAligns), ahead, shown(rows), shown(aligns))
	}
	fits(t, s)
}

// fits holds what Split tells against P15.5: rows have as many cells as there are
// alignments, and without alignments there are no rows.
func fits(t *testing.T, s string) {
	t.Helper()
	ahead, rows, aligns := table.Split(s)
	if (len(rows) == 0) != (len(aligns) == 0) || len(rows) == 0 && ahead != s {
		t.Errorf("Split(%.80q) tells %d rows, %d alignments, %.80q ahead", s, len(rows), len(aligns), ahead)
	}
	for _, r := range rows {
		if len(r) != len(aligns) {
			t.Errorf("Split(%.80q) tells %s of %d cells, want %d", s, shown(r), len(r), len(aligns))
		}
	}
}

// noTable are texts that have none.
func noTable(t *testing.T, l ...string) {
	t.Helper()
	for _, s := range l {
		checkSplit(t, s, s, nil, nil)
	}
}

// rowsOf are rows, each of the cells that a blank stands between; "." is an empty
// one.
func rowsOf(l ...string) [][]string {
	var rows [][]string
	for _, s := range l {
		cells := strings.Split(s, " ")
		for i, cell := range cells {
			if cell == "." {
				cells[i] = ""
			}
		}
		rows = append(rows, cells)
	}
	return rows
}

func checkNodes(t *testing.T, rows [][]string, aligns []int) {
	t.Helper()
	got := table.Nodes(rows, aligns)
	if want := modelNodes(rows, aligns); !tree.Same(got, want) {
		t.Errorf("Nodes(%s, %s) = %s, want %s", shown(rows), shown(aligns), shown(got), shown(want))
	}
}

func TestExamples(t *testing.T) {
	checkCells(t, `| a | b\|c |`, "a", "b|c")
	aligned(t, "|:-|-:|", table.Left, table.Right)
	ahead, rows, aligns := table.Split("| a |\n|-|")
	if ahead != "" || len(rows) != 1 || len(table.Nodes(rows, aligns).L) != 1 {
		t.Errorf("%q, %q, %v are no table of one row", ahead, rows, aligns)
	}
}

func TestAlignmentsAreNumbers(t *testing.T) {
	if got := [4]int{table.None, table.Left, table.Right, table.Center}; got != [4]int{0, 1, 2, 3} {
		t.Errorf("the alignments are %v", got)
	}
}

// P15.1

func TestCells(t *testing.T) {
	checkCells(t, "a", "a")
	checkCells(t, "a|b", "a", "b")
	checkCells(t, "|a|b|", "a", "b")
	checkCells(t, "|a|b", "a", "b")
	checkCells(t, "a|b|", "a", "b")
	checkCells(t, "a b | c  d", "a b", "c  d")
	checkCells(t, "a|b|c|d|e", "a", "b", "c", "d", "e")
	checkCells(t, "*a* | `b | c`", "*a*", "`b", "c`")
	checkCells(t, "\u00e9|\u20ac|\xff|\x00", "\u00e9", "\u20ac", "\xff", "\x00")
}

// Only one bar at each end is none between cells.
func TestEmptyCells(t *testing.T) {
	for _, s := range []string{"", "|", "||", " ", " \n\t", " | ", " || ", "| |", "|\v|"} {
		checkCells(t, s, "")
	}
	checkCells(t, "|||", "", "")
	checkCells(t, "||||", "", "", "")
	checkCells(t, "| | |", "", "")
	checkCells(t, "||a", "", "a")
	checkCells(t, "a||", "a", "")
	checkCells(t, "||a||", "", "a", "")
	checkCells(t, "a||b", "a", "", "b")
	checkCells(t, "a|  |b", "a", "", "b")
	checkCells(t, "|a", "a")
	checkCells(t, "a|", "a")
}

func TestWhiteOfCells(t *testing.T) {
	all := "\t\n\v\f\r "
	checkCells(t, all+"|"+all+"a"+all+"b"+all+"|"+all+"c"+all+"|"+all, "a"+all+"b", "c")
	checkCells(t, all+"a"+all+"|"+all+"c"+all, "a", "c")
	for _, b := range bytes() {
		if strings.Contains(`|\`, b) {
			continue
		}
		want := column.Trim(b)
		checkCells(t, b, want)
		checkCells(t, "|"+b+"|", want)
		checkCells(t, "a|"+b+"|c", "a", want, "c")
		checkCells(t, "|"+b+"|"+b+"a"+b+"|"+b+"|", want, column.Trim(b+"a"+b), want)
	}
	// What is white elsewhere is none here.
	checkCells(t, "\u00a0|\u2003a\u2003|\u0085", "\u00a0", "\u2003a\u2003", "\u0085")
	// White stands between a bar and the end, not between cells.
	checkCells(t, "a | \t", "a")
	checkCells(t, " \t| a", "a")
}

func TestEscapedBars(t *testing.T) {
	checkCells(t, `a\|b`, "a|b")
	checkCells(t, `\|`, "|")
	checkCells(t, `\|\|`, "||")
	checkCells(t, `\|a`, "|a")
	checkCells(t, `a\|`, "a|")
	checkCells(t, `|a\|`, "a|")
	checkCells(t, `|\|`, "|")
	checkCells(t, `|\||`, "|")
	checkCells(t, `\||`, "|")
	checkCells(t, `\||\|`, "|", "|")
	checkCells(t, `|\|a|b\|c\|d|`, "|a", "b|c|d")
	checkCells(t, `a\| |`, "a|")
	checkCells(t, `a |\| b`, "a", "| b")
	checkCells(t, ` \| `, "|")
	checkCells(t, `a\|| b`, "a|", "b")
	checkCells(t, `a|\|| b`, "a", "|", "b")
}

// A backslash right ahead of a bar escapes it, whatever stands ahead of that one.
func TestBackslashes(t *testing.T) {
	checkCells(t, `\`, `\`)
	checkCells(t, `\\`, `\\`)
	checkCells(t, `\\|`, `\|`)
	checkCells(t, `a\\|b`, `a\|b`)
	checkCells(t, `a\\\|b`, `a\\|b`)
	checkCells(t, `|\\|`, `\|`)
	checkCells(t, `|\`, `\`)
	checkCells(t, `a\ |b`, `a\`, `b`)
	checkCells(t, `a|\b`, `a`, `\b`)
	checkCells(t, `a|\`, `a`, `\`)
	checkCells(t, `\*|\a\\`, `\*`, `\a\\`)
	checkCells(t, "a\\\t|b", `a\`, `b`)
	checkCells(t, `/|a|/`, `/`, `a`, `/`)
}

// P15.2

func TestAligns(t *testing.T) {
	aligned(t, "|-|", table.None)
	aligned(t, "|:-|", table.Left)
	aligned(t, "|-:|", table.Right)
	aligned(t, "|:-:|", table.Center)
	aligned(t, "-|-", 0, 0)
	aligned(t, "-|", 0)
	aligned(t, "|-", 0)
	aligned(t, "|:----------|-----:|:---:|--|", 1, 2, 3, 0)
	aligned(t, ":-:|:-|-|-:", 3, 1, 0, 2)
	aligned(t, " | \t-: |\v:-\r|\n-- | ", 2, 1, 0)
	aligned(t, "-\n|-", 0, 0)
	aligned(t, strings.Repeat("|:-:", 1000), slices.Repeat([]int{3}, 1000)...)
}

func TestNoAligns(t *testing.T) {
	// A bar has to be there.
	unaligned(t, "", "-", "--", ":-", "-:", ":-:", "---", " - ", "a", "\n", "- -")
	// Each cell has to have a hyphen, and nothing but a colon at each end.
	unaligned(t, "|", "||", "|:|", "|::|", "| |", "|-||", "||-|", "|-| |", "| |-|", "|-|:|", "-||-")
	unaligned(t, "|::-|", "|-::|", "|:-::|", "|-:-|", "|:-:-:|", "|- -|", "|: -|", "|- :|", "|:--- --:|")
	unaligned(t, "|a|", "|-a|", "|a-|", "|-a-|", "|-|a|", "|a|-|", "|-|-|a", "|=|", "|+|", "|_|", "|\u2013|", "|\u2212|", "|\u00ad|", "|-\u00a0|", "|.-|", "|;-:|")
	// An escaped bar stands in a cell.
	unaligned(t, `\|`, `\|-`, `-\|`, `-\|-`, `|-\|`, `|\-|`, `|-\|-|`, `\|-|`, `|-|\`, `-\\|-`)
	// Each byte but three is no part of a cell, if it is not white.
	for _, b := range bytes() {
		if strings.Contains("|-"+white, b) {
			continue
		}
		if b != ":" {
			unaligned(t, "|"+b+"-|", "|-"+b+"|", "-|"+b+"-|-", "-|-|-"+b)
		}
		unaligned(t, "|"+b+"|", "|-"+b+"-|", "|-|"+b+"|")
	}
}

// P15.3

func TestSplit(t *testing.T) {
	checkSplit(t, "a|b\n-|-", "", rowsOf("a b"), []int{0, 0})
	checkSplit(t, "| a | b |\n|:-|-:|\n| c | d |\n| e | f |", "", rowsOf("a b", "c d", "e f"), []int{1, 2})
	checkSplit(t, "x\na|b\n-|-\nc|d", "x", rowsOf("a b", "c d"), []int{0, 0})
	checkSplit(t, "x\n y \nz\n|a|\n|:-:|\n|c|", "x\n y \nz", rowsOf("a", "c"), []int{3})
	checkSplit(t, "|a\n-|", "", rowsOf("a"), []int{0})
	checkSplit(t, "a|b|c\n:-|-:|:-:", "", rowsOf("a b c"), []int{1, 2, 3})
	checkSplit(t, `a \| b|c`+"\n|-|-|\n"+`\||d`, "", [][]string{{"a | b", "c"}, {"|", "d"}}, []int{0, 0})
}

// What stands ahead is told as it stands.
func TestLinesAhead(t *testing.T) {
	end := "a|b\n-|-\nc|d"
	for _, ahead := range []string{"x", " x ", "\tx\r", "x\n\n\ny", "-", "a|b", "a|b|c\nx", "-|-", "|-|-|\n", "\n\n", "\nx", "x\n", "a|b\n-|-|-", "|a|\n-|-\n"} {
		checkSplit(t, ahead+"\n"+end, ahead, rowsOf("a b", "c d"), []int{0, 0})
	}
	checkSplit(t, "\n"+end, "", rowsOf("a b", "c d"), []int{0, 0})
}

func TestNoTable(t *testing.T) {
	noTable(t, "", "\n", "a", "a\nb", "a|b", "a|b\n", "a|b\nc|d", "-|-", "|-|", "|-|\n", "a\n\n|-|")
	// The line ahead has to have a bar.
	noTable(t, "a\n|-|", "a\n-|", "\n|-|", "\n\n|-|", "a\n|-|\nb|c")
	// And as many cells.
	noTable(t, "a|b\n|-|", "|a|\n-|-", "a|b|c\n-|-", "a|b\n-|-|-", "|a|b\n|-|", "||\n|-|-|", "|||\n|-|", `a\|b`+"\n-|-", "a|b|\n-|-|-|")
	// And the line behind it has to tell alignments.
	noTable(t, "|a|\n-", "|a|\n:-:", "|a|\n|:|", "a|b\n-|", "a|b\n-|a", "a|b\n-|-a", "a|b\n\n-|-", "a|b\nx\n-|-", "|a|\n"+`\|-`, "|a|\n||", "|a|\n|")
	// Only an LF ends a line.
	noTable(t, "a|b\r-|-", "a|b\v-|-", "a|b\u2028-|-", "a|b\x00-|-")
}

// An escaped bar is a bar of the line ahead, too, but no end of a cell.
func TestLineAheadOfAnEscapedBar(t *testing.T) {
	checkSplit(t, `a\|b`+"\n|-|", "", rowsOf("a|b"), []int{0})
	checkSplit(t, `\|`+"\n-|", "", rowsOf("|"), []int{0})
	checkSplit(t, `\||c`+"\n-|:-", "", rowsOf("| c"), []int{0, 1})
}

// The first line that has what it takes begins the table, and only that one.
func TestFirstTable(t *testing.T) {
	// Of two lines of hyphens the second one tells the alignments of the first one.
	checkSplit(t, "|-|\n|:-|", "", rowsOf("-"), []int{1})
	checkSplit(t, "|-|\n|:-|\n|-:|", "", rowsOf("-", "-:"), []int{1})
	checkSplit(t, "a\n|-|\n|:-|\nb", "a", rowsOf("-", "b"), []int{1})
	// One that doesn't fit ends nothing.
	checkSplit(t, "a|b\n|-|\n|:-:|", "a|b", rowsOf("-"), []int{3})
	checkSplit(t, "a|b\n|-|\nc|d\n-|-", "a|b\n|-|", rowsOf("c d"), []int{0, 0})
	checkSplit(t, "a\n-|-\nb|c|d\n-|-|-:", "a\n-|-", rowsOf("b c d"), []int{0, 0, 2})
	// A line of hyphens behind the table is a row.
	checkSplit(t, "a|b\n-|-\nc|d\n:-|-:\ne|f", "", rowsOf("a b", "c d", ":- -:", "e f"), []int{0, 0})
	checkSplit(t, "a|b\n-|-\n:-|-:", "", rowsOf("a b", ":- -:"), []int{0, 0})
}

// Every line behind is a row, with a bar or not, cut or filled up.
func TestRowsAreFitted(t *testing.T) {
	checkSplit(t, "a|b\n-|-\nc", "", rowsOf("a b", "c ."), []int{0, 0})
	checkSplit(t, "a|b\n-|-\nc|d|e", "", rowsOf("a b", "c d"), []int{0, 0})
	checkSplit(t, "a|b\n-|-\n|c|d|", "", rowsOf("a b", "c d"), []int{0, 0})
	checkSplit(t, "a|b\n-|-\n||c||d|", "", rowsOf("a b", ". c"), []int{0, 0})
	checkSplit(t, "a|b|c\n-|-|-\nd\ne|f\ng|h|i\nj|k|l|m\nn|o|p|q|r", "", rowsOf("a b c", "d . .", "e f .", "g h i", "j k l", "n o p"), []int{0, 0, 0})
	checkSplit(t, "|a|\n|-|\n\n", "", rowsOf("a", ".", "."), []int{0})
	checkSplit(t, "|a|\n|-|\n", "", rowsOf("a", "."), []int{0})
	checkSplit(t, "a|b\n-|-\n\n|\nx", "", rowsOf("a b", ". .", ". .", "x ."), []int{0, 0})
	checkSplit(t, "||\n|-|\n", "", rowsOf(".", "."), []int{0})
	checkSplit(t, "|||\n|-|-|\n|||c", "", rowsOf(". .", ". ."), []int{0, 0})
}

// As only an LF ends a line, a CR ahead of it is white of the line.
func TestWhiteOfLines(t *testing.T) {
	checkSplit(t, "x\r\n a|b \r\n\t-|:-\r\nc\v|d\f\r", "x\r", rowsOf("a b", "c d"), []int{0, 1})
}

// P15.4

func TestNodes(t *testing.T) {
	got := table.Nodes([][]string{{"a", "b"}, {"c"}, {}, {"", "e", "f"}}, []int{1, 3})
	want := api.Node{Kind: 10, L: []api.Node{
		{Kind: 11, Flag: true, L: []api.Node{{Kind: 12, S: "a", N: 1, Flag: true}, {Kind: 12, S: "b", N: 3, Flag: true}}},
		{Kind: 11, L: []api.Node{{Kind: 12, S: "c", N: 1}}},
		{Kind: 11},
		{Kind: 11, L: []api.Node{{Kind: 12, N: 1}, {Kind: 12, S: "e", N: 3}, {Kind: 12, S: "f"}}},
	}}
	if !tree.Same(got, want) {
		t.Errorf("Nodes: %v, want %v", got, want)
	}
}

func TestNodesOfFewRows(t *testing.T) {
	for _, rows := range [][][]string{nil, {}, {nil}, {{}}, {{}, {}}, {nil, {"a"}}, {{""}}, {{"a"}}, {{"a", "b", "c"}}, {{"a"}, {"b"}, {"c"}}, {{" a|\n*b* "}, {`\|`}, {"\xff\x00"}}} {
		for _, aligns := range [][]int{nil, {}, {0}, {2}, {1, 2}, {3, 2, 1, 0, 3}} {
			checkNodes(t, rows, aligns)
		}
	}
}

// An alignment is told as it is handed in.
func TestNodesOfAnyAlignments(t *testing.T) {
	checkNodes(t, [][]string{{"a", "b", "c", "d"}, {"e", "f", "g", "h", "i"}}, []int{-1, 4, math.MaxInt, math.MinInt})
}

func TestNodesAreWell(t *testing.T) {
	_, rows, aligns := table.Split("a|b\n-|:-\nc\n\nd|e|f")
	doc := api.Node{Kind: api.Doc, L: []api.Node{table.Nodes(rows, aligns)}}
	if !tree.Well(doc) || tree.Count(doc) != 14 || tree.Depth(doc) != 4 {
		t.Errorf("%v is no table of 4 rows of 2 cells", doc)
	}
}

// P15.5

func TestRowsFit(t *testing.T) {
	for _, s := range shortTexts([]string{"a|b", "\n", "|-|-|", "|", `\|`, "c"}, 6) {
		fits(t, s)
	}
}

// Rules that hold everywhere

// R1: texts and lists of any length.
func TestLongTexts(t *testing.T) {
	for _, part := range append(bytes(), `\|`, "a|", "| ", " |", "-|", ":-", "|\n", "-|\n", "\n\n", "a|b\n-|-|-\n") {
		s := strings.Repeat(part, long/128/len(part))
		for _, begin := range []string{"", "|", `\`, "|-|\n|", "|a|\n|-|\n"} {
			sameAll(t, begin+s)
		}
	}
	a, blanks, hyphens := strings.Repeat("a", long), strings.Repeat(" ", long), strings.Repeat("-", long)
	checkCells(t, blanks+"|"+a+blanks+"|"+blanks+a+"|"+blanks, a, a)
	checkCells(t, strings.Repeat(`\|`, long), strings.Repeat("|", long))
	checkCells(t, strings.Repeat("|", long+1), make([]string, long)...)
	aligned(t, "|:"+hyphens+"|"+hyphens+":"+blanks+"|", 1, 2)
	unaligned(t, "|"+hyphens+"a|", "|"+hyphens+" -|")
}

func TestLongTables(t *testing.T) {
	const n = 1 << 16
	var s strings.Builder
	var rows [][]string
	s.WriteString(strings.Repeat("x|y\n", n) + "a|b|c\n-|-|-")
	rows = append(rows, []string{"a", "b", "c"})
	for i := range n {
		s.WriteString("\n" + strconv.Itoa(i) + "|d")
		rows = append(rows, []string{strconv.Itoa(i), "d", ""})
	}
	checkSplit(t, s.String(), strings.TrimSuffix(strings.Repeat("x|y\n", n), "\n"), rows, []int{0, 0, 0})
	checkNodes(t, rows, []int{0, 0, 0})

	wide := strings.Repeat("a|", n)
	checkSplit(t, wide+"\n"+strings.Repeat("-|", n)+"\nb\n"+wide+"c|d", "", [][]string{slices.Repeat([]string{"a"}, n), sized([]string{"b"}, n), slices.Repeat([]string{"a"}, n)}, make([]int, n))
	checkNodes(t, [][]string{make([]string, n)}, slices.Repeat([]int{3}, n/2))
	// Lines that come close to a table, again and again.
	noTable(t, strings.Repeat("a|b\n-|-|-\n", n), strings.Repeat("-|-\n-|-|-\n", n), strings.Repeat("x\n|-|-|\n", n), wide+"a\n"+strings.Repeat("-|", n))
}

// lies: is what is told a piece of the memory of s?
func lies(told, s string) bool {
	from := uintptr(unsafe.Pointer(unsafe.StringData(s)))
	at := uintptr(unsafe.Pointer(unsafe.StringData(told)))
	return told != "" && from <= at && at < from+uintptr(len(s))
}

// lieIn: is one of the texts a piece of the memory of s?
func lieIn(l []string, s string) bool {
	return slices.ContainsFunc(l, func(told string) bool { return lies(told, s) })
}

// R3: what is handed in is not changed, and an answer is new memory.
func TestTextsAreNewMemory(t *testing.T) {
	for _, ahead := range []string{"", "x\n", "x\ny\n", "\n", "\n\n"} {
		for _, lines := range []string{"a", "a\nb", "a|b\n-|-", "|a|b|\n|-|-|\nc|d", "a|b\n-|-\n\\|c|d\n"} {
			s := strings.Clone(ahead + lines)
			told, rows, _ := table.Split(s)
			if lies(told, s) || lieIn(table.Cells(s), s) || lieIn(slices.Concat(rows...), s) {
				t.Errorf("of %q: %q, %q are not new", s, told, rows)
			}
		}
	}
	for _, s := range []string{"a", "a|b", "|a|", "| a |", "a|"} {
		s = strings.Clone(s)
		if l := table.Cells(s); lieIn(l, s) {
			t.Errorf("of %q: %q are not new", s, l)
		}
	}
}

// Nodes neither changes nor keeps rows.
func TestNodesAreNewMemory(t *testing.T) {
	a, b := strings.Clone("a"), strings.Clone("b")
	rows, aligns := [][]string{{a, b}, {b, a}}, []int{1, 2}
	node := table.Nodes(rows, aligns)
	for _, row := range node.L {
		for _, cell := range row.L {
			if lies(cell.S, a) || lies(cell.S, b) {
				t.Errorf("%q is not new", cell.S)
			}
		}
	}
	if !slices.EqualFunc(rows, rowsOf("a b", "b a"), slices.Equal) || !slices.Equal(aligns, []int{1, 2}) {
		t.Errorf("Nodes changes what is handed in: %q, %v", rows, aligns)
	}
	rows[0][0], rows[1], aligns[1] = "c", nil, 3
	if want := modelNodes(rowsOf("a b", "b a"), []int{1, 2}); !tree.Same(node, want) {
		t.Errorf("Nodes keeps what is handed in: %v, want %v", node, want)
	}
}

// No two lists of one answer share memory, behind their ends neither.
func TestListsShareNothing(t *testing.T) {
	s := "a|b\n-|-\nc|d\ne|f|g\nh"
	want := rowsOf("a b", "c d", "e f", "h .")
	for i := range want {
		_, rows, aligns := table.Split(s)
		node := table.Nodes(rows, aligns)
		row, cells := rows[i], node.L[i].L
		for j := range row[:cap(row)] {
			row[:cap(row)][j] = "changed"
		}
		for j := range cells[:cap(cells)] {
			cells[:cap(cells)][j].S = "changed"
		}
		for k := range want {
			if k != i && !slices.Equal(rows[k], want[k]) {
				t.Errorf("the rows %d and %d share memory: %q", i, k, rows[k])
			}
			if k != i && !tree.Same(node.L[k], modelNodes(want, aligns).L[k]) {
				t.Errorf("the nodes %d and %d share memory: %v", i, k, node.L[k])
			}
		}
	}
}

// Nothing is kept: what is told hangs on no call ahead of it.
func TestNothingIsKept(t *testing.T) {
	texts := []string{"", "|", "a|b\n-|-\nc", "|:-|-:|", "x\n|a|\n|:-:|", `\|`, "a|b|c\n-|-|-"}
	for _, s := range texts {
		for _, ahead := range texts {
			_, rows, aligns := table.Split(ahead)
			for _, row := range rows {
				row[0] = "changed"
			}
			for i := range aligns {
				aligns[i] = 9
			}
			table.Nodes(rows, aligns)
			sameAll(t, s)
		}
	}
}
