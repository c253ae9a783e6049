package table_test

import (
	"regexp"
	"slices"
	"strings"
	"testing"

	"incipit/api"
	"incipit/table"
)

// white are the bytes that Trim takes away.
const white = "\t\n\v\f\r "

// escaped is how a bar with a backslash right ahead of it stands in a line that
// is told as numbers: as no byte is.
const escaped = -1

// numbers are the bytes of a line, with one number for a backslash and the bar
// behind it.
func numbers(s string) []int {
	var l []int
	for i := 0; i < len(s); i++ {
		if strings.HasPrefix(s[i:], `\|`) {
			l = append(l, escaped)
			i++
			continue
		}
		l = append(l, int(s[i]))
	}
	return l
}

// spelt are numbers as a text again, without the backslashes ahead of bars.
func spelt(l []int) string {
	var s strings.Builder
	for _, n := range l {
		if n == escaped {
			n = '|'
		}
		s.WriteByte(byte(n))
	}
	return s.String()
}

// modelCells are a line's cells, as the chapter's words go step by step.
func modelCells(s string) []string {
	l := numbers(strings.Trim(s, white))
	if len(l) > 0 && l[0] == '|' {
		l = l[1:]
	}
	if len(l) > 0 && l[len(l)-1] == '|' {
		l = l[:len(l)-1]
	}
	var all []string
	for {
		n := slices.Index(l, '|')
		if n < 0 {
			return append(all, strings.Trim(spelt(l), white))
		}
		all = append(all, strings.Trim(spelt(l[:n]), white))
		l = l[n+1:]
	}
}

// kinds are what a cell of hyphens looks like, by its alignment.
var kinds = []*regexp.Regexp{
	table.None: regexp.MustCompile(`\A-+\z`), table.Left: regexp.MustCompile(`\A:-+\z`), table.Right: regexp.MustCompile(`\A-+:\z`), table.Center: regexp.MustCompile(`\A:-+:\z`),
}

// modelAligns are the alignments of a line, by the patterns of its cells.
func modelAligns(s string) ([]int, bool) {
	var all []int
	for _, cell := range modelCells(s) {
		n := slices.IndexFunc(kinds, func(p *regexp.Regexp) bool { return p.MatchString(cell) })
		if n < 0 || strings.Count(s, "|") == 0 {
			return nil, false
		}
		all = append(all, n)
	}
	return all, true
}

// sized is a list of as many texts.
func sized(l []string, n int) []string {
	for len(l) < n {
		l = append(l, "")
	}
	return l[:n]
}

// modelSplit looks for a table line by line.
func modelSplit(s string) (string, [][]string, []int) {
	ahead, left := "", s
	for {
		head, behind, ok := strings.Cut(left, "\n")
		if !ok {
			return s, nil, nil
		}
		second, rest, more := strings.Cut(behind, "\n")
		aligns, ok := modelAligns(second)
		if ok && strings.Count(head, "|") > 0 && len(modelCells(head)) == len(aligns) {
			rows := [][]string{modelCells(head)}
			for more {
				var line string
				line, rest, more = strings.Cut(rest, "\n")
				rows = append(rows, sized(modelCells(line), len(aligns)))
			}
			return strings.TrimSuffix(ahead, "\n"), rows, aligns
		}
		ahead += head + "\n"
		left = behind
	}
}

// modelNodes are rows as nodes, cell by cell.
func modelNodes(rows [][]string, aligns []int) api.Node {
	all := api.Node{Kind: api.Table, L: make([]api.Node, len(rows))}
	for i := range rows {
		all.L[i] = api.Node{Kind: api.Row, Flag: i < 1, L: make([]api.Node, len(rows[i]))}
		for j, s := range rows[i] {
			n := 0
			if len(aligns) > j {
				n = aligns[j]
			}
			all.L[i].L[j] = api.Node{Kind: api.Cell, S: s, N: n, Flag: i < 1}
		}
	}
	return all
}

func sameCells(t *testing.T, s string) {
	t.Helper()
	checkCells(t, s, modelCells(s)...)
}

func sameAligns(t *testing.T, s string) {
	t.Helper()
	want, ok := modelAligns(s)
	checkAligns(t, s, want, ok)
}

func sameSplit(t *testing.T, s string) {
	t.Helper()
	ahead, rows, aligns := modelSplit(s)
	checkSplit(t, s, ahead, rows, aligns)
}

// sameAll holds all calls of a text against the models.
func sameAll(t *testing.T, s string) {
	t.Helper()
	sameCells(t, s)
	sameAligns(t, s)
	sameSplit(t, s)
}

func TestCellsOfShortTexts(t *testing.T) {
	for _, s := range shortTexts([]string{"|", `\`, " ", "a", "\n"}, 7) {
		sameCells(t, s)
	}
	for _, s := range shortTexts([]string{"|", `\|`, `\\`, "\t", "\v", "\xff", "\u00a0"}, 5) {
		sameCells(t, s)
	}
}

func TestAlignsOfShortTexts(t *testing.T) {
	for _, s := range shortTexts([]string{"|", "-", ":", " ", `\`}, 7) {
		sameAligns(t, s)
	}
	for _, s := range shortTexts([]string{"|", "-", ":-", "-:", ":-:", "\n", "a", "--"}, 5) {
		sameAligns(t, s)
	}
}

func TestSplitOfShortTexts(t *testing.T) {
	for _, s := range shortTexts([]string{"|", "-", "\n", "a", `\|`, " "}, 7) {
		sameSplit(t, s)
	}
	for _, s := range shortTexts([]string{"|\n", "a|b\n", "|-|\n", "-|:-:\n", "a", "\n", "c|d|e"}, 6) {
		sameSplit(t, s)
	}
}

func TestEachByteInEachPlace(t *testing.T) {
	for _, s := range []string{
		"|a|", `a \|b|\| `, "|:-|-:|:-:|--|", "-|-", "a|b\n-|-", "x\n| a | b |\n|:-|-:|\nc\n\nd|e|f", "a|\n|-\nb|\n-|",
	} {
		for _, s := range changed(s) {
			sameAll(t, s)
		}
	}
}

func FuzzTable(f *testing.F) {
	for _, s := range []string{"", "|", "| a \\| b |", "|:-|-:|", "x\na|b\n-|-\nc", "\\|\n|-|\n\xff|\x00|\v", "a|b\n-|\n:-|-:\n\n"} {
		f.Add(s)
	}
	f.Fuzz(func(t *testing.T, s string) {
		for _, begin := range []string{"", "|", "\\", "a|b\n", "a|b\n-|:-:\n", "a|b\n-|:-:\n\\", "|-|-|-|\n|-|-|"} {
			sameAll(t, begin+s)
		}
		_, rows, aligns := table.Split(s)
		checkNodes(t, rows, aligns)
	})
}
