package tree_test

import (
	"math"
	"reflect"
	"slices"
	"strings"
	"testing"
	"unsafe"

	"incipit/api"
	"incipit/tree"
)

// names are the kinds of nodes: the place of each is its number.
var names = strings.Fields("- Doc Quote List Item Code Html Para Head Rule Table Row Cell Note Text Soft Hard Span Emph Strong Link Image Raw Struck NoteRef Checkbox")

const (
	blocks  = "Quote List Code Html Para Head Rule Table Note"
	inlines = "Text Soft Hard Span Emph Strong Link Image Raw Struck NoteRef Checkbox"
)

// inside are the kinds that may stand in one of that name.
func inside(name string) []string {
	switch name {
	case "Doc", "Quote", "Item", "Note":
		return strings.Fields(blocks)
	case "List":
		return []string{"Item"}
	case "Table":
		return []string{"Row"}
	case "Row":
		return []string{"Cell"}
	case "Para", "Head", "Cell", "Emph", "Strong", "Link", "Image", "Struck":
		return strings.Fields(inlines)
	}
	return nil
}

// node is one of a kind, with what stands in it.
func node(kind int, l ...api.Node) api.Node {
	return api.Node{Kind: kind, L: l}
}

// full is a node that has something in every field.
func full(k int) api.Node {
	return api.Node{Kind: k, S: "s" + string(rune('a'+k%26)), T: "t\xff", N: -k, M: math.MaxInt, Flag: true, L: []api.Node{{Kind: api.Text}}}
}

// bare is a node without its L.
func bare(n api.Node) api.Node {
	n.L = nil
	return n
}

func equal(a, b api.Node) bool {
	if len(a.L) != len(b.L) {
		return false
	}
	for i := range a.L {
		if !equal(a.L[i], b.L[i]) {
			return false
		}
	}
	return reflect.DeepEqual(bare(a), bare(b))
}

// lay lays a tree's nodes below one of an arena.
func lay(a *tree.Arena, parent int, l []api.Node) {
	for _, n := range l {
		lay(a, a.Add(parent, n), n.L)
	}
}

// laid is a tree that was laid node by node, told.
func laid(n api.Node) api.Node {
	a := tree.New(n)
	lay(a, 0, n.L)
	return a.Tree()
}

// chain is a tree of one node a level.
func chain(kind, levels int) api.Node {
	n := node(kind)
	for range levels - 1 {
		n = node(kind, n)
	}
	return n
}

// shelf is what an arena should be, told by lists: parents[i] and children[i] are those of node i.
type shelf struct {
	nodes    []api.Node
	parents  []int
	children [][]int
}

func newShelf(n api.Node) *shelf {
	return &shelf{[]api.Node{bare(n)}, []int{-1}, [][]int{nil}}
}

func (m *shelf) has(id int) bool { return id >= 0 && id < len(m.nodes) }

func (m *shelf) add(parent int, n api.Node) int {
	if !m.has(parent) {
		return -1
	}
	m.nodes = append(m.nodes, bare(n))
	m.parents = append(m.parents, parent)
	m.children = append(m.children, nil)
	m.children[parent] = append(m.children[parent], len(m.nodes)-1)
	return len(m.nodes) - 1
}

func (m *shelf) unlink(id int) bool {
	if !m.has(id) || m.parents[id] < 0 {
		return false
	}
	p := m.parents[id]
	m.parents[id] = -1
	m.children[p] = slices.DeleteFunc(m.children[p], func(c int) bool { return c == id })
	return true
}

// below: is a node id, or somewhere below it?
func (m *shelf) below(node, id int) bool {
	return node == id || slices.ContainsFunc(m.children[id], func(c int) bool { return m.below(node, c) })
}

func (m *shelf) move(id, parent int) bool {
	if !m.has(id) || !m.has(parent) || id == 0 || m.below(parent, id) {
		return false
	}
	m.unlink(id)
	m.parents[id] = parent
	m.children[parent] = append(m.children[parent], id)
	return true
}

func (m *shelf) tree(id int) api.Node {
	n := m.nodes[id]
	for _, c := range m.children[id] {
		n.L = append(n.L, m.tree(c))
	}
	return n
}

// checkArena holds an arena against a shelf, and against what follows from the promises.
func checkArena(t *testing.T, a *tree.Arena, m *shelf) {
	t.Helper()
	if a.Len() != len(m.nodes) {
		t.Fatalf("Len() = %d, want %d", a.Len(), len(m.nodes))
	}
	for id := range m.nodes {
		if got := a.Get(id); !reflect.DeepEqual(got, m.nodes[id]) {
			t.Errorf("Get(%d) = %v, want %v", id, got, m.nodes[id])
		}
		if got := a.Parent(id); got != m.parents[id] {
			t.Errorf("Parent(%d) = %d, want %d", id, got, m.parents[id])
		}
		if got := a.Children(id); !slices.Equal(got, m.children[id]) {
			t.Errorf("Children(%d) = %v, want %v", id, got, m.children[id])
		}
		up, steps := a.Parent(id), 0
		for up >= 0 && up != id && steps <= a.Len() {
			up = a.Parent(up)
			steps++
		}
		if up != -1 {
			t.Errorf("%d is below itself", id)
		}
	}
	got, want := a.Tree(), m.tree(0)
	if !equal(got, want) || !tree.Same(got, want) {
		t.Errorf("Tree() = %v, want %v", got, want)
	}
}

// checkNothing: id is the number of no node.
func checkNothing(t *testing.T, a *tree.Arena, id int) {
	t.Helper()
	before := a.Len()
	if got := a.Add(id, full(1)); got != -1 {
		t.Errorf("Add(%d) = %d", id, got)
	}
	if a.Set(id, full(1)) {
		t.Errorf("Set(%d) = true", id)
	}
	if got := a.Get(id); !reflect.DeepEqual(got, api.Node{}) {
		t.Errorf("Get(%d) = %v", id, got)
	}
	if got := a.Parent(id); got != -1 {
		t.Errorf("Parent(%d) = %d", id, got)
	}
	if got := a.Children(id); len(got) != 0 {
		t.Errorf("Children(%d) = %v", id, got)
	}
	if a.Unlink(id) || a.Move(id, 0) || a.Move(1, id) || a.Move(id, id) {
		t.Errorf("Unlink or Move of %d", id)
	}
	if a.Len() != before {
		t.Errorf("Len() = %d, was %d", a.Len(), before)
	}
}

// P6.1

func TestNilArena(t *testing.T) {
	var a *tree.Arena
	if a.Len() != 0 {
		t.Errorf("Len() = %d", a.Len())
	}
	if got := a.Tree(); !reflect.DeepEqual(got, api.Node{}) {
		t.Errorf("Tree() = %v", got)
	}
	for _, id := range []int{0, 1, -1, math.MaxInt, math.MinInt} {
		checkNothing(t, a, id)
	}
}

func TestNew(t *testing.T) {
	for _, n := range []api.Node{{}, full(api.Doc), full(api.Text), full(-7), full(26), node(api.Doc, node(api.Para, node(api.Text)))} {
		checkArena(t, tree.New(n), newShelf(n))
	}
}

func TestAdd(t *testing.T) {
	a, m := tree.New(node(api.Doc)), newShelf(node(api.Doc))
	for i, parent := range []int{0, 1, 1, 0, 3, 0, 6, -1, 8, 7, 9, math.MaxInt, math.MinInt} {
		n := full(i)
		got, want := a.Add(parent, n), m.add(parent, n)
		if got != want {
			t.Errorf("Add(%d) = %d, want %d", parent, got, want)
		}
		checkArena(t, a, m)
	}
	// What is none gives no number away.
	if got := a.Add(0, node(api.Rule)); got != 9 || a.Len() != 10 {
		t.Errorf("Add(0) = %d, Len() = %d", got, a.Len())
	}
}

// A node that is nobody's child is one all the same.
func TestAddBelowUnlinked(t *testing.T) {
	a, m := tree.New(node(api.Doc)), newShelf(node(api.Doc))
	a.Add(0, full(2))
	m.add(0, full(2))
	a.Unlink(1)
	m.unlink(1)
	if got := a.Add(1, full(3)); got != m.add(1, full(3)) {
		t.Errorf("Add(1) = %d", got)
	}
	checkArena(t, a, m)
	if n := a.Tree(); len(n.L) != 0 {
		t.Errorf("Tree() = %v", n)
	}
}

func TestSetAndGet(t *testing.T) {
	a, m := tree.New(full(1)), newShelf(full(1))
	for i, parent := range []int{0, 0, 1} {
		a.Add(parent, full(i))
		m.add(parent, full(i))
	}
	for id := range 4 {
		for _, n := range []api.Node{full(20 + id), {}, node(api.Item, node(api.Para), node(api.Para)), full(-1)} {
			if !a.Set(id, n) {
				t.Errorf("Set(%d) = false", id)
			}
			m.nodes[id] = bare(n)
			checkArena(t, a, m)
		}
	}
	a.Unlink(1)
	m.unlink(1)
	if !a.Set(1, full(9)) {
		t.Error("Set of an unlinked node")
	}
	m.nodes[1] = bare(full(9))
	checkArena(t, a, m)
}

func TestNumbersThatAreNone(t *testing.T) {
	a, m := tree.New(full(1)), newShelf(full(1))
	for i, parent := range []int{0, 0, 1} {
		a.Add(parent, full(i))
		m.add(parent, full(i))
	}
	for _, id := range []int{-1, -2, 4, 5, 1 << 32, 1<<32 + 1, -1 << 32, math.MaxInt, math.MinInt} {
		checkNothing(t, a, id)
		checkArena(t, a, m)
	}
}

// P6.2

// family is an arena of a Doc (0) of 1, 2 and 3, 2 of 4, 5 and 6, and 5 of 7.
func family() (*tree.Arena, *shelf) {
	a, m := tree.New(node(api.Doc)), newShelf(node(api.Doc))
	for i, parent := range []int{0, 0, 0, 2, 2, 2, 5} {
		a.Add(parent, full(i))
		m.add(parent, full(i))
	}
	return a, m
}

func TestParentAndChildren(t *testing.T) {
	a, _ := family()
	for id, want := range []int{-1, 0, 0, 0, 2, 2, 2, 5} {
		if got := a.Parent(id); got != want {
			t.Errorf("Parent(%d) = %d, want %d", id, got, want)
		}
	}
	for id, want := range [][]int{{1, 2, 3}, nil, {4, 5, 6}, nil, nil, {7}, nil, nil} {
		if got := a.Children(id); !slices.Equal(got, want) {
			t.Errorf("Children(%d) = %v, want %v", id, got, want)
		}
	}
}

func TestUnlink(t *testing.T) {
	for id := range 8 {
		a, m := family()
		if got, want := a.Unlink(id), id > 0; got != want {
			t.Errorf("Unlink(%d) = %v", id, got)
		}
		m.unlink(id)
		checkArena(t, a, m)
		if a.Unlink(id) {
			t.Errorf("Unlink(%d) twice", id)
		}
		checkArena(t, a, m)
	}
	a, _ := family()
	a.Unlink(2)
	if got := a.Children(0); !slices.Equal(got, []int{1, 3}) {
		t.Errorf("Children(0) = %v", got)
	}
	if got := a.Children(2); !slices.Equal(got, []int{4, 5, 6}) {
		t.Errorf("Children(2) = %v", got)
	}
	if a.Parent(2) != -1 || a.Parent(5) != 2 || a.Len() != 8 || tree.Count(a.Tree()) != 3 {
		t.Error("what was unlinked has its own children no more, or is still there")
	}
}

func TestMove(t *testing.T) {
	for id := range 8 {
		for parent := range 8 {
			a, m := family()
			if got, want := a.Move(id, parent), m.move(id, parent); got != want {
				t.Errorf("Move(%d, %d) = %v", id, parent, got)
			}
			checkArena(t, a, m)
		}
	}
	a, _ := family()
	for _, no := range [][2]int{{0, 0}, {0, 1}, {2, 2}, {2, 4}, {2, 5}, {2, 7}, {5, 7}, {7, 7}, {8, 0}, {1, 8}, {-1, 0}, {1, -1}} {
		if a.Move(no[0], no[1]) {
			t.Errorf("Move(%d, %d) = true", no[0], no[1])
		}
	}
	// Its own parent's last child.
	if !a.Move(1, 0) || !slices.Equal(a.Children(0), []int{2, 3, 1}) {
		t.Errorf("Children(0) = %v", a.Children(0))
	}
	if !a.Move(1, 0) || !slices.Equal(a.Children(0), []int{2, 3, 1}) {
		t.Errorf("Children(0) = %v", a.Children(0))
	}
	// Upwards, with what stands in it.
	if !a.Move(5, 0) || !slices.Equal(a.Children(0), []int{2, 3, 1, 5}) || !slices.Equal(a.Children(2), []int{4, 6}) || a.Parent(7) != 5 {
		t.Error("Move(5, 0)")
	}
	// Where it stood before there is nothing any more that forbids it.
	if !a.Move(2, 7) || !slices.Equal(a.Children(7), []int{2}) || a.Move(5, 6) {
		t.Error("Move(2, 7)")
	}
}

func TestMoveUnlinked(t *testing.T) {
	a, m := family()
	a.Unlink(2)
	m.unlink(2)
	// Below itself is so also where it is nobody's child.
	for _, parent := range []int{2, 4, 7} {
		if a.Move(2, parent) {
			t.Errorf("Move(2, %d) = true", parent)
		}
	}
	for _, x := range [][2]int{{1, 7}, {2, 3}, {1, 0}} {
		if got, want := a.Move(x[0], x[1]), m.move(x[0], x[1]); !got || !want {
			t.Errorf("Move(%d, %d) = %v, %v", x[0], x[1], got, want)
		}
		checkArena(t, a, m)
	}
	if n := a.Tree(); tree.Count(n) != 8 {
		t.Errorf("Tree() = %v", n)
	}
}

// steps does the same to an arena and to a shelf, three bytes a step.
func steps(t *testing.T, program []byte) (*tree.Arena, *shelf) {
	t.Helper()
	a, m := tree.New(full(1)), newShelf(full(1))
	for ; len(program) >= 3; program = program[3:] {
		x, y := int(int8(program[1])), int(int8(program[2]))
		var got, want any
		switch program[0] % 4 {
		case 0:
			got, want = a.Add(x, full(y)), m.add(x, full(y))
		case 1:
			got, want = a.Unlink(x), m.unlink(x)
		case 2:
			got, want = a.Move(x, y), m.move(x, y)
		default:
			got, want = a.Set(x, full(y)), m.has(x)
			if m.has(x) {
				m.nodes[x] = bare(full(y))
			}
		}
		if got != want {
			t.Fatalf("step %v: %v, want %v", program[:3], got, want)
		}
	}
	checkArena(t, a, m)
	return a, m
}

// All arenas of five nodes, and all that three more steps make of each shape.
func TestAllShortWays(t *testing.T) {
	var next [][]byte
	for x := range byte(5) {
		next = append(next, []byte{0, x, 7}, []byte{1, x, 0})
		for y := range byte(5) {
			next = append(next, []byte{2, x, y})
		}
	}
	for shape := range 1 * 2 * 3 * 4 {
		begin := []byte{0, 0, 1, 0, byte(shape % 2), 2, 0, byte(shape / 2 % 3), 3, 0, byte(shape / 6), 4}
		for _, first := range next {
			for _, second := range next {
				steps(t, slices.Concat(begin, first, second))
			}
		}
	}
	begin := []byte{0, 0, 1, 0, 1, 2, 0, 1, 3, 0, 3, 4}
	for _, first := range next {
		for _, second := range next {
			for _, third := range next {
				steps(t, slices.Concat(begin, first, second, third))
			}
		}
	}
}

func TestLongWays(t *testing.T) {
	number := uint32(1)
	for range 200 {
		var program []byte
		for range 300 {
			number = number*1664525 + 1013904223
			program = append(program, byte(number>>30), byte(number>>20)&63-1, byte(number>>12)&63-1)
		}
		steps(t, program)
	}
}

// P6.3, P6.5

func TestTree(t *testing.T) {
	a := tree.New(node(api.Doc))
	if a.Add(0, node(api.Para)) != 1 || a.Add(1, api.Node{Kind: api.Text, S: "a"}) != 2 {
		t.Error("numbers")
	}
	want := node(api.Doc, node(api.Para, api.Node{Kind: api.Text, S: "a"}))
	if got := a.Tree(); !equal(got, want) || tree.Count(got) != 3 || tree.Depth(got) != 3 || !tree.Well(got) {
		t.Errorf("Tree() = %v", got)
	}
}

func TestLaidIsTree(t *testing.T) {
	deep := full(1)
	for k := range 40 {
		deep.L = []api.Node{full(k), deep, full(k + 1), bare(full(k + 2))}
		if got := laid(deep); !equal(got, deep) || !tree.Same(got, deep) {
			t.Fatalf("%v became %v", deep, got)
		}
	}
	for _, n := range []api.Node{{}, full(3), chain(api.Quote, 1000), node(0, make([]api.Node, 1000)...)} {
		if got := laid(n); !equal(got, n) {
			t.Errorf("%v became %v", n, got)
		}
	}
}

func TestTreeTwice(t *testing.T) {
	a, m := family()
	first := a.Tree()
	first.L[1].L[0].S = "changed"
	first.L = append(first.L[:1], first.L[2:]...)
	checkArena(t, a, m)
}

// P6.4

func TestSame(t *testing.T) {
	base := full(4)
	others := []api.Node{{}}
	for k := range 7 {
		n := full(4)
		switch k {
		case 0:
			n.Kind = 5
		case 1:
			n.S += "x"
		case 2:
			n.T = n.S
		case 3:
			n.N++
		case 4:
			n.M--
		case 5:
			n.Flag = false
		case 6:
			n.S, n.T = n.T, n.S
		}
		others = append(others, n)
	}
	for _, l := range [][]api.Node{nil, {{}}, {{Kind: api.Text}, {}}, {{}, {Kind: api.Text}}, {{Kind: api.Text, L: []api.Node{{}}}}} {
		n := full(4)
		n.L = l
		others = append(others, n)
	}
	for i, n := range others {
		a, b := base, n
		for range 4 {
			if tree.Same(a, b) || tree.Same(b, a) || !tree.Same(a, a) || !tree.Same(b, b) {
				t.Errorf("%d: Same(%v, %v)", i, a, b)
			}
			a, b = node(api.Doc, node(api.Rule), a, node(api.Rule)), node(api.Doc, node(api.Rule), b, node(api.Rule))
		}
	}
	// The order counts, and so does where a child hangs.
	if tree.Same(node(1, node(2), node(3)), node(1, node(3), node(2))) || tree.Same(node(1, node(2, node(3))), node(1, node(2), node(3))) {
		t.Error("unlike trees are the same")
	}
	if !tree.Same(node(1), api.Node{Kind: 1, L: []api.Node{}}) || !tree.Same(api.Node{}, api.Node{}) {
		t.Error("a list without elements is one, nil or not")
	}
}

func TestCountAndDepth(t *testing.T) {
	for _, x := range []struct {
		n            api.Node
		count, depth int
	}{
		{api.Node{}, 1, 1},
		{api.Node{L: []api.Node{}}, 1, 1},
		{full(3), 2, 2},
		{node(1, node(2), node(3), node(4)), 4, 2},
		{node(1, node(2, node(3)), node(4)), 4, 3},
		{node(1, node(2), node(3, node(4))), 4, 3},
		{node(1, node(2, node(3, node(4, node(5)), node(6))), node(7, node(8))), 8, 5},
		{chain(9, 77), 77, 77},
		{node(1, chain(2, 5), chain(2, 9), chain(2, 7)), 22, 10},
	} {
		if c, d := tree.Count(x.n), tree.Depth(x.n); c != x.count || d != x.depth {
			t.Errorf("%v: %d, %d, want %d, %d", x.n, c, d, x.count, x.depth)
		}
	}
}

// wayTo is, for each kind that may stand in a document, the kinds from a Doc down to it.
func wayTo() [][]int {
	ways := make([][]int, len(names))
	ways[api.Doc] = []int{api.Doc}
	for queue := []int{api.Doc}; len(queue) > 0; queue = queue[1:] {
		for _, name := range inside(names[queue[0]]) {
			if k := slices.Index(names, name); ways[k] == nil {
				ways[k] = append(slices.Clone(ways[queue[0]]), k)
				queue = append(queue, k)
			}
		}
	}
	return ways
}

// along is a node with those kinds above it.
func along(way []int, n api.Node) api.Node {
	for _, k := range slices.Backward(way) {
		n = node(k, n)
	}
	return n
}

func TestWellByRoot(t *testing.T) {
	for kind := -2; kind < 30; kind++ {
		if got := tree.Well(node(kind)); got != (kind == api.Doc) {
			t.Errorf("Well of a %d alone = %v", kind, got)
		}
	}
	if tree.Well(api.Node{}) || tree.Well(node(api.Quote, node(api.Para))) || tree.Well(node(api.Para, node(api.Text))) {
		t.Error("what is no Doc is well")
	}
	if !tree.Well(api.Node{Kind: api.Doc, S: "a", T: "b", N: 1, M: 2, Flag: true}) {
		t.Error("fields beside Kind and L count")
	}
}

func TestWellByEachPair(t *testing.T) {
	ways := wayTo()
	for in := 1; in < len(names); in++ {
		if ways[in] == nil {
			t.Fatalf("no way to %s", names[in])
		}
		for kind := -1; kind < len(names)+1; kind++ {
			name := "none"
			if 0 < kind && kind < len(names) {
				name = names[kind]
			}
			want := slices.Contains(inside(names[in]), name) && !(in == api.Link && kind == api.Link)
			if got := tree.Well(along(ways[in], node(kind))); got != want {
				t.Errorf("Well of a %s in a %s = %v", name, names[in], got)
			}
		}
	}
}

// What may not stand is found wherever it stands.
func TestWellAtAnyPlace(t *testing.T) {
	good := node(api.Doc,
		node(api.Quote, node(api.List, node(api.Item, node(api.Para, node(api.Text))), node(api.Item))),
		node(api.Table, node(api.Row, node(api.Cell, node(api.Text)), node(api.Cell)), node(api.Row)),
		node(api.Note, node(api.Head, node(api.Emph, node(api.Strong, node(api.Struck, node(api.Link, node(api.Image, node(api.Text)))), node(api.Text))))),
		node(api.Para, node(api.Link, node(api.Text)), node(api.Link, node(api.Text)), node(api.Image, node(api.Link))),
		node(api.Rule))
	if !tree.Well(good) {
		t.Fatal("what is well is not")
	}
	for i := 1; i < tree.Count(good); i++ {
		for _, kind := range []int{api.Doc, 0, 26, -1} {
			bad := laid(good)
			at := i
			setKind(&bad, &at, kind)
			if tree.Well(bad) {
				t.Errorf("the node %d is a %d", i, kind)
			}
		}
	}
}

// setKind makes the at-th node (the first is 0) one of a kind.
func setKind(n *api.Node, at *int, kind int) {
	if *at == 0 {
		n.Kind = kind
	}
	*at--
	for i := range n.L {
		setKind(&n.L[i], at, kind)
	}
}

func TestWellOfLinks(t *testing.T) {
	between := []int{api.Emph, api.Strong, api.Image, api.Struck}
	link := node(api.Link, node(api.Text))
	for _, one := range between {
		for _, two := range between {
			for _, above := range []int{api.Para, api.Head} {
				below := node(one, node(api.Text), node(two, node(api.Soft), link))
				if !tree.Well(node(api.Doc, node(above, below, link, below))) {
					t.Errorf("a Link in %s and %s", names[one], names[two])
				}
				if tree.Well(node(api.Doc, node(above, link, node(api.Link, node(api.Text), below)))) {
					t.Errorf("a Link in %s and %s in a Link", names[one], names[two])
				}
				if tree.Well(node(api.Doc, node(above, node(one, node(api.Link, node(two, link)))))) {
					t.Errorf("a Link in %s in a Link in %s", names[two], names[one])
				}
			}
		}
	}
	deep := link
	for range 500 {
		deep = node(api.Emph, deep)
	}
	if !tree.Well(node(api.Doc, node(api.Para, deep))) || tree.Well(node(api.Doc, node(api.Para, node(api.Link, deep)))) {
		t.Error("a Link, deep in a Link")
	}
}

// R1: many nodes, and as many levels as are promised.
func TestManyNodes(t *testing.T) {
	const levels = 1 << 16
	a := tree.New(node(api.Doc))
	for id := range levels - 1 {
		a.Add(id, node(api.Quote))
	}
	n := a.Tree()
	if tree.Count(n) != levels || tree.Depth(n) != levels || !tree.Well(n) || !tree.Same(n, a.Tree()) {
		t.Error("a deep tree")
	}
	if a.Move(1, levels-1) || !a.Move(levels-1, 0) || !slices.Equal(a.Children(0), []int{1, levels - 1}) {
		t.Error("Move in a deep tree")
	}
	const many = 1 << 18
	a = tree.New(node(api.Doc))
	for range many {
		a.Add(0, node(api.Rule))
	}
	for id := 1; id <= many; id += 2 {
		a.Unlink(id)
		a.Move(id+1, 0)
	}
	n = a.Tree()
	if len(n.L) != many/2 || len(a.Children(0)) != many/2 || a.Len() != many+1 || !tree.Well(n) {
		t.Error("a broad tree")
	}
}

// R3: what is handed in is neither changed nor kept; what is answered is new.
func TestMemory(t *testing.T) {
	list := []api.Node{node(api.Para), node(api.Para)}
	n := api.Node{Kind: api.Doc, S: strings.Clone("some"), T: strings.Clone("text"), L: list}
	a := tree.New(n)
	a.Add(0, n)
	a.Set(0, n)
	if !equal(node(0, list...), node(0, node(api.Para), node(api.Para))) || len(n.L) != 2 {
		t.Error("what was handed in is changed")
	}
	m := newShelf(n)
	m.add(0, n)
	children := a.Children(0)
	children[0] = 7
	got := a.Get(0)
	got.Kind = api.Rule
	checkArena(t, a, m)

	whole := a.Tree()
	told := []string{n.S, n.T, a.Get(0).S, a.Get(0).T, a.Get(0).S, whole.S, whole.T, whole.L[0].S, whole.L[0].T}
	seen := make(map[*byte]bool)
	for i, s := range told {
		p := unsafe.StringData(s)
		if seen[p] {
			t.Errorf("text %d lies where another one does", i)
		}
		seen[p] = true
	}
}

// Two lists of one tree share nothing: one may grow without the other.
func TestListsGrowAlone(t *testing.T) {
	a, m := family()
	n := a.Tree()
	n.L[1].L = append(n.L[1].L, full(1))
	n.L = append(n.L, full(2))
	n.L[1].L[1].L = append(n.L[1].L[1].L, full(3))
	checkArena(t, a, m)
	want := m.tree(0)
	want.L[1].L = append(want.L[1].L, full(1))
	want.L = append(want.L, full(2))
	want.L[1].L[1].L = append(want.L[1].L[1].L, full(3))
	if !equal(n, want) {
		t.Errorf("%v, want %v", n, want)
	}
}

// Two arenas know nothing of each other.
func TestArenasAreApart(t *testing.T) {
	a, m := family()
	b, o := family()
	a.Move(5, 0)
	m.move(5, 0)
	b.Unlink(2)
	o.unlink(2)
	a.Set(1, full(8))
	m.nodes[1] = bare(full(8))
	checkArena(t, a, m)
	checkArena(t, b, o)
}

func FuzzTree(f *testing.F) {
	f.Add([]byte(""))
	f.Add([]byte{0, 0, 1, 0, 1, 2, 0, 1, 3, 2, 1, 3, 2, 3, 0, 1, 1, 0, 2, 1, 3})
	f.Add([]byte{0, 0, 7, 0, 1, 14, 3, 1, 8, 0, 255, 0, 1, 0, 0, 2, 0, 1})
	f.Fuzz(func(t *testing.T, program []byte) {
		a, m := steps(t, program)
		n := a.Tree()
		if tree.Count(n) > a.Len() || tree.Depth(n) > tree.Count(n) || !equal(laid(n), m.tree(0)) {
			t.Errorf("%v", n)
		}
	})
}
