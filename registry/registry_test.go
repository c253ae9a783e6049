package registry_test

import (
	"math"
	"reflect"
	"slices"
	"sort"
	"strconv"
	"strings"
	"sync"
	"testing"
	"unsafe"

	"incipit/api"
	"incipit/registry"
)

const most = 1 << 62

// chapter is the sentence of P7.4, as it stands there.
const chapter = "phase 1 (blocks): quote 100, fence 200, code 210, heading 300, rule 400, html 500, list 600, table 700 (Tables), note 150 (Footnotes); phase 2 (inlines): escape 100 (a backslash), entity 110 \"&\", span 120 \"`\", auto 130 \"<\", raw 140 \"<\", emph 200 \"*_\", strike 210 \"~\" (Strike), link 300 \"[!]\", noteref 290 \"[\" (Footnotes), break 400 line feed; phase 3 (behind): tasks 100 (Tasks), urls 200 (Autolinks), notes 300 (Footnotes), slugs 400 (Anchors); phase 4 (HTML): html-out 100, filter 200 (Filter)"

// core reads the chapter's sentence.
func core(t *testing.T) []api.Hook {
	t.Helper()
	bits := map[string]int{"": 0, "(Tables)": 1, "(Strike)": 2, "(Tasks)": 4, "(Autolinks)": 8, "(Filter)": 16, "(Footnotes)": 32, "(Anchors)": 64}
	var l []api.Hook
	for i, phase := range strings.Split(chapter, "; ") {
		_, hooks, _ := strings.Cut(phase, ": ")
		for _, words := range strings.Split(hooks, ", ") {
			words = strings.ReplaceAll(words, "(a backslash)", "\"\x5c\"")
			words = strings.ReplaceAll(words, "line feed", "\"\x0a\"")
			h := api.Hook{Phase: i + 1}
			h.Name, words, _ = strings.Cut(words, " ")
			number, rest, _ := strings.Cut(words, " ")
			h.Priority, _ = strconv.Atoi(number)
			if strings.HasPrefix(rest, "\"") {
				end := strings.LastIndex(rest, "\"")
				h.Trigger, rest = rest[1:end], strings.TrimPrefix(rest[end+1:], " ")
			}
			bit, ok := bits[rest]
			if !ok {
				t.Fatalf("%q: no bit", rest)
			}
			h.Bit = bit
			l = append(l, h)
		}
	}
	return l
}

// model is what a registry should be, told by a list.
type model struct {
	mask   int
	hooks  []api.Hook
	sealed bool
}

func newModel(mask int) *model { return &model{mask: mask} }

func (m *model) add(h api.Hook) bool {
	named := func(o api.Hook) bool { return o.Name == h.Name }
	if m.sealed || h.Name == "" || slices.ContainsFunc(m.hooks, named) {
		return false
	}
	m.hooks = append(m.hooks, h)
	return true
}

func (m *model) on(h api.Hook) bool {
	if h.Bit == 0 {
		return true
	}
	for k := range 7 {
		if h.Bit>>k&1 == 1 && m.mask>>k&1 == 1 {
			return true
		}
	}
	return false
}

func (m *model) sorted(phase int) []api.Hook {
	m.sealed = true
	return m.list(phase)
}

// list is sorted, but seals nothing.
func (m *model) list(phase int) []api.Hook {
	var l []api.Hook
	for _, h := range m.hooks {
		if h.Phase == phase && m.on(h) {
			l = append(l, h)
		}
	}
	sort.Slice(l, func(i, k int) bool {
		if l[i].Priority != l[k].Priority {
			return l[i].Priority < l[k].Priority
		}
		return l[i].Name < l[k].Name
	})
	return l
}

func (m *model) forByte(phase int, b byte) []api.Hook {
	var l []api.Hook
	for _, h := range m.sorted(phase) {
		if h.Trigger == "" || slices.Contains([]byte(h.Trigger), b) {
			l = append(l, h)
		}
	}
	return l
}

func (m *model) has(name string) bool {
	m.sealed = true
	return slices.ContainsFunc(m.hooks, func(h api.Hook) bool { return h.Name == name && m.on(h) })
}

// checkRegistry holds all that a registry tells against a model.
func checkRegistry(t *testing.T, r *registry.Registry, m *model) {
	t.Helper()
	phases := []int{0, 1, 2, 3, 4, 5, -1, math.MaxInt, math.MinInt}
	names := []string{"", "none", "\x00"}
	for _, h := range m.hooks {
		phases = append(phases, h.Phase)
		names = append(names, h.Name, h.Name+"x", h.Name[1:], strings.ToUpper(h.Name))
	}
	slices.Sort(phases)
	for _, phase := range slices.Compact(phases) {
		checkSame(t, "Sorted", r.Sorted(phase), m.sorted(phase))
		for b := range 256 {
			checkSame(t, "For "+strconv.Itoa(b), r.For(phase, byte(b)), m.forByte(phase, byte(b)))
		}
	}
	for _, name := range names {
		if got, want := r.Has(name), m.has(name); got != want {
			t.Errorf("Has(%q) = %v, want %v", name, got, want)
		}
	}
}

func checkSame(t *testing.T, what string, got, want []api.Hook) {
	t.Helper()
	if !slices.Equal(got, want) {
		t.Errorf("%s: %+v, want %+v", what, got, want)
	}
}

// told are the names of hooks.
func told(l []api.Hook) string {
	var names []string
	for _, h := range l {
		names = append(names, h.Name)
	}
	return strings.Join(names, " ")
}

// filled is a registry of hooks, and the model of it.
func filled(t *testing.T, mask int, hooks ...api.Hook) (*registry.Registry, *model) {
	t.Helper()
	r, m := registry.New(mask), newModel(mask)
	for _, h := range hooks {
		if got, want := r.Add(h), m.add(h); got != want {
			t.Errorf("Add(%+v) = %v, want %v", h, got, want)
		}
	}
	return r, m
}

// named is a hook of that name and priority, of phase 1.
func named(name string, priority int) api.Hook {
	return api.Hook{Name: name, Phase: 1, Priority: priority}
}

// P7.1

func TestNewIsEmpty(t *testing.T) {
	for _, mask := range []int{0, 1, 127, 128, -1} {
		r := registry.New(mask)
		if r == nil {
			t.Fatal("New is nil")
		}
		checkRegistry(t, r, newModel(mask))
		if r.Steps() != 0 {
			t.Errorf("Steps() = %d", r.Steps())
		}
	}
}

// Each mask by each bit: only the lowest seven bits of a mask count.
func TestMask(t *testing.T) {
	masks := []int{0, -1, 127, 126, 128, 255, 256, 0x5500, 0x552a, -128, -127, math.MaxInt, math.MinInt, math.MinInt + 1}
	bits := []int{0, -1, 127, 129, 130, 192, -128, math.MaxInt, math.MinInt, math.MinInt + 64}
	for k := range 64 {
		masks = append(masks, 1<<k)
		bits = append(bits, 1<<k)
	}
	for _, mask := range masks {
		var hooks []api.Hook
		for i, bit := range bits {
			hooks = append(hooks, api.Hook{Name: "h" + strconv.Itoa(i), Phase: 1, Bit: bit})
		}
		r, m := filled(t, mask, hooks...)
		checkSame(t, "Sorted", r.Sorted(1), m.sorted(1))
		for _, h := range hooks {
			want := h.Bit == 0 || mask&127&h.Bit != 0
			if got := r.Has(h.Name); got != want {
				t.Errorf("mask %d, bit %d: Has = %v", mask, h.Bit, got)
			}
		}
	}
}

func TestAdd(t *testing.T) {
	r := registry.New(api.Tables)
	for _, x := range []struct {
		h  api.Hook
		ok bool
	}{
		{api.Hook{Name: "a", Phase: 1, Priority: 1}, true},
		{api.Hook{Name: "a", Phase: 1, Priority: 1}, false},
		{api.Hook{Name: "a", Phase: 2, Priority: 3, Trigger: "x"}, false},
		{api.Hook{}, false},
		{api.Hook{Phase: 1, Priority: 2, Trigger: "x", Bit: 1}, false},
		{api.Hook{Name: "A"}, true},
		{api.Hook{Name: " "}, true},
		{api.Hook{Name: "a "}, true},
		{api.Hook{Name: "\x00"}, true},
		{api.Hook{Name: "\xff"}, true},
		{api.Hook{Name: "\ufffd"}, true},
		{api.Hook{Name: "off", Phase: 1, Bit: api.Strike}, true},
		{api.Hook{Name: "off", Phase: 1}, false},
		{api.Hook{Name: "far", Phase: math.MinInt, Priority: math.MaxInt, Trigger: "\x00\xff", Bit: math.MinInt}, true},
	} {
		if got := r.Add(x.h); got != x.ok {
			t.Errorf("Add(%+v) = %v", x.h, got)
		}
	}
	// What was not added is not there, and changed nothing.
	if got := r.Sorted(1); told(got) != "a" || got[0].Priority != 1 || got[0].Trigger != "" {
		t.Errorf("Sorted(1) = %+v", got)
	}
	if r.Has("off") || r.Has("") || r.Has("far") || !r.Has("a") || !r.Has("\xff") || len(r.Sorted(2)) != 0 {
		t.Error("Has")
	}
}

func TestSeal(t *testing.T) {
	for name, ask := range map[string]func(r *registry.Registry){
		"Sorted":      func(r *registry.Registry) { r.Sorted(1) },
		"Sorted none": func(r *registry.Registry) { r.Sorted(-9) },
		"For":         func(r *registry.Registry) { r.For(1, 'a') },
		"For none":    func(r *registry.Registry) { r.For(math.MaxInt, 0) },
		"Has":         func(r *registry.Registry) { r.Has("first") },
		"Has none":    func(r *registry.Registry) { r.Has("") },
	} {
		for begin := range 2 {
			r, m := filled(t, 0, []api.Hook{named("first", 1)}[:begin]...)
			ask(r)
			m.sealed = true
			if r.Add(named("second", 0)) || r.Add(named("first", 0)) || r.Add(api.Hook{}) {
				t.Errorf("Add behind %s", name)
			}
			checkRegistry(t, r, m)
			ask(r)
			checkRegistry(t, r, m)
		}
	}
}

func TestWhatSealsNot(t *testing.T) {
	r, m := filled(t, 0, named("a", 1))
	r.Add(named("a", 2))
	r.Add(api.Hook{})
	r.Step(3)
	r.Steps()
	registry.Core()
	other := registry.New(0)
	other.Has("a")
	if !r.Add(named("b", 0)) || !m.add(named("b", 0)) {
		t.Error("sealed by what seals not")
	}
	checkRegistry(t, r, m)
}

// P7.2

func TestOrder(t *testing.T) {
	r, m := filled(t, 0, named("b", 1), named("a", 1), named("c", 0))
	if got := told(r.Sorted(1)); got != "c a b" {
		t.Errorf("Sorted(1): %s", got)
	}
	checkRegistry(t, r, m)
}

func TestOrderOfPriorities(t *testing.T) {
	r, m := filled(t, 0, named("a", math.MaxInt), named("b", math.MinInt), named("c", 0), named("d", -1), named("e", 1), named("f", math.MinInt+1), named("g", math.MaxInt-1), named("h", 10), named("i", 9))
	if got := told(r.Sorted(1)); got != "b f d c e i h g a" {
		t.Errorf("Sorted(1): %s", got)
	}
	checkRegistry(t, r, m)
}

// Names are held against each other byte by byte, not by letters or characters.
func TestOrderOfNames(t *testing.T) {
	want := []string{"\x00", "\x00\x00", " ", "10", "9", "A", "Z", "a", "a\x00", "a b", "a-b", "aA", "aa", "ab", "b", "\x7f", "\x80", "\xc3", "\u00e9", "\u00e9a", "\ufffd", "\U0001f600", "\xff", "\xffa"}
	var hooks []api.Hook
	for _, name := range want {
		hooks = append(hooks, named(name, 7))
	}
	slices.Reverse(hooks)
	r, m := filled(t, 0, hooks...)
	for i, h := range r.Sorted(1) {
		if h.Name != want[i] {
			t.Errorf("%d: %q, want %q", i, h.Name, want[i])
		}
	}
	checkRegistry(t, r, m)
}

// The other fields say nothing in the order.
func TestOrderByNothingElse(t *testing.T) {
	r, m := filled(t, 127,
		api.Hook{Name: "a", Phase: 1, Priority: 1, Trigger: "z", Bit: 64},
		api.Hook{Name: "b", Phase: 1, Priority: 1, Trigger: "", Bit: 0},
		api.Hook{Name: "c", Phase: 1, Priority: 1, Trigger: "a", Bit: 1},
		api.Hook{Name: "d", Phase: 1, Priority: 0, Trigger: "zz", Bit: 127})
	if got := told(r.Sorted(1)); got != "d a b c" {
		t.Errorf("Sorted(1): %s", got)
	}
	checkRegistry(t, r, m)
}

func TestPhases(t *testing.T) {
	var hooks []api.Hook
	phases := []int{0, 1, 2, 4, 5, -1, math.MaxInt, math.MinInt, 1 << 32}
	for i, phase := range phases {
		hooks = append(hooks, api.Hook{Name: string(rune('a' + i)), Phase: phase, Priority: -i}, api.Hook{Name: string(rune('A' + i)), Phase: phase, Priority: 1})
	}
	r, m := filled(t, 0, hooks...)
	for i, phase := range phases {
		if got := told(r.Sorted(phase)); got != string(rune('a'+i))+" "+string(rune('A'+i)) {
			t.Errorf("Sorted(%d): %s", phase, got)
		}
	}
	if len(r.Sorted(3)) != 0 || len(r.Sorted(6)) != 0 || len(r.For(3, 'a')) != 0 {
		t.Error("a phase of none")
	}
	checkRegistry(t, r, m)
}

func TestFor(t *testing.T) {
	r, m := filled(t, api.Strike,
		api.Hook{Name: "any", Phase: 2, Priority: 5},
		api.Hook{Name: "stars", Phase: 2, Priority: 9, Trigger: "*_"},
		api.Hook{Name: "star", Phase: 2, Priority: 1, Trigger: "*"},
		api.Hook{Name: "zero", Phase: 2, Priority: 2, Trigger: "\x00"},
		api.Hook{Name: "e", Phase: 2, Priority: 3, Trigger: "\u00e9"},
		api.Hook{Name: "last", Phase: 2, Priority: 4, Trigger: "ab\xff"},
		api.Hook{Name: "struck", Phase: 2, Priority: 6, Trigger: "~*", Bit: api.Strike},
		api.Hook{Name: "off", Phase: 2, Priority: 6, Trigger: "~*", Bit: api.Tables},
		api.Hook{Name: "offany", Phase: 2, Priority: 6, Bit: api.Tables},
		api.Hook{Name: "there", Phase: 3, Priority: 6, Trigger: "*"})
	for b, want := range map[byte]string{
		'*': "star any struck stars", '_': "any stars", '~': "any struck", 'x': "any",
		0: "zero any", 0xc3: "e any", 0xa9: "e any", 0xe9: "any", 0xff: "last any", 'a': "last any", 'b': "last any", 'A': "any",
	} {
		if got := told(r.For(2, b)); got != want {
			t.Errorf("For(2, %d): %s, want %s", b, got, want)
		}
	}
	if got := told(r.For(3, '*')); got != "there" || len(r.For(3, 'x')) != 0 || len(r.For(1, '*')) != 0 {
		t.Errorf("For(3): %s", got)
	}
	checkRegistry(t, r, m)
}

func TestHas(t *testing.T) {
	r, m := filled(t, api.Tables|api.Anchors,
		api.Hook{Name: "core"},
		api.Hook{Name: "tables", Bit: api.Tables},
		api.Hook{Name: "both", Bit: api.Tables | api.Strike},
		api.Hook{Name: "off", Bit: api.Strike | api.Filter},
		api.Hook{Name: "beyond", Bit: 128})
	for name, want := range map[string]bool{"core": true, "tables": true, "both": true, "off": false, "beyond": false, "": false, "none": false, "cor": false, "Core": false, "core ": false} {
		if got := r.Has(name); got != want {
			t.Errorf("Has(%q) = %v", name, got)
		}
	}
	checkRegistry(t, r, m)
}

func TestNil(t *testing.T) {
	var r *registry.Registry
	for range 2 {
		if r.Add(named("a", 1)) || r.Add(api.Hook{}) || r.Has("a") || r.Has("") {
			t.Error("nil holds a hook")
		}
		r.Step(1)
		r.Step(-1)
		r.Step(math.MaxInt)
		if r.Steps() != 0 || len(r.Sorted(1)) != 0 || len(r.For(1, 'a')) != 0 {
			t.Error("nil tells something")
		}
	}
}

// P7.3

func TestSteps(t *testing.T) {
	r := registry.New(0)
	want := 0
	for _, n := range []int{0, 1, 0, 5, -1, -5, math.MinInt, 1 << 40, 7, -1 << 40} {
		r.Step(n)
		want += max(n, 0)
		if r.Steps() != want {
			t.Errorf("Step(%d): Steps() = %d, want %d", n, r.Steps(), want)
		}
	}
	// They are counted of one that is sealed as well.
	r.Sorted(1)
	r.Step(3)
	if r.Steps() != want+3 {
		t.Errorf("Steps() = %d, want %d", r.Steps(), want+3)
	}
}

func TestStepsAtMost(t *testing.T) {
	for _, way := range [][]int{
		{most}, {most + 1}, {math.MaxInt}, {most, 1}, {most - 1, 1}, {most - 1, 2}, {1, most}, {1, most - 1},
		{math.MaxInt, math.MaxInt}, {1, math.MaxInt, 1, -1}, {most / 2, most / 2}, {most / 2, most/2 + 1}, {most, most, most, most, most},
		{7, math.MaxInt, math.MinInt, math.MaxInt, 0, -most},
	} {
		r := registry.New(0)
		for _, n := range way {
			r.Step(n)
		}
		if r.Steps() != most {
			t.Errorf("%v: Steps() = %d", way, r.Steps())
		}
	}
	r := registry.New(0)
	r.Step(most - 3)
	r.Step(2)
	if r.Steps() != most-1 {
		t.Errorf("Steps() = %d", r.Steps())
	}
}

// Each registry counts its own steps.
func TestStepsAreApart(t *testing.T) {
	a, b := registry.New(1), registry.New(1)
	a.Step(3)
	b.Step(4)
	a.Step(1)
	if a.Steps() != 4 || b.Steps() != 4 || registry.New(1).Steps() != 0 {
		t.Errorf("%d, %d", a.Steps(), b.Steps())
	}
	b.Step(1)
	if a.Steps() != 4 || b.Steps() != 5 {
		t.Errorf("%d, %d", a.Steps(), b.Steps())
	}
}

func TestStepsOfManyAtOnce(t *testing.T) {
	few, full := registry.New(0), registry.New(0)
	var all sync.WaitGroup
	for range 8 {
		all.Go(func() {
			for k := range 1000 {
				few.Step(k)
				few.Step(-k)
				full.Step(most/4 + k)
				if full.Steps() > most || few.Steps() < 0 {
					t.Error("too many steps, or too few")
				}
			}
		})
	}
	all.Wait()
	if few.Steps() != 8*999*500 || full.Steps() != most {
		t.Errorf("Steps() = %d, %d", few.Steps(), full.Steps())
	}
}

// P7.4

func TestCore(t *testing.T) {
	want := core(t)
	if len(want) != 25 {
		t.Fatalf("the chapter has %d hooks", len(want))
	}
	got := registry.Core()
	checkSame(t, "Core", got, want)
	for i := range got {
		got[i] = api.Hook{Name: "changed"}
	}
	_ = append(got[:3], got[5:]...)
	checkSame(t, "Core, told again", registry.Core(), want)
}

// Some of them by hand, whole.
func TestCoreByHand(t *testing.T) {
	got := registry.Core()
	for i, want := range map[int]api.Hook{
		0:  {Name: "quote", Phase: 1, Priority: 100},
		7:  {Name: "table", Phase: 1, Priority: 700, Bit: api.Tables},
		8:  {Name: "note", Phase: 1, Priority: 150, Bit: api.Footnotes},
		9:  {Name: "escape", Phase: 2, Priority: 100, Trigger: "\\"},
		11: {Name: "span", Phase: 2, Priority: 120, Trigger: "`"},
		14: {Name: "emph", Phase: 2, Priority: 200, Trigger: "*_"},
		15: {Name: "strike", Phase: 2, Priority: 210, Trigger: "~", Bit: api.Strike},
		16: {Name: "link", Phase: 2, Priority: 300, Trigger: "[!]"},
		17: {Name: "noteref", Phase: 2, Priority: 290, Trigger: "[", Bit: api.Footnotes},
		18: {Name: "break", Phase: 2, Priority: 400, Trigger: "\n"},
		20: {Name: "urls", Phase: 3, Priority: 200, Bit: api.Autolinks},
		24: {Name: "filter", Phase: 4, Priority: 200, Bit: api.Filter},
	} {
		if i >= len(got) || got[i] != want {
			t.Errorf("%d: want %+v", i, want)
		}
	}
}

func TestCoreSorted(t *testing.T) {
	for mask := range 128 {
		r, m := filled(t, mask, registry.Core()...)
		if len(m.hooks) != 25 {
			t.Fatalf("%d of the core's hooks were added", len(m.hooks))
		}
		checkRegistry(t, r, m)
	}
	all, _ := filled(t, api.All, registry.Core()...)
	none, _ := filled(t, 0, registry.Core()...)
	for _, x := range []struct{ got, want string }{
		{told(all.Sorted(1)), "quote note fence code heading rule html list table"},
		{told(all.Sorted(2)), "escape entity span auto raw emph strike noteref link break"},
		{told(all.Sorted(3)), "tasks urls notes slugs"},
		{told(all.Sorted(4)), "html-out filter"},
		{told(none.Sorted(1)), "quote fence code heading rule html list"},
		{told(none.Sorted(2)), "escape entity span auto raw emph link break"},
		{told(none.Sorted(3)), ""},
		{told(none.Sorted(4)), "html-out"},
		{told(all.For(2, '[')), "noteref link"},
		{told(none.For(2, '[')), "link"},
		{told(all.For(2, '<')), "auto raw"},
		{told(all.For(2, '\\')), "escape"},
		{told(all.For(2, '\n')), "break"},
		{told(all.For(2, 'a')), ""},
		{told(all.For(3, 'a')), "tasks urls notes slugs"},
	} {
		if x.got != x.want {
			t.Errorf("%s, want %s", x.got, x.want)
		}
	}
}

// P7.5

// permute calls f with each order of l.
func permute(l []api.Hook, k int, f func()) {
	if k == len(l) {
		f()
		return
	}
	for i := k; i < len(l); i++ {
		l[k], l[i] = l[i], l[k]
		permute(l, k+1, f)
		l[k], l[i] = l[i], l[k]
	}
}

func TestInWhateverOrder(t *testing.T) {
	hooks := []api.Hook{named("b", 1), named("a", 1), named("c", 0), named("aa", 1), named("A", 1), {Name: "d", Phase: 2}, {Name: "e", Phase: 1, Priority: 1, Trigger: "x", Bit: 1}}
	permute(hooks, 0, func() {
		for mask, want := range []string{"c A a aa b", "c A a aa b e"} {
			r, _ := filled(t, mask, hooks...)
			if got := told(r.Sorted(1)); got != want {
				t.Fatalf("%+v: %s", hooks, got)
			}
			if got := told(r.For(1, 'y')); got != "c A a aa b" {
				t.Fatalf("%+v: %s", hooks, got)
			}
		}
	})
}

// shuffled is l in an order that seed tells.
func shuffled(l []api.Hook, seed uint32) []api.Hook {
	l = slices.Clone(l)
	for i := range l {
		seed = seed*1664525 + 1013904223
		k := int(seed>>8) % (i + 1)
		l[i], l[k] = l[k], l[i]
	}
	return l
}

func TestManyOrders(t *testing.T) {
	hooks := registry.Core()
	for i := range 300 {
		hooks = append(hooks, api.Hook{Name: "n" + strconv.Itoa(i), Phase: i % 5, Priority: i % 7 * 100, Trigger: string(rune('a' + i%3)), Bit: i % 8})
	}
	for _, mask := range []int{0, 1, 6, 127} {
		first, m := filled(t, mask, hooks...)
		checkRegistry(t, first, m)
		for seed := range uint32(30) {
			r, _ := filled(t, mask, shuffled(hooks, seed)...)
			for phase := range 6 {
				checkSame(t, "Sorted", r.Sorted(phase), m.sorted(phase))
				checkSame(t, "For", r.For(phase, 'b'), m.forByte(phase, 'b'))
			}
		}
	}
}

// What is told is the same each time, and whichever is asked for first.
func TestToldAgain(t *testing.T) {
	hooks := shuffled(registry.Core(), 9)
	for begin := range 5 {
		r, m := filled(t, api.All, hooks...)
		for k := range 10 {
			phase := (begin + k) % 5
			checkSame(t, "Sorted", r.Sorted(phase), m.sorted(phase))
		}
	}
}

// Added, and asked for, by many at once.
func TestManyAtOnce(t *testing.T) {
	hooks := registry.Core()
	_, m := filled(t, api.All, hooks...)
	for seed := range uint32(50) {
		r := registry.New(api.All)
		var added, asked sync.WaitGroup
		oks := make([]int, 4)
		for i := range oks {
			added.Go(func() {
				for _, h := range shuffled(hooks, seed+uint32(i)) {
					if r.Add(h) {
						oks[i]++
					}
				}
			})
		}
		added.Wait()
		if all := oks[0] + oks[1] + oks[2] + oks[3]; all != len(hooks) {
			t.Errorf("%d were added", all)
		}
		for i := range 4 {
			asked.Go(func() {
				if r.Sorted(i + 1); r.Add(named("late", 0)) {
					t.Error("added behind Sorted")
				}
				checkSame(t, "Sorted", r.Sorted(i+1), m.list(i+1))
				if !r.Has("quote") || r.Has("late") || told(r.For(2, '<')) != "auto raw" {
					t.Error("Has or For")
				}
			})
		}
		asked.Wait()
	}
}

// Where hooks are added while others ask, one that was added is told ever after, and one that was not never.
func TestAddedWhileAsked(t *testing.T) {
	for range 200 {
		r := registry.New(0)
		var all sync.WaitGroup
		oks := make([]int, 100)
		all.Go(func() {
			for i := range oks {
				if r.Add(named("n"+strconv.Itoa(i), i)) {
					oks[i] = 1
				}
			}
		})
		all.Go(func() { r.Sorted(1) })
		all.Go(func() { r.Has("n3") })
		all.Wait()
		sum := 0
		for i, ok := range oks {
			if r.Has("n"+strconv.Itoa(i)) != (ok == 1) {
				t.Errorf("Has(n%d)", i)
			}
			sum += ok
		}
		if len(r.Sorted(1)) != sum {
			t.Errorf("%d are told, %d were added", len(r.Sorted(1)), sum)
		}
	}
}

// R3: what is kept and what is told are memory of their own.

func TestMemory(t *testing.T) {
	h := api.Hook{Name: strings.Clone("some"), Phase: 1, Trigger: strings.Clone("text")}
	r, m := filled(t, 0, h, named("z", 2))
	a, b, c := r.Sorted(1), r.Sorted(1), r.For(1, 'x')
	seen := make(map[*byte]bool)
	for i, s := range []string{h.Name, h.Trigger, a[0].Name, a[0].Trigger, b[0].Name, b[0].Trigger, c[0].Name, c[0].Trigger} {
		p := unsafe.StringData(s)
		if seen[p] {
			t.Errorf("text %d lies where another one does", i)
		}
		seen[p] = true
	}
	a[0] = named("changed", 9)
	_ = append(a[:1], named("more", 1))
	_ = append(c[:1], named("more", 1))
	slices.Reverse(b)
	checkRegistry(t, r, m)
}

// A registry keeps no memory of what was added: what becomes of that is nothing to it.
func TestKeepsCopies(t *testing.T) {
	name, trigger := []byte("name"), []byte("trigger")
	r, m := registry.New(0), newModel(0)
	m.add(api.Hook{Name: "name", Phase: 1, Priority: 3, Trigger: "trigger"})
	h := api.Hook{Name: unsafe.String(&name[0], len(name)), Phase: 1, Priority: 3, Trigger: unsafe.String(&trigger[0], len(trigger))}
	if !r.Add(h) {
		t.Error("Add")
	}
	copy(name, "xxxx")
	copy(trigger, "xxxxxxx")
	if r.Add(named("name", 1)) {
		t.Error("Add of one that is there")
	}
	checkRegistry(t, r, m)
}

// Hooks that are told may be held against those that were added, whole: no field is lost.
func TestFieldsStay(t *testing.T) {
	h := api.Hook{Name: "\x00\xff", Phase: math.MinInt, Priority: math.MaxInt, Trigger: "\x00\xff\x00", Bit: math.MinInt | 1}
	r, _ := filled(t, 1, h)
	for _, l := range [][]api.Hook{r.Sorted(math.MinInt), r.For(math.MinInt, 0), r.For(math.MinInt, 255)} {
		if !reflect.DeepEqual(l, []api.Hook{h}) {
			t.Errorf("%+v", l)
		}
	}
	if len(r.For(math.MinInt, 1)) != 0 {
		t.Error("For of a byte that is none of the trigger's")
	}
}

// Two registries know nothing of each other.
func TestRegistriesAreApart(t *testing.T) {
	a, m := filled(t, 1, named("a", 1), named("b", 2))
	b, o := filled(t, 2, named("a", 5), api.Hook{Name: "c", Phase: 1, Bit: 2})
	a.Sorted(1)
	m.sealed = true
	if !b.Add(named("d", 1)) || !o.add(named("d", 1)) {
		t.Error("sealed by another one")
	}
	checkRegistry(t, a, m)
	checkRegistry(t, b, o)
}

func TestManyHooks(t *testing.T) {
	const many = 1 << 16
	r := registry.New(0)
	for i := range many {
		if !r.Add(api.Hook{Name: strconv.Itoa(i), Phase: i % 1024, Priority: -i}) {
			t.Fatalf("Add of %d", i)
		}
	}
	for phase := range 1024 {
		l := r.Sorted(phase)
		if len(l) != many/1024 || !slices.IsSortedFunc(l, func(a, b api.Hook) int { return a.Priority - b.Priority }) {
			t.Fatalf("Sorted(%d) has %d", phase, len(l))
		}
	}
}

// run does the same to a registry and to a model, four bytes a step.
func run(t *testing.T, program []byte) {
	t.Helper()
	mask := 0
	if len(program) > 0 {
		mask = int(int8(program[0]))
		program = program[1:]
	}
	r, m, sum := registry.New(mask), newModel(mask), 0
	for ; len(program) >= 4; program = program[4:] {
		x, y, z := program[1], program[2], program[3]
		phase := int(x % 4)
		switch program[0] % 16 {
		default:
			h := api.Hook{Name: string(program[1:3][:y%3]), Phase: phase, Priority: int(int8(y)) >> 5, Trigger: string(program[2:4][:x>>2%3]), Bit: int(int8(z))}
			if got, want := r.Add(h), m.add(h); got != want {
				t.Fatalf("Add(%+v) = %v", h, got)
			}
		case 1, 2:
			n := int(int8(x))
			if program[0]%16 == 1 {
				n <<= 56
			}
			r.Step(n)
			sum += min(max(n, 0), most-sum)
		case 3:
			checkSame(t, "Sorted", r.Sorted(phase), m.sorted(phase))
		case 4:
			checkSame(t, "For", r.For(phase, y), m.forByte(phase, y))
		case 5:
			if name := string(program[1:3][:y%3]); r.Has(name) != m.has(name) {
				t.Fatalf("Has(%q)", name)
			}
		}
		if r.Steps() != sum {
			t.Fatalf("Steps() = %d, want %d", r.Steps(), sum)
		}
	}
	checkRegistry(t, r, m)
}

func TestLongWays(t *testing.T) {
	number := uint32(1)
	for range 300 {
		var program []byte
		for range 81 {
			number = number*1664525 + 1013904223
			program = append(program, byte(number>>24))
		}
		run(t, program)
	}
}

func FuzzRegistry(f *testing.F) {
	f.Add([]byte(""))
	f.Add([]byte{127, 8, 'a', 1, 0, 9, 'b', 1, 1, 3, 1, 0, 0, 9, 'c', 1, 0, 1, 120, 0, 0, 1, 120, 0, 0})
	f.Add([]byte{1, 6, 'a', 2, 2, 6, 'a', 2, 1, 5, 'a', 2, 0, 4, 1, 'a', 0})
	f.Fuzz(run)
}
