package value_test

import (
	"math"
	"math/rand"
	"reflect"
	"slices"
	"strings"
	"testing"

	"breviary/api"
	"breviary/dec"
	"breviary/figure"
	"breviary/store"
	"breviary/tree"
	"breviary/value"
	"breviary/view"
)

var (
	nan   = api.Dec{Tag: api.NaN}
	over  = api.Dec{Tag: api.Over}
	under = api.Dec{Tag: api.Under}

	// numbers that may not be
	wrong = []api.Dec{
		{V: math.MinInt64}, {Tag: api.NaN, V: 1}, {Tag: api.NaN, V: math.MinInt64}, {Tag: api.Over, V: 1}, {Tag: api.Over, V: -api.Unit}, {Tag: api.Under, V: -1}, {Tag: api.Under, V: math.MaxInt64},
		{Tag: 4}, {Tag: 4, V: api.Unit}, {Tag: -1}, {Tag: -1, V: 7}, {Tag: math.MaxInt}, {Tag: math.MinInt, V: math.MinInt64}, {Tag: 1 << 32, V: api.Unit}, {Tag: 1<<32 + api.Over},
	}

	noTypes = []int{math.MinInt, -1, 0, 5, 6, 256 + api.VStr, 1<<32 + api.VBool, math.MaxInt}
)

// m is so many millionths.
func m(v int64) api.Dec { return api.Dec{V: v} }

// full is a value of a type that has all of the fields, of which only the type's own one is to count.
func full(kind int) api.Value {
	return api.Value{Type: kind, Nodes: []int{3, 2}, B: true, N: m(2500000), S: " 7 "}
}

func put(t *testing.T, v *view.View, id int, r api.Rec) {
	t.Helper()
	if e := v.Put(id, r); e != api.OK {
		t.Fatalf("Put(%d, %v) = %d", id, r, int(e))
	}
}

// planted is a view of an element out of its markup, below the root, from the number 2 on.
func planted(t *testing.T, markup string) *view.View {
	t.Helper()
	n, e := tree.Parse(markup)
	if e != api.OK {
		t.Fatalf("%s: %d", markup, int(e))
	}
	v := view.New(store.New(), 0)
	put(t, v, 1, api.Rec{Kind: api.Root, Kids: []int{v.Plant(n, 1)}})
	return v
}

// sample is a view of a tree of all kinds: 1 root, 2 a, 3 and 4 its attributes, 5 b, 6 the text 7, 7 a comment, 8 an instruction, 9 a text, 10 c.
func sample(t *testing.T) *view.View {
	t.Helper()
	return planted(t, `<a x=" -1.50 " y="u"><b>7</b><!--8--><?p 9?>.5<c/></a>`)
}

// noViews are those that view.New did not make.
func noViews(t *testing.T) []*view.View {
	copied := *sample(t)
	return []*view.View{nil, {}, &copied}
}

// is asks whether a value's text, number, truth and first node are those.
func is(t *testing.T, v *view.View, x api.Value, s string, d api.Dec, b bool, id int) {
	t.Helper()
	if got := value.ToStr(v, x); got != s {
		t.Errorf("ToStr(%v) = %q, not %q", x, got, s)
	}
	if got := value.ToNum(v, x); got != d {
		t.Errorf("ToNum(%v) = %v, not %v", x, got, d)
	}
	if got := value.ToBool(x); got != b {
		t.Errorf("ToBool(%v) = %v", x, got)
	}
	if got, there := value.First(v, x); got != id || there != (id != 0) {
		t.Errorf("First(%v) = %d, %v, not %d", x, got, there, id)
	}
}

// The chapter's words once more, to hold the package against.

// first is the first of the nodes in document order; 0: none.
func first(v *view.View, x api.Value) int {
	for _, id := range v.All() {
		if x.Type == api.VNodes && slices.Contains(x.Nodes, id) {
			return id
		}
	}
	return 0
}

func asStr(v *view.View, x api.Value) string {
	switch {
	case x.Type == api.VNodes && first(v, x) != 0:
		return v.Value(first(v, x))
	case x.Type == api.VBool && x.B:
		return "true"
	case x.Type == api.VBool:
		return "false"
	case x.Type == api.VNum:
		return figure.Show(x.N)
	case x.Type == api.VStr:
		return x.S
	}
	return ""
}

func asNum(v *view.View, x api.Value) api.Dec {
	switch {
	case x.Type == api.VNum && !dec.Right(x.N):
		return nan
	case x.Type == api.VNum:
		return x.N
	case x.Type == api.VBool && x.B:
		return m(api.Unit)
	case x.Type == api.VBool:
		return m(0)
	}
	return figure.Read(asStr(v, x))
}

func asBool(x api.Value) bool {
	switch x.Type {
	case api.VBool:
		return x.B
	case api.VNum:
		return x.N == over || x.N == under || x.N.Tag == api.Num && x.N.V != 0 && x.N.V != math.MinInt64
	case api.VStr:
		return x.S != ""
	case api.VNodes:
		return len(x.Nodes) != 0
	}
	return false
}

// agrees holds a value in a view against the chapter's words.
func agrees(t *testing.T, v *view.View, x api.Value) {
	t.Helper()
	is(t, v, x, asStr(v, x), asNum(v, x), asBool(x), first(v, x))
}

// P16.1

func TestNodes(t *testing.T) {
	for _, l := range [][]int{{1}, {2, 3}, {3, 2}, {4, 3, 4, 9, 4}, {0, -1, math.MinInt, math.MaxInt}, make([]int, 1000)} {
		if got := value.Nodes(l); !reflect.DeepEqual(got, api.Value{Type: api.VNodes, Nodes: l}) {
			t.Errorf("Nodes(%v) = %v", l, got)
		}
	}
	for _, l := range [][]int{nil, {}, make([]int, 0, 9)} {
		got := value.Nodes(l)
		if got.Type != api.VNodes || len(got.Nodes) != 0 || got.B || got.N != m(0) || got.S != "" {
			t.Errorf("Nodes of none = %v", got)
		}
	}
}

func TestBoolNumStr(t *testing.T) {
	for _, b := range []bool{false, true} {
		if got := value.Bool(b); !reflect.DeepEqual(got, api.Value{Type: api.VBool, B: b}) {
			t.Errorf("Bool(%v) = %v", b, got)
		}
	}
	// as they are handed in, whether they may be or not
	for _, d := range append([]api.Dec{m(0), m(1), m(-1), m(2500000), m(math.MaxInt64), m(-math.MaxInt64), nan, over, under}, wrong...) {
		if got := value.Num(d); !reflect.DeepEqual(got, api.Value{Type: api.VNum, N: d}) {
			t.Errorf("Num(%v) = %v", d, got)
		}
	}
	for _, s := range []string{"", " ", "a", " 7 ", "true", "false", "NaN", "\x00", "\xff", "日本\xff", strings.Repeat("long", 1<<16)} {
		if got := value.Str(s); !reflect.DeepEqual(got, api.Value{Type: api.VStr, S: s}) {
			t.Errorf("Str(%.40q) = %.60v", s, got)
		}
	}
}

// P16.2

func TestFirst(t *testing.T) {
	v := sample(t)
	for _, x := range []struct {
		of   []int
		want int
	}{
		{[]int{1}, 1}, {[]int{6}, 6}, {[]int{10}, 10},
		{[]int{4, 3}, 3}, {[]int{10, 2, 5}, 2}, {[]int{9, 8, 7}, 7}, {[]int{7, 7, 6, 6}, 6}, {[]int{10, 9, 8, 7, 6, 5, 4, 3, 2, 1}, 1},
		{[]int{99, 11, 8}, 8}, {[]int{-1, 0, 9, math.MaxInt, math.MinInt}, 9}, // but those that are not there
		{nil, 0}, {[]int{}, 0}, {[]int{0}, 0}, {[]int{-1, 11, 99}, 0}, {[]int{math.MinInt, math.MaxInt}, 0},
	} {
		if id, is := value.First(v, value.Nodes(x.of)); id != x.want || is != (x.want != 0) {
			t.Errorf("First of %v = %d, %v, not %d", x.of, id, is, x.want)
		}
	}
}

// Document order is not the order of numbers.
func TestFirstInDocumentOrder(t *testing.T) {
	v := view.New(store.New(), 0)
	put(t, v, 1, api.Rec{Kind: api.Root, Kids: []int{7, 2}})
	put(t, v, 2, api.Rec{Kind: api.Elem, Name: "a", Parent: 1, Kids: []int{3}})
	put(t, v, 3, api.Rec{Kind: api.Text, Text: "3", Parent: 2})
	put(t, v, 7, api.Rec{Kind: api.Elem, Name: "b", Parent: 1, Attrs: []int{9}, Kids: []int{8}})
	put(t, v, 8, api.Rec{Kind: api.Text, Text: "8", Parent: 7})
	put(t, v, 9, api.Rec{Kind: api.Attribute, Name: "x", Text: "9", Parent: 7})
	put(t, v, 4, api.Rec{Kind: api.Text, Text: "4", Parent: 2}) // which is there, but stands nowhere
	is(t, v, value.Nodes([]int{2, 3, 7, 8, 9}), "8", m(8*api.Unit), true, 7)
	is(t, v, value.Nodes([]int{2, 3, 8, 9}), "9", m(9*api.Unit), true, 9)
	is(t, v, value.Nodes([]int{2, 8}), "8", m(8*api.Unit), true, 8)
	is(t, v, value.Nodes([]int{3, 2}), "3", m(3*api.Unit), true, 2)
	is(t, v, value.Nodes([]int{4, 3}), "3", m(3*api.Unit), true, 3)
	is(t, v, value.Nodes([]int{4}), "", nan, true, 0)
	// what is moved is first elsewhere
	put(t, v, 1, api.Rec{Kind: api.Root, Kids: []int{2, 7}})
	is(t, v, value.Nodes([]int{9, 8, 7, 3}), "3", m(3*api.Unit), true, 3)
	put(t, v, 1, api.Rec{Gone: true})
	is(t, v, value.Nodes([]int{9, 8, 7, 3}), "", nan, true, 0)
}

func TestAtTheViewsTime(t *testing.T) {
	s := store.New()
	old := view.New(s, 0)
	n, _ := tree.Parse(`<a x="1">2</a>`)
	put(t, old, 1, api.Rec{Kind: api.Root, Kids: []int{old.Plant(n, 1)}})
	if e := s.Install(5, old.Changes()); e != api.OK {
		t.Fatal(int(e))
	}
	if e := s.Install(7, []api.Change{{Id: 3, R: api.Rec{Gone: true}}, {Id: 4, R: api.Rec{Kind: api.Text, Text: "3", Parent: 2}}}); e != api.OK {
		t.Fatal(int(e))
	}
	x := value.Nodes([]int{4, 3})
	early, between, late := view.New(s, 4), view.New(s, 6), view.New(s, 7)
	for range 2 { // in turns
		is(t, early, x, "", nan, true, 0)
		is(t, between, x, "1", m(api.Unit), true, 3)
		is(t, late, x, "3", m(3*api.Unit), true, 4)
	}
	// changes of a view's own count there alone
	put(t, late, 4, api.Rec{Kind: api.Text, Text: " -4 ", Parent: 2})
	is(t, late, x, " -4 ", m(-4*api.Unit), true, 4)
	is(t, between, x, "1", m(api.Unit), true, 3)
	is(t, view.New(s, 7), x, "3", m(3*api.Unit), true, 4)
}

func TestOfNodes(t *testing.T) {
	v := sample(t)
	for _, x := range []struct {
		of []int
		s  string
		d  api.Dec
	}{
		{[]int{1}, "7.5", m(7500000)}, {[]int{2}, "7.5", m(7500000)}, {[]int{3}, " -1.50 ", m(-1500000)}, {[]int{4}, "u", nan}, {[]int{5}, "7", m(7 * api.Unit)}, {[]int{6}, "7", m(7 * api.Unit)},
		{[]int{7}, "8", m(8 * api.Unit)}, {[]int{8}, "9", m(9 * api.Unit)}, {[]int{9}, ".5", m(500000)}, {[]int{10}, "", nan},
		// of some the first one alone
		{[]int{4, 3}, " -1.50 ", m(-1500000)}, {[]int{10, 9}, ".5", m(500000)}, {[]int{9, 8, 99}, "9", m(9 * api.Unit)}, {[]int{6, 4}, "u", nan},
	} {
		is(t, v, value.Nodes(x.of), x.s, x.d, true, slices.Min(x.of))
	}
	is(t, v, value.Nodes(nil), "", nan, false, 0)
	is(t, v, value.Nodes([]int{}), "", nan, false, 0)
	// there are any, though none of them is there
	is(t, v, value.Nodes([]int{99}), "", nan, true, 0)
	is(t, v, value.Nodes([]int{0, -1}), "", nan, true, 0)
}

func TestOfTruths(t *testing.T) {
	for _, v := range append(noViews(t), sample(t)) {
		is(t, v, value.Bool(true), "true", m(api.Unit), true, 0)
		is(t, v, value.Bool(false), "false", m(0), false, 0)
	}
}

func TestOfNumbers(t *testing.T) {
	for _, v := range append(noViews(t), sample(t)) {
		for d, s := range map[api.Dec]string{
			m(api.Unit): "1", m(-api.Unit): "-1", m(2500000): "2.5", m(-2500000): "-2.5", m(1): "0.000001", m(-1): "-0.000001", m(10 * api.Unit): "10",
			m(math.MaxInt64): "9223372036854.775807", m(-math.MaxInt64): "-9223372036854.775807", over: "Infinity", under: "-Infinity",
		} {
			is(t, v, value.Num(d), s, d, true, 0)
		}
		is(t, v, value.Num(m(0)), "0", m(0), false, 0)
		is(t, v, value.Num(nan), "NaN", nan, false, 0)
		for _, d := range wrong {
			is(t, v, value.Num(d), "NaN", nan, false, 0)
		}
	}
}

func TestOfTexts(t *testing.T) {
	for _, v := range append(noViews(t), sample(t)) {
		for s, d := range map[string]api.Dec{
			" 7 ": m(7 * api.Unit), "7": m(7 * api.Unit), "-7": m(-7 * api.Unit), "0": m(0), "-0": m(0), " -1.50 ": m(-1500000), ".5": m(500000), "1.": m(api.Unit), "1.0000019": m(api.Unit + 1), "\t\r\n1\n": m(api.Unit),
			"9223372036854.775807": m(math.MaxInt64), "9223372036854.775808": over, "-9223372036854.775808": under,
			" ": nan, ".": nan, "a": nan, "1e5": nan, "+1": nan, "- 1": nan, "1 2": nan, "true": nan, "false": nan, "NaN": nan, "Infinity": nan, "-Infinity": nan, "\x00": nan, "\xff": nan, "\u00a01": nan, "日本": nan,
		} {
			is(t, v, value.Str(s), s, d, true, 0)
		}
		is(t, v, value.Str(""), "", nan, false, 0)
	}
}

// What is said of nodes is said in a view: without one there is no first of them.
func TestOfNoView(t *testing.T) {
	for _, v := range noViews(t) {
		is(t, v, value.Nodes([]int{2, 1}), "", nan, true, 0)
		is(t, v, value.Nodes(nil), "", nan, false, 0)
	}
}

// Of a value's fields the one that its type names counts, and no other.
func TestOnlyTheTypesField(t *testing.T) {
	v := sample(t)
	is(t, v, full(api.VNodes), "7.5", m(7500000), true, 2)
	is(t, v, full(api.VBool), "true", m(api.Unit), true, 0)
	is(t, v, full(api.VNum), "2.5", m(2500000), true, 0)
	is(t, v, full(api.VStr), " 7 ", m(7*api.Unit), true, 0)
	for _, kind := range noTypes {
		is(t, v, full(kind), "", nan, false, 0)
		is(t, v, api.Value{Type: kind}, "", nan, false, 0)
	}
	// nothing of its own, and all else
	x := full(api.VNodes)
	x.Nodes = nil
	is(t, v, x, "", nan, false, 0)
	x = full(api.VBool)
	x.B = false
	is(t, v, x, "false", m(0), false, 0)
	x = full(api.VNum)
	x.N = m(0)
	is(t, v, x, "0", m(0), false, 0)
	x = full(api.VStr)
	x.S = ""
	is(t, v, x, "", nan, false, 0)
}

// P16.2, P16.3: all shapes of fields, held against the chapter's words.

func TestAllShapes(t *testing.T) {
	numbers := append([]api.Dec{m(0), m(1), m(-api.Unit), nan, over, under}, wrong...)
	for _, v := range append(noViews(t), sample(t)) {
		for _, kind := range append([]int{api.VNodes, api.VBool, api.VNum, api.VStr}, noTypes...) {
			for _, l := range [][]int{nil, {}, {4, 3}, {99}, {9, 0, 8}} {
				for _, d := range numbers {
					for _, s := range []string{"", "a", "-2", "true"} {
						agrees(t, v, api.Value{Type: kind, Nodes: l, N: d, S: s})
						agrees(t, v, api.Value{Type: kind, Nodes: l, N: d, S: s, B: true})
					}
				}
			}
		}
	}
}

// wild makes a record by chance, of numbers up to one.
func wild(r *rand.Rand, most int) api.Rec {
	list := func() []int {
		l := make([]int, r.Intn(4))
		for i := range l {
			l[i] = 1 + r.Intn(most)
		}
		return l
	}
	if r.Intn(8) == 0 {
		return api.Rec{Gone: true}
	}
	texts := []string{"", "1", " -2", ".5", "x"}
	return api.Rec{Kind: 1 + r.Intn(6), Text: texts[r.Intn(5)], Parent: r.Intn(most), Kids: list(), Attrs: list()}
}

func TestNodesByChance(t *testing.T) {
	r := rand.New(rand.NewSource(16))
	for range 1000 {
		most := 2 + r.Intn(9)
		v := view.New(store.New(), 0)
		for id := 1; id <= most; id++ {
			put(t, v, id, wild(r, most))
		}
		for range 20 {
			l := make([]int, r.Intn(4))
			for i := range l {
				l[i] = r.Intn(most + 2)
			}
			agrees(t, v, value.Nodes(l))
		}
		if t.Failed() {
			t.Fatalf("in the view %v", v.Changes())
		}
	}
}

// P16.4

// different are values no two of which are the same.
func different() []api.Value {
	l := []api.Value{full(api.VNodes), full(api.VStr)}
	for _, kind := range append([]int{api.VNodes, api.VBool, api.VNum, api.VStr}, noTypes...) {
		l = append(l, api.Value{Type: kind}, api.Value{Type: kind, B: true})
		for _, nodes := range [][]int{{0}, {1}, {2}, {1, 2}, {2, 1}, {1, 1}, {1, 2, 3}, {1, 2, 4}, {0, 1}, {1, 0}} {
			l = append(l, api.Value{Type: kind, Nodes: nodes})
		}
		for _, s := range []string{" ", "0", "a", "A", "ab", "ba", "\x00", "\xff", "\ufffd", "true", "NaN"} {
			l = append(l, api.Value{Type: kind, S: s})
		}
		for _, d := range append([]api.Dec{m(1), m(-1), m(api.Unit), m(math.MaxInt64), nan, over, under}, wrong...) {
			l = append(l, api.Value{Type: kind, N: d})
		}
	}
	return l
}

func TestSame(t *testing.T) {
	for i, a := range different() {
		for k, b := range different() {
			if value.Same(a, b) != (i == k) {
				t.Errorf("Same(%v, %v) = %v", a, b, i != k)
			}
		}
	}
}

func TestSameOfWhatIsMade(t *testing.T) {
	var l []api.Value
	for _, nodes := range [][]int{nil, {1}, {4, 3}, {3, 4}} {
		l = append(l, value.Nodes(nodes))
	}
	for _, d := range []api.Dec{m(0), m(api.Unit), nan, over, under} { // NaN is the same as itself here
		l = append(l, value.Num(d))
	}
	l = append(l, value.Bool(false), value.Bool(true), value.Str(""), value.Str("true"), value.Str("0"), value.Str("1"))
	for i, a := range l {
		for k, b := range l {
			if value.Same(a, b) != (i == k) {
				t.Errorf("Same(%v, %v) = %v", a, b, i != k)
			}
		}
	}
	// no list and an empty one are one, and room does not count
	none := []api.Value{value.Nodes(nil), value.Nodes([]int{}), {Type: api.VNodes}, {Type: api.VNodes, Nodes: []int{}}, {Type: api.VNodes, Nodes: make([]int, 0, 5)}}
	for _, a := range none {
		for _, b := range none {
			if !value.Same(a, b) {
				t.Errorf("Same(%#v, %#v) = false", a, b)
			}
		}
	}
	roomy := api.Value{Type: api.VNodes, Nodes: append(make([]int, 0, 9), 4, 3)}
	if !value.Same(roomy, value.Nodes([]int{4, 3})) || !value.Same(value.Nodes([]int{4, 3}), roomy) {
		t.Error("lists with the same nodes")
	}
	a, b := strings.Repeat("a", 9), "aaaa"+"aaaaa"
	if !value.Same(value.Str(a), value.Str(b)) {
		t.Error("the same texts")
	}
}

// P16.5

func TestNumbersThereAndBack(t *testing.T) {
	holds := func(n int64) {
		d := m(n)
		if back := value.ToNum(nil, value.Str(value.ToStr(nil, value.Num(d)))); back != d {
			t.Errorf("%d millionths as a text as a number: %v", n, back)
		}
	}
	r := rand.New(rand.NewSource(165))
	for n := range int64(20000) {
		some := r.Int63() >> r.Intn(63)
		for _, n := range []int64{n, n * api.Unit, math.MaxInt64 - n, math.MaxInt64 - n*api.Unit, some, some / api.Unit * api.Unit} {
			holds(n)
			holds(-n)
		}
	}
}

// R1, R3, R4

func TestNodesAreNeitherTurnedNorKept(t *testing.T) {
	l := append(make([]int, 0, 6), 4, 3, 4)
	a, b := value.Nodes(l), value.Nodes(l)
	if !slices.Equal(l[:6], []int{4, 3, 4, 0, 0, 0}) {
		t.Errorf("a list that was handed in was changed: %v", l[:6])
	}
	clear(l)
	clear(a.Nodes[:cap(a.Nodes)])
	if !slices.Equal(b.Nodes, []int{4, 3, 4}) || !slices.Equal(l[:6], make([]int, 6)) {
		t.Errorf("what is answered shares memory: %v", b)
	}
	// nor is the room of an empty one
	room := make([]int, 0, 4)
	none := value.Nodes(room)
	_ = append(none.Nodes, 7)
	if room[:1][0] != 0 {
		t.Error("what is answered of an empty list shares its room")
	}
}

func TestNothingIsTurned(t *testing.T) {
	v := sample(t)
	changes := v.Changes()
	l := append(make([]int, 0, 6), 9, 4, 99, 3)
	x := api.Value{Type: api.VNodes, Nodes: l, S: "s"}
	y := api.Value{Type: api.VNodes, Nodes: slices.Clone(l), S: "s"}
	for range 2 {
		is(t, v, x, " -1.50 ", m(-1500000), true, 3)
		if !value.Same(x, y) || !value.Same(y, x) {
			t.Errorf("%v is not the same as %v", x, y)
		}
	}
	if !slices.Equal(l[:6], []int{9, 4, 99, 3, 0, 0}) {
		t.Errorf("a value that was handed in was changed: %v", l[:6])
	}
	if !reflect.DeepEqual(v.Changes(), changes) || v.Plant(api.Node{Kind: api.Elem, Name: "d"}, 1) != 11 {
		t.Error("a view that was handed in was changed")
	}
}

// Of many nodes, far down, and of long texts.
func TestGreatValues(t *testing.T) {
	const wide = 1 << 15
	n := api.Node{Kind: api.Elem, Name: "a"}
	var l []int
	for k := range wide {
		n.Kids = append(n.Kids, api.Node{Kind: api.Elem, Name: "b", Kids: []api.Node{{Kind: api.Text, Text: "1"}}})
		l = append(l, 2*wide-k)
	}
	v := view.New(store.New(), 0)
	put(t, v, 1, api.Rec{Kind: api.Root, Kids: []int{v.Plant(n, 1)}})
	x := value.Nodes(l)
	if id, there := value.First(v, x); id != wide+1 || !there {
		t.Errorf("First = %d, %v", id, there)
	}
	if s := value.ToStr(v, value.Nodes([]int{2})); s != strings.Repeat("1", wide) {
		t.Errorf("%d bytes", len(s))
	}
	if d := value.ToNum(v, value.Nodes([]int{2})); d != over {
		t.Errorf("ToNum = %v", d)
	}
	if !value.Same(x, value.Nodes(l)) || value.Same(x, value.Nodes(l[1:])) {
		t.Error("Same of many nodes")
	}
	long := strings.Repeat(" ", 1<<20)
	if d := value.ToNum(nil, value.Str(long+"7"+long)); d != m(7*api.Unit) {
		t.Errorf("ToNum = %v", d)
	}
}

func TestExamples(t *testing.T) {
	v := sample(t)
	if value.ToStr(v, value.Num(m(2500000))) != "2.5" || value.ToNum(v, value.Str(" 7 ")) != m(7*api.Unit) || value.ToNum(v, value.Bool(true)) != m(api.Unit) {
		t.Error("of a number, a text, a truth")
	}
	if value.ToBool(value.Num(nan)) || !value.ToBool(value.Str("false")) {
		t.Error("truths")
	}
	if none := value.Nodes(nil); value.ToStr(v, none) != "" || value.ToNum(v, none) != nan {
		t.Error("of no nodes")
	}
}
