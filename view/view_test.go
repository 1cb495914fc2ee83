package view_test

import (
	"math"
	"math/rand"
	"reflect"
	"slices"
	"strings"
	"testing"

	"breviary/api"
	"breviary/store"
	"breviary/tree"
	"breviary/view"
)

const never = uint64(math.MaxUint64)

var gone = api.Rec{Gone: true}

// Records, as they are told.

func rec(kind int, name, text string, parent int, kids ...int) api.Rec {
	return api.Rec{Kind: kind, Name: name, Text: text, Parent: parent, Kids: kids}
}

func root(kids ...int) api.Rec { return rec(api.Root, "", "", 0, kids...) }

func elem(name string, parent int, kids ...int) api.Rec {
	return rec(api.Elem, name, "", parent, kids...)
}

func text(s string, parent int) api.Rec { return rec(api.Text, "", s, parent) }

func attribute(name, s string, parent int) api.Rec { return rec(api.Attribute, name, s, parent) }

// with is a record with attributes.
func with(r api.Rec, attrs ...int) api.Rec {
	r.Attrs = attrs
	return r
}

// full is a record with something in each field.
func full() api.Rec {
	return api.Rec{Kind: api.Elem, Name: "a", Text: "b", Parent: 3, Kids: []int{4, 5, 4}, Attrs: []int{6, 7}}
}

// copied is a record that shares no list with another one; no list is an empty one.
func copied(r api.Rec) api.Rec {
	r.Kids = append([]int{}, r.Kids...)
	r.Attrs = append([]int{}, r.Attrs...)
	return r
}

// alike asks whether records are the same, in all their fields.
func alike(a, b api.Rec) bool { return reflect.DeepEqual(copied(a), copied(b)) }

func alikeChange(a, b api.Change) bool { return a.Id == b.Id && alike(a.R, b.R) }

// nodes are records by numbers.
type nodes map[int]api.Rec

// changes is such records as changes, by numbers rising.
func (n nodes) changes() []api.Change {
	var l []api.Change
	for id, r := range n {
		l = append(l, api.Change{Id: id, R: r})
	}
	slices.SortFunc(l, func(a, b api.Change) int { return a.Id - b.Id })
	return l
}

// filled is a store in which numbers are given up to one.
func filled(given int) *store.Store {
	s := store.New()
	for s.Fresh() < given {
	}
	return s
}

func lay(t *testing.T, s *store.Store, time uint64, n nodes) {
	t.Helper()
	if e := s.Install(time, n.changes()); e != api.OK {
		t.Fatalf("Install(%d, %v) = %d", time, n, int(e))
	}
}

func put(t *testing.T, v *view.View, n nodes) {
	t.Helper()
	for _, c := range n.changes() {
		if e := v.Put(c.Id, c.R); e != api.OK {
			t.Fatalf("Put(%d, %v) = %d", c.Id, c.R, int(e))
		}
	}
}

// of is a view of a store of its own, with these records put.
func of(t *testing.T, n nodes) *view.View {
	t.Helper()
	v := view.New(store.New(), 0)
	put(t, v, n)
	return v
}

// are asks whether a list of numbers is as wanted.
func are(t *testing.T, what string, got []int, want ...int) {
	t.Helper()
	if !slices.Equal(got, want) {
		t.Errorf("%s: %v, not %v", what, got, want)
	}
}

func is(t *testing.T, v *view.View, id int, want api.Rec) {
	t.Helper()
	if got, there := v.Get(id); !there || !alike(got, want) {
		t.Errorf("Get(%d) = %v, %v, not %v", id, got, there, want)
	}
}

func isNot(t *testing.T, v *view.View, ids ...int) {
	t.Helper()
	for _, id := range ids {
		if got, there := v.Get(id); there || !alike(got, api.Rec{}) {
			t.Errorf("Get(%d) = %v, %v", id, got, there)
		}
	}
}

func tells(t *testing.T, v *view.View, id int, want api.Node) {
	t.Helper()
	if got, there := v.Node(id); !there || !tree.Same(got, want) {
		t.Errorf("Node(%d) = %v, %v, not %v", id, got, there, want)
	}
}

func tellsNone(t *testing.T, v *view.View, ids ...int) {
	t.Helper()
	for _, id := range ids {
		if got, there := v.Node(id); there || !tree.Same(got, api.Node{}) {
			t.Errorf("Node(%d) = %v, %v", id, got, there)
		}
	}
}

// changed asks whether these are all changes.
func changed(t *testing.T, v *view.View, want nodes) {
	t.Helper()
	if got := v.Changes(); !slices.EqualFunc(got, want.changes(), alikeChange) {
		t.Errorf("Changes = %v, not %v", got, want.changes())
	}
}

// parsed is an element out of its markup.
func parsed(t *testing.T, s string) api.Node {
	t.Helper()
	n, e := tree.Parse(s)
	if e != api.OK {
		t.Fatalf("%s: %d", s, int(e))
	}
	return n
}

// sample is the chapter's example, with the root.
func sample(t *testing.T) *view.View {
	t.Helper()
	v := view.New(store.New(), 0)
	if id := v.Plant(parsed(t, `<a x="1">b</a>`), 1); id != 2 {
		t.Fatalf("Plant = %d", id)
	}
	put(t, v, nodes{1: root(2)})
	return v
}

// The chapter's words once more, to hold a view against.

// model is a store at a time, and all that was put, in order.
type model struct {
	s    *store.Store
	time uint64
	put  []api.Change
}

func (m *model) get(id int) (api.Rec, bool) {
	for _, c := range slices.Backward(m.put) {
		if c.Id == id {
			return c.R, !c.R.Gone
		}
	}
	return m.s.At(id, m.time)
}

// gone through: what, and whether as an attribute, or in one.
type stop struct {
	id    int
	aside bool
}

// through keeps what is still to be gone through in a list, the next one last.
func (m *model) through(from int) []stop {
	var been []stop
	next := []stop{{from, false}}
	for len(next) > 0 {
		at := next[len(next)-1]
		next = next[:len(next)-1]
		r, there := m.get(at.id)
		if !there || slices.ContainsFunc(been, func(b stop) bool { return b.id == at.id }) {
			continue
		}
		been = append(been, at)
		for _, kid := range slices.Backward(r.Kids) {
			next = append(next, stop{kid, at.aside})
		}
		for _, a := range slices.Backward(r.Attrs) {
			next = append(next, stop{a, true})
		}
	}
	return been
}

func (m *model) all() []int {
	var all []int
	for _, at := range m.through(1) {
		all = append(all, at.id)
	}
	return all
}

func (m *model) below(id int) []int {
	var in []int
	for _, at := range m.through(id) {
		if at.id != id && !at.aside {
			in = append(in, at.id)
		}
	}
	return in
}

func (m *model) parents(id int) []int {
	told := []int{id}
	for {
		r, there := m.get(told[len(told)-1])
		if !there {
			return nil // but id itself, all that is told is there
		}
		if _, there := m.get(r.Parent); !there || slices.Contains(told, r.Parent) {
			return told[1:]
		}
		told = append(told, r.Parent)
	}
}

func (m *model) sort(l []int) []int {
	return slices.DeleteFunc(m.all(), func(id int) bool { return !slices.Contains(l, id) })
}

func (m *model) value(id int) string {
	r, there := m.get(id)
	if !there {
		return ""
	}
	if !slices.Contains([]int{api.Root, api.Elem}, r.Kind) {
		return r.Text
	}
	s := ""
	for _, k := range m.below(id) {
		if in, _ := m.get(k); in.Kind == api.Text {
			s += in.Text
		}
	}
	return s
}

func (m *model) node(id int, told *[]int) (api.Node, bool) {
	r, there := m.get(id)
	if !there || r.Kind == api.Root || r.Kind == api.Attribute || slices.Contains(*told, id) {
		return api.Node{}, false
	}
	*told = append(*told, id)
	n := api.Node{Kind: r.Kind, Name: r.Name, Text: r.Text}
	for _, at := range r.Attrs {
		if a, there := m.get(at); there && r.Kind == api.Elem {
			n.Attrs = append(n.Attrs, api.Attr{Name: a.Name, Text: a.Text})
		}
	}
	for _, at := range r.Kids {
		if r.Kind != api.Elem {
			break
		}
		if kid, is := m.node(at, told); is {
			n.Kids = append(n.Kids, kid)
		}
	}
	return n, true
}

func (m *model) changes() nodes {
	n := nodes{}
	for _, c := range m.put {
		n[c.Id] = c.R
	}
	return n
}

// agree holds all that a view tells of the numbers up to one against its model.
func agree(t *testing.T, v *view.View, m *model, most int) {
	t.Helper()
	changed(t, v, m.changes())
	are(t, "All", v.All(), m.all()...)
	for id := -1; id <= most; id++ {
		if r, there := m.get(id); there {
			is(t, v, id, r)
		} else {
			isNot(t, v, id)
		}
		are(t, "Parents", v.Parents(id), m.parents(id)...)
		are(t, "Below", v.Below(id), m.below(id)...)
		l := []int{id, id + 2, 2, id, id - 1}
		are(t, "Sort", v.Sort(l), m.sort(l)...)
		if got, want := v.Value(id), m.value(id); got != want {
			t.Errorf("Value(%d) = %q, not %q", id, got, want)
		}
		if want, there := m.node(id, &[]int{}); there {
			tells(t, v, id, want)
		} else {
			tellsNone(t, v, id)
		}
	}
	if t.Failed() {
		t.Fatalf("put: %v", m.put)
	}
}

// P10.1

func TestNew(t *testing.T) {
	if v := view.New(nil, 5); v != nil {
		t.Errorf("of a nil store: %v", v)
	}
	for _, time := range []uint64{0, 1, 5, never} {
		v := view.New(store.New(), time)
		if v == nil || v.Time() != time {
			t.Fatalf("Time is not %d", time)
		}
		changed(t, v, nodes{})
		is(t, v, 1, root())
		isNot(t, v, 0, -1, 2, math.MaxInt, math.MinInt)
		are(t, "All", v.All(), 1)
		are(t, "Below", v.Below(1))
		are(t, "Parents", v.Parents(1))
	}
}

func TestGetAtItsTime(t *testing.T) {
	s := filled(3)
	lay(t, s, 5, nodes{2: full()})
	lay(t, s, 7, nodes{2: gone, 3: elem("c", 2)})
	lay(t, s, 9, nodes{2: elem("d", 1)})
	for _, time := range []uint64{0, 4} {
		isNot(t, view.New(s, time), 2, 3)
	}
	for _, time := range []uint64{5, 6} {
		is(t, view.New(s, time), 2, full())
		isNot(t, view.New(s, time), 3)
	}
	for _, time := range []uint64{7, 8} {
		isNot(t, view.New(s, time), 2)
		is(t, view.New(s, time), 3, elem("c", 2))
	}
	for _, time := range []uint64{9, 10, never} {
		is(t, view.New(s, time), 2, elem("d", 1))
		is(t, view.New(s, time), 3, elem("c", 2))
	}
}

func TestPut(t *testing.T) {
	s := filled(3)
	lay(t, s, 5, nodes{2: full(), 3: elem("c", 2)})
	v := view.New(s, 5)
	// what is put holds, over what the store says, and over what was put
	for _, r := range []api.Rec{elem("x", 1, 9), gone, full(), {Kind: api.PI, Name: "\xff", Text: "<", Parent: math.MaxInt}, gone, gone, root(), {Kind: api.Attribute}, {Kind: api.Elem, Kids: []int{}, Attrs: []int{}}, {Gone: true, Kids: []int{}, Attrs: []int{}}} {
		for _, id := range []int{2, 1, 3, 4, 99, math.MaxInt} {
			put(t, v, nodes{id: r})
			if r.Gone {
				isNot(t, v, id)
			} else {
				is(t, v, id, r)
			}
		}
		changed(t, v, nodes{1: r, 2: r, 3: r, 4: r, 99: r, math.MaxInt: r})
	}
	// the store is as it was
	if r, there := s.At(2, never); !there || !alike(r, full()) || s.Last() != 5 || s.Fresh() != 4 {
		t.Errorf("what was put turned the store: %v", r)
	}
}

func TestPutRefused(t *testing.T) {
	v := sample(t)
	put(t, v, nodes{7: gone})
	want := v.Changes()
	refuse := func(id int, r api.Rec) {
		t.Helper()
		if e := v.Put(id, r); e != api.ErrArg {
			t.Errorf("Put(%d, %v) = %d", id, r, int(e))
		}
		if !slices.EqualFunc(v.Changes(), want, alikeChange) {
			t.Errorf("Put(%d, %v) was refused, and made %v", id, r, v.Changes())
		}
	}
	for _, id := range []int{0, -1, math.MinInt} {
		for _, r := range []api.Rec{root(), gone, full(), {}} {
			refuse(id, r)
		}
	}
	for _, r := range []api.Rec{{}, {Kind: 7}, {Kind: -1}, {Name: "a"}, elem("a", -1), elem("a", 0, 0), elem("a", 1, 2, -1), with(elem("a", 1), 0), with(elem("a", 1), 2, -1), {Gone: true, Kind: api.Elem}, {Gone: true, Name: "a"}, {Gone: true, Text: "a"}, {Gone: true, Parent: 1}, {Gone: true, Kids: []int{1}}, {Gone: true, Attrs: []int{1}}} {
		for _, id := range []int{1, 2, 7, 8} {
			refuse(id, r)
		}
	}
}

func TestChangesRise(t *testing.T) {
	v := view.New(store.New(), 0)
	want := nodes{}
	for _, k := range rand.New(rand.NewSource(10)).Perm(1000) {
		want[k+1] = elem("a", k)
		put(t, v, nodes{k + 1: want[k+1]})
	}
	changed(t, v, want)
}

// P10.2

func TestParents(t *testing.T) {
	v := of(t, nodes{
		1: root(2), 2: elem("a", 1, 3), 3: elem("b", 2, 4), 4: with(elem("c", 3), 5), 5: attribute("x", "", 4), 6: elem("no parent", 0), 7: elem("a parent that is gone", 8), 8: gone, 9: elem("one that never was", 99), 10: elem("in the last one", 7),
		11: elem("its own", 11), 12: elem("a cycle's", 13), 13: elem("", 14), 14: elem("", 12), 15: elem("in a cycle", 13),
	})
	for id, want := range map[int][]int{1: nil, 2: {1}, 3: {2, 1}, 4: {3, 2, 1}, 5: {4, 3, 2, 1}, 6: nil, 7: nil, 8: nil, 9: nil, 10: {7}, 11: nil, 12: {13, 14}, 13: {14, 12}, 14: {12, 13}, 15: {13, 14, 12}, 16: nil, 99: nil, 0: nil, -1: nil} {
		are(t, "Parents", v.Parents(id), want...)
	}
	// what a node is in is told by its own record alone, not by lists of kids
	put(t, v, nodes{4: elem("c", 6)})
	are(t, "Parents of what was moved", v.Parents(4), 6)
	put(t, v, nodes{1: elem("r", 4)})
	are(t, "Parents of the first node", v.Parents(1), 4, 6)
	put(t, v, nodes{3: gone})
	are(t, "Parents behind a gap", v.Parents(4), 6)
	are(t, "Parents of what is gone", v.Parents(3))
}

func TestAllInDocumentOrder(t *testing.T) {
	// numbers fall, so that only the lists tell the order
	v := of(t, nodes{
		1: root(9, 3), 9: with(elem("a", 1, 7, 6), 8, 5), 8: attribute("x", "1", 9), 5: attribute("y", "2", 9), 7: with(elem("b", 9, 2), 4), 4: attribute("z", "3", 7), 2: text("t", 7), 6: rec(api.Comment, "", "c", 9), 3: rec(api.PI, "p", "i", 1),
	})
	are(t, "All", v.All(), 1, 9, 8, 5, 7, 4, 2, 6, 3)
	are(t, "Below(1)", v.Below(1), 9, 7, 2, 6, 3)
	are(t, "Below(9)", v.Below(9), 7, 2, 6)
	are(t, "Below(7)", v.Below(7), 2)
	for _, id := range []int{8, 5, 4, 2, 6, 3, 10, 0, -1} {
		are(t, "Below", v.Below(id))
	}
}

func TestWhatIsNotThereCountsForNothing(t *testing.T) {
	s := filled(6)
	lay(t, s, 5, nodes{1: root(2, 6), 2: with(elem("a", 1, 3, 4), 5), 3: text("t", 2), 4: elem("b", 2), 5: attribute("x", "1", 2)})
	lay(t, s, 6, nodes{3: gone, 5: gone})
	v := view.New(s, 6)
	are(t, "All", v.All(), 1, 2, 4)
	is(t, v, 2, with(elem("a", 1, 3, 4), 5)) // the record itself is told as it stands
	tells(t, v, 2, api.Node{Kind: api.Elem, Name: "a", Kids: []api.Node{{Kind: api.Elem, Name: "b"}}})
	put(t, v, nodes{2: gone})
	are(t, "All without 2", v.All(), 1)
	are(t, "Below of what is gone", v.Below(2))
	are(t, "Parents of what is in it", v.Parents(4))
	is(t, v, 4, elem("b", 2)) // but it is there still
	put(t, v, nodes{1: gone})
	are(t, "All without the first one", v.All())
	are(t, "Sort without the first one", v.Sort([]int{1, 4}))
	are(t, "Below without the first one", v.Below(1))
}

// A node is gone through where it is met first, and brings nothing where it is met again.
func TestEachOnce(t *testing.T) {
	v := of(t, nodes{1: root(2, 3, 2, 4), 2: elem("a", 1, 5), 3: elem("b", 1, 5, 2, 1, 6), 4: elem("c", 1, 3, 4), 5: elem("d", 2, 3), 6: text("t", 3)})
	are(t, "All", v.All(), 1, 2, 5, 3, 6, 4)
	are(t, "Below(3)", v.Below(3), 5, 2, 1, 4, 6)
	are(t, "Below(4)", v.Below(4), 3, 5, 2, 1, 6)
	if s := v.Value(4); s != "t" {
		t.Errorf("Value(4) = %q", s)
	}
}

func TestWhatStandsInAttributes(t *testing.T) {
	// what an attribute brings is gone through, ahead of the kids, and is not below
	v := of(t, nodes{1: root(2), 2: with(elem("a", 1, 6, 4, 7), 3), 3: with(rec(api.Attribute, "x", "1", 2, 4), 5), 4: text("in x", 3), 5: attribute("of x", "2", 3), 6: elem("b", 2, 8), 7: with(elem("c", 2), 8), 8: text("t", 6)})
	are(t, "All", v.All(), 1, 2, 3, 5, 4, 6, 8, 7)
	are(t, "Below(1)", v.Below(1), 2, 6, 8, 7)
	are(t, "Below(2)", v.Below(2), 6, 8, 7)
	are(t, "Below(3)", v.Below(3), 4)
	are(t, "Below(7)", v.Below(7))
	if s := v.Value(2); s != "t" {
		t.Errorf("Value(2) = %q", s)
	}
	// one node as an attribute and as a kid is met as an attribute first, of whatever kind it is
	w := of(t, nodes{1: root(2), 2: with(elem("a", 1, 3, 4), 3), 3: elem("b", 2, 5), 4: text("t", 2), 5: text("u", 3)})
	are(t, "All", w.All(), 1, 2, 3, 5, 4)
	are(t, "Below(2)", w.Below(2), 4)
	are(t, "Below(3)", w.Below(3), 5)
	// an attribute's kind among kids is below like others
	x := of(t, nodes{1: root(2), 2: attribute("a", "b", 1)})
	are(t, "Below(1)", x.Below(1), 2)
}

// P10.3

func TestSort(t *testing.T) {
	v := of(t, nodes{1: root(5), 5: with(elem("a", 1, 4, 2), 3), 4: elem("b", 5), 2: text("t", 5), 3: attribute("x", "", 5), 6: elem("nowhere", 5)})
	for _, c := range []struct{ l, want []int }{
		{nil, nil}, {[]int{}, nil}, {[]int{1}, []int{1}}, {[]int{2, 2, 2}, []int{2}}, {[]int{1, 2, 3, 4, 5}, []int{1, 5, 3, 4, 2}}, {[]int{2, 3, 2, 5, 3}, []int{5, 3, 2}}, {[]int{6, 7, 0, -1, 99}, nil}, {[]int{6, 2, 0, 4, math.MinInt}, []int{4, 2}},
	} {
		l := slices.Clone(c.l)
		are(t, "Sort", v.Sort(l), c.want...)
		are(t, "what was handed in", l, c.l...)
	}
	put(t, v, nodes{4: gone})
	are(t, "Sort", v.Sort([]int{2, 4, 5}), 5, 2)
}

// P10.4

func TestValue(t *testing.T) {
	v := of(t, nodes{
		1: root(2), 2: with(rec(api.Elem, "a", "no text", 1, 3, 4, 8, 9, 5), 6), 3: text("x", 2), 4: elem("b", 2, 7), 5: text("<z>\xff", 2), 6: attribute("k", "v", 2), 7: text("y", 4), 8: rec(api.Comment, "", "c", 2), 9: rec(api.PI, "p", "i", 2), 10: gone, 11: attribute("k", "", 1), 12: elem("c", 1),
		13: rec(api.Text, "", "own", 1, 3), 14: with(elem("d", 1, 11), 3), 15: elem("e", 1, 13),
	})
	for id, want := range map[int]string{1: "xy<z>\xff", 2: "xy<z>\xff", 3: "x", 4: "y", 5: "<z>\xff", 6: "v", 7: "y", 8: "c", 9: "i", 10: "", 11: "", 12: "", 13: "own", 14: "", 15: "ownx", 16: "", 0: "", -1: ""} {
		if got := v.Value(id); got != want {
			t.Errorf("Value(%d) = %q, not %q", id, got, want)
		}
	}
	if s := view.New(store.New(), 0).Value(1); s != "" {
		t.Errorf("Value of an empty root = %q", s)
	}
}

func TestNode(t *testing.T) {
	v := of(t, nodes{
		1: root(2), 2: with(elem("a", 1, 4, 5, 6, 7, 13), 8, 9), 4: text("t", 2), 5: rec(api.Comment, "", "c", 2), 6: rec(api.PI, "p", "i", 2), 7: with(elem("b", 2, 3), 10), 3: text("u", 7), 8: attribute("y", "1", 2), 9: attribute("x", "2", 2), 10: attribute("z", "", 7), 11: gone, 13: text("s", 2),
	})
	inB := api.Node{Kind: api.Elem, Name: "b", Attrs: []api.Attr{{Name: "z"}}, Kids: []api.Node{{Kind: api.Text, Text: "u"}}}
	tells(t, v, 7, inB)
	tells(t, v, 4, api.Node{Kind: api.Text, Text: "t"})
	tells(t, v, 5, api.Node{Kind: api.Comment, Text: "c"})
	tells(t, v, 6, api.Node{Kind: api.PI, Name: "p", Text: "i"})
	// attributes as the record tells them, not by names; texts next to one another stay two
	tells(t, v, 2, api.Node{Kind: api.Elem, Name: "a", Attrs: []api.Attr{{Name: "y", Text: "1"}, {Name: "x", Text: "2"}}, Kids: []api.Node{{Kind: api.Text, Text: "t"}, {Kind: api.Comment, Text: "c"}, {Kind: api.PI, Name: "p", Text: "i"}, inB, {Kind: api.Text, Text: "s"}}})
	tellsNone(t, v, 1, 8, 9, 10, 11, 12, 0, -1)
}

func TestNodeOfStrangeRecords(t *testing.T) {
	v := of(t, nodes{
		1: root(2), 3: text("t", 2), 4: attribute("x", "1", 2), 5: elem("b", 2, 3, 2), 6: gone,
		2:  with(elem("a", 1, 1, 4, 3, 3, 5, 2, 6, 99, 5), 4, 6, 4, 99, 5), // roots, attributes, itself, what is gone, what never was, some twice
		7:  with(rec(api.Text, "n", "t", 1, 3), 4),
		8:  with(rec(api.Comment, "n", "c", 1, 3), 4),
		9:  with(rec(api.PI, "p", "i", 1, 3), 4),
		10: with(rec(api.Elem, "e", "text", 1, 7), 5, 1, 3),
		11: with(elem("f", 1, 3, 12), 3), 12: with(elem("g", 1, 3), 3, 4, 3),
	})
	tells(t, v, 2, api.Node{Kind: api.Elem, Name: "a", Attrs: []api.Attr{{Name: "x", Text: "1"}, {Name: "x", Text: "1"}, {Name: "b"}}, Kids: []api.Node{{Kind: api.Text, Text: "t"}, {Kind: api.Elem, Name: "b"}}})
	// from 5 on the text is told in 5 itself, and 5 is told already in 2
	tells(t, v, 5, api.Node{Kind: api.Elem, Name: "b", Kids: []api.Node{{Kind: api.Text, Text: "t"}, {Kind: api.Elem, Name: "a", Attrs: []api.Attr{{Name: "x", Text: "1"}, {Name: "x", Text: "1"}, {Name: "b"}}}}})
	// only elements have attributes and kids; names and texts are told of all
	tells(t, v, 7, api.Node{Kind: api.Text, Name: "n", Text: "t"})
	tells(t, v, 8, api.Node{Kind: api.Comment, Name: "n", Text: "c"})
	tells(t, v, 9, api.Node{Kind: api.PI, Name: "p", Text: "i"})
	tells(t, v, 10, api.Node{Kind: api.Elem, Name: "e", Text: "text", Attrs: []api.Attr{{Name: "b"}, {}, {Text: "t"}}, Kids: []api.Node{{Kind: api.Text, Name: "n", Text: "t"}}})
	// an attribute is told as often as it is named, and what was told so may be a kid
	tells(t, v, 11, api.Node{Kind: api.Elem, Name: "f", Attrs: []api.Attr{{Text: "t"}}, Kids: []api.Node{{Kind: api.Text, Text: "t"}, {Kind: api.Elem, Name: "g", Attrs: []api.Attr{{Text: "t"}, {Name: "x", Text: "1"}, {Text: "t"}}}}})
}

// P10.5

func TestPlantsNumbers(t *testing.T) {
	s := filled(4)
	v := view.New(s, 0)
	n := parsed(t, `<a y="2" x="1">b<c z="3"><d/>e</c><!--f--><?g h?><i w=""/></a>`)
	if id := v.Plant(n, 3); id != 5 {
		t.Errorf("Plant = %d", id)
	}
	changed(t, v, nodes{
		5: with(elem("a", 3, 8, 9, 13, 14, 15), 6, 7), 6: attribute("x", "1", 5), 7: attribute("y", "2", 5), 8: text("b", 5), 9: with(elem("c", 5, 11, 12), 10), 10: attribute("z", "3", 9), 11: elem("d", 9), 12: text("e", 9), 13: rec(api.Comment, "", "f", 5), 14: rec(api.PI, "g", "h", 5), 15: with(elem("i", 5), 16), 16: attribute("w", "", 15),
	})
	if id := s.Fresh(); id != 17 {
		t.Errorf("Fresh = %d", id)
	}
	tells(t, v, 5, n)
	are(t, "All", v.All(), 1) // what it was planted in is not turned
}

func TestPlantsParent(t *testing.T) {
	for parent, want := range map[int]int{0: 0, -1: 0, math.MinInt: 0, 1: 1, 7: 7, math.MaxInt: math.MaxInt} {
		v := view.New(store.New(), 0)
		if id := v.Plant(api.Node{Kind: api.Elem, Name: "a", Kids: []api.Node{{Kind: api.Text, Text: "t"}}}, parent); id != 2 {
			t.Errorf("Plant = %d", id)
		}
		changed(t, v, nodes{2: elem("a", want, 3), 3: text("t", 2)})
	}
}

func TestPlantsOtherKinds(t *testing.T) {
	for _, kind := range []int{api.Elem, api.Text, api.Comment, api.PI} {
		v := view.New(store.New(), 0)
		if id := v.Plant(api.Node{Kind: kind, Name: "\xff", Text: "<"}, 1); id != 2 {
			t.Errorf("Plant of kind %d = %d", kind, id)
		}
		changed(t, v, nodes{2: rec(kind, "\xff", "<", 1)})
	}
	deep := []api.Node{{Kind: api.Text, Text: "t"}, {Kind: api.Elem, Kids: []api.Node{{Kind: api.Text}}}}
	for _, kind := range []int{0, api.Root, api.Attribute, -1, 7, math.MaxInt, math.MinInt} {
		s := store.New()
		v := view.New(s, 0)
		if id := v.Plant(api.Node{Kind: kind, Name: "a", Attrs: []api.Attr{{Name: "x"}}, Kids: deep}, 1); id != 0 {
			t.Errorf("Plant of kind %d = %d", kind, id)
		}
		changed(t, v, nodes{})
		// such a kid is left out, with all that it has, and takes no number
		n := api.Node{Kind: api.Elem, Name: "a", Kids: []api.Node{{Kind: kind, Kids: deep}, deep[0], {Kind: kind, Attrs: []api.Attr{{}}}, deep[1], {Kind: kind}}}
		if id := v.Plant(n, 1); id != 2 {
			t.Errorf("Plant = %d", id)
		}
		changed(t, v, nodes{2: elem("a", 1, 3, 4), 3: text("t", 2), 4: elem("", 2, 5), 5: text("", 4)})
		if id := s.Fresh(); id != 6 {
			t.Errorf("Fresh = %d", id)
		}
	}
}

// What no element should have is planted as well: the promise leaves out kinds of kids alone.
func TestPlantsAllFields(t *testing.T) {
	v := view.New(store.New(), 0)
	v.Plant(api.Node{Kind: api.Text, Name: "n", Text: "t", Attrs: []api.Attr{{Name: "x", Text: "1"}, {Name: "x"}}, Kids: []api.Node{{Kind: api.Comment, Text: "c"}}}, 1)
	changed(t, v, nodes{2: with(rec(api.Text, "n", "t", 1, 5), 3, 4), 3: attribute("x", "1", 2), 4: attribute("x", "", 2), 5: rec(api.Comment, "", "c", 2)})
}

func TestPlantsOneBehindTheOther(t *testing.T) {
	s := store.New()
	v, w := view.New(s, 0), view.New(s, 0)
	b := api.Node{Kind: api.Elem, Name: "b", Attrs: []api.Attr{{Name: "x"}}}
	for i, u := range []*view.View{v, w, v} {
		if id := u.Plant(b, 1); id != 2+2*i {
			t.Errorf("Plant = %d", id)
		}
	}
	changed(t, v, nodes{2: with(elem("b", 1), 3), 3: attribute("x", "", 2), 6: with(elem("b", 1), 7), 7: attribute("x", "", 6)})
	changed(t, w, nodes{4: with(elem("b", 1), 5), 5: attribute("x", "", 4)})
	// over what was put at a number that is not given yet
	put(t, w, nodes{8: gone, 9: text("t", 1)})
	w.Plant(b, 2)
	is(t, w, 8, with(elem("b", 2), 9))
	is(t, w, 9, attribute("x", "", 8))
}

// P10.6

func TestViewsThatNewDidNotMake(t *testing.T) {
	made := sample(t)
	before := made.Changes()
	copyOfOne := *made
	for name, v := range map[string]*view.View{"nil": nil, "zero": {}, "copy": &copyOfOne} {
		for range 2 {
			for _, r := range []api.Rec{root(), gone, {}} {
				if e := v.Put(1, r); e != api.ErrNil || v.Put(0, r) != api.ErrNil {
					t.Errorf("%s: Put = %d", name, int(e))
				}
			}
			if id := v.Plant(parsed(t, "<a>b</a>"), 1); id != 0 {
				t.Errorf("%s: Plant = %d", name, id)
			}
			changed(t, v, nodes{})
			are(t, name, v.All())
			are(t, name, v.Sort([]int{1, 2}))
			are(t, name, v.Sort(nil))
			for id := -1; id < 6; id++ {
				isNot(t, v, id)
				tellsNone(t, v, id)
				are(t, name, v.Parents(id))
				are(t, name, v.Below(id))
				if s := v.Value(id); s != "" {
					t.Errorf("%s: Value(%d) = %q", name, id, s)
				}
			}
			if v.Time() != 0 {
				t.Errorf("%s: Time = %d", name, v.Time())
			}
		}
	}
	if !slices.EqualFunc(made.Changes(), before, alikeChange) || made.Plant(api.Node{Kind: api.Elem}, 1) != 5 {
		t.Error("what a copy was asked turned the view, or its store")
	}
}

// A store that New did not make is none to be seen, and gives no numbers.
func TestViewOfAStoreThatNewDidNotMake(t *testing.T) {
	v := view.New(&store.Store{}, 3)
	if v.Time() != 3 || v.Plant(parsed(t, `<a x="1">b</a>`), 1) != 0 {
		t.Errorf("Time %d", v.Time())
	}
	changed(t, v, nodes{})
	isNot(t, v, 1)
	are(t, "All", v.All())
	put(t, v, nodes{1: root(2), 2: elem("a", 1)})
	are(t, "All", v.All(), 1, 2)
}

// P10.7

func TestNothingElseTurnsAView(t *testing.T) {
	s := store.New()
	first := view.New(s, 0)
	put(t, first, nodes{1: root(first.Plant(parsed(t, `<a x="1">b<c/></a>`), 1))})
	if e := s.Install(3, first.Changes()); e != api.OK {
		t.Fatal(int(e))
	}
	old, v, w, late := view.New(s, 2), view.New(s, 3), view.New(s, 3), view.New(s, 6)
	put(t, v, nodes{4: text("mine", 2)})
	want := parsed(t, `<a x="1">mine<c/></a>`)
	hold := func() {
		t.Helper()
		are(t, "All", v.All(), 1, 2, 3, 4, 5)
		tells(t, v, 2, want)
		changed(t, v, nodes{4: text("mine", 2)})
		are(t, "All", old.All(), 1)
	}
	hold()
	put(t, w, nodes{2: gone, 4: text("other", 2), 1: root()})
	are(t, "All", w.All(), 1)
	hold()
	put(t, w, nodes{1: root(w.Plant(parsed(t, `<d/>`), 1))})
	hold()
	lay(t, s, 4, nodes{3: gone, 4: gone, 2: elem("later", 1)})
	hold()
	is(t, late, 2, elem("later", 1)) // its time has come
	lay(t, s, 6, nodes{2: elem("just in time", 1)})
	is(t, late, 2, elem("just in time", 1))
	lay(t, s, 7, nodes{2: elem("too late", 1)})
	is(t, late, 2, elem("just in time", 1))
	s.Sweep(2) // of what the eldest view sees, nothing goes
	hold()
	s.Sweep(3)
	tells(t, v, 2, want)
}

// wildNode makes a node by chance that may come of markup.
func wildNode(r *rand.Rand, deep int) api.Node {
	words := []string{"a", "b", "c", "d"}
	n := api.Node{Kind: api.Elem, Name: words[r.Intn(4)]}
	for _, name := range words {
		if r.Intn(4) == 0 {
			n.Attrs = append(n.Attrs, api.Attr{Name: name, Text: words[r.Intn(4)] + "<\n"})
		}
	}
	for range r.Intn(4) {
		switch r.Intn(5) {
		case 0:
			n.Kids = append(n.Kids, api.Node{Kind: api.Comment, Text: words[r.Intn(4)]})
		case 1:
			n.Kids = append(n.Kids, api.Node{Kind: api.PI, Name: words[r.Intn(4)], Text: words[r.Intn(4)]})
		case 2:
			if k := len(n.Kids); k == 0 || n.Kids[k-1].Kind != api.Text {
				n.Kids = append(n.Kids, api.Node{Kind: api.Text, Text: words[r.Intn(4)]})
			}
		default:
			if deep > 0 {
				n.Kids = append(n.Kids, wildNode(r, deep-1))
			}
		}
	}
	return n
}

// texts is all texts of a node, one behind the other.
func texts(n api.Node) string {
	if n.Kind == api.Text {
		return n.Text
	}
	s := ""
	for _, kid := range n.Kids {
		s += texts(kid)
	}
	return s
}

func TestWhatIsPlantedIsToldAsItWas(t *testing.T) {
	r := rand.New(rand.NewSource(107))
	s := store.New()
	for time := uint64(1); time < 1000; time++ {
		n := wildNode(r, 4)
		if tree.Size(n) > api.MaxNodes {
			continue
		}
		if !tree.Right(n) {
			t.Fatalf("no right node: %v", n)
		}
		v := view.New(s, time-1)
		id := v.Plant(n, 1)
		put(t, v, nodes{1: root(id)})
		for range 2 {
			tells(t, v, id, n)
			if got := v.Value(1); got != texts(n) || v.Value(id) != got {
				t.Errorf("Value = %q, not %q", got, texts(n))
			}
			// numbers stand as the nodes do
			want := []int{1}
			for k := range tree.Size(n) {
				want = append(want, id+k)
			}
			are(t, "All", v.All(), want...)
			if e := s.Install(time, v.Changes()); e != api.OK {
				break
			}
			v = view.New(s, time)
		}
	}
}

// All together: held against the chapter's words.

// All views of three nodes with few things in each record.
func TestAllSmallViews(t *testing.T) {
	lists := [][]int{nil, {2}, {3}, {1}, {2, 3}, {3, 2}, {3, 3}}
	var records []api.Rec
	for i, kids := range lists {
		for j, attrs := range [][]int{nil, {2}, {3}} {
			// no two places of the lists have the same kinds and parents for all lists
			records = append(records, api.Rec{Kind: []int{api.Elem, api.Text, api.Elem, api.Attribute, api.Root, api.Elem, api.PI}[(i+2*j)%7], Name: "n", Text: string(rune('a' + i)), Parent: (i + j) % 4, Kids: kids, Attrs: attrs})
		}
	}
	records = append(records, gone)
	s := store.New()
	for _, one := range records {
		for _, two := range records {
			for _, three := range records {
				v, m := view.New(s, 0), &model{s: s}
				for i, r := range []api.Rec{one, two, three} {
					put(t, v, nodes{i + 1: r})
					m.put = append(m.put, api.Change{Id: i + 1, R: r})
				}
				agree(t, v, m, 4)
			}
		}
	}
}

// wild makes a record by chance, of numbers up to one.
func wild(r *rand.Rand, most int) api.Rec {
	list := func(long int) []int {
		l := make([]int, r.Intn(long), 8)
		for i := range l {
			l[i] = 1 + r.Intn(most)
		}
		return l
	}
	if r.Intn(6) == 0 {
		return gone
	}
	words := []string{"", "a", "b", "<", "\xff"}
	kind := api.Elem
	if r.Intn(3) == 0 {
		kind = 1 + r.Intn(6)
	}
	return api.Rec{Kind: kind, Name: words[r.Intn(5)], Text: words[r.Intn(5)], Parent: r.Intn(most + 1), Kids: list(5), Attrs: list(3)}
}

func TestViewsByChance(t *testing.T) {
	r := rand.New(rand.NewSource(100))
	for range 300 {
		most := 3 + r.Intn(10)
		s := filled(most)
		for time := uint64(1); time < 5; time++ {
			n := nodes{}
			for range r.Intn(most) {
				n[1+r.Intn(most)] = wild(r, most+1)
			}
			lay(t, s, time, n)
		}
		// some views of one store, asked in turns
		var views []*view.View
		var models []*model
		for range 3 {
			time := uint64(r.Intn(6))
			views = append(views, view.New(s, time))
			models = append(models, &model{s: s, time: time})
		}
		for range 12 {
			k := r.Intn(3)
			id, x := 1+r.Intn(most+1), wild(r, most+1)
			put(t, views[k], nodes{id: x})
			models[k].put = append(models[k].put, api.Change{Id: id, R: copied(x)})
			// all are asked: what is put into one turns none of the others
			for j := range views {
				agree(t, views[j], models[j], most+3)
			}
		}
	}
}

// R1, R3

func TestNothingIsTurnedOrKept(t *testing.T) {
	v := view.New(store.New(), 0)
	kids, attrs := append(make([]int, 0, 8), 2, 3), append(make([]int, 0, 8), 3, 2)
	r := api.Rec{Kind: api.Elem, Kids: kids, Attrs: attrs}
	// two records that share their lists
	put(t, v, nodes{5: r, 6: r})
	if !slices.Equal(kids[:8], []int{2, 3, 0, 0, 0, 0, 0, 0}) || !slices.Equal(attrs[:8], []int{3, 2, 0, 0, 0, 0, 0, 0}) {
		t.Error("a list that was handed in was changed")
	}
	want := api.Rec{Kind: api.Elem, Kids: []int{2, 3}, Attrs: []int{3, 2}}
	kids[0], attrs[1] = 9, -1
	is(t, v, 5, want)
	is(t, v, 6, want)
	changed(t, v, nodes{5: want, 6: want})

	given := append(make([]api.Attr, 0, 4), api.Attr{Name: "x", Text: "1"})
	in := append(make([]api.Node, 0, 4), api.Node{Kind: 9}, api.Node{Kind: api.Text, Text: "t"})
	n := api.Node{Kind: api.Elem, Name: "a", Attrs: given, Kids: in}
	id := v.Plant(n, 1)
	if !reflect.DeepEqual(in[:4], []api.Node{{Kind: 9}, {Kind: api.Text, Text: "t"}, {}, {}}) || !slices.Equal(given[:4], []api.Attr{{Name: "x", Text: "1"}, {}, {}, {}}) {
		t.Error("a node that was handed in was changed")
	}
	given[0], in[1] = api.Attr{}, api.Node{}
	tells(t, v, id, api.Node{Kind: api.Elem, Name: "a", Attrs: []api.Attr{{Name: "x", Text: "1"}}, Kids: []api.Node{{Kind: api.Text, Text: "t"}}})

	l := append(make([]int, 0, 4), 9, 1, 9)
	are(t, "Sort", v.Sort(l), 1)
	are(t, "what was handed in", l[:4], 9, 1, 9, 0)
}

func TestAnswersShareNothing(t *testing.T) {
	s := filled(7)
	lay(t, s, 5, nodes{3: full()})
	v := view.New(s, 5)
	put(t, v, nodes{1: root(2), 2: full(), 4: text("t", 2)})
	wipe := func(l []int) { clear(l[:cap(l)]) }
	// of the store, and of what was put
	for id := 2; id <= 3; id++ {
		r, _ := v.Get(id)
		wipe(r.Kids)
		if !slices.Equal(r.Attrs, full().Attrs) {
			t.Errorf("two lists of an answer share memory: %v", r)
		}
		wipe(r.Attrs)
		is(t, v, id, full())
	}
	c := v.Changes()
	wipe(c[1].R.Kids)
	if !alike(c[0].R, root(2)) || !slices.Equal(c[1].R.Attrs, full().Attrs) {
		t.Errorf("two lists of an answer share memory: %v", c)
	}
	wipe(c[0].R.Kids)
	wipe(c[1].R.Attrs)
	clear(c[:cap(c)])
	changed(t, v, nodes{1: root(2), 2: full(), 4: text("t", 2)})
	for range 2 {
		for what, l := range map[string][]int{"All": v.All(), "Sort": v.Sort([]int{4, 1, 2})} {
			are(t, what, l, 1, 2, 4)
			wipe(l)
		}
		below, parents := v.Below(1), v.Parents(4)
		are(t, "Below", below, 2, 4)
		are(t, "Parents", parents, 2, 3)
		wipe(below)
		wipe(parents)
	}
	v = sample(t)
	for range 2 {
		n, _ := v.Node(2)
		clear(n.Attrs[:cap(n.Attrs)])
		if len(n.Kids) != 1 || n.Kids[0].Text != "b" {
			t.Errorf("Node = %v", n)
		}
		clear(n.Kids[:cap(n.Kids)])
		tells(t, v, 2, parsed(t, `<a x="1">b</a>`))
	}
}

// As deep as things may be nested in one another.
func TestDeepViews(t *testing.T) {
	const deep = 1 << 16
	v := view.New(store.New(), 0)
	n := api.Node{Kind: api.Text, Text: "t"}
	for range deep - 2 {
		n = api.Node{Kind: api.Elem, Name: "a", Kids: []api.Node{n}}
	}
	put(t, v, nodes{1: root(v.Plant(n, 1))})
	if all := v.All(); len(all) != deep || !slices.IsSorted(all) {
		t.Errorf("%d in All", len(all))
	}
	if in := v.Below(1); len(in) != deep-1 {
		t.Errorf("%d in Below", len(in))
	}
	if up := v.Parents(deep); len(up) != deep-1 || up[0] != deep-1 || up[deep-2] != 1 {
		t.Errorf("%d in Parents", len(up))
	}
	if s := v.Value(1); s != "t" {
		t.Errorf("Value = %q", s)
	}
	m, _ := v.Node(2)
	many := 1
	for ; len(m.Kids) == 1; many++ {
		m = m.Kids[0]
	}
	if many != deep-1 || m.Text != "t" {
		t.Errorf("%d nodes in one another", many)
	}
}

// A wide node that is named often is looked at once.
func TestWideViews(t *testing.T) {
	const wide = 1 << 15
	var kids, often []int
	s := filled(wide + 2)
	n := nodes{}
	for id := 3; id <= wide+2; id++ {
		kids, often = append(kids, id), append(often, 2)
		n[id] = text("t", 2)
	}
	n[1], n[2] = root(often...), elem("a", 1, kids...)
	lay(t, s, 1, n)
	v := view.New(s, 1)
	if all := v.All(); len(all) != wide+2 || !slices.IsSorted(all) {
		t.Errorf("%d in All", len(all))
	}
	if sorted := v.Sort(slices.Concat(often, kids, []int{-1})); len(sorted) != wide+1 || sorted[0] != 2 {
		t.Errorf("%d in Sort", len(sorted))
	}
	if s := v.Value(1); s != strings.Repeat("t", wide) {
		t.Errorf("Value has %d bytes", len(s))
	}
	if m, _ := v.Node(2); len(m.Kids) != wide {
		t.Errorf("%d kids", len(m.Kids))
	}
}

func TestExample(t *testing.T) {
	v := sample(t)
	are(t, "All", v.All(), 1, 2, 3, 4)
	are(t, "Below(1)", v.Below(1), 2, 4)
	are(t, "Parents(4)", v.Parents(4), 2, 1)
	are(t, "Sort", v.Sort([]int{4, 3, 4, 9}), 3, 4)
	if s := v.Value(1); s != "b" {
		t.Errorf("Value(1) = %q", s)
	}
	changed(t, v, nodes{1: root(2), 2: with(elem("a", 1, 4), 3), 3: attribute("x", "1", 2), 4: text("b", 2)})
}
