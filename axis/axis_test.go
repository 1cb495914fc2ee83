package axis_test

import (
	"math"
	"math/rand"
	"reflect"
	"slices"
	"strings"
	"testing"

	"breviary/api"
	"breviary/axis"
	"breviary/store"
	"breviary/tree"
	"breviary/view"
)

const never = uint64(math.MaxUint64)

var (
	gone = api.Rec{Gone: true}

	// the axes' names, by their numbers
	names = []string{"", "child", "descendant", "parent", "ancestor", "following-sibling", "preceding-sibling", "following", "preceding", "attribute", "self", "descendant-or-self", "ancestor-or-self"}

	noAxes = []int{math.MinInt, -1, 0, 13, 14, 256 + 1, math.MaxInt}
)

// Records, as they are told.

func rec(kind int, name, text string, parent int, kids ...int) api.Rec {
	return api.Rec{Kind: kind, Name: name, Text: text, Parent: parent, Kids: kids}
}

func root(kids ...int) api.Rec { return rec(api.Root, "", "", 0, kids...) }

func elem(name string, parent int, kids ...int) api.Rec {
	return rec(api.Elem, name, "", parent, kids...)
}

func text(s string, parent int) api.Rec { return rec(api.Text, "", s, parent) }

func attribute(name string, parent int) api.Rec { return rec(api.Attribute, name, "1", parent) }

// with is a record with attributes.
func with(r api.Rec, attrs ...int) api.Rec {
	r.Attrs = attrs
	return r
}

// nodes are records by numbers.
type nodes map[int]api.Rec

func put(t *testing.T, v *view.View, n nodes) {
	t.Helper()
	for id, r := range n {
		if e := v.Put(id, r); e != api.OK {
			t.Fatalf("Put(%d, %v) = %d", id, r, int(e))
		}
	}
}

// of is a view of a store of its own, with these records put.
func of(t *testing.T, n nodes) *view.View {
	t.Helper()
	v := view.New(store.New(), 0)
	put(t, v, n)
	return v
}

// planted is a view of a tree of elements out of their markup, below the root.
func planted(t *testing.T, markup ...string) *view.View {
	t.Helper()
	v := view.New(store.New(), 0)
	var kids []int
	for _, s := range markup {
		n, e := tree.Parse(s)
		if e != api.OK {
			t.Fatalf("%s: %d", s, int(e))
		}
		kids = append(kids, v.Plant(n, 1))
	}
	put(t, v, nodes{1: root(kids...)})
	return v
}

// sample is the chapter's example.
func sample(t *testing.T) *view.View { return planted(t, `<a x="1"><b/>t<c/></a>`) }

// goes asks whether an axis goes from a node to these ones.
func goes(t *testing.T, v *view.View, id, a int, want ...int) {
	t.Helper()
	if got := axis.Nodes(v, id, a); !slices.Equal(got, want) {
		t.Errorf("%s of %d: %v, not %v", axis.Name(a), id, got, want)
	}
}

// goesNowhere asks whether no axis goes anywhere from some nodes.
func goesNowhere(t *testing.T, v *view.View, ids ...int) {
	t.Helper()
	for _, id := range ids {
		for a := -1; a <= 13; a++ {
			goes(t, v, id, a)
		}
	}
}

// The chapter's words once more, to hold axes against.

// thereOf is those of some numbers that are there, each where it stands first.
func thereOf(v *view.View, l []int) []int {
	var is []int
	for i, id := range l {
		if _, there := v.Get(id); there && !slices.Contains(l[:i], id) {
			is = append(is, id)
		}
	}
	return is
}

// split is what stands ahead of a number, and behind it; nothing, if it does not stand there.
func split(l []int, id int) (ahead, behind []int) {
	for i := range l {
		if l[i] == id {
			return slices.Clone(l[:i]), slices.Clone(l[i+1:])
		}
	}
	return nil, nil
}

func backward(l []int) []int {
	back := make([]int, len(l))
	for i, id := range l {
		back[len(l)-1-i] = id
	}
	return back
}

// but is those of a list that are no attributes, and not among others.
func but(v *view.View, l, others []int) []int {
	return slices.DeleteFunc(l, func(id int) bool {
		r, _ := v.Get(id)
		return r.Kind == api.Attribute || slices.Contains(others, id)
	})
}

// told is where an axis goes by the chapter's words.
func told(v *view.View, id int, name string) []int {
	r, there := v.Get(id)
	if !there {
		return nil
	}
	var around []int
	if up, there := v.Get(r.Parent); there && r.Kind != api.Attribute {
		around = thereOf(v, up.Kids)
	}
	elder, younger := split(around, id)
	ahead, behind := split(v.All(), id)
	parent := v.Parents(id)
	return map[string][]int{
		"self":               {id},
		"child":              thereOf(v, r.Kids),
		"attribute":          thereOf(v, r.Attrs),
		"descendant":         v.Below(id),
		"parent":             parent[:min(1, len(parent))],
		"ancestor":           v.Parents(id),
		"descendant-or-self": append([]int{id}, v.Below(id)...),
		"ancestor-or-self":   append([]int{id}, v.Parents(id)...),
		"following-sibling":  younger,
		"preceding-sibling":  backward(elder),
		"following":          but(v, behind, v.Below(id)),
		"preceding":          backward(but(v, ahead, v.Parents(id))),
	}[name]
}

// agree holds all axes from the numbers up to one against the chapter's words.
func agree(t *testing.T, v *view.View, most int) {
	t.Helper()
	for id := -1; id <= most; id++ {
		for a, name := range names {
			goes(t, v, id, a, told(v, id, name)...)
		}
	}
	if t.Failed() {
		t.Fatalf("of the view %v", v.Changes())
	}
}

// P11.1

func TestNames(t *testing.T) {
	for a, name := range names {
		if a > 0 && (axis.Name(a) != name || axis.Of(name) != a) {
			t.Errorf("Name(%d) = %q, Of(%q) = %d", a, axis.Name(a), name, axis.Of(name))
		}
	}
	// by api's own names, too
	for name, a := range map[string]int{"child": api.AxChild, "descendant": api.AxDescendant, "parent": api.AxParent, "ancestor": api.AxAncestor, "following-sibling": api.AxFollowSib, "preceding-sibling": api.AxPrecSib, "following": api.AxFollowing, "preceding": api.AxPreceding, "attribute": api.AxAttribute, "self": api.AxSelf, "descendant-or-self": api.AxDescSelf, "ancestor-or-self": api.AxAncSelf} {
		if axis.Name(a) != name || axis.Of(name) != a {
			t.Errorf("Name(%d) = %q, Of(%q) = %d", a, axis.Name(a), name, axis.Of(name))
		}
	}
}

func TestNoNames(t *testing.T) {
	for _, a := range noAxes {
		if s := axis.Name(a); s != "" {
			t.Errorf("Name(%d) = %q", a, s)
		}
	}
	wrong := []string{"", "namespace", "Child", "CHILD", "child ", " child", "child::", "descendant_or_self", "descendant-or", "-", "@", "..", "\xff", strings.Repeat("self", 1<<16)}
	for _, name := range names[1:] {
		wrong = append(wrong, name[1:], name[:len(name)-1], name+"s", name+"\x00", strings.ToUpper(name))
	}
	for _, s := range wrong {
		if a := axis.Of(s); a != 0 {
			t.Errorf("Of(%.40q) = %d", s, a)
		}
	}
}

func TestReverse(t *testing.T) {
	back := []int{api.AxParent, api.AxAncestor, api.AxPrecSib, api.AxPreceding, api.AxAncSelf}
	for a := -1; a <= 13; a++ {
		if got := axis.Reverse(a); got != slices.Contains(back, a) {
			t.Errorf("Reverse(%d) = %v", a, got)
		}
	}
	for _, a := range noAxes {
		if axis.Reverse(a) {
			t.Errorf("Reverse(%d)", a)
		}
	}
}

// P11.2

func TestNoAxis(t *testing.T) {
	v := sample(t)
	for _, a := range noAxes {
		for id := -1; id <= 7; id++ {
			goes(t, v, id, a)
		}
	}
}

func TestOfWhatIsNotThere(t *testing.T) {
	v := sample(t)
	goesNowhere(t, v, 0, -1, 7, 99, math.MaxInt, math.MinInt)
	put(t, v, nodes{4: gone})
	goesNowhere(t, v, 4)
	goes(t, v, 2, api.AxChild, 5, 6)
	// what stands in what is gone is there still, by itself
	put(t, v, nodes{2: gone})
	goesNowhere(t, v, 2)
	goes(t, v, 5, api.AxSelf, 5)
	goes(t, v, 5, api.AxAncSelf, 5)
	goes(t, v, 5, api.AxDescSelf, 5)
	for _, a := range []int{api.AxParent, api.AxAncestor, api.AxFollowSib, api.AxPrecSib, api.AxFollowing, api.AxPreceding} {
		goes(t, v, 5, a)
	}
}

func TestAtTheViewsTime(t *testing.T) {
	s := store.New()
	first := view.New(s, 0)
	n, _ := tree.Parse(`<a x="1"><b/>t<c/></a>`)
	put(t, first, nodes{1: root(first.Plant(n, 1))})
	if e := s.Install(5, first.Changes()); e != api.OK {
		t.Fatal(int(e))
	}
	if e := s.Install(7, []api.Change{{Id: 4, R: gone}, {Id: 3, R: gone}}); e != api.OK {
		t.Fatal(int(e))
	}
	early, between, late := view.New(s, 4), view.New(s, 6), view.New(s, never)
	for range 2 {
		goes(t, early, 1, api.AxDescSelf, 1)
		goesNowhere(t, early, 2, 3, 4, 5, 6)
		goes(t, between, 2, api.AxChild, 4, 5, 6)
		goes(t, between, 2, api.AxAttribute, 3)
		goes(t, between, 6, api.AxPrecSib, 5, 4)
		goes(t, late, 2, api.AxChild, 5, 6)
		goes(t, late, 2, api.AxAttribute)
		goes(t, late, 6, api.AxPrecSib, 5)
		goes(t, late, 6, api.AxPreceding, 5)
		goesNowhere(t, late, 3, 4)
		// what one view puts is seen there alone
		put(t, first, nodes{2: elem("a", 1, 6)})
		goes(t, first, 2, api.AxChild, 6)
		goes(t, first, 5, api.AxFollowSib)
	}
}

func TestChildrenAndAttributes(t *testing.T) {
	v := of(t, nodes{
		1: root(2),
		// a kid that is gone, some that are there twice, one that never was; attributes likewise
		2: with(elem("a", 1, 5, 4, 3, 5, 9, 4, 99), 7, 8, 6, 7, 9, 98),
		3: text("t", 2), 4: elem("b", 2, 3), 5: rec(api.Comment, "", "c", 2),
		6: attribute("x", 2), 7: attribute("y", 2), 8: attribute("z", 2), 9: gone,
	})
	goes(t, v, 2, api.AxChild, 5, 4, 3)
	goes(t, v, 2, api.AxAttribute, 7, 8, 6)
	goes(t, v, 4, api.AxChild, 3) // though it stands elsewhere, too, and tells another parent
	for _, id := range []int{3, 5, 6, 7} {
		goes(t, v, id, api.AxChild)
		goes(t, v, id, api.AxAttribute)
	}
	// the lists tell, not the kinds: what has kids may be any, and what is one, too
	put(t, v, nodes{3: with(rec(api.Text, "", "t", 2, 7, 3), 4, 1), 6: with(rec(api.Attribute, "x", "", 2, 2), 6)})
	goes(t, v, 3, api.AxChild, 7, 3)
	goes(t, v, 3, api.AxAttribute, 4, 1)
	goes(t, v, 6, api.AxChild, 2)
	goes(t, v, 6, api.AxAttribute, 6)
}

func TestUpAndDown(t *testing.T) {
	v := planted(t, `<a x="1"><b y="2"><c z="3">t</c></b>u</a>`, `<d/>`)
	// 1: 2 a (3 x: 4 b (5 y: 6 c (7 z: 8 t)) 9 u) 10 d
	goes(t, v, 1, api.AxDescendant, 2, 4, 6, 8, 9, 10)
	goes(t, v, 1, api.AxDescSelf, 1, 2, 4, 6, 8, 9, 10)
	goes(t, v, 1, api.AxParent)
	goes(t, v, 1, api.AxAncestor)
	goes(t, v, 1, api.AxAncSelf, 1)
	goes(t, v, 4, api.AxDescendant, 6, 8)
	goes(t, v, 4, api.AxDescSelf, 4, 6, 8)
	goes(t, v, 8, api.AxDescendant)
	goes(t, v, 8, api.AxDescSelf, 8)
	goes(t, v, 8, api.AxParent, 6)
	goes(t, v, 8, api.AxAncestor, 6, 4, 2, 1)
	goes(t, v, 8, api.AxAncSelf, 8, 6, 4, 2, 1)
	// of an attribute
	goes(t, v, 7, api.AxSelf, 7)
	goes(t, v, 7, api.AxParent, 6)
	goes(t, v, 7, api.AxAncestor, 6, 4, 2, 1)
	goes(t, v, 7, api.AxAncSelf, 7, 6, 4, 2, 1)
	goes(t, v, 7, api.AxDescendant)
	goes(t, v, 7, api.AxDescSelf, 7)
}

func TestInCycles(t *testing.T) {
	v := of(t, nodes{1: elem("a", 3, 2), 2: elem("b", 1, 3), 3: elem("c", 2, 1), 4: elem("d", 4, 4, 5), 5: text("t", 4)})
	goes(t, v, 1, api.AxParent, 3)
	goes(t, v, 1, api.AxAncestor, 3, 2)
	goes(t, v, 1, api.AxAncSelf, 1, 3, 2)
	goes(t, v, 1, api.AxDescendant, 2, 3)
	goes(t, v, 2, api.AxDescSelf, 2, 3, 1)
	goes(t, v, 2, api.AxFollowing)
	goes(t, v, 2, api.AxPreceding)
	// its own parent and kid: the record's Parent is there, but the way up does not come back
	goes(t, v, 4, api.AxParent)
	goes(t, v, 4, api.AxAncestor)
	goes(t, v, 4, api.AxDescendant, 5)
	goes(t, v, 4, api.AxFollowSib, 5)
	goes(t, v, 5, api.AxPrecSib, 4)
}

// P11.3

func TestSiblings(t *testing.T) {
	v := of(t, nodes{
		1: root(10, 2, 11), 10: rec(api.Comment, "", "c", 1), 11: rec(api.PI, "p", "", 1),
		2: with(elem("a", 1, 6, 4, 12, 3, 6, 5, 4), 7, 8),
		3: text("t", 2), 4: elem("b", 2), 5: elem("c", 2), 6: rec(api.Comment, "", "c", 2),
		7: attribute("x", 2), 8: attribute("y", 2), 12: gone,
	})
	goes(t, v, 6, api.AxFollowSib, 4, 3, 5)
	goes(t, v, 4, api.AxFollowSib, 3, 5)
	goes(t, v, 3, api.AxFollowSib, 5)
	goes(t, v, 5, api.AxFollowSib) // what is there once more behind it stood ahead first
	goes(t, v, 6, api.AxPrecSib)
	goes(t, v, 4, api.AxPrecSib, 6)
	goes(t, v, 3, api.AxPrecSib, 4, 6)
	goes(t, v, 5, api.AxPrecSib, 3, 4, 6)
	// the root's kids, the root
	goes(t, v, 2, api.AxFollowSib, 11)
	goes(t, v, 2, api.AxPrecSib, 10)
	goes(t, v, 11, api.AxPrecSib, 2, 10)
	goes(t, v, 1, api.AxFollowSib)
	goes(t, v, 1, api.AxPrecSib)
	// attributes have none, not even when they stand among the kids
	put(t, v, nodes{2: with(elem("a", 1, 3, 7, 4), 7, 8)})
	for _, id := range []int{7, 8} {
		goes(t, v, id, api.AxFollowSib)
		goes(t, v, id, api.AxPrecSib)
	}
	goes(t, v, 3, api.AxFollowSib, 7, 4)
	goes(t, v, 4, api.AxPrecSib, 7, 3)
	// what is told as an attribute, but is none, has none either, for it is no kid
	put(t, v, nodes{8: elem("y", 2)})
	goes(t, v, 8, api.AxFollowSib)
	goes(t, v, 8, api.AxPrecSib)
}

func TestNoSiblings(t *testing.T) {
	v := of(t, nodes{
		1: root(2, 3, 4, 5, 6), 2: elem("no parent", 0), 3: elem("a parent that is gone", 9), 4: elem("one that never was", 99),
		5: elem("one that does not know it", 6), 6: elem("b", 1, 7), 7: text("t", 6), 9: gone,
	})
	for _, id := range []int{2, 3, 4, 5, 7} {
		goes(t, v, id, api.AxFollowSib)
		goes(t, v, id, api.AxPrecSib)
	}
	goes(t, v, 6, api.AxPrecSib, 5, 4, 3, 2)
	// a node's parent is the one that its own record tells
	put(t, v, nodes{5: elem("b", 6), 6: elem("b", 1, 8, 5, 7), 8: elem("c", 1)})
	goes(t, v, 5, api.AxFollowSib, 7)
	goes(t, v, 5, api.AxPrecSib, 8)
	goes(t, v, 8, api.AxFollowSib)
}

func TestFollowingAndPreceding(t *testing.T) {
	v := planted(t, `<a x="1"><b y="2"><c z="3">t</c><!--d--></b>u<e w="4"><?f g?><h/></e></a>`, `<i v="5">j</i>`)
	// 1: 2 a (3 x: 4 b (5 y: 6 c (7 z: 8 t) 9 d) 10 u 11 e (12 w: 13 f, 14 h)) 15 i (16 v: 17 j)
	for _, x := range []struct {
		id           int
		behind, back []int
	}{
		{1, nil, nil},
		{2, []int{15, 17}, nil},
		{3, []int{4, 6, 8, 9, 10, 11, 13, 14, 15, 17}, nil}, // all that is in the attribute's element, too
		{4, []int{10, 11, 13, 14, 15, 17}, nil},
		{5, []int{6, 8, 9, 10, 11, 13, 14, 15, 17}, nil},
		{6, []int{9, 10, 11, 13, 14, 15, 17}, nil},
		{8, []int{9, 10, 11, 13, 14, 15, 17}, nil},
		{9, []int{10, 11, 13, 14, 15, 17}, []int{8, 6}},
		{10, []int{11, 13, 14, 15, 17}, []int{9, 8, 6, 4}},
		{11, []int{15, 17}, []int{10, 9, 8, 6, 4}},
		{12, []int{13, 14, 15, 17}, []int{10, 9, 8, 6, 4}},
		{14, []int{15, 17}, []int{13, 10, 9, 8, 6, 4}},
		{15, nil, []int{14, 13, 11, 10, 9, 8, 6, 4, 2}},
		{16, []int{17}, []int{14, 13, 11, 10, 9, 8, 6, 4, 2}},
		{17, nil, []int{14, 13, 11, 10, 9, 8, 6, 4, 2}},
	} {
		goes(t, v, x.id, api.AxFollowing, x.behind...)
		goes(t, v, x.id, api.AxPreceding, x.back...)
	}
}

func TestWhatStandsNowhere(t *testing.T) {
	v := sample(t)
	// 7 is there, and so is what is in it, but not from the first node on
	put(t, v, nodes{7: elem("d", 2, 8, 9), 8: text("t", 7), 9: elem("e", 7)})
	for _, id := range []int{7, 8, 9} {
		goes(t, v, id, api.AxFollowing)
		goes(t, v, id, api.AxPreceding)
		goes(t, v, id, api.AxSelf, id)
	}
	goes(t, v, 7, api.AxDescendant, 8, 9)
	goes(t, v, 8, api.AxFollowSib, 9)
	goes(t, v, 8, api.AxAncestor, 7, 2, 1)
	goes(t, v, 7, api.AxFollowSib)
	// without a first node nothing stands anywhere
	put(t, v, nodes{1: gone})
	goes(t, v, 4, api.AxFollowing)
	goes(t, v, 6, api.AxPreceding)
	goes(t, v, 4, api.AxFollowSib, 5, 6)
}

// Only the Kind makes an attribute, and only records' Parents what a node is in.
func TestFollowingOfStrangeRecords(t *testing.T) {
	v := of(t, nodes{
		1: root(2, 3, 4), 2: with(elem("a", 3), 5), 3: with(elem("b", 1, 6), 7), 4: attribute("a kid", 1),
		5: elem("told as an attribute", 2), 6: text("t", 3), 7: attribute("x", 3),
	})
	goes(t, v, 2, api.AxFollowing, 5, 3, 6) // 3 is what 2 tells that it is in, but stands behind it
	goes(t, v, 2, api.AxPreceding)
	goes(t, v, 5, api.AxPreceding)
	goes(t, v, 3, api.AxPreceding, 5, 2)
	goes(t, v, 6, api.AxPreceding, 5, 2)
	goes(t, v, 4, api.AxPreceding, 6, 3, 5, 2)
	goes(t, v, 4, api.AxFollowing)
}

// P11.4

// tests are all tests of few kinds and names, those that may not be among them.
func tests() []api.Test {
	var all []api.Test
	for _, kind := range []int{math.MinInt, -1, 0, api.TestName, api.TestAny, api.TestNode, api.TestTexts, api.TestComment, api.TestPI, 7, math.MaxInt} {
		for _, name := range []string{"", "a", "b", "\xff", "*", " "} {
			all = append(all, api.Test{Kind: kind, Name: name}, api.Test{Kind: kind, Name: name, Has: true})
		}
	}
	return all
}

func TestRight(t *testing.T) {
	may := []api.Test{
		{Kind: api.TestName, Name: "a"}, {Kind: api.TestName, Name: "b"}, {Kind: api.TestName, Name: "\xff"}, {Kind: api.TestName, Name: "*"}, {Kind: api.TestName, Name: " "},
		{Kind: api.TestAny}, {Kind: api.TestNode}, {Kind: api.TestTexts}, {Kind: api.TestComment}, {Kind: api.TestPI},
		{Kind: api.TestPI, Has: true}, {Kind: api.TestPI, Name: "a", Has: true}, {Kind: api.TestPI, Name: "b", Has: true}, {Kind: api.TestPI, Name: "\xff", Has: true}, {Kind: api.TestPI, Name: "*", Has: true}, {Kind: api.TestPI, Name: " ", Has: true},
	}
	many := 0
	for _, x := range tests() {
		if got := axis.Right(x); got != slices.Contains(may, x) {
			t.Errorf("Right(%v) = %v", x, got)
		} else if got {
			many++
		}
	}
	if many != len(may) {
		t.Errorf("%d tests may be, not %d", many, len(may))
	}
}

// kinds is a view with nodes of all kinds, by two names, and what passes each test there: along the axis attribute, along all others.
func kinds(t *testing.T) (*view.View, map[api.Test][2][]int) {
	t.Helper()
	v := of(t, nodes{
		1: rec(api.Root, "a", "", 0, 2, 3), 2: with(elem("a", 1, 6, 7, 8, 9, 10), 4, 5), 3: elem("b", 1),
		4: attribute("a", 2), 5: attribute("b", 2), 6: rec(api.Text, "a", "b", 2), 7: rec(api.Comment, "a", "b", 2),
		8: rec(api.PI, "a", "b", 2), 9: rec(api.PI, "b", "a", 2), 10: rec(api.PI, "", "", 2), 11: gone,
		12: elem("a", 99), // it stands nowhere
	})
	all, always := []int{1, 2, 3, 4, 5, 6, 7, 8, 9, 10, 12}, func(ids ...int) [2][]int { return [2][]int{ids, ids} }
	return v, map[api.Test][2][]int{
		{Kind: api.TestNode}:                        always(all...),
		{Kind: api.TestTexts}:                       always(6),
		{Kind: api.TestComment}:                     always(7),
		{Kind: api.TestPI}:                          always(8, 9, 10),
		{Kind: api.TestPI, Name: "a", Has: true}:    always(8),
		{Kind: api.TestPI, Name: "b", Has: true}:    always(9),
		{Kind: api.TestPI, Has: true}:               always(10),
		{Kind: api.TestAny}:                         {{4, 5}, {2, 3, 12}},
		{Kind: api.TestName, Name: "a"}:             {{4}, {2, 12}},
		{Kind: api.TestName, Name: "b"}:             {{5}, {3}},
		{Kind: api.TestName, Name: "no such name"}:  {},
		{Kind: api.TestPI, Name: " a", Has: true}:   {},
		{Kind: api.TestName, Name: "a", Has: true}:  {},
		{Kind: api.TestName}:                        {},
		{Kind: api.TestPI, Name: "a"}:               {},
		{Kind: api.TestAny, Name: "a"}:              {},
		{Kind: api.TestNode, Has: true}:             {},
		{Kind: api.TestTexts, Name: "a", Has: true}: {},
		{Kind: api.TestComment, Name: "a"}:          {},
		{Kind: api.TestPI + 1}:                      {},
		{}:                                          {},
	}
}

func TestMatch(t *testing.T) {
	v, passing := kinds(t)
	for x, pass := range passing {
		for a := api.AxChild; a <= api.AxAncSelf; a++ {
			want := pass[1]
			if a == api.AxAttribute {
				want = pass[0]
			}
			for id := -1; id <= 13; id++ {
				if got := axis.Match(v, a, x, id); got != slices.Contains(want, id) {
					t.Errorf("Match(%s, %v, %d) = %v", names[a], x, id, got)
				}
			}
		}
	}
}

func TestNoMatch(t *testing.T) {
	v, _ := kinds(t)
	for _, x := range tests() {
		for id := -1; id <= 13; id++ {
			for _, a := range noAxes {
				if axis.Match(v, a, x, id) {
					t.Errorf("Match(%d, %v, %d)", a, x, id)
				}
			}
			for a := api.AxChild; a <= api.AxAncSelf && !axis.Right(x); a++ {
				if axis.Match(v, a, x, id) {
					t.Errorf("Match(%s, %v, %d), which may not be", names[a], x, id)
				}
			}
		}
		for _, id := range []int{math.MinInt, -1, 0, 11, 13, 99, math.MaxInt} {
			if axis.Match(v, api.AxSelf, x, id) || axis.Match(v, api.AxAttribute, x, id) {
				t.Errorf("Match(%v) of %d, which is not there", x, id)
			}
		}
	}
}

// P11.5

// wildNode makes an element by chance, as it may come of markup.
func wildNode(r *rand.Rand, deep int) api.Node {
	n := api.Node{Kind: api.Elem, Name: string(rune('a' + r.Intn(3)))}
	for _, name := range []string{"x", "y", "z"} {
		if r.Intn(3) == 0 {
			n.Attrs = append(n.Attrs, api.Attr{Name: name, Text: "1"})
		}
	}
	for range r.Intn(5) {
		switch k := len(n.Kids); {
		case r.Intn(5) == 0:
			n.Kids = append(n.Kids, api.Node{Kind: api.Comment, Text: "c"})
		case r.Intn(5) == 0:
			n.Kids = append(n.Kids, api.Node{Kind: api.PI, Name: "p"})
		case r.Intn(4) == 0 && (k == 0 || n.Kids[k-1].Kind != api.Text):
			n.Kids = append(n.Kids, api.Node{Kind: api.Text, Text: "t"})
		case deep > 0:
			n.Kids = append(n.Kids, wildNode(r, deep-1))
		}
	}
	return n
}

func TestEachNodeOnce(t *testing.T) {
	r := rand.New(rand.NewSource(115))
	for range 300 {
		v := view.New(store.New(), 0)
		var kids []int
		for range 1 + r.Intn(3) {
			n := wildNode(r, 3)
			if !tree.Right(n) {
				t.Fatalf("no right node: %v", n)
			}
			kids = append(kids, v.Plant(n, 1))
		}
		put(t, v, nodes{1: root(kids...)})
		all := v.All()
		for _, id := range all {
			var among []int
			for _, a := range []int{api.AxSelf, api.AxAncestor, api.AxDescendant, api.AxFollowing, api.AxPreceding} {
				among = append(among, axis.Nodes(v, id, a)...)
			}
			slices.Sort(among)
			want := slices.DeleteFunc(slices.Clone(all), func(k int) bool {
				r, _ := v.Get(k)
				return r.Kind == api.Attribute && k != id
			})
			slices.Sort(want)
			if !slices.Equal(among, want) {
				t.Fatalf("from %d: %v, not %v", id, among, want)
			}
		}
		agree(t, v, len(all)+1)
	}
}

// Axes of planted trees, by what XPath says of them, told by places: where a node begins and ends.
func TestByPlaces(t *testing.T) {
	r := rand.New(rand.NewSource(116))
	for range 200 {
		v := view.New(store.New(), 0)
		put(t, v, nodes{1: root(v.Plant(wildNode(r, 3), 1), v.Plant(wildNode(r, 2), 1))})
		at := placesOf(v)
		for id, p := range at {
			forward := func(is func(k int, q place) bool) []int {
				var l []int
				for k := range at {
					if is(k, at[k]) {
						l = append(l, k)
					}
				}
				slices.SortFunc(l, func(k, m int) int { return at[k].from - at[m].from })
				return l
			}
			goes(t, v, id, api.AxDescendant, forward(func(k int, q place) bool { return p.from < q.from && q.to < p.to && !q.aside })...)
			goes(t, v, id, api.AxAncestor, backward(forward(func(k int, q place) bool { return q.from < p.from && p.to < q.to }))...)
			goes(t, v, id, api.AxFollowing, forward(func(k int, q place) bool { return q.from > p.to && !q.aside })...)
			goes(t, v, id, api.AxPreceding, backward(forward(func(k int, q place) bool { return q.to < p.from && !q.aside }))...)
			goes(t, v, id, api.AxAttribute, forward(func(k int, q place) bool { return q.aside && q.up == id })...)
			goes(t, v, id, api.AxChild, forward(func(k int, q place) bool { return !q.aside && q.up == id })...)
			goes(t, v, id, api.AxFollowSib, forward(func(k int, q place) bool { return !q.aside && !p.aside && q.up == p.up && q.from > p.to })...)
			goes(t, v, id, api.AxPrecSib, backward(forward(func(k int, q place) bool { return !q.aside && !p.aside && q.up == p.up && q.to < p.from }))...)
		}
		if t.Failed() {
			t.Fatalf("of the view %v", v.Changes())
		}
	}
}

// place is where a node begins and ends in a tree, what it is in, and whether it is an attribute.
type place struct {
	from, to, up int
	aside        bool
}

// placesOf tells where all nodes of a planted tree begin and end.
func placesOf(v *view.View) map[int]place {
	at, tick := map[int]place{}, 0
	var lay func(id, up int)
	lay = func(id, up int) {
		r, _ := v.Get(id)
		tick++
		p := place{from: tick, up: up, aside: r.Kind == api.Attribute}
		for _, k := range append(slices.Clone(r.Attrs), r.Kids...) {
			lay(k, id)
		}
		tick++
		p.to = tick
		at[id] = p
	}
	lay(1, 0)
	return at
}

// All together: held against the chapter's words.

// All views of three nodes with few things in each record.
func TestAllSmallViews(t *testing.T) {
	var records []api.Rec
	for i, kids := range [][]int{nil, {2}, {3, 2}, {1, 3}, {2, 3, 2}, {3, 3}} {
		for j, attrs := range [][]int{nil, {2}, {3, 1, 3}} {
			kind := []int{api.Elem, api.Text, api.Elem, api.Attribute, api.Root, api.Elem, api.PI}[(i+2*j)%7]
			records = append(records, api.Rec{Kind: kind, Parent: (i + j) % 4, Kids: kids, Attrs: attrs})
		}
	}
	records = append(records, gone)
	for _, one := range records {
		for _, two := range records {
			for _, three := range records {
				agree(t, of(t, nodes{1: one, 2: two, 3: three}), 4)
			}
		}
	}
}

// wild makes a record by chance, of numbers up to one.
func wild(r *rand.Rand, most int) api.Rec {
	list := func(long int) []int {
		l := make([]int, r.Intn(long))
		for i := range l {
			l[i] = 1 + r.Intn(most)
		}
		return l
	}
	if r.Intn(8) == 0 {
		return gone
	}
	kind := api.Elem
	if r.Intn(2) == 0 {
		kind = 1 + r.Intn(6)
	}
	return api.Rec{Kind: kind, Parent: r.Intn(most + 1), Kids: list(6), Attrs: list(3)}
}

func TestViewsByChance(t *testing.T) {
	r := rand.New(rand.NewSource(112))
	for range 1500 {
		most := 3 + r.Intn(9)
		v := view.New(store.New(), 0)
		for id := 1; id <= most; id++ {
			put(t, v, nodes{id: wild(r, most+1)})
		}
		for range 3 {
			agree(t, v, most+2)
			put(t, v, nodes{1 + r.Intn(most): wild(r, most+1)})
		}
	}
}

// R1, R3

func TestNoView(t *testing.T) {
	copied := *sample(t)
	for _, v := range []*view.View{nil, {}, view.New(nil, 0), &copied} {
		for id := -1; id <= 7; id++ {
			for a := -1; a <= 13; a++ {
				goes(t, v, id, a)
				for _, x := range tests() {
					if axis.Match(v, a, x, id) {
						t.Errorf("Match(%d, %v, %d) of no view", a, x, id)
					}
				}
			}
		}
	}
}

func TestViewsAreOnlyAsked(t *testing.T) {
	s := store.New()
	v := view.New(s, 0)
	n, _ := tree.Parse(`<a x="1"><b/>t<c/></a>`)
	put(t, v, nodes{1: root(v.Plant(n, 1))})
	want := v.Changes()
	for id := -1; id <= 7; id++ {
		for a := -1; a <= 13; a++ {
			axis.Nodes(v, id, a)
			for _, x := range tests() {
				axis.Match(v, a, x, id)
			}
		}
	}
	if !reflect.DeepEqual(v.Changes(), want) || v.Time() != 0 {
		t.Errorf("the view was turned: %v", v.Changes())
	}
	if s.Count() != 1 || s.Last() != 0 || s.Fresh() != 7 {
		t.Error("the store was turned")
	}
}

func TestAnswersShareNothing(t *testing.T) {
	v := planted(t, `<a x="1" y="2"><b><c/>u<d/></b>t<e/></a>`)
	for id := 1; id <= 10; id++ {
		for a := range names {
			was := axis.Nodes(v, id, a)
			kept := slices.Clone(was)
			// all answers but this one are wiped, their spare room, too
			for k := 1; k <= 10; k++ {
				for b := range names {
					l := axis.Nodes(v, k, b)
					clear(l[:cap(l)])
				}
			}
			if !slices.Equal(was, kept) {
				t.Errorf("%s of %d shares memory", names[a], id)
			}
			clear(was[:cap(was)])
			goes(t, v, id, a, kept...)
		}
	}
	agree(t, v, 11)
}

// As deep as things may be nested in one another.
func TestDeepViews(t *testing.T) {
	const deep = 1 << 16
	v := view.New(store.New(), 0)
	n := api.Node{Kind: api.Text, Text: "t"}
	for range deep - 2 {
		n = api.Node{Kind: api.Elem, Name: "a", Kids: []api.Node{n}}
	}
	put(t, v, nodes{1: root(v.Plant(n, 1))})
	for a, want := range map[int]int{api.AxAncestor: deep - 1, api.AxAncSelf: deep, api.AxParent: 1, api.AxDescSelf: 1, api.AxPreceding: 0, api.AxFollowing: 0, api.AxPrecSib: 0} {
		if got := axis.Nodes(v, deep, a); len(got) != want {
			t.Errorf("%s of the last one: %d, not %d", names[a], len(got), want)
		}
	}
	if got := axis.Nodes(v, 1, api.AxDescendant); len(got) != deep-1 || got[deep-2] != deep {
		t.Errorf("descendant of the first one: %d", len(got))
	}
}

// A wide node's axes are told in one walk, and what is named often is asked once.
func TestWideViews(t *testing.T) {
	const wide = 1 << 15
	var kids, often []int
	n := nodes{}
	for id := 3; id <= wide+2; id++ {
		kids, often = append(kids, id), append(often, 2)
		n[id] = text("t", 2)
	}
	n[1], n[2] = root(often...), elem("a", 1, kids...)
	v := of(t, n)
	goes(t, v, 1, api.AxChild, 2)
	goes(t, v, 2, api.AxFollowSib)
	goes(t, v, 2, api.AxChild, kids...)
	goes(t, v, 3, api.AxFollowSib, kids[1:]...)
	goes(t, v, 3, api.AxFollowing, kids[1:]...)
	goes(t, v, wide+2, api.AxPrecSib, backward(kids[:wide-1])...)
	goes(t, v, wide+2, api.AxPreceding, backward(kids[:wide-1])...)
	goes(t, v, 2, api.AxFollowing)
}

func TestExample(t *testing.T) {
	v := sample(t)
	goes(t, v, 2, api.AxChild, 4, 5, 6)
	goes(t, v, 2, api.AxAttribute, 3)
	goes(t, v, 4, api.AxFollowSib, 5, 6)
	goes(t, v, 6, api.AxPrecSib, 5, 4)
	goes(t, v, 3, api.AxFollowing, 4, 5, 6)
	goes(t, v, 6, api.AxPreceding, 5, 4)
	goes(t, v, 5, api.AxAncestor, 2, 1)
}
