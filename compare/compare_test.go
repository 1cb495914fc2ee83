package compare_test

import (
	"fmt"
	"math"
	"math/rand"
	"reflect"
	"slices"
	"strconv"
	"strings"
	"testing"

	"breviary/api"
	"breviary/compare"
	"breviary/dec"
	"breviary/figure"
	"breviary/store"
	"breviary/tree"
	"breviary/value"
	"breviary/view"
)

var (
	nan   = api.Dec{Tag: api.NaN}
	over  = api.Dec{Tag: api.Over}
	under = api.Dec{Tag: api.Under}

	// numbers that may not be
	wrong = []api.Dec{
		{V: math.MinInt64}, {Tag: api.NaN, V: 1}, {Tag: api.Over, V: 1}, {Tag: api.Under, V: -1}, {Tag: 4}, {Tag: 4, V: api.Unit}, {Tag: -1}, {Tag: 1 << 32, V: api.Unit}, {Tag: 1<<32 + api.Over},
	}

	ops     = []int{api.EEq, api.ENe, api.ELt, api.ELe, api.EGt, api.EGe}
	types   = []int{api.VNodes, api.VBool, api.VNum, api.VStr}
	noOps   = []int{math.MinInt, -api.EEq, -1, 0, api.EOr, api.EAnd, api.EAdd, api.ESub, api.EUnion, api.ENeg, api.EVar, 22, 256 + api.EEq, 1<<32 + api.EEq, math.MaxInt}
	noTypes = []int{math.MinInt, -api.VNum, -1, 0, 5, 256 + api.VStr, 1<<32 + api.VBool, math.MaxInt}

	signs    = map[int]string{api.EEq: "=", api.ENe: "!=", api.ELt: "<", api.ELe: "<=", api.EGt: ">", api.EGe: ">="}
	opposite = map[int]int{api.EEq: api.EEq, api.ENe: api.ENe, api.ELt: api.EGt, api.ELe: api.EGe, api.EGt: api.ELt, api.EGe: api.ELe}

	// short ways to make values
	ids  = func(l ...int) api.Value { return value.Nodes(l) }
	num  = func(v int64) api.Value { return value.Num(m(v)) }
	str  = value.Str
	yes  = value.Bool(true)
	no   = value.Bool(false)
	none = value.Nodes(nil)
)

const unit = api.Unit

// m is so many millionths.
func m(v int64) api.Dec { return api.Dec{V: v} }

func put(t *testing.T, v *view.View, id int, r api.Rec) {
	t.Helper()
	if e := v.Put(id, r); e != api.OK {
		t.Fatalf("Put(%d, %v) = %d", id, r, int(e))
	}
}

// planted is a view of an element out of its markup, below the root, from the number 2 on.
func planted(t *testing.T, markup string) *view.View {
	t.Helper()
	n, e := tree.Parse(markup)
	if e != api.OK {
		t.Fatalf("%s: %d", markup, int(e))
	}
	v := view.New(store.New(), 0)
	put(t, v, 1, api.Rec{Kind: api.Root, Kids: []int{v.Plant(n, 1)}})
	return v
}

// sample is a view of a tree of all kinds, and of a text that stands nowhere in it.
//
//	1 root     "7a01 "    5 b       "7"    8 comment     "8"     11 the text  "01 "
//	2 a        "7a01 "    6 text    "7"    9 instruction "9 "    12 d         ""
//	3 x        " -1.50 "  7 text    "a"   10 c           "01 "   20 text      "20"
//	4 y        "7"
func sample(t *testing.T) *view.View {
	t.Helper()
	v := planted(t, `<a x=" -1.50 " y="7"><b>7</b>a<!--8--><?p 9 ?><c>01 </c><d/></a>`)
	put(t, v, 20, api.Rec{Kind: api.Text, Text: "20", Parent: 2})
	return v
}

// noViews are those that view.New did not make.
func noViews(t *testing.T) []*view.View {
	copied := *sample(t)
	return []*view.View{nil, {}, &copied}
}

// told is a comparison as it stands in what a test says.
func told(op int, a, b api.Value) string {
	sign := signs[op]
	if sign == "" {
		sign = strconv.Itoa(op)
	}
	return short(a) + " " + sign + " " + short(b)
}

func short(x api.Value) string {
	s := fmt.Sprint(x)
	return s[:min(len(s), 100)]
}

// stand holds two values against the operators by which they stand, told by signs with blanks between, and by no other one.
func stand(t *testing.T, v *view.View, a, b api.Value, signed string) {
	t.Helper()
	for _, op := range ops {
		want := slices.Contains(strings.Fields(signed), signs[op])
		if got := compare.Do(v, op, a, b); got != want {
			t.Errorf("%s: %v", told(op, a, b), got)
		}
		if got := compare.Do(v, opposite[op], b, a); got != want {
			t.Errorf("%s, the other way round: %v", told(op, a, b), got)
		}
	}
}

// The chapter's words once more, to hold the package against.

// numbers: how two stand is told by a sign; a question mark, if one is NaN.
func numbers(op int, x, y api.Dec) bool {
	sign := "?"
	if at, both := dec.Cmp(x, y); both {
		sign = string("<=>"[at+1])
	}
	allowed := map[int]string{api.EEq: "=", api.ENe: "<>?", api.ELt: "<", api.ELe: "<=", api.EGt: ">", api.EGe: ">="}
	return strings.Contains(allowed[op], sign)
}

func texts(op int, x, y string) bool {
	switch op {
	case api.EEq:
		return x == y
	case api.ENe:
		return x != y
	}
	return numbers(op, figure.Read(x), figure.Read(y))
}

func truths(op int, x, y bool) bool {
	switch op {
	case api.EEq:
		return x == y
	case api.ENe:
		return x != y
	}
	as := map[bool]api.Dec{false: m(0), true: m(unit)}
	return numbers(op, as[x], as[y])
}

// nodesWith is nodes on the left side, and what is none on the right one.
func nodesWith(v *view.View, op int, a, b api.Value) bool {
	switch b.Type {
	case api.VNum:
		return slices.ContainsFunc(a.Nodes, func(id int) bool { return numbers(op, figure.Read(v.Value(id)), b.N) })
	case api.VStr:
		return slices.ContainsFunc(a.Nodes, func(id int) bool { return texts(op, v.Value(id), b.S) })
	}
	return truths(op, value.ToBool(a), value.ToBool(b))
}

// withNodes is nodes on the right side, and what is none on the left one.
func withNodes(v *view.View, op int, a, b api.Value) bool {
	switch a.Type {
	case api.VNum:
		return slices.ContainsFunc(b.Nodes, func(id int) bool { return numbers(op, a.N, figure.Read(v.Value(id))) })
	case api.VStr:
		return slices.ContainsFunc(b.Nodes, func(id int) bool { return texts(op, a.S, v.Value(id)) })
	}
	return truths(op, value.ToBool(a), value.ToBool(b))
}

// nodesBoth is nodes on both sides.
func nodesBoth(v *view.View, op int, a, b api.Value) bool {
	for _, i := range a.Nodes {
		for _, k := range b.Nodes {
			if texts(op, v.Value(i), v.Value(k)) {
				return true
			}
		}
	}
	return false
}

// noNodes is what is no nodes on both sides.
func noNodes(v *view.View, op int, a, b api.Value) bool {
	same := op == api.EEq || op == api.ENe
	switch {
	case same && (a.Type == api.VBool || b.Type == api.VBool):
		return truths(op, value.ToBool(a), value.ToBool(b))
	case same && (a.Type == api.VNum || b.Type == api.VNum):
		return numbers(op, value.ToNum(v, a), value.ToNum(v, b))
	case same:
		return texts(op, value.ToStr(v, a), value.ToStr(v, b))
	}
	return numbers(op, value.ToNum(v, a), value.ToNum(v, b))
}

func do(v *view.View, op int, a, b api.Value) bool {
	switch {
	case !slices.Contains(ops, op) || !slices.Contains(types, a.Type) || !slices.Contains(types, b.Type):
		return false
	case a.Type == api.VNodes && b.Type == api.VNodes:
		return nodesBoth(v, op, a, b)
	case a.Type == api.VNodes:
		return nodesWith(v, op, a, b)
	case b.Type == api.VNodes:
		return withNodes(v, op, a, b)
	}
	return noNodes(v, op, a, b)
}

// agrees holds two values in a view against the chapter's words, and against what follows from them.
func agrees(t *testing.T, v *view.View, a, b api.Value) {
	t.Helper()
	for _, op := range ops {
		got := compare.Do(v, op, a, b)
		if got != do(v, op, a, b) {
			t.Errorf("%s: %v", told(op, a, b), got)
		}
		if back := compare.Do(v, opposite[op], b, a); back != got {
			t.Errorf("%s: %v, the other way round %v", told(op, a, b), got, back)
		}
	}
	for _, op := range noOps {
		if compare.Do(v, op, a, b) {
			t.Errorf("%s: true", told(op, a, b))
		}
	}
}

// P17.1: what is none

func TestNoOperator(t *testing.T) {
	v := sample(t)
	all := []api.Value{none, ids(2, 5), yes, no, num(unit), value.Num(nan), str(""), str("7")}
	for _, op := range noOps {
		for _, a := range all {
			for _, b := range all {
				if compare.Do(v, op, a, b) {
					t.Errorf("%s: true", told(op, a, b))
				}
			}
		}
	}
	// of all numbers near those of operators these six alone are taken
	for op := -300; op <= 300; op++ {
		is := slices.Contains(ops, op)
		if got := compare.Do(v, op, num(1), num(1)) || compare.Do(v, op, num(1), num(2)) || compare.Do(v, op, num(2), num(1)); got != is {
			t.Errorf("operator %d: %v", op, got)
		}
	}
}

func TestNoType(t *testing.T) {
	v := sample(t)
	for _, kind := range noTypes {
		for _, x := range []api.Value{{Type: kind}, {Type: kind, Nodes: []int{2, 5}, B: true, N: m(7 * unit), S: "7"}} {
			for _, y := range []api.Value{none, ids(5), yes, no, num(7 * unit), value.Num(nan), str("7"), str(""), {Type: kind}, {}} {
				stand(t, v, x, y, "")
			}
		}
	}
}

// P17.1: nodes on both sides

func TestNodesWithNodes(t *testing.T) {
	v := sample(t)
	for _, x := range []struct {
		a, b api.Value
		want string
	}{
		{ids(5), ids(6), "= <= >="}, {ids(5), ids(4), "= <= >="}, {ids(1), ids(2), "="}, {ids(5), ids(5), "= <= >="},
		{ids(5), ids(8), "!= < <="}, {ids(8), ids(5), "!= > >="}, {ids(3), ids(5), "!= < <="},
		{ids(5), ids(7), "!="}, {ids(7), ids(7), "="}, {ids(12), ids(12), "="}, {ids(12), ids(7), "!="},
		{ids(10), ids(11), "= <= >="},
		// one of them is enough, wherever it stands
		{ids(5, 8), ids(6), "= != <= > >="}, {ids(8, 5), ids(6), "= != <= > >="}, {ids(8), ids(3, 7, 8), "= != <= > >="}, {ids(7, 8), ids(3, 12, 9), "!= < <= > >="},
		{ids(7, 12), ids(3, 9), "!="}, {ids(7, 12), ids(12, 7), "= !="}, {ids(3, 5), ids(5, 3), "= != < <= > >="}, {ids(5, 6), ids(4, 5), "= <= >="},
		// with none at all nothing stands so
		{none, none, ""}, {none, ids(5), ""}, {none, ids(7, 12), ""}, {ids(), ids(2, 5, 12), ""},
	} {
		stand(t, v, x.a, x.b, x.want)
	}
}

// As texts nodes are as one another if all bytes are, however they are read as numbers.
func TestNodesByTheirTexts(t *testing.T) {
	v := planted(t, `<a><b>1</b><b>1.0</b><b> 1 </b><b>A</b><b>a</b><b></b><b> </b></a>`)
	var l []int
	for id := range 7 {
		l = append(l, 3+2*id)
	}
	l[6]-- // the sixth one has no text
	for i, a := range l {
		for k, b := range l {
			want := "!="
			if i == k {
				want = "="
			}
			if i < 3 && k < 3 {
				want += " <= >="
			}
			stand(t, v, ids(a), ids(b), want)
			stand(t, v, ids(a), str(v.Value(b)), want)
		}
	}
}

// P17.1: nodes on one side

func TestNodesWithNumbers(t *testing.T) {
	v := sample(t)
	for _, x := range []struct {
		a, b api.Value
		want string
	}{
		{ids(5), num(7 * unit), "= <= >="}, {ids(5), num(7*unit + 1), "!= < <="}, {ids(5), num(7*unit - 1), "!= > >="}, {ids(3), num(-1500000), "= <= >="},
		{ids(10), num(unit), "= <= >="}, {ids(9), num(9 * unit), "= <= >="}, {ids(8), num(9 * unit), "!= < <="},
		{ids(7), num(0), "!="}, {ids(12), num(0), "!="}, {ids(2), num(7 * unit), "!="},
		{ids(5), value.Num(nan), "!="}, {ids(7), value.Num(nan), "!="}, {ids(5), value.Num(over), "!= < <="}, {ids(5), value.Num(under), "!= > >="},
		{ids(7, 5), num(7 * unit), "= != <= >="}, {ids(3, 8), num(7 * unit), "!= < <= > >="}, {ids(3, 5, 8), num(7 * unit), "= != < <= > >="}, {ids(12, 7), num(7 * unit), "!="},
		{none, num(0), ""}, {none, value.Num(nan), ""}, {none, num(7 * unit), ""},
	} {
		stand(t, v, x.a, x.b, x.want)
	}
	// each of the nodes counts, not the first one alone, and not the sum of their texts
	stand(t, v, ids(2, 3, 4), num(-1500000), "= != <= > >=")
	for _, d := range wrong {
		stand(t, v, ids(5), value.Num(d), "!=")
		stand(t, v, none, value.Num(d), "")
	}
}

func TestNodesWithTexts(t *testing.T) {
	v := sample(t)
	for _, x := range []struct {
		a, b api.Value
		want string
	}{
		{ids(5), str("7"), "= <= >="}, {ids(5), str(" 7"), "!= <= >="}, {ids(5), str("7.0"), "!= <= >="}, {ids(5), str("08"), "!= < <="}, {ids(5), str("-8"), "!= > >="},
		{ids(3), str(" -1.50 "), "= <= >="}, {ids(3), str("-1.5"), "!= <= >="}, {ids(10), str("01 "), "= <= >="}, {ids(10), str("1"), "!= <= >="},
		{ids(7), str("a"), "="}, {ids(7), str("b"), "!="}, {ids(12), str(""), "="}, {ids(12), str("0"), "!="}, {ids(5), str(""), "!="}, {ids(5), str("NaN"), "!="},
		{ids(5), str("Infinity"), "!="}, {ids(5), str("99999999999999"), "!= < <="}, {ids(5), str("-99999999999999"), "!= > >="},
		{ids(7, 5), str("7"), "= != <= >="}, {ids(5, 7), str("a"), "= !="}, {ids(8, 3), str("7"), "!= < <= > >="}, {ids(7, 12), str("7"), "!="},
		{none, str(""), ""}, {none, str("7"), ""}, {none, str("a"), ""},
	} {
		stand(t, v, x.a, x.b, x.want)
	}
}

func TestNodesWithTruths(t *testing.T) {
	for _, v := range append(noViews(t), sample(t)) {
		// whether there are any counts, not what they tell, and not how many
		for _, l := range []api.Value{ids(5), ids(12), ids(7, 3), ids(1, 2, 3), ids(99), ids(20), ids(0)} {
			stand(t, v, l, yes, "= <= >=")
			stand(t, v, l, no, "!= > >=")
		}
		stand(t, v, none, yes, "!= < <=")
		stand(t, v, none, no, "= <= >=")
	}
}

// A value's list is what its nodes are: what is not there, or stands nowhere in the tree, is one with its Value.
func TestNodesThatAreNotThere(t *testing.T) {
	v := sample(t)
	stand(t, v, ids(20), num(20*unit), "= <= >=")
	stand(t, v, ids(20), str("20"), "= <= >=")
	stand(t, v, ids(20, 5), ids(20), "= != < <= >=")
	for _, id := range []int{99, 0, -1, math.MinInt, math.MaxInt} {
		stand(t, v, ids(id), str(""), "=")
		stand(t, v, ids(id), str("0"), "!=")
		stand(t, v, ids(id), num(0), "!=")
		stand(t, v, ids(id), ids(12), "=")
		stand(t, v, ids(id), ids(5), "!=")
	}
	put(t, v, 5, api.Rec{Gone: true})
	stand(t, v, ids(5), str("7"), "!=")
	stand(t, v, ids(6), str("7"), "= <= >=")
}

// Without a view nodes tell nothing.
func TestOfNoView(t *testing.T) {
	for _, v := range noViews(t) {
		stand(t, v, ids(5), ids(6), "=")
		stand(t, v, ids(5), str(""), "=")
		stand(t, v, ids(5), str("7"), "!=")
		stand(t, v, ids(5), num(7*unit), "!=")
		stand(t, v, none, ids(5), "")
		stand(t, v, num(unit), str("1"), "= <= >=")
		stand(t, v, num(unit), yes, "= <= >=")
		stand(t, v, str("1"), str("2"), "!= < <=")
	}
}

func TestAtTheViewsTime(t *testing.T) {
	s := store.New()
	old := view.New(s, 0)
	n, _ := tree.Parse(`<a>1</a>`)
	put(t, old, 1, api.Rec{Kind: api.Root, Kids: []int{old.Plant(n, 1)}})
	if e := s.Install(5, old.Changes()); e != api.OK {
		t.Fatal(int(e))
	}
	if e := s.Install(7, []api.Change{{Id: 3, R: api.Rec{Kind: api.Text, Text: "3", Parent: 2}}}); e != api.OK {
		t.Fatal(int(e))
	}
	between, late := view.New(s, 6), view.New(s, 7)
	for range 2 { // in turns
		stand(t, between, ids(2), num(2*unit), "!= < <=")
		stand(t, late, ids(2), num(2*unit), "!= > >=")
	}
	put(t, late, 3, api.Rec{Kind: api.Text, Text: "2", Parent: 2})
	stand(t, late, ids(2), num(2*unit), "= <= >=")
	stand(t, between, ids(2), num(2*unit), "!= < <=")
}

// P17.2

func TestNumbers(t *testing.T) {
	rising := []api.Dec{under, m(-math.MaxInt64), m(-unit - 1), m(-unit), m(-1), m(0), m(1), m(unit - 1), m(unit), m(7 * unit), m(math.MaxInt64 - 1), m(math.MaxInt64), over}
	for i, a := range rising {
		for k, b := range rising {
			want := "= <= >="
			if i < k {
				want = "!= < <="
			} else if i > k {
				want = "!= > >="
			}
			stand(t, nil, value.Num(a), value.Num(b), want)
			// a text that tells a number is one
			if a != over && a != under {
				stand(t, nil, str(figure.Show(a)), value.Num(b), want)
			}
		}
	}
	for _, d := range append([]api.Dec{nan}, wrong...) {
		for _, b := range append(append([]api.Dec{nan}, wrong...), rising...) {
			stand(t, nil, value.Num(d), value.Num(b), "!=")
		}
		stand(t, nil, value.Num(d), str("1"), "!=")
		stand(t, nil, value.Num(d), str("NaN"), "!=")
		stand(t, nil, value.Num(d), str(""), "!=")
	}
}

func TestTexts(t *testing.T) {
	for _, x := range []struct{ a, b, want string }{
		{"", "", "="}, {"a", "a", "="}, {"a", "b", "!="}, {"a", "A", "!="}, {"b", "a", "!="}, {"", " ", "!="}, {"NaN", "NaN", "="}, {"Infinity", "1", "!="}, {"\xff", "\xff", "="}, {"\xff", "\xfe", "!="}, {"\xff", "\ufffd", "!="}, {"日", "日", "="},
		{"1", "1", "= <= >="}, {"1", "1.0", "!= <= >="}, {"1", " 1", "!= <= >="}, {"1", "02", "!= < <="}, {"10", "9", "!= > >="}, {"-1", "1", "!= < <="}, {"-0", "0", "!= <= >="}, {"1.0000019", "1.000001", "!= <= >="},
		{"99999999999999", "88888888888888", "!= <= >="}, {"-99999999999999", "99999999999999", "!= < <="},
		{"1", "a", "!="}, {"1", "", "!="}, {"true", "1", "!="}, {"false", "0", "!="},
	} {
		stand(t, nil, str(x.a), str(x.b), x.want)
	}
}

func TestNumbersWithTexts(t *testing.T) {
	for _, x := range []struct {
		a    string
		b    int64
		want string
	}{
		{"1", unit, "= <= >="}, {" 1.0 ", unit, "= <= >="}, {"1.0000019", unit + 1, "= <= >="}, {"2", unit, "!= > >="}, {"-2", unit, "!= < <="}, {"-0", 0, "= <= >="},
		{"", 0, "!="}, {" ", 0, "!="}, {"a", 0, "!="}, {"true", unit, "!="}, {"false", 0, "!="}, {"1e0", unit, "!="}, {"+1", unit, "!="}, {"99999999999999", unit, "!= > >="}, {"-99999999999999", unit, "!= < <="},
	} {
		stand(t, nil, str(x.a), num(x.b), x.want)
	}
	// what does not fit is Over or Under as a text's number
	stand(t, nil, str("99999999999999"), value.Num(over), "= <= >=")
	stand(t, nil, str("-99999999999999"), value.Num(under), "= <= >=")
	stand(t, nil, str("Infinity"), value.Num(over), "!=")
}

// What is as a truth is asked of truths; what is below, or above, is asked of numbers.
func TestTruths(t *testing.T) {
	for _, x := range []struct {
		a, b api.Value
		want string
	}{
		{yes, yes, "= <= >="}, {no, no, "= <= >="}, {yes, no, "!= > >="}, {no, yes, "!= < <="},
		{yes, num(unit), "= <= >="}, {yes, num(2 * unit), "= < <="}, {yes, num(-unit), "= > >="}, {yes, num(1), "= > >="}, {yes, num(0), "!= > >="},
		{no, num(0), "= <= >="}, {no, num(unit), "!= < <="}, {no, num(-1), "!= > >="},
		{yes, value.Num(nan), "!="}, {no, value.Num(nan), "="}, {yes, value.Num(over), "= < <="}, {no, value.Num(under), "!= > >="}, {yes, value.Num(under), "= > >="},
		{yes, str(""), "!="}, {no, str(""), "="}, {yes, str("x"), "="}, {no, str("x"), "!="}, {yes, str("false"), "="}, {yes, str("1"), "= <= >="}, {yes, str("0"), "= > >="}, {yes, str("2"), "= < <="}, {no, str("0"), "!= <= >="}, {no, str(" "), "!="},
	} {
		stand(t, nil, x.a, x.b, x.want)
	}
	for _, d := range wrong {
		stand(t, nil, yes, value.Num(d), "!=")
		stand(t, nil, no, value.Num(d), "=")
	}
}

// Of a value's fields the one that its type names counts, and no other.
func TestOnlyTheTypesField(t *testing.T) {
	v := sample(t)
	full := func(kind int) api.Value {
		return api.Value{Type: kind, Nodes: []int{5, 3}, B: true, N: m(2500000), S: "9"}
	}
	bare := map[int]api.Value{api.VNodes: ids(5, 3), api.VBool: yes, api.VNum: num(2500000), api.VStr: str("9")}
	others := []api.Value{none, ids(3), ids(5, 9), yes, no, num(2500000), num(7 * unit), value.Num(nan), str("9"), str("7"), str("")}
	for _, kind := range types {
		for _, b := range append(others, full(api.VNodes), full(api.VBool), full(api.VNum), full(api.VStr)) {
			for _, op := range ops {
				if got := compare.Do(v, op, full(kind), b); got != compare.Do(v, op, bare[kind], b) {
					t.Errorf("%s: %v", told(op, full(kind), b), got)
				}
			}
		}
	}
}

// P17.1, P17.2, P17.3: all pairs of many values, held against the chapter's words.

// many are values of all types, and of none.
func many() []api.Value {
	l := []api.Value{yes, no, none, {Type: api.VNodes, Nodes: []int{}}}
	for _, of := range [][]int{{1}, {3}, {4}, {5}, {7}, {9}, {12}, {20}, {99}, {0, -1}, {4, 5}, {7, 12}, {3, 8}, {8, 5, 3}, {12, 7, 10, 3}, {5, 5, 7, 5}} {
		l = append(l, value.Nodes(of))
	}
	for _, d := range append([]api.Dec{m(0), m(1), m(unit), m(-unit), m(7 * unit), m(-1500000), m(math.MaxInt64), nan, over, under}, wrong...) {
		l = append(l, value.Num(d))
	}
	for _, s := range []string{"", " ", "a", "7", " 7", "7.0", "01 ", "-1.5", " -1.50 ", "0", "-0", "99999999999999", "true", "false", "NaN", "Infinity", "\xff"} {
		l = append(l, str(s))
	}
	for _, kind := range noTypes {
		l = append(l, api.Value{Type: kind, Nodes: []int{5}, B: true, N: m(unit), S: "7"})
	}
	return l
}

func TestAllPairs(t *testing.T) {
	all := many()
	for _, v := range append(noViews(t), sample(t)) {
		for _, a := range all {
			for _, b := range all {
				agrees(t, v, a, b)
			}
		}
	}
}

// Of two values that are no nodes ENe is just what EEq is not; of nodes both may be, or neither.
func TestNeIsWhatEqIsNot(t *testing.T) {
	all := many()
	for _, a := range all {
		for _, b := range all {
			if a.Type == api.VNodes || b.Type == api.VNodes || !slices.Contains(types, a.Type) || !slices.Contains(types, b.Type) {
				continue
			}
			if compare.Do(nil, api.EEq, a, b) == compare.Do(nil, api.ENe, a, b) {
				t.Errorf("%s is as != is", told(api.EEq, a, b))
			}
		}
	}
	v := sample(t)
	stand(t, v, ids(7, 12), str("a"), "= !=")
	stand(t, v, none, str("a"), "")
}

// wild makes a record by chance, of numbers up to one.
func wild(r *rand.Rand, most int) api.Rec {
	list := func() []int {
		l := make([]int, r.Intn(4))
		for i := range l {
			l[i] = 1 + r.Intn(most)
		}
		return l
	}
	if r.Intn(8) == 0 {
		return api.Rec{Gone: true}
	}
	return api.Rec{Kind: 1 + r.Intn(6), Text: text(r), Parent: r.Intn(most), Kids: list(), Attrs: list()}
}

func text(r *rand.Rand) string {
	l := []string{"", " ", "0", "1", "1.0", " 1", "2", "-2", ".5", "x", "X", "true", "false"}
	return l[r.Intn(len(l))]
}

// some makes a value by chance.
func some(r *rand.Rand, most int) api.Value {
	switch r.Intn(8) {
	case 0:
		return value.Bool(r.Intn(2) == 0)
	case 1:
		return str(text(r))
	case 2:
		return value.Num(figure.Read(text(r)))
	case 3:
		return value.Num(api.Dec{Tag: r.Intn(5), V: int64(r.Intn(2)) * unit})
	}
	l := make([]int, r.Intn(5))
	for i := range l {
		l[i] = r.Intn(most + 2)
	}
	return value.Nodes(l)
}

func TestByChance(t *testing.T) {
	r := rand.New(rand.NewSource(17))
	for range 1500 {
		most := 2 + r.Intn(9)
		v := view.New(store.New(), 0)
		for id := 1; id <= most; id++ {
			put(t, v, id, wild(r, most))
		}
		for range 20 {
			agrees(t, v, some(r, most), some(r, most))
		}
		if t.Failed() {
			t.Fatalf("in the view %v", v.Changes())
		}
	}
}

// R1, R3, R4

func TestNothingIsTurned(t *testing.T) {
	v := sample(t)
	changes := v.Changes()
	l, k := append(make([]int, 0, 6), 9, 4, 99, 3), append(make([]int, 0, 5), 12, 5)
	a, b := api.Value{Type: api.VNodes, Nodes: l}, api.Value{Type: api.VNodes, Nodes: k}
	for range 2 {
		stand(t, v, a, b, "= != < <= > >=")
		stand(t, v, a, str("x"), "!=")
		stand(t, v, b, num(8*unit), "!= < <=")
		stand(t, v, a, no, "!= > >=")
	}
	if !slices.Equal(l[:6], []int{9, 4, 99, 3, 0, 0}) || !slices.Equal(k[:5], []int{12, 5, 0, 0, 0}) {
		t.Errorf("values that were handed in were changed: %v, %v", l[:6], k[:5])
	}
	if !reflect.DeepEqual(v.Changes(), changes) || v.Plant(api.Node{Kind: api.Elem, Name: "d"}, 1) != 13 {
		t.Error("a view that was handed in was changed")
	}
	// nor is anything kept of one call for another
	l[0], k[1] = 7, 7
	stand(t, v, api.Value{Type: api.VNodes, Nodes: l[:1]}, b, "= !=")
}

// As many nodes as a tree may have, on both sides, of which only the last ones stand so.
func TestGreatLists(t *testing.T) {
	n := api.Node{Kind: api.Elem, Name: "a"}
	var first, second []int
	for k := range api.MaxTree {
		n.Kids = append(n.Kids, api.Node{Kind: api.Comment, Text: strconv.Itoa(k)})
		if k < api.MaxTree/2 {
			first = append(first, 3+k)
		} else {
			second = append(second, 3+k)
		}
	}
	v := view.New(store.New(), 0)
	put(t, v, 1, api.Rec{Kind: api.Root, Kids: []int{v.Plant(n, 1)}})
	stand(t, v, value.Nodes(first), value.Nodes(second), "!= < <=")
	last := second[len(second)-1]
	stand(t, v, value.Nodes(append(first, second[0])), value.Nodes(second), "= != < <= >=")
	stand(t, v, value.Nodes(append(first, last)), value.Nodes(second), "= != < <= > >=")
	stand(t, v, value.Nodes(second), num((api.MaxTree-1)*unit), "= != < <= >=")
	stand(t, v, value.Nodes(second), num(api.MaxTree*unit), "!= < <=")
	stand(t, v, value.Nodes(slices.Repeat([]int{last}, 1<<16)), str("x"), "!=")
	long := strings.Repeat(" ", 1<<20)
	stand(t, v, value.Nodes(second), str(long+strconv.Itoa(api.MaxTree)+long), "!= < <=")
	stand(t, nil, str(long), str(long), "=")
	stand(t, nil, str(long), str(long+" "), "!=")
}

func TestExamples(t *testing.T) {
	v := planted(t, `<r><x>a</x><x>b</x></r>`)
	both, one := ids(3, 5), num(unit)
	for _, x := range []struct {
		op   int
		a, b api.Value
		want bool
	}{
		{api.EEq, str("1"), one, true}, {api.EEq, both, str("b"), true}, {api.ENe, both, str("b"), true}, {api.ELt, str("a"), one, false}, {api.EEq, none, no, true}, {api.EGe, yes, one, true},
	} {
		if got := compare.Do(v, x.op, x.a, x.b); got != x.want {
			t.Errorf("%s: %v", told(x.op, x.a, x.b), got)
		}
	}
}
