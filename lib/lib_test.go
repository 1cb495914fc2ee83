package lib_test

import (
	"fmt"
	"maps"
	"math"
	"math/rand"
	"reflect"
	"slices"
	"strconv"
	"strings"
	"testing"
	"unicode/utf8"

	"breviary/api"
	"breviary/dec"
	"breviary/figure"
	"breviary/lib"
	"breviary/span"
	"breviary/store"
	"breviary/tree"
	"breviary/value"
	"breviary/view"
)

const unit = api.Unit

var (
	nan   = api.Dec{Tag: api.NaN}
	over  = api.Dec{Tag: api.Over}
	under = api.Dec{Tag: api.Under}

	// numbers that may not be
	wrong = []api.Dec{
		{V: math.MinInt64}, {Tag: api.NaN, V: 1}, {Tag: api.Over, V: 1}, {Tag: api.Under, V: -1}, {Tag: 4}, {Tag: 4, V: unit}, {Tag: -1}, {Tag: 1 << 32, V: unit}, {Tag: 1<<32 + api.Over},
	}

	types   = []int{api.VNodes, api.VBool, api.VNum, api.VStr}
	noTypes = []int{math.MinInt, -api.VNodes, -1, 0, 5, 256 + api.VNodes, 1<<32 + api.VNodes, math.MaxInt}

	// short ways to make values
	ids  = func(l ...int) api.Value { return value.Nodes(l) }
	num  = func(v int64) api.Value { return value.Num(m(v)) }
	str  = value.Str
	yes  = value.Bool(true)
	no   = value.Bool(false)
	none = value.Nodes(nil)
	of   = func(args ...api.Value) []api.Value { return args }
)

// m is so many millionths.
func m(v int64) api.Dec { return api.Dec{V: v} }

func put(t *testing.T, v *view.View, id int, r api.Rec) {
	t.Helper()
	if e := v.Put(id, r); e != api.OK {
		t.Fatalf("Put(%d, %v) = %d", id, r, int(e))
	}
}

// planted is a view of an element out of its markup, below the root, from the number 2 on.
func planted(t *testing.T, markup string) *view.View {
	t.Helper()
	n, e := tree.Parse(markup)
	if e != api.OK {
		t.Fatalf("%s: %d", markup, int(e))
	}
	v := view.New(store.New(), 0)
	put(t, v, 1, api.Rec{Kind: api.Root, Kids: []int{v.Plant(n, 1)}})
	return v
}

// sample is a view of a tree of all kinds, and of an element that stands nowhere in it.
//
//	1 root     "3 4 b日"   6 y     " 4 b"   10 lang         "De"
//	2 r        "3 4 b日"   7 text  " 4 b"   11 text         "日"
//	3 lang     "en-US"     8 z     "日"     12 comment      "-2"
//	4 x        "3"         9 k     "-1.5"   13 instruction  "5" (its name is lang)
//	5 text     "3"                          20 out          "" (its parent is 8)
func sample(t *testing.T) *view.View {
	t.Helper()
	v := planted(t, `<r lang="en-US"><x>3</x><y> 4 b</y><z k="-1.5" lang="De">日<!---2--><?lang 5?></z></r>`)
	put(t, v, 20, api.Rec{Kind: api.Elem, Name: "out", Parent: 8})
	return v
}

// noViews are those that view.New did not make.
func noViews(t *testing.T) []*view.View {
	copied := *sample(t)
	return []*view.View{nil, {}, &copied}
}

// told is a call as it stands in what a test says.
func told(c api.Ctx, name string, args []api.Value) string {
	return fmt.Sprintf("%.40q of %s at %v", name, short(args), c)
}

// short is the begin of what is printed of something.
func short(x any) string {
	s := fmt.Sprint(x)
	return s[:min(len(s), 200)]
}

// tells holds a call against its value.
func tells(t *testing.T, v *view.View, c api.Ctx, name string, args []api.Value, want api.Value) {
	t.Helper()
	if got, is := lib.Call(v, c, name, args); !is || !value.Same(got, want) {
		t.Errorf("%s = %s, %v, not %s", told(c, name, args), short(got), is, short(want))
	}
}

// refuses holds a call against nothing, false.
func refuses(t *testing.T, v *view.View, name string, args []api.Value) {
	t.Helper()
	c := api.Ctx{Node: 4, Pos: 2, Size: 3}
	if got, is := lib.Call(v, c, name, args); is || !reflect.DeepEqual(got, api.Value{}) {
		t.Errorf("%s = %v, %v", told(c, name, args), got, is)
	}
}

// The chapter's words once more, to hold the package against.

// function is how many arguments one has, whether they must be nodes, and what it is where one is.
type function struct {
	least, most int
	nodes       bool
	is          func(v *view.View, c api.Ctx, args []api.Value) api.Value
}

// self is a function's argument, or, without one, a text of the node where one is.
func self(v *view.View, c api.Ctx, args []api.Value) api.Value {
	if len(args) == 0 {
		return str(v.Value(c.Node))
	}
	return args[0]
}

func nameOf(v *view.View, c api.Ctx, args []api.Value) api.Value {
	if len(args) == 0 {
		return str(named(v, c.Node))
	}
	for _, id := range v.All() {
		if slices.Contains(args[0].Nodes, id) {
			return str(named(v, id))
		}
	}
	return str("")
}

// twoTexts is what is said of two arguments as texts.
func twoTexts(say func(a, b string) api.Value) function {
	return function{2, 2, false, func(v *view.View, _ api.Ctx, args []api.Value) api.Value {
		return say(value.ToStr(v, args[0]), value.ToStr(v, args[1]))
	}}
}

// aNumber is what is said of an argument as a number.
func aNumber(least int, say func(d api.Dec) api.Dec) function {
	return function{least, 1, false, func(v *view.View, c api.Ctx, args []api.Value) api.Value {
		return value.Num(say(value.ToNum(v, self(v, c, args))))
	}}
}

// aText is what is said of an argument as a text.
func aText(say func(s string) api.Value) function {
	return function{0, 1, false, func(v *view.View, c api.Ctx, args []api.Value) api.Value {
		return say(value.ToStr(v, self(v, c, args)))
	}}
}

// always is what hangs on where one is alone.
func always(say func(c api.Ctx) api.Value) function {
	return function{0, 0, false, func(_ *view.View, c api.Ctx, _ []api.Value) api.Value { return say(c) }}
}

// functions is all of them.
func functions() map[string]function {
	return map[string]function{
		"last":     always(func(c api.Ctx) api.Value { return value.Num(dec.Int(c.Size)) }),
		"position": always(func(c api.Ctx) api.Value { return value.Num(dec.Int(c.Pos)) }),
		"true":     always(func(api.Ctx) api.Value { return yes }),
		"false":    always(func(api.Ctx) api.Value { return no }),
		"count": {1, 1, true, func(_ *view.View, _ api.Ctx, args []api.Value) api.Value {
			return num(int64(len(args[0].Nodes)) * unit)
		}},
		"sum": {1, 1, true, func(v *view.View, _ api.Ctx, args []api.Value) api.Value {
			d := m(0)
			for _, id := range args[0].Nodes {
				d = dec.Add(d, figure.Read(v.Value(id)))
			}
			return value.Num(d)
		}},
		"name": {0, 1, true, nameOf}, "local-name": {0, 1, true, nameOf},
		"namespace-uri": {0, 1, true, func(*view.View, api.Ctx, []api.Value) api.Value { return str("") }},
		"string":        aText(str), "normalize-space": aText(func(s string) api.Value { return str(span.Norm(s)) }),
		"string-length": aText(func(s string) api.Value { return num(int64(utf8.RuneCountInString(s)) * unit) }),
		"concat": {2, 120, false, func(v *view.View, _ api.Ctx, args []api.Value) api.Value {
			s := ""
			for _, x := range args {
				s += value.ToStr(v, x)
			}
			return str(s)
		}},
		"starts-with":      twoTexts(func(a, b string) api.Value { return value.Bool(len(a) >= len(b) && a[:len(b)] == b) }),
		"contains":         twoTexts(func(a, b string) api.Value { return value.Bool(span.Has(a, b)) }),
		"substring-before": twoTexts(func(a, b string) api.Value { return str(span.Before(a, b)) }),
		"substring-after":  twoTexts(func(a, b string) api.Value { return str(span.After(a, b)) }),
		"substring":        {2, 3, false, substring},
		"translate": {3, 3, false, func(v *view.View, _ api.Ctx, args []api.Value) api.Value {
			return str(span.Map(value.ToStr(v, args[0]), value.ToStr(v, args[1]), value.ToStr(v, args[2])))
		}},
		"boolean": {1, 1, false, func(_ *view.View, _ api.Ctx, args []api.Value) api.Value { return value.Bool(value.ToBool(args[0])) }},
		"not":     {1, 1, false, func(_ *view.View, _ api.Ctx, args []api.Value) api.Value { return value.Bool(!value.ToBool(args[0])) }},
		"lang": {1, 1, false, func(v *view.View, c api.Ctx, args []api.Value) api.Value {
			return value.Bool(lang(v, c.Node, value.ToStr(v, args[0])))
		}},
		"number": aNumber(0, func(d api.Dec) api.Dec { return d }),
		"floor":  aNumber(1, dec.Floor), "ceiling": aNumber(1, dec.Ceil), "round": aNumber(1, dec.Round),
	}
}

// substring asks each character whether it is one of those.
func substring(v *view.View, _ api.Ctx, args []api.Value) api.Value {
	from := dec.Round(value.ToNum(v, args[1]))
	s, part, place := value.ToStr(v, args[0]), "", 0
	for s != "" {
		_, n := utf8.DecodeRuneInString(s)
		place++
		at, stands := dec.Cmp(dec.Int(place), from)
		within := stands && at != -1
		if len(args) == 3 {
			at, stands = dec.Cmp(dec.Int(place), dec.Add(from, dec.Round(value.ToNum(v, args[2]))))
			within = within && stands && at == -1
		}
		if within {
			part += s[:n]
		}
		s = s[n:]
	}
	return str(part)
}

func named(v *view.View, id int) string {
	r, there := v.Get(id)
	if there && (r.Kind == api.Elem || r.Kind == api.Attribute || r.Kind == api.PI) {
		return r.Name
	}
	return ""
}

// lang goes up from a node, but to none twice.
func lang(v *view.View, id int, s string) bool {
	for been := map[int]bool{}; !been[id]; {
		been[id] = true
		r, there := v.Get(id)
		if !there {
			return false
		}
		for _, at := range r.Attrs {
			if a, there := v.Get(at); there && a.Name == "lang" && r.Kind == api.Elem {
				is, s := lower(a.Text), lower(s)
				return is == s || len(is) > len(s) && is[:len(s)+1] == s+"-"
			}
		}
		id = r.Parent
	}
	return false
}

func lower(s string) string {
	l := []byte(s)
	for i, b := range l {
		if 'A' <= b && b <= 'Z' {
			l[i] = b + 32
		}
	}
	return string(l)
}

// answer is what Call has to tell.
func answer(v *view.View, c api.Ctx, name string, args []api.Value) (api.Value, bool) {
	f, is := functions()[name]
	other := slices.ContainsFunc(args, func(x api.Value) bool { return x.Type != api.VNodes })
	if !is || len(args) < f.least || len(args) > f.most || f.nodes && other {
		return api.Value{}, false
	}
	return f.is(v, c, args), true
}

// agrees holds a call against the chapter's words.
func agrees(t *testing.T, v *view.View, c api.Ctx, name string, args []api.Value) {
	t.Helper()
	want, may := answer(v, c, name, args)
	if got, is := lib.Call(v, c, name, args); is != may || !value.Same(got, want) {
		t.Errorf("%s = %s, %v, not %s, %v", told(c, name, args), short(got), is, short(want), may)
	}
}

// names is the functions' names, rising.
func names() []string { return slices.Sorted(maps.Keys(functions())) }

// P18.1: what is refused

func TestNoFunction(t *testing.T) {
	v := sample(t)
	for _, name := range []string{"", " ", "id", "Count", "COUNT", "count ", " count", "count()", "sums", "su", "len", "string_length", "stringlength", "text", "node", "comment", "div", "local", "namespace", "starts", "ends-with", "substring-", "lower-case", "upper-case", "abs", "yes", "no", "asText", "length", "namespace_uri", "\x00", "true\x00", "\xff", strings.Repeat("count", 1<<16)} {
		for _, args := range [][]api.Value{nil, {}, of(ids(4)), of(str("a")), of(str("a"), str("b")), of(num(1), num(2), num(3))} {
			refuses(t, v, name, args)
		}
	}
}

func TestHowManyArguments(t *testing.T) {
	v, c := sample(t), api.Ctx{Node: 6, Pos: 1, Size: 1}
	for name, f := range functions() {
		for n := range 125 {
			for _, x := range []api.Value{ids(4), none, str("1"), num(2 * unit), yes} {
				args := slices.Repeat(of(x), n)
				agrees(t, v, c, name, args)
				if n < f.least || n > f.most {
					refuses(t, v, name, args)
				}
			}
		}
		refuses(t, v, name, make([]api.Value, 1<<16))
	}
}

func TestWhatMustBeNodes(t *testing.T) {
	v := sample(t)
	for _, name := range []string{"count", "sum", "name", "local-name", "namespace-uri"} {
		for _, kind := range append(noTypes, types...) {
			x := api.Value{Type: kind, Nodes: []int{4}, B: true, N: m(unit), S: "7"}
			if kind != api.VNodes {
				refuses(t, v, name, of(x))
			} else if _, is := lib.Call(v, api.Ctx{}, name, of(x)); !is {
				t.Errorf("%s of nodes is refused", name)
			}
		}
	}
}

// P18.1: where one is

func TestWhereOneIs(t *testing.T) {
	v := sample(t)
	for n, want := range map[int]api.Dec{0: m(0), 1: m(unit), -1: m(-unit), 240: m(240 * unit), 9223372036854: m(9223372036854 * unit), 9223372036855: over, -9223372036855: under, math.MaxInt: over, math.MinInt: under} {
		tells(t, v, api.Ctx{Node: 7, Pos: n, Size: 9}, "position", nil, value.Num(want))
		tells(t, v, api.Ctx{Node: 7, Pos: 9, Size: n}, "last", []api.Value{}, value.Num(want))
	}
}

// Without an argument the node where one is counts, whether it stands in the tree or not.
func TestOfTheNodeWhereOneIs(t *testing.T) {
	v := sample(t)
	put(t, v, 21, api.Rec{Kind: api.Text, Text: " 日  7 "})
	put(t, v, 22, api.Rec{Kind: api.Attribute, Name: "w", Text: " -2.50\t"})
	for _, x := range []struct {
		node       int
		name, s, n string
		long       int64
		d          api.Dec
	}{
		{1, "", "3 4 b日", "3 4 b日", 6, nan}, {2, "r", "3 4 b日", "3 4 b日", 6, nan}, {3, "lang", "en-US", "en-US", 5, nan}, {4, "x", "3", "3", 1, m(3 * unit)}, {5, "", "3", "3", 1, m(3 * unit)},
		{6, "y", " 4 b", "4 b", 4, nan}, {8, "z", "日", "日", 1, nan}, {9, "k", "-1.5", "-1.5", 4, m(-1500000)}, {12, "", "-2", "-2", 2, m(-2 * unit)}, {13, "lang", "5", "5", 1, m(5 * unit)},
		{20, "out", "", "", 0, nan}, {21, "", " 日  7 ", "日 7", 6, nan}, {22, "w", " -2.50\t", "-2.50", 7, m(-2500000)},
		{0, "", "", "", 0, nan}, {-1, "", "", "", 0, nan}, {99, "", "", "", 0, nan}, {math.MaxInt, "", "", "", 0, nan}, {math.MinInt, "", "", "", 0, nan},
	} {
		c := api.Ctx{Node: x.node, Pos: 3, Size: 4}
		tells(t, v, c, "name", nil, str(x.name))
		tells(t, v, c, "local-name", nil, str(x.name))
		tells(t, v, c, "namespace-uri", nil, str(""))
		tells(t, v, c, "string", nil, str(x.s))
		tells(t, v, c, "normalize-space", nil, str(x.n))
		tells(t, v, c, "string-length", nil, num(x.long*unit))
		tells(t, v, c, "number", nil, value.Num(x.d))
	}
}

// P18.1: of nodes

func TestOfNodes(t *testing.T) {
	v, c := sample(t), api.Ctx{Node: 6, Pos: 2, Size: 5}
	put(t, v, 21, api.Rec{Kind: api.Text, Text: "9223372036854.775807"})
	put(t, v, 22, api.Rec{Kind: api.Text, Text: "99999999999999"})
	put(t, v, 23, api.Rec{Kind: api.Text, Text: "-9223372036854.775807"})
	for _, x := range []struct {
		of     api.Value
		many   int64
		sum    api.Dec
		name   string
		length int64
	}{
		{none, 0, m(0), "", 0}, {ids(), 0, m(0), "", 0}, {api.Value{Type: api.VNodes, Nodes: []int{}, S: "s", N: m(7)}, 0, m(0), "", 0},
		{ids(4), 1, m(3 * unit), "x", 1}, {ids(5), 1, m(3 * unit), "", 1}, {ids(9), 1, m(-1500000), "k", 4}, {ids(1), 1, nan, "", 6},
		// the first one is the first one in document order, and all of them count, as often as they are told
		{ids(6, 4), 2, nan, "x", 1}, {ids(4, 4), 2, m(6 * unit), "x", 1}, {ids(13, 12, 9, 4), 4, m(4500000), "x", 1}, {ids(13, 9), 2, m(3500000), "k", 4}, {ids(13, 12), 2, m(3 * unit), "", 2}, {ids(12, 13, 20), 3, nan, "", 2}, {ids(11, 3, 10), 3, nan, "lang", 5},
		// what stands nowhere has no place in document order, but a text; what is not there has an empty one
		{ids(20), 1, nan, "", 0}, {ids(21), 1, m(math.MaxInt64), "", 0}, {ids(99), 1, nan, "", 0}, {ids(0, -1, math.MinInt, math.MaxInt), 4, nan, "", 0}, {ids(99, 20, 4), 3, nan, "x", 1},
		// in their order: what does not fit on the way is not made good
		{ids(21, 4, 23), 3, over, "x", 1}, {ids(21, 23, 4), 3, m(3 * unit), "x", 1}, {ids(23, 12, 21), 3, under, "", 2}, {ids(22, 23), 2, over, "", 0}, {ids(21, 21, 23, 23, 23), 5, over, "", 0},
	} {
		tells(t, v, c, "count", of(x.of), num(x.many*unit))
		tells(t, v, c, "sum", of(x.of), value.Num(x.sum))
		tells(t, v, c, "name", of(x.of), str(x.name))
		tells(t, v, c, "local-name", of(x.of), str(x.name))
		tells(t, v, c, "namespace-uri", of(x.of), str(""))
		tells(t, v, c, "string-length", of(x.of), num(x.length*unit))
	}
	// Over and Under together are none
	put(t, v, 24, api.Rec{Kind: api.Text, Text: "-99999999999999"})
	tells(t, v, c, "sum", of(ids(22, 24)), value.Num(nan))
	tells(t, v, c, "sum", of(ids(4, 24)), value.Num(under))
}

// Document order is not the order of numbers.
func TestFirstInDocumentOrder(t *testing.T) {
	v := view.New(store.New(), 0)
	put(t, v, 1, api.Rec{Kind: api.Root, Kids: []int{7, 2}})
	put(t, v, 2, api.Rec{Kind: api.Elem, Name: "a", Parent: 1})
	put(t, v, 7, api.Rec{Kind: api.Elem, Name: "b", Parent: 1, Attrs: []int{9}})
	put(t, v, 9, api.Rec{Kind: api.Attribute, Name: "x", Text: "9", Parent: 7})
	tells(t, v, api.Ctx{Node: 2}, "name", of(ids(2, 9, 7)), str("b"))
	tells(t, v, api.Ctx{Node: 2}, "name", of(ids(2, 9)), str("x"))
	tells(t, v, api.Ctx{Node: 2}, "number", of(ids(2, 9)), num(9*unit))
}

// P18.1: of texts

func TestOfAText(t *testing.T) {
	v, c := sample(t), api.Ctx{Node: 6, Pos: 2, Size: 5}
	for _, x := range []struct {
		of   api.Value
		s, n string
		long int64
	}{
		{str(""), "", "", 0}, {str(" "), " ", "", 1}, {str("a"), "a", "a", 1}, {str("日本"), "日本", "日本", 2}, {str("\xff\xfe\xe6\x97"), "\xff\xfe\xe6\x97", "\xff\xfe\xe6\x97", 4}, {str("e\u0301"), "e\u0301", "e\u0301", 2}, {str("\U0001f600"), "\U0001f600", "\U0001f600", 1},
		{str(" a \t\r\n b  "), " a \t\r\n b  ", "a b", 10}, {str("\u00a0a\v"), "\u00a0a\v", "\u00a0a\v", 3},
		{num(2500000), "2.5", "2.5", 3}, {num(-unit), "-1", "-1", 2}, {value.Num(nan), "NaN", "NaN", 3}, {value.Num(over), "Infinity", "Infinity", 8}, {value.Num(under), "-Infinity", "-Infinity", 9}, {value.Num(wrong[0]), "NaN", "NaN", 3},
		{yes, "true", "true", 4}, {no, "false", "false", 5}, {none, "", "", 0}, {ids(6), " 4 b", "4 b", 4}, {ids(8, 6), " 4 b", "4 b", 4}, {ids(8), "日", "日", 1}, {ids(99), "", "", 0}, {api.Value{Type: 5, S: "a", B: true}, "", "", 0}, {api.Value{}, "", "", 0},
	} {
		tells(t, v, c, "string", of(x.of), str(x.s))
		tells(t, v, c, "normalize-space", of(x.of), str(x.n))
		tells(t, v, c, "string-length", of(x.of), num(x.long*unit))
		tells(t, v, c, "concat", of(x.of, x.of), str(x.s+x.s))
		tells(t, v, c, "concat", of(str("<"), x.of, str(">"), str("")), str("<"+x.s+">"))
	}
	tells(t, v, c, "concat", of(str("a"), num(unit), yes, ids(6), none), str("a1true 4 b"))
	var all []api.Value
	want := ""
	for n := range int64(120) {
		all = append(all, num(n*unit))
		want += strconv.FormatInt(n, 10)
	}
	tells(t, v, c, "concat", all, str(want))
}

func TestOfTwoTexts(t *testing.T) {
	v, c := sample(t), api.Ctx{Node: 6}
	for _, x := range []struct {
		a, b          api.Value
		starts, has   bool
		before, after string
	}{
		{str("a/b/c"), str("/"), false, true, "a", "b/c"}, {str("a/b"), str("a"), true, true, "", "/b"}, {str("a/b"), str("b"), false, true, "a/", ""}, {str("a/b"), str("a/b"), true, true, "", ""}, {str("a/b"), str("a/bc"), false, false, "", ""}, {str("a/b"), str("c"), false, false, "", ""},
		{str("abc"), str(""), true, true, "", "abc"}, {str(""), str(""), true, true, "", ""}, {str(""), str("a"), false, false, "", ""}, {str("abc"), str("A"), false, false, "", ""}, {str("aab"), str("ab"), false, true, "a", ""},
		// bytes count, not characters
		{str("日本"), str("本"), false, true, "日", ""}, {str("日本"), str("\xe6"), true, true, "", "\x97\xa5本"}, {str("日本"), str("\xa5\xe6"), false, true, "\xe6\x97", "\x9c\xac"},
		{num(12500000), str("."), false, true, "12", "5"}, {num(12 * unit), num(unit), true, true, "", "2"}, {yes, str("r"), false, true, "t", "ue"}, {yes, yes, true, true, "", ""}, {yes, num(unit), false, false, "", ""}, {ids(6), ids(4), false, false, "", ""}, {ids(7, 6), str("4"), false, true, " ", " b"}, {str("NaN"), value.Num(nan), true, true, "", ""}, {none, none, true, true, "", ""}, {str("a"), none, true, true, "", "a"}, {none, str("a"), false, false, "", ""},
	} {
		tells(t, v, c, "starts-with", of(x.a, x.b), value.Bool(x.starts))
		tells(t, v, c, "contains", of(x.a, x.b), value.Bool(x.has))
		tells(t, v, c, "substring-before", of(x.a, x.b), str(x.before))
		tells(t, v, c, "substring-after", of(x.a, x.b), str(x.after))
	}
}

func TestTranslate(t *testing.T) {
	v := sample(t)
	for _, x := range []struct {
		a, b, c api.Value
		want    string
	}{
		{str("bar"), str("abc"), str("AB"), "BAr"}, {str("--a-"), str("-"), str(""), "a"}, {str("bar"), str(""), str("AB"), "bar"}, {str(""), str("a"), str("b"), ""}, {str("aaa"), str("aa"), str("bc"), "bbb"}, {str("ab"), str("ab"), str("ba"), "ba"}, {str("日a"), str("a日"), str("本"), "本"},
		{num(12500000), str("."), str(","), "12,5"}, {yes, str("t"), num(7 * unit), "7rue"}, {ids(6), str(" b"), ids(4), "343"}, {str("1a"), num(unit), no, "fa"}, {str("a"), str("a"), none, ""}, {str("\xff\xfe"), str("\xfe"), str("b"), "\xffb"},
	} {
		tells(t, v, api.Ctx{Node: 6}, "translate", of(x.a, x.b, x.c), str(x.want))
	}
}

// P18.1: substring

func TestSubstring(t *testing.T) {
	v, c, s := sample(t), api.Ctx{Node: 6}, str("12345")
	for _, x := range []struct {
		args []api.Value
		want string
	}{
		{of(s, num(2*unit), num(3*unit)), "234"}, {of(s, num(2*unit)), "2345"}, {of(s, num(1500000), num(2600000)), "234"}, {of(s, num(0), num(3*unit)), "12"}, {of(s, num(-unit), num(3*unit)), "1"}, {of(s, num(-2*unit), num(3*unit)), ""}, {of(s, num(0)), "12345"}, {of(s, num(-7*unit)), "12345"},
		{of(s, num(5*unit)), "5"}, {of(s, num(6*unit)), ""}, {of(s, num(5*unit), num(9*unit)), "5"}, {of(s, num(6*unit), num(9*unit)), ""}, {of(s, num(unit), num(0)), ""}, {of(s, num(3*unit), num(-unit)), ""}, {of(s, num(unit), num(unit)), "1"},
		// a half is rounded up, each by itself
		{of(s, num(1499999)), "12345"}, {of(s, num(1500000)), "2345"}, {of(s, num(2500000)), "345"}, {of(s, num(500000), num(500000)), "1"}, {of(s, num(unit), num(499999)), ""}, {of(s, num(1400000), num(1400000)), "1"}, {of(s, num(-500000), num(2500000)), "12"}, {of(s, num(-500001), num(2500000)), "1"},
		// what is no number, and what is above or below all
		{of(s, value.Num(nan)), ""}, {of(s, value.Num(nan), num(3*unit)), ""}, {of(s, num(unit), value.Num(nan)), ""}, {of(s, value.Num(under)), "12345"}, {of(s, value.Num(over)), ""}, {of(s, value.Num(under), value.Num(over)), ""}, {of(s, value.Num(over), value.Num(under)), ""}, {of(s, value.Num(under), num(math.MaxInt64)), ""}, {of(s, num(-42*unit), value.Num(over)), "12345"}, {of(s, num(3*unit), value.Num(over)), "345"}, {of(s, num(unit), value.Num(under)), ""}, {of(s, value.Num(over), value.Num(over)), ""}, {of(s, value.Num(under), value.Num(under)), ""},
		// what does not fit when it is rounded, or together
		{of(s, num(math.MaxInt64)), ""}, {of(s, num(-math.MaxInt64)), "12345"}, {of(s, num(2*unit), num(math.MaxInt64)), "2345"}, {of(s, num(math.MaxInt64), num(math.MaxInt64)), ""}, {of(s, num(-math.MaxInt64), num(math.MaxInt64)), ""}, {of(s, num(-9223372036854*unit), num(9223372036854*unit)), ""}, {of(s, num(-9223372036850*unit), num(9223372036854*unit)), "123"}, {of(s, num(9223372036854*unit), num(9223372036854*unit)), ""}, {of(s, num(unit), num(9223372036854*unit)), "12345"},
		// as a text, and as numbers
		{of(num(12345*unit), str(" 2 "), str("2")), "23"}, {of(s, yes, yes), "1"}, {of(s, no), "12345"}, {of(s, str("a")), ""}, {of(s, none), ""}, {of(s, num(unit), none), ""}, {of(s, ids(6, 4)), "345"}, {of(s, ids(4), yes), "3"}, {of(yes, num(2*unit), num(2*unit)), "ru"}, {of(none, num(unit)), ""}, {of(ids(6), num(2*unit)), "4 b"}, {of(value.Num(nan), num(3*unit)), "N"}, {of(s, api.Value{}), ""}, {of(api.Value{S: "a"}, num(unit)), ""},
		// characters count, not bytes
		{of(str("a日\xff本\xfe"), num(2*unit)), "日\xff本\xfe"}, {of(str("a日\xff本\xfe"), num(2*unit), num(2*unit)), "日\xff"}, {of(str("a日\xff本\xfe"), num(4*unit), num(unit)), "本"}, {of(str("a日\xff本\xfe"), num(5*unit)), "\xfe"}, {of(str("日\xe6\x97"), num(2*unit), num(unit)), "\xe6"},
	} {
		tells(t, v, c, "substring", x.args, str(x.want))
	}
	for _, d := range wrong {
		tells(t, v, c, "substring", of(s, value.Num(d)), str(""))
		tells(t, v, c, "substring", of(s, num(unit), value.Num(d)), str(""))
	}
}

// many are numbers around those of characters, and far from them.
func many() []api.Dec {
	l := append([]api.Dec{nan, over, under, m(math.MaxInt64), m(-math.MaxInt64), m(math.MaxInt64 / 2), m(9223372036854 * unit), m(-9223372036854 * unit), m(9223372036854500000)}, wrong[:3]...)
	for n := int64(-3); n < 9; n++ {
		for _, part := range []int64{0, 1, 499999, 500000, 500001, 999999} {
			l = append(l, m(n*unit+part))
		}
	}
	return l
}

func TestAllSubstrings(t *testing.T) {
	for _, s := range []string{"", "1", "12345", "a日\xff本\xfe", "\U0001f600e\u0301"} {
		for _, from := range many() {
			agrees(t, nil, api.Ctx{}, "substring", of(str(s), value.Num(from)))
			for _, length := range many() {
				agrees(t, nil, api.Ctx{}, "substring", of(str(s), value.Num(from), value.Num(length)))
			}
		}
	}
}

// P18.3: a substring is a part of the characters, and what is ahead of a place, and from it on, is the whole.
func TestSubstringsTogether(t *testing.T) {
	c := api.Ctx{}
	text := func(args ...api.Value) string {
		x, is := lib.Call(nil, c, "substring", args)
		if !is {
			t.Fatalf("substring of %v is refused", args)
		}
		return x.S
	}
	for _, s := range []string{"", "1", "12345", "a日\xff本\xfe", "\xe6\x97\xe6\x97\xa5", "\U0001f600e\u0301"} {
		for _, from := range many() {
			ahead, behind := text(str(s), num(0), value.Num(from)), text(str(s), value.Num(from))
			if is := ahead + behind; is != s && dec.Right(from) && from != nan {
				t.Errorf("%q ahead of %v, and %q from it on, are not %q", ahead, from, behind, s)
			}
			for _, length := range many() {
				part := text(str(s), value.Num(from), value.Num(length))
				if !strings.HasPrefix(behind, part) || !strings.HasSuffix(s, behind) {
					t.Errorf("substring(%q, %v, %v) = %q, which is no part", s, from, length, part)
				}
			}
		}
	}
}

// P18.1: of truths and numbers

func TestOfTruths(t *testing.T) {
	v, c := sample(t), api.Ctx{Node: 4, Pos: 1, Size: 1}
	for _, x := range []api.Value{yes, str("a"), str("false"), str(" "), str("0"), num(1), num(-1), value.Num(over), value.Num(under), ids(20), ids(99), ids(4, 6)} {
		tells(t, v, c, "boolean", of(x), yes)
		tells(t, v, c, "not", of(x), no)
	}
	falsehoods := []api.Value{no, str(""), num(0), value.Num(nan), none, {}, {Type: 5, B: true, S: "a"}}
	for _, d := range wrong {
		falsehoods = append(falsehoods, value.Num(d))
	}
	for _, x := range falsehoods {
		tells(t, v, c, "boolean", of(x), no)
		tells(t, v, c, "not", of(x), yes)
	}
	tells(t, v, c, "true", nil, yes)
	tells(t, v, c, "false", nil, no)
}

func TestOfNumbers(t *testing.T) {
	v, c := sample(t), api.Ctx{Node: 4}
	for _, x := range []struct {
		of                          api.Value
		is, floor, ceiling, rounded api.Dec
	}{
		{num(0), m(0), m(0), m(0), m(0)}, {num(2500000), m(2500000), m(2 * unit), m(3 * unit), m(3 * unit)}, {num(-2500000), m(-2500000), m(-3 * unit), m(-2 * unit), m(-2 * unit)}, {num(1), m(1), m(0), m(unit), m(0)}, {num(-1), m(-1), m(-unit), m(0), m(0)}, {num(1499999), m(1499999), m(unit), m(2 * unit), m(unit)}, {num(-500000), m(-500000), m(-unit), m(0), m(0)}, {num(-500001), m(-500001), m(-unit), m(0), m(-unit)}, {num(7 * unit), m(7 * unit), m(7 * unit), m(7 * unit), m(7 * unit)},
		{num(math.MaxInt64), m(math.MaxInt64), m(9223372036854 * unit), over, over}, {num(-math.MaxInt64), m(-math.MaxInt64), under, m(-9223372036854 * unit), under}, {value.Num(over), over, over, over, over}, {value.Num(under), under, under, under, under}, {value.Num(nan), nan, nan, nan, nan},
		{str(" 1.2 "), m(1200000), m(unit), m(2 * unit), m(unit)}, {str("-1.5"), m(-1500000), m(-2 * unit), m(-unit), m(-unit)}, {str("a"), nan, nan, nan, nan}, {str(""), nan, nan, nan, nan}, {str("Infinity"), nan, nan, nan, nan}, {str("99999999999999"), over, over, over, over}, {yes, m(unit), m(unit), m(unit), m(unit)}, {no, m(0), m(0), m(0), m(0)}, {none, nan, nan, nan, nan}, {ids(13, 9), m(-1500000), m(-2 * unit), m(-unit), m(-unit)}, {ids(6), nan, nan, nan, nan}, {api.Value{}, nan, nan, nan, nan},
	} {
		tells(t, v, c, "number", of(x.of), value.Num(x.is))
		tells(t, v, c, "floor", of(x.of), value.Num(x.floor))
		tells(t, v, c, "ceiling", of(x.of), value.Num(x.ceiling))
		tells(t, v, c, "round", of(x.of), value.Num(x.rounded))
	}
	for _, d := range wrong {
		for _, name := range []string{"number", "floor", "ceiling", "round"} {
			tells(t, v, c, name, of(value.Num(d)), value.Num(nan))
		}
	}
}

// P18.2

func TestNamed(t *testing.T) {
	v := sample(t)
	for id, want := range map[int]string{1: "", 2: "r", 3: "lang", 4: "x", 5: "", 8: "z", 9: "k", 10: "lang", 11: "", 12: "", 13: "lang", 20: "out", 99: "", 0: "", -1: "", math.MaxInt: "", math.MinInt: ""} {
		if got := lib.Named(v, id); got != want {
			t.Errorf("Named(%d) = %q", id, got)
		}
	}
	// whatever names records have, those of some kinds alone count
	for kind, want := range map[int]string{api.Root: "", api.Elem: "a b", api.Attribute: "a b", api.Text: "", api.Comment: "", api.PI: "a b"} {
		put(t, v, 30, api.Rec{Kind: kind, Name: "a b", Text: "t"})
		if got := lib.Named(v, 30); got != want {
			t.Errorf("Named of the kind %d = %q", kind, got)
		}
		tells(t, v, api.Ctx{Node: 30}, "name", nil, str(want))
	}
	put(t, v, 30, api.Rec{Gone: true})
	if got := lib.Named(v, 30); got != "" {
		t.Errorf("Named of what is gone = %q", got)
	}
}

// speaks holds Lang, and the function, against what they have to say.
func speaks(t *testing.T, v *view.View, node int, s string, want bool) {
	t.Helper()
	if got := lib.Lang(v, node, s); got != want {
		t.Errorf("Lang(%d, %q) = %v", node, s, got)
	}
	tells(t, v, api.Ctx{Node: node, Pos: 1, Size: 1}, "lang", of(str(s)), value.Bool(want))
}

func TestLang(t *testing.T) {
	v := sample(t)
	for _, x := range []struct {
		node int
		s    string
		want bool
	}{
		{2, "en", true}, {2, "en-US", true}, {2, "EN-us", true}, {2, "eN", true}, {2, "e", false}, {2, "en-", false}, {2, "en-U", false}, {2, "en-US-", false}, {2, "en-US-x", false}, {2, "us", false}, {2, "", false}, {2, " en", false}, {2, "de", false}, {2, "en_US", false},
		// the node itself, and all that are above it, its element among them
		{3, "en", true}, {4, "en", true}, {5, "en-us", true}, {6, "EN", true}, {7, "en", true},
		// the nearest one alone
		{8, "de", true}, {8, "DE", true}, {8, "en", false}, {9, "de", true}, {10, "de", true}, {11, "de", true}, {12, "dE", true}, {13, "de", true}, {13, "en", false}, {13, "5", false}, {13, "lang", false}, {20, "de", true}, {20, "en", false}, {8, "de-", false}, {8, "d", false},
		// none is above the root, and none above what is not there
		{1, "en", false}, {1, "", false}, {0, "en", false}, {99, "en", false}, {99, "", false}, {-1, "de", false}, {math.MaxInt, "en", false}, {math.MinInt, "en", false},
	} {
		speaks(t, v, x.node, x.s, x.want)
	}
	// as a text, whatever it is
	put(t, v, 3, api.Rec{Kind: api.Attribute, Name: "lang", Text: "TRUE-2.5", Parent: 2})
	tells(t, v, api.Ctx{Node: 4}, "lang", of(yes), yes)
	tells(t, v, api.Ctx{Node: 4}, "lang", of(num(2500000)), no)
	put(t, v, 3, api.Rec{Kind: api.Attribute, Name: "lang", Text: "3-a", Parent: 2})
	tells(t, v, api.Ctx{Node: 6}, "lang", of(ids(6, 4)), yes)
	tells(t, v, api.Ctx{Node: 6}, "lang", of(num(3*unit)), yes)
	tells(t, v, api.Ctx{Node: 6}, "lang", of(none), no)
}

// A to Z have small letters, and nothing else has.
func TestSmallLetters(t *testing.T) {
	v := sample(t)
	is := func(text string) {
		put(t, v, 3, api.Rec{Kind: api.Attribute, Name: "lang", Text: text, Parent: 2})
	}
	is("abcdefghijklmnopqrstuvwxyz")
	speaks(t, v, 4, "ABCDEFGHIJKLMNOPQRSTUVWXYZ", true)
	is("ABCDEFGHIJKLMNOPQRSTUVWXYZ-@[`{")
	speaks(t, v, 4, "abcdefghijklmnopqrstuvwxyz", true)
	speaks(t, v, 4, "abcdefghijklmnopqrstuvwxyz-@[`{", true)
	speaks(t, v, 4, "abcdefghijklmnopqrstuvwxyz-`{@[", false)
	for _, x := range []string{"@`", "[{", "^~", "_\x7f"} { // what stands beside them, and as far from what it is not
		is(x[:1])
		speaks(t, v, 4, x[:1], true)
		speaks(t, v, 4, x[1:], false)
		is(x[1:])
		speaks(t, v, 4, x[:1], false)
	}
	is("k-İ")
	speaks(t, v, 4, "\u212a", false) // the sign of Kelvin, whose small letter is k
	speaks(t, v, 4, "K", true)
	speaks(t, v, 4, "k-i̇", false)
	speaks(t, v, 4, "k-İ", true)
	is("Ä\xffS")
	speaks(t, v, 4, "ä\xffs", false)
	speaks(t, v, 4, "Ä\xffs", true)
	speaks(t, v, 4, "Ä\xfes", false)
	// an empty one, and what begins with no more than a line
	is("")
	speaks(t, v, 4, "", true)
	speaks(t, v, 4, "-", false)
	is("-a")
	speaks(t, v, 4, "", true)
	speaks(t, v, 4, "-a", true)
	is("a--b")
	speaks(t, v, 4, "a", true)
	speaks(t, v, 4, "a-", true)
}

// Of the attributes of that name the first one that is there counts, and those of elements alone.
func TestWhichLang(t *testing.T) {
	v := view.New(store.New(), 0)
	put(t, v, 1, api.Rec{Kind: api.Root, Name: "r", Kids: []int{2}, Attrs: []int{9}})
	put(t, v, 2, api.Rec{Kind: api.Elem, Name: "a", Parent: 1, Kids: []int{3}, Attrs: []int{8, 99, 6, 7}})
	put(t, v, 3, api.Rec{Kind: api.Elem, Name: "b", Parent: 2, Kids: []int{4}, Attrs: []int{10, 11}})
	put(t, v, 4, api.Rec{Kind: api.Text, Text: "t", Parent: 3, Attrs: []int{9}})
	put(t, v, 6, api.Rec{Kind: api.Attribute, Name: "lang", Text: "six", Parent: 2})
	put(t, v, 7, api.Rec{Kind: api.Attribute, Name: "lang", Text: "seven", Parent: 2})
	put(t, v, 8, api.Rec{Kind: api.Attribute, Name: "x", Text: "eight", Parent: 2})
	put(t, v, 9, api.Rec{Kind: api.Attribute, Name: "lang", Text: "nine", Parent: 1})
	put(t, v, 10, api.Rec{Kind: api.Attribute, Name: "LANG", Text: "ten", Parent: 3})
	put(t, v, 11, api.Rec{Kind: api.Attribute, Name: "language", Text: "eleven", Parent: 3})
	only := func(node int, want string) {
		t.Helper()
		for _, s := range []string{"six", "seven", "eight", "nine", "ten", "eleven"} {
			speaks(t, v, node, s, s == want)
		}
	}
	for _, node := range []int{2, 3, 4, 6, 7, 8, 10} {
		only(node, "six")
	}
	only(1, "")
	only(9, "")
	put(t, v, 6, api.Rec{Gone: true})
	only(4, "seven")
	only(6, "")
	put(t, v, 7, api.Rec{Kind: api.Attribute, Name: "lan", Text: "seven", Parent: 2})
	only(4, "")
	put(t, v, 3, api.Rec{Kind: api.Elem, Name: "b", Parent: 2, Attrs: []int{10, 9, 11}})
	only(4, "nine")
	only(2, "")
	// what is above what is not there does not count, and none is gone up to twice
	put(t, v, 2, api.Rec{Kind: api.Elem, Name: "a", Parent: 5, Attrs: []int{9}})
	put(t, v, 3, api.Rec{Kind: api.Elem, Name: "b", Parent: 4})
	put(t, v, 4, api.Rec{Kind: api.Text, Parent: 3})
	only(4, "")
	only(3, "")
	only(2, "nine")
	put(t, v, 3, api.Rec{Kind: api.Elem, Name: "b", Parent: 99, Attrs: []int{11}})
	only(4, "")
	put(t, v, 99, api.Rec{Kind: api.Comment, Parent: 2})
	only(4, "nine")
}

func TestAtTheViewsTime(t *testing.T) {
	s := store.New()
	old := view.New(s, 0)
	n, _ := tree.Parse(`<a lang="en">1</a>`)
	put(t, old, 1, api.Rec{Kind: api.Root, Kids: []int{old.Plant(n, 1)}})
	if e := s.Install(5, old.Changes()); e != api.OK {
		t.Fatal(int(e))
	}
	if e := s.Install(7, []api.Change{{Id: 2, R: api.Rec{Kind: api.Elem, Name: "b", Parent: 1, Kids: []int{4}}}, {Id: 3, R: api.Rec{Gone: true}}, {Id: 4, R: api.Rec{Kind: api.Text, Text: "3", Parent: 2}}}); e != api.OK {
		t.Fatal(int(e))
	}
	early, between, late := view.New(s, 4), view.New(s, 6), view.New(s, 7)
	holds := func(v *view.View, name string, d api.Dec, en bool) {
		t.Helper()
		c := api.Ctx{Node: 2}
		tells(t, v, c, "name", nil, str(name))
		tells(t, v, c, "name", of(ids(4, 2)), str(name))
		tells(t, v, c, "number", nil, value.Num(d))
		tells(t, v, c, "sum", of(ids(2)), value.Num(d))
		speaks(t, v, 4, "en", en)
	}
	for range 2 { // in turns
		holds(early, "", nan, false)
		holds(between, "a", m(unit), true)
		holds(late, "b", m(3*unit), false)
	}
	put(t, late, 4, api.Rec{Kind: api.Text, Text: " -4 ", Parent: 2})
	holds(late, "b", m(-4*unit), false)
	holds(between, "a", m(unit), true)
}

// Without a view nodes tell nothing, and all else is what it is.
func TestOfNoView(t *testing.T) {
	for _, v := range noViews(t) {
		c := api.Ctx{Node: 4, Pos: 2, Size: 3}
		for _, name := range []string{"name", "local-name", "namespace-uri", "string", "normalize-space"} {
			tells(t, v, c, name, nil, str(""))
			tells(t, v, c, name, of(ids(4)), str(""))
		}
		tells(t, v, c, "string-length", nil, num(0))
		tells(t, v, c, "number", nil, value.Num(nan))
		tells(t, v, c, "count", of(ids(4, 6)), num(2*unit))
		tells(t, v, c, "sum", of(ids(4, 6)), value.Num(nan))
		tells(t, v, c, "boolean", of(ids(4)), yes)
		tells(t, v, c, "position", nil, num(2*unit))
		tells(t, v, c, "concat", of(str("a"), yes, ids(4)), str("atrue"))
		tells(t, v, c, "substring", of(str("abc"), num(2*unit)), str("bc"))
		speaks(t, v, 4, "en", false)
		speaks(t, v, 4, "", false)
		if lib.Named(v, 4) != "" {
			t.Error("Named")
		}
	}
}

// Of a value's fields the one that its type names counts, and no other.
func TestOnlyTheTypesField(t *testing.T) {
	v, c := sample(t), api.Ctx{Node: 6, Pos: 2, Size: 5}
	bare := map[int]api.Value{api.VNodes: ids(9, 4), api.VBool: yes, api.VNum: num(2500000), api.VStr: str(" 2 a")}
	for kind, x := range bare {
		full := api.Value{Type: kind, Nodes: []int{9, 4}, B: true, N: m(2500000), S: " 2 a"}
		for name, f := range functions() {
			for n := f.least; n <= min(f.most, 3); n++ {
				got, is := lib.Call(v, c, name, slices.Repeat(of(full), n))
				want, may := lib.Call(v, c, name, slices.Repeat(of(x), n))
				if is != may || !value.Same(got, want) {
					t.Errorf("%s = %v, not %v", told(c, name, slices.Repeat(of(full), n)), got, want)
				}
			}
		}
	}
}

// A function's value is of its type, and nothing else.
func TestTypes(t *testing.T) {
	v, c := sample(t), api.Ctx{Node: 6, Pos: 2, Size: 5}
	kinds := map[string]int{"starts-with": api.VBool, "contains": api.VBool, "boolean": api.VBool, "not": api.VBool, "lang": api.VBool, "true": api.VBool, "false": api.VBool}
	for _, name := range []string{"last", "position", "count", "sum", "string-length", "number", "floor", "ceiling", "round"} {
		kinds[name] = api.VNum
	}
	for name, f := range functions() {
		kind := kinds[name]
		if kind == 0 {
			kind = api.VStr
		}
		for n := f.least; n <= min(f.most, 3); n++ {
			got, is := lib.Call(v, c, name, slices.Repeat(of(ids(4)), n))
			bare := map[int]api.Value{api.VBool: value.Bool(got.B), api.VNum: value.Num(got.N), api.VStr: str(got.S)}
			if !is || got.Type != kind || !reflect.DeepEqual(got, bare[kind]) {
				t.Errorf("%s of %d = %v, %v", name, n, got, is)
			}
		}
	}
}

// P18.1, P18.2: all functions of many values, and by chance, held against the chapter's words.

func TestAllFunctions(t *testing.T) {
	var values []api.Value
	values = append(values, yes, no, none, ids(4), ids(6, 4), ids(9), ids(99), ids(20, 13), num(0), num(2*unit), num(-1500000), value.Num(nan), value.Num(over), str(""), str(" 2 "), str("en"), str("4 b"), str("b日\xff"))
	for _, kind := range noTypes {
		values = append(values, api.Value{Type: kind, Nodes: []int{4}, B: true, N: m(unit), S: "7"})
	}
	places := []api.Ctx{{}, {Node: 1, Pos: 1, Size: 1}, {Node: 6, Pos: 2, Size: 5}, {Node: 10, Pos: -1, Size: math.MaxInt}, {Node: 20}, {Node: 99}}
	for _, v := range append(noViews(t), sample(t)) {
		for _, name := range append(names(), "", "id") {
			for _, c := range places {
				agrees(t, v, c, name, nil)
				for _, a := range values {
					agrees(t, v, c, name, of(a))
				}
			}
			for _, a := range values {
				for _, b := range values {
					agrees(t, v, places[2], name, of(a, b))
					agrees(t, v, places[2], name, of(str("e4b2"), a, b))
				}
			}
		}
	}
}

// wild makes a record by chance, of numbers up to one.
func wild(r *rand.Rand, most int) api.Rec {
	list := func() []int {
		l := make([]int, r.Intn(4))
		for i := range l {
			l[i] = 1 + r.Intn(most)
		}
		return l
	}
	if r.Intn(8) == 0 {
		return api.Rec{Gone: true}
	}
	l := []string{"lang", "lang", "Lang", "a", ""}
	kinds := []int{api.Root, api.Elem, api.Elem, api.Elem, api.Attribute, api.Attribute, api.Text, api.Comment, api.PI}
	return api.Rec{Kind: kinds[r.Intn(len(kinds))], Name: l[r.Intn(len(l))], Text: text(r), Parent: r.Intn(most + 1), Kids: list(), Attrs: list()}
}

func text(r *rand.Rand) string {
	l := []string{"", " ", "0", "1", "1.5", " 2 ", "-2", "en", "EN-us", "en-US", "e", "-", "日a\xff", " a  b"}
	return l[r.Intn(len(l))]
}

// some makes a value by chance.
func some(r *rand.Rand, most int) api.Value {
	switch r.Intn(8) {
	case 0:
		return value.Bool(r.Intn(2) == 0)
	case 1, 2:
		return str(text(r))
	case 3:
		return value.Num(figure.Read(text(r)))
	case 4:
		return value.Num(api.Dec{Tag: r.Intn(5), V: int64(r.Intn(2)) * unit})
	}
	l := make([]int, r.Intn(5))
	for i := range l {
		l[i] = r.Intn(most + 2)
	}
	return value.Nodes(l)
}

func TestByChance(t *testing.T) {
	r := rand.New(rand.NewSource(18))
	all := names()
	for range 2000 {
		most := 2 + r.Intn(9)
		v := view.New(store.New(), 0)
		for id := 1; id <= most; id++ {
			put(t, v, id, wild(r, most))
		}
		for range 40 {
			c := api.Ctx{Node: r.Intn(most + 2), Pos: r.Intn(9), Size: r.Intn(9)}
			args := make([]api.Value, r.Intn(4))
			for k := range args {
				args[k] = some(r, most)
			}
			agrees(t, v, c, all[r.Intn(len(all))], args)
			if s := text(r); lib.Lang(v, c.Node, s) != lang(v, c.Node, s) {
				t.Errorf("Lang(%d, %q) = %v", c.Node, s, !lang(v, c.Node, s))
			}
			if got := lib.Named(v, c.Node); got != named(v, c.Node) {
				t.Errorf("Named(%d) = %q", c.Node, got)
			}
		}
		if t.Failed() {
			t.Fatalf("in the view %v", v.Changes())
		}
	}
}

// R1, R3, R4

func TestNothingIsTurned(t *testing.T) {
	v, c := sample(t), api.Ctx{Node: 6, Pos: 2, Size: 5}
	changes := v.Changes()
	l := append(make([]int, 0, 6), 9, 4, 99, 13)
	room := append(make([]api.Value, 0, 5), api.Value{Type: api.VNodes, Nodes: l, S: "s"}, str("a"), num(unit))
	for range 2 {
		for name, f := range functions() {
			for n := f.least; n <= min(f.most, 3); n++ {
				agrees(t, v, c, name, room[:n])
			}
		}
		speaks(t, v, 4, "EN", true)
	}
	if !slices.Equal(l[:6], []int{9, 4, 99, 13, 0, 0}) || !reflect.DeepEqual(room[:5], []api.Value{{Type: api.VNodes, Nodes: []int{9, 4, 99, 13}, S: "s"}, str("a"), num(unit), {}, {}}) {
		t.Errorf("values that were handed in were changed: %v, %v", l[:6], room[:5])
	}
	if !reflect.DeepEqual(v.Changes(), changes) || v.Plant(api.Node{Kind: api.Elem, Name: "d"}, 1) != 14 {
		t.Error("a view that was handed in was changed")
	}
	// nor is anything kept of one call for another
	l[1] = 6
	tells(t, v, c, "name", of(ids(6, 9)), str("y"))
	tells(t, v, c, "name", room[:1], str("y"))
}

// Long texts, and as many nodes as a tree may have, and more.
func TestGreatValues(t *testing.T) {
	n := api.Node{Kind: api.Elem, Name: "a"}
	var l []int
	for k := range api.MaxTree {
		n.Kids = append(n.Kids, api.Node{Kind: api.Comment, Text: strconv.Itoa(k)})
		l = append(l, 3+k)
	}
	v := view.New(store.New(), 0)
	put(t, v, 1, api.Rec{Kind: api.Root, Kids: []int{v.Plant(n, 1)}})
	c := api.Ctx{Node: 2}
	tells(t, v, c, "count", of(value.Nodes(l)), num(api.MaxTree*unit))
	tells(t, v, c, "sum", of(value.Nodes(l)), num(api.MaxTree*(api.MaxTree-1)/2*unit))
	tells(t, v, c, "sum", of(value.Nodes(slices.Repeat([]int{4}, 1<<16))), num(unit<<16))
	long := strings.Repeat("日 ", 1<<19)
	s := str(long)
	tells(t, v, c, "string-length", of(s), num(unit<<20))
	tells(t, v, c, "concat", slices.Repeat(of(s), 4), str(strings.Repeat(long, 4)))
	tells(t, v, c, "substring", of(s, num(3*unit)), str(long[4:]))
	tells(t, v, c, "substring", of(s, num(2*unit), num(unit<<19)), str(long[3:1<<20+3]))
	tells(t, v, c, "normalize-space", of(s), str(long[:len(long)-1]))
	tells(t, v, c, "translate", of(s, str("日"), str("")), str(strings.Repeat(" ", 1<<19)))
	tells(t, v, c, "starts-with", of(s, str(long+" ")), no)
	tells(t, v, c, "lang", of(s), no)
}

func TestExamples(t *testing.T) {
	s := str("12345")
	for _, x := range []struct {
		name string
		args []api.Value
		want api.Value
	}{
		{"substring", of(s, num(2*unit), num(3*unit)), str("234")}, {"substring", of(s, num(1500000), num(2600000)), str("234")}, {"substring", of(s, num(0), num(3*unit)), str("12")}, {"substring", of(s, value.Num(nan), num(3*unit)), str("")}, {"substring", of(s, value.Num(under)), str("12345")}, {"substring", of(s, value.Num(under), value.Num(over)), str("")},
		{"translate", of(str("bar"), str("abc"), str("AB")), str("BAr")}, {"round", of(num(-2500000)), num(-2 * unit)},
	} {
		tells(t, sample(t), api.Ctx{Node: 1, Pos: 1, Size: 1}, x.name, x.args, x.want)
	}
}
