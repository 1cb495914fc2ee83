package check_test

import (
	"math"
	"math/rand"
	"reflect"
	"slices"
	"strconv"
	"strings"
	"testing"

	"breviary/api"
	"breviary/check"
	"breviary/print"
	"breviary/syntax"
)

// Expressions, as they are told.

func of(op int, kids ...api.Expr) api.Expr     { return api.Expr{Op: op, Kids: kids} }
func neg(a api.Expr) api.Expr                  { return of(api.ENeg, a) }
func union(a, b api.Expr) api.Expr             { return of(api.EUnion, a, b) }
func filter(kids ...api.Expr) api.Expr         { return of(api.EFilter, kids...) }
func lit(s string) api.Expr                    { return api.Expr{Op: api.ELit, S: s} }
func variable(s string) api.Expr               { return api.Expr{Op: api.EVar, S: s} }
func num(n int64) api.Expr                     { return api.Expr{Op: api.ENum, N: api.Dec{V: n * api.Unit}} }
func call(s string, kids ...api.Expr) api.Expr { return api.Expr{Op: api.ECall, S: s, Kids: kids} }
func path(steps ...api.Step) api.Expr          { return api.Expr{Op: api.EPath, Steps: steps} }
func root(steps ...api.Step) api.Expr          { return api.Expr{Op: api.EPath, Abs: true, Steps: steps} }
func from(e api.Expr, steps ...api.Step) api.Expr {
	return api.Expr{Op: api.EPath, Kids: []api.Expr{e}, Steps: steps}
}

// child is the step to children of a name.
func child(name string, preds ...api.Expr) api.Step {
	return api.Step{Axis: api.AxChild, T: api.Test{Kind: api.TestName, Name: name}, Preds: preds}
}

// named is the path to children of a name.
func named(name string, preds ...api.Expr) api.Expr { return path(child(name, preds...)) }

// times is one expression so many times.
func times(n int, e api.Expr) []api.Expr { return slices.Repeat([]api.Expr{e}, n) }

// The chapter's words once more, to hold the package against.

// rows is the chapter's table of the functions.
const rows = `last, position | 0 | 0 | | VNum
count, sum | 1 | 1 | yes | VNum
local-name, name, namespace-uri | 0 | 1 | yes | VStr
string, normalize-space | 0 | 1 | | VStr
concat | 2 | 120 | | VStr
starts-with, contains | 2 | 2 | | VBool
substring-before, substring-after | 2 | 2 | | VStr
substring | 2 | 3 | | VStr
translate | 3 | 3 | | VStr
string-length | 0 | 1 | | VNum
boolean, not, lang | 1 | 1 | | VBool
true, false | 0 | 0 | | VBool
number | 0 | 1 | | VNum
floor, ceiling, round | 1 | 1 | | VNum`

// functions is the table by names.
func functions() map[string]api.Func {
	types := map[string]int{"VNodes": api.VNodes, "VBool": api.VBool, "VNum": api.VNum, "VStr": api.VStr}
	all := map[string]api.Func{}
	for row := range strings.Lines(rows) {
		cells := strings.Split(row, "|")
		for i, c := range cells {
			cells[i] = strings.TrimSpace(c)
		}
		least, _ := strconv.Atoi(cells[1])
		most, _ := strconv.Atoi(cells[2])
		for _, name := range strings.Split(cells[0], ", ") {
			all[name] = api.Func{Least: least, Most: most, Nodes: cells[3] == "yes", Type: types[cells[4]]}
		}
	}
	return all
}

// names is the functions' names, rising.
func names() (all []string) {
	for name := range functions() {
		all = append(all, name)
	}
	slices.Sort(all)
	return all
}

// judge holds expressions against the table.
type judge struct{ functions map[string]api.Func }

func newJudge() judge { return judge{functions()} }

// typed is the type that an expression has, if nothing is wrong with it: its Op, and its function, tell it (P15.4).
func (j judge) typed(e api.Expr) int {
	switch {
	case e.Op == api.ECall:
		return j.functions[e.S].Type
	case e.Op <= api.EGe:
		return api.VBool
	case e.Op <= api.EMod || e.Op == api.ENeg || e.Op == api.ENum:
		return api.VNum
	case e.Op == api.ELit:
		return api.VStr
	case e.Op == api.EVar:
		return 0
	}
	return api.VNodes
}

// faults is all that is wrong with an expression within so many predicates, in the order in which it is asked.
func (j judge) faults(e api.Expr, within int) (all []api.Errno) {
	if e.Op == api.EVar {
		return []api.Errno{api.ErrFunc}
	}
	kids, preds := e.Kids, []api.Expr(nil)
	f, is := j.functions[e.S]
	must := e.Op == api.EUnion || e.Op == api.EPath || e.Op == api.EFilter || e.Op == api.ECall && f.Nodes
	switch e.Op {
	case api.ECall:
		if !is {
			all = append(all, api.ErrFunc)
		} else if len(kids) < f.Least || len(kids) > f.Most {
			all = append(all, api.ErrArity)
		}
	case api.EFilter:
		kids, preds = kids[:1], kids[1:]
	case api.EPath:
		for _, s := range e.Steps {
			preds = append(preds, s.Preds...)
		}
	}
	for _, k := range kids {
		all = append(all, j.faults(k, within)...)
	}
	for _, k := range kids {
		if must && j.typed(k) != api.VNodes {
			all = append(all, api.ErrType)
		}
	}
	for _, p := range preds {
		if within >= 2 {
			all = append(all, api.ErrNest)
		}
		all = append(all, j.faults(p, within+1)...)
	}
	return all
}

// answer is what Type has to tell.
func (j judge) answer(e api.Expr) (int, api.Errno) {
	if !print.Right(e) {
		return 0, api.ErrArg
	}
	if all := j.faults(e, 0); len(all) > 0 {
		return 0, all[0]
	}
	return j.typed(e), api.OK
}

// types holds an expression against the chapter's words, and tells the error.
func (j judge) types(t *testing.T, e api.Expr) api.Errno {
	t.Helper()
	want, wrong := j.answer(e)
	if got, e1 := check.Type(e); got != want || e1 != wrong {
		t.Errorf("Type(%.300q of %v) = %d, %d, not %d, %d", print.Expr(e), e, got, int(e1), want, int(wrong))
	}
	return wrong
}

// holds holds an expression, and its text, against the chapter's words, and tells the error.
func (j judge) holds(t *testing.T, e api.Expr) api.Errno {
	t.Helper()
	wrong := j.types(t, e)
	s := print.Expr(e)
	if back, e1 := syntax.Parse(s); e1 == api.OK && syntax.Same(back, e) {
		j.compiles(t, s)
	}
	return wrong
}

// compiles holds a text against the chapter's words, and tells the error.
func (j judge) compiles(t *testing.T, s string) api.Errno {
	t.Helper()
	want, wrong := syntax.Parse(s)
	kind := 0
	if wrong == api.OK {
		kind, wrong = j.answer(want)
	}
	if wrong != api.OK {
		want = api.Expr{}
	}
	if got, k, e1 := check.Compile(s); !reflect.DeepEqual(got, want) || k != kind || e1 != wrong {
		t.Errorf("Compile(%q) = %v, %d, %d, not %v, %d, %d", s, got, k, int(e1), want, kind, int(wrong))
	}
	return wrong
}

// is asks whether texts are compiled, to this type.
func is(t *testing.T, kind int, all ...string) {
	t.Helper()
	j := newJudge()
	for _, s := range all {
		want, _ := syntax.Parse(s)
		if e, k, wrong := check.Compile(s); wrong != api.OK || k != kind || !reflect.DeepEqual(e, want) {
			t.Errorf("Compile(%q) = %v, %d, %d, not %d", s, e, k, int(wrong), kind)
		}
		if k, wrong := check.Type(want); wrong != api.OK || k != kind {
			t.Errorf("Type of %q = %d, %d, not %d", s, k, int(wrong), kind)
		}
		j.compiles(t, s)
	}
}

// refused asks whether texts are refused by Compile, and what is parsed of them by Type, with this error.
func refused(t *testing.T, want api.Errno, all ...string) {
	t.Helper()
	j := newJudge()
	for _, s := range all {
		if e, k, wrong := check.Compile(s); wrong != want || k != 0 || !reflect.DeepEqual(e, api.Expr{}) {
			t.Errorf("Compile(%q) = %v, %d, %d, not %d", s, e, k, int(wrong), int(want))
		}
		if e, wrong := syntax.Parse(s); wrong == api.OK {
			if k, wrong := check.Type(e); wrong != want || k != 0 {
				t.Errorf("Type of %q = %d, %d, not %d", s, k, int(wrong), int(want))
			}
		}
		j.compiles(t, s)
	}
}

// P15.1

func TestFunctions(t *testing.T) {
	all := functions()
	if len(all) != 26 {
		t.Fatalf("%d functions", len(all))
	}
	for name, want := range all {
		if got, is := check.Func(name); !is || got != want {
			t.Errorf("Func(%q) = %v, %v, not %v", name, got, is, want)
		}
	}
}

func TestFunctionsThatThereAreNot(t *testing.T) {
	all := functions()
	none := []string{"", " ", "id", "key", "document", "current", "foo", "comment", "text", "processing-instruction", "node", "or", "and", "div", "mod", "child", "self", "local_name", "localname", "string-before", "starts", "ends-with", "lower-case", "\xff", "fn:count", "日本", "\x00", strings.Repeat("a", 1<<16)}
	for name := range all {
		none = append(none, strings.ToUpper(name), strings.ToUpper(name[:1])+name[1:], name+" ", " "+name, name+"()", name+"\x00", name+name, name+"-", "$"+name)
		for i := range len(name) {
			none = append(none, name[:i], name[i+1:], name[:i]+name[i+1:], name[:i]+"x"+name[i+1:], name[:i]+"-"+name[i:])
		}
	}
	for _, name := range none {
		if _, is := all[name]; is {
			continue
		}
		if f, is := check.Func(name); is || f != (api.Func{}) {
			t.Errorf("Func(%q) = %v, %v", name, f, is)
		}
	}
}

// P15.2

func TestTypesOfOperators(t *testing.T) {
	for _, op := range []string{"or", "and", "=", "!=", "<", "<=", ">", ">="} {
		for _, a := range []string{"a", "1", "'a'", "true()"} {
			for _, b := range []string{"a", "1", "'a'", "true()"} {
				is(t, api.VBool, a+" "+op+" "+b)
			}
		}
	}
	for _, op := range []string{"+", "-", "*", "div", "mod"} {
		for _, a := range []string{"a", "1", "'a'", "true()"} {
			for _, b := range []string{"a", "1", "'a'", "true()"} {
				is(t, api.VNum, a+" "+op+" "+b)
			}
		}
	}
	is(t, api.VNum, "-a", "-1", "-'a'", "-true()", "--a", "-a|b", "-(a = b)")
}

func TestUnions(t *testing.T) {
	sides := []string{"a", "/", "@a", "a/b", "//a", ".", "..", "(a)", "(a)[1]", "(a)/b", "(a|b)"}
	for _, a := range sides {
		for _, b := range sides {
			is(t, api.VNodes, a+" | "+b, a+"|"+b+"|"+a)
		}
		for _, b := range []string{"1", "'a'", "true()", "string()", "name(a)", "count(a)", "(a = b)", "(a + b)", "(-a)", "(a or b)"} {
			refused(t, api.ErrType, a+" | "+b, b+" | "+a, a+" | "+a+" | "+b, a+" | "+b+" | "+a, b+" | "+b)
		}
	}
}

func TestTypesOfPrimaries(t *testing.T) {
	is(t, api.VStr, "'x'", "''", `"it's"`, "('x')", "'count(1)'")
	is(t, api.VNum, "1", "0", ".5", "1.", "((1))", "9223372036854.775807")
	refused(t, api.ErrFunc, "$v", "($v)", "$count", "$v + 1", "1 + $v", "-$v", "count($v)", "string($v)", "$v[1]", "$v/a", "a[$v]", "(a)[$v]", "a | $v", "$v | 1")
	for op, want := range map[int]int{api.ELit: api.VStr, api.ENum: api.VNum} {
		if got, e := check.Type(api.Expr{Op: op}); got != want || e != api.OK {
			t.Errorf("Type of an empty one of Op %d: %d, %d", op, got, int(e))
		}
	}
}

// Each function with each number of arguments, of each type.
func TestCalls(t *testing.T) {
	args := map[int]api.Expr{api.VNodes: named("a"), api.VBool: call("true"), api.VNum: num(1), api.VStr: lit("a")}
	j := newJudge()
	for name, f := range functions() {
		for n := range 125 {
			for kind, arg := range args {
				want, wrong := f.Type, api.OK
				switch {
				case n < f.Least || n > f.Most:
					want, wrong = 0, api.ErrArity
				case n > 0 && f.Nodes && kind != api.VNodes:
					want, wrong = 0, api.ErrType
				}
				e := call(name, times(n, arg)...)
				if got, e1 := check.Type(e); got != want || e1 != wrong {
					t.Errorf("Type of %s of %d times %v = %d, %d, not %d, %d", name, n, arg, got, int(e1), want, int(wrong))
				}
				j.holds(t, e)
			}
		}
	}
}

func TestCallsOfNoFunction(t *testing.T) {
	j := newJudge()
	for _, name := range []string{"foo", "id", "Count", "or", "self", "count1", "日本"} {
		for n := range 5 {
			for _, arg := range []api.Expr{named("a"), num(1), call("true", num(1))} {
				e := call(name, times(n, arg)...)
				if got, e1 := check.Type(e); got != 0 || e1 != api.ErrFunc {
					t.Errorf("Type of %s of %d times %v = %d, %d", name, n, arg, got, int(e1))
				}
				j.holds(t, e)
			}
		}
	}
}

func TestArgumentsThatMustBeNodes(t *testing.T) {
	for _, f := range []string{"count", "sum", "local-name", "name", "namespace-uri"} {
		kind := functions()[f].Type
		for _, arg := range []string{"a", "/", "//a[1]", "..", "@a", "a|b", "(a)[1]", "(a|b)/c", "((a))"} {
			is(t, kind, f+"("+arg+")")
		}
		for _, arg := range []string{"1", "'a'", "true()", "a + b", "a = b", "-a", "count(a)", "name()", "string(a)", "(1)", "position()"} {
			refused(t, api.ErrType, f+"("+arg+")")
		}
	}
	// of all others any will do
	is(t, api.VStr, "string(1)", "string(a)", "string(true())", "string('a')", "concat(a, 1, 'a', true())", "substring(1, 'a')", "substring(a, b, c)", "translate(1, 2, 3)", "normalize-space(1)", "substring-before(1, 2)", "substring-after(a, true())")
	is(t, api.VBool, "lang(1)", "not(1)", "boolean('a')", "boolean(a)", "starts-with(1, a)", "contains(true(), 'a')")
	is(t, api.VNum, "number(a)", "number('a')", "floor(a)", "ceiling('a')", "round(true())", "string-length(1)")
}

func TestTypesOfPaths(t *testing.T) {
	is(t, api.VNodes, "/", ".", "..", "a", "@a", "//a", "a/b/c", "/a", "ancestor::a", "text()", "*", "processing-instruction('a')", "a[1]", "a['x']", "a[b]", "a[true()]", "a[1][2][3]", "a[1]/b[2]/c[3]", "a[last()]", "a[position() = 2]")
	is(t, api.VNodes, "(a)/b", "(a|b)/c", "(a)[1]/b", "((a)/b)/c", "(/)/a", "(//a)//b[1]")
	refused(t, api.ErrType, "1/a", "'a'/a", "true()/a", "name()/a", "count(a)/a", "(a = b)/a", "(a + b)/a", "(-a)/a", "1//a", "(1)/a/b/c", "string(a)/a[1]")
}

func TestTypesOfFilters(t *testing.T) {
	is(t, api.VNodes, "(a)[1]", "(a)[1][2]", "(a|b)['x']", "((a)[1])[2]", "(/)[1]", "(a)[b]", "(.)[true()]", "(a[1])[2]", "((a)/b)[1]")
	refused(t, api.ErrType, "1[1]", "'a'[1]", "true()[1]", "name()[1]", "(a = b)[1]", "(a + b)[1]", "(-a)[1]", "(1)[1]", "(1[1])[1]", "count(a)[1]", "string(a)[1][2]")
	refused(t, api.ErrType, "(a)[count(1)]", "(a)[1][count(1)]", "(a)[1 | a]", "(count(1))[1]")
}

func TestPredicatesInOneAnother(t *testing.T) {
	is(t, api.VNodes, "a[b]", "a[b[c]]", "(a[b[c]])[d]", "(a[b[c]])[d[e]]", "a[b[c][d]]/e[f[g]]", "a[b][c][d][e]", "a[b[c]][d[e]]", "a[(b[c])[d]]", "a[((b)[c])[d]]", "(((a)[b])[c])[d]", "a[(b[c])/d[e]]", "(a[b[c]])/d[e[f]]", "a[b[c] | d[e]]", "a[-b[c]]", "(a)[(b)[c]]")
	is(t, api.VNum, "count(a[count(b[count(c)])])", "a[b[c]] + a[b[c]]", "-a[b[c]]")
	is(t, api.VBool, "a[b[c]] = d[e[f]]", "not(a[not(b[not(c)])])")
	refused(t, api.ErrNest, "a[b[c[d]]]", "a[(b[c[d]])]", "(a)[b[c[d]]]", "(a)[(b)[(c)[d]]]", "a[(b)[(c)[d]]]", "a[b[(c)[d]]]", "(a)[b[c[1]]]", "a[b[c[d]]][e]", "a[b][c[d[e]]]", "a[b[c[d[e]]]]")
	refused(t, api.ErrNest, "a[(b[c[d]])[e]]", "a[(b[c])[d[e]]]", "a[b/c[d/e[f]]]", "a[b[c]/d[e[f]]]", "a[(b)/c[d[e]]]", "a[(b[c[d]])/e]", "/a/b[c/d[e/f[g]]]", "//a[.//b[.//c[1]]]")
	refused(t, api.ErrNest, "a[count(b[count(c[d])])]", "a[-b[-c[d]]]", "a[b[c[d]] = e]", "a[e = b[c[d]]]", "a[b[c[d]] + 1]", "a[1 + b[c[d]]]", "a[e | b[c[d]]]", "a[b[c[d]] | e]", "a[b[e or c[d]]]", "a[concat('', b[concat('', c[d])])]")
	refused(t, api.ErrNest, "count(a[b[c[d]]])", "-a[b[c[d]]]", "1 + a[b[c[d]]]", "a[b[c[d]]] | e", "e | a[b[c[d]]]", "(a[b[c[d]]])/e", "(a[b[c[d]]])[e]", "a/e[1]/f[b[c[d]]]")
}

// Parts are asked in order, ahead of what they are parts of: but for a call, and what predicates are of.
func TestWhatIsWrongFirst(t *testing.T) {
	for _, op := range []string{" or ", " and ", "=", "!=", "<", "<=", ">", ">=", "+", " - ", "*", " div ", " mod ", "|"} {
		refused(t, api.ErrFunc, "foo()"+op+"true(1)", "1"+op+"foo()", "foo()"+op+"1", "$v"+op+"true(1)")
		refused(t, api.ErrArity, "true(1)"+op+"foo()", "1"+op+"true(1)", "true(1)"+op+"1", "true(1)"+op+"$v")
		refused(t, api.ErrType, "count(1)"+op+"foo()", "1[1]"+op+"true(1)", "1/a"+op+"a[b[c[d]]]")
		refused(t, api.ErrNest, "a[b[c[d]]]"+op+"foo()", "1"+op+"a[b[c[d]]]")
	}
	refused(t, api.ErrFunc, "foo(true(1))", "foo(a[b[c[d]]])", "foo(1/a)", "count(foo())", "count(foo(true(1)))", "concat(foo(), true(1))", "concat(1, foo(), true(1))")
	refused(t, api.ErrArity, "true(foo())", "true(1/a)", "count(1, foo())", "count(foo(), 1)", "count()", "count(true(1))", "concat(foo())", "concat($v)", "sum(1, 2)", "concat(true(1), foo())", "name(1, 2)", "substring(1)", "substring(1, 2, 3, foo())")
	refused(t, api.ErrType, "count(count(1))", "name(1)", "count(1 | foo)", "concat(count(1), foo())", "concat(1, 1/a, true(1))")
	refused(t, api.ErrNest, "count(a[b[c[d]]])", "concat(a[b[c[d]]], foo())", "name(a[b[c[foo()]]])")
	// what predicates are of is asked, and must be nodes, ahead of them
	refused(t, api.ErrType, "1/a[foo()]", "1/a[b[c[d]]]", "1[foo()]", "1[b[c[d]]]", "'a'[true(1)]", "a[b[1[c]]]", "a[b[1/c[d]]]", "a[b[count(1)/c[d]]]")
	refused(t, api.ErrFunc, "foo()/a[true(1)]", "foo()[true(1)]", "$v/a[true(1)]", "$v[true(1)]", "a[b[foo()[c]]]", "a[b[foo()/c[d]]]", "foo(1)[1]")
	refused(t, api.ErrArity, "true(1)/a[foo()]", "true(1)[foo()]", "a[b[true(1)[c]]]")
	refused(t, api.ErrNest, "(a[b[c[d]]])[foo()]", "(a[b[c[d]]])/e[foo()]")
	// predicates, and steps, in order
	refused(t, api.ErrFunc, "a[foo()][true(1)]", "a[foo()]/b[true(1)]", "(a)[foo()][true(1)]", "(a)[1]/b[foo()]/c[true(1)]", "a[b[foo()][c[d]]]", "a[b[foo()]/c[d[e]]]")
	refused(t, api.ErrArity, "a[true(1)][foo()]", "a[true(1)]/b[foo()]", "(a)[true(1)][foo()]", "(a)[true(1)]/b[foo()]", "a[1][2][true(1)]", "a/b/c[true(1)]")
	refused(t, api.ErrType, "a[count(1)][foo()]", "a[1 | a]/b[foo()]", "(a)[count(1)][foo()]")
	// too deep ahead of what is there
	refused(t, api.ErrNest, "a[b[c[foo()]]]", "a[b[c[true(1)]]]", "a[b[c[count(1)]]]", "(a)[(b)[(c)[foo()]]]", "a[b[c[1]][foo()]]", "a[b[c[1]]/d[foo()]]", "a[b[c[$v]]]")
}

// What may not be is told ahead of all that is wrong, wherever it stands.
func TestExpressionsThatMayNotBe(t *testing.T) {
	j := newJudge()
	nested := func(e api.Expr) api.Expr { return named("a", named("b", named("c", e))) }
	for _, bad := range []api.Expr{{}, {Op: 22}, {Op: -1}, {Op: math.MaxInt}, {Op: math.MinInt}, path(), lit(`'"`), lit("\xff"), {Op: api.ENum, N: api.Dec{V: -1}}, {Op: api.ENum, N: api.Dec{Tag: api.NaN}}, of(api.EAdd, num(1)), of(api.EUnion, named("a")), of(api.ENeg), filter(), filter(named("a")), from(num(1)), named("1"), call(""), call("text"), call("a b"), variable(""), variable("1"), {Op: api.ELit, Kids: times(1, num(1))}, {Op: api.EVar, S: "v", Abs: true}, {Op: api.ECall, S: "true", N: api.Dec{V: 1}}, {Op: api.EPath, Steps: []api.Step{{}}}} {
		for _, e := range []api.Expr{
			bad, neg(bad), of(api.EOr, bad, num(1)), of(api.EGe, num(1), bad), union(num(1), bad), union(bad, num(1)), union(call("foo"), bad), of(api.EAdd, call("true", num(1)), bad),
			call("foo", bad), call("true", bad), call("count", bad), call("count", num(1), bad), call("concat", call("foo"), bad),
			from(bad, child("a")), from(num(1), child("a", bad)), filter(bad, num(1)), filter(num(1), bad), filter(named("a"), call("foo"), bad),
			named("a", bad), named("a", call("foo"), bad), root(child("a", call("foo")), child("b", bad)), nested(bad), of(api.EOr, nested(num(1)), bad), of(api.EOr, variable("v"), bad),
		} {
			if got, wrong := check.Type(e); got != 0 || wrong != api.ErrArg {
				t.Errorf("Type(%v) = %d, %d", e, got, int(wrong))
			}
			j.holds(t, e)
		}
	}
}

// samples tells an expression of each sort: of each type, and with each thing wrong.
func samples() []api.Expr {
	one, a := num(1), named("a")
	all := []api.Expr{a, root(), root(child("a", one)), from(a, child("b")), filter(a, one), neg(one), one, lit("b"), variable("v"), call("foo"), call("true", one), call("count", one), filter(one, one), from(one, child("a")), named("a", named("b")), named("a", named("b", named("c"))), union(a, a), union(a, one), {}}
	for op := api.EOr; op <= api.EMod; op++ {
		all = append(all, of(op, a, one))
	}
	for name, f := range functions() {
		all = append(all, call(name, times(f.Least, a)...))
	}
	return all
}

// around tells what has an expression in one place.
func around(e api.Expr) []api.Expr {
	one, a := num(1), named("a")
	all := []api.Expr{neg(e), from(e, child("a")), from(e, child("a", e)), filter(e, a), filter(a, e), filter(a, e, one), filter(a, one, e), call("foo", e), call("true", e), call("count", e), call("sum", e), call("name", e), call("string", e), call("concat", a, e), call("concat", e, call("foo")), call("number", e), call("not", e), named("a", e), root(child("a", e, one), child("b")), path(child("a"), child("b", e)), from(one, child("a", e)), filter(one, e)}
	for op := api.EOr; op <= api.EUnion; op++ {
		all = append(all, of(op, e, a), of(op, a, e), of(op, e, call("foo")), of(op, call("true", one), e))
	}
	return all
}

// Each sort of expression in each place of each other one, three in one another.
func TestAllPlaces(t *testing.T) {
	j := newJudge()
	count := map[api.Errno]int{}
	for _, inmost := range samples() {
		count[j.holds(t, inmost)]++
		for _, inner := range around(inmost) {
			count[j.holds(t, inner)]++
			for _, e := range around(inner) {
				count[j.types(t, e)]++
			}
		}
		if t.Failed() {
			return
		}
	}
	for _, wrong := range []api.Errno{api.OK, api.ErrArg, api.ErrFunc, api.ErrArity, api.ErrNest, api.ErrType} {
		if count[wrong] < 800 {
			t.Errorf("only %d are answered by %d", count[wrong], int(wrong))
		}
	}
}

// maker makes expressions by chance: those of a type, and now and then another one in its place.
type maker struct {
	*rand.Rand
	names []string
	judge judge
}

func newMaker(seed int64) maker {
	return maker{rand.New(rand.NewSource(seed)), names(), newJudge()}
}

// expr makes one of a type; of one time out of so many, one of another sort. No predicate of it is within more than two.
func (m maker) expr(kind, deep, within, odd int) api.Expr {
	if odd > 0 && m.Intn(odd) == 0 {
		return m.odd(deep, within)
	}
	some := func() api.Expr { return m.expr(1+m.Intn(4), deep-1, within, odd) }
	switch {
	case kind == api.VNodes:
		return m.nodes(deep, within, odd)
	case deep > 0 && m.Intn(3) == 0:
		return m.call(kind, deep, within, odd)
	case kind == api.VStr:
		return lit([]string{"", "a", "it's", `"`}[m.Intn(4)])
	case kind == api.VBool && deep <= 0:
		return call([]string{"true", "false"}[m.Intn(2)])
	case kind == api.VBool:
		return of(api.EOr+m.Intn(8), some(), some())
	case deep <= 0 || m.Intn(4) == 0:
		return num(m.Int63n(100))
	case m.Intn(4) == 0:
		return neg(some())
	}
	return of(api.EAdd+m.Intn(5), some(), some())
}

// odd makes one that is wrong, or of any type.
func (m maker) odd(deep, within int) api.Expr {
	switch m.Intn(4) {
	case 0:
		return variable("v")
	case 1:
		return call("foo", m.args(m.Intn(3), deep, within)...)
	case 2:
		return call(m.names[m.Intn(len(m.names))], m.args(m.Intn(4), deep, within)...)
	}
	return m.expr(1+m.Intn(4), deep-1, max(within-1, 0), 9)
}

// args makes some of any type.
func (m maker) args(n, deep, within int) (all []api.Expr) {
	for range n {
		all = append(all, m.expr(1+m.Intn(4), deep-1, within, 9))
	}
	return all
}

// call makes one of a function of that type, with as many arguments as it has, or a few less.
func (m maker) call(kind, deep, within, odd int) api.Expr {
	for {
		name := m.names[m.Intn(len(m.names))]
		f := m.judge.functions[name]
		if f.Type != kind {
			continue
		}
		e := call(name)
		for range f.Least + m.Intn(min(f.Most, f.Least+3)-f.Least+1) {
			k := api.VNodes
			if !f.Nodes {
				k = 1 + m.Intn(4)
			}
			e.Kids = append(e.Kids, m.expr(k, deep-1, within, odd))
		}
		return e
	}
}

// nodes makes one whose values are nodes.
func (m maker) nodes(deep, within, odd int) api.Expr {
	more := func() api.Expr { return m.expr(api.VNodes, deep-1, within, odd) }
	if deep <= 0 {
		return []api.Expr{root(), named("a"), root(child("b"), child("c"))}[m.Intn(3)]
	}
	switch m.Intn(6) {
	case 0:
		return union(more(), more())
	case 1:
		if preds := m.preds(1, deep, within, odd); len(preds) > 0 {
			return filter(append([]api.Expr{more()}, preds...)...)
		}
	case 2:
		return from(more(), m.steps(deep, within, odd)...)
	case 3:
		return root(m.steps(deep, within, odd)...)
	}
	return path(m.steps(deep, within, odd)...)
}

// steps makes one or more.
func (m maker) steps(deep, within, odd int) (all []api.Step) {
	for range 1 + m.Intn(3) {
		s := child("a", m.preds(0, deep, within, odd)...)
		s.Axis = 1 + m.Intn(12)
		all = append(all, s)
	}
	return all
}

// preds makes at least so many, if there may be any.
func (m maker) preds(least, deep, within, odd int) (all []api.Expr) {
	if within >= 2 {
		return nil
	}
	for range least + m.Intn(3)*m.Intn(2) {
		all = append(all, m.expr(1+m.Intn(4), deep-1, within+1, odd))
	}
	return all
}

func TestMadeExpressionsAreRight(t *testing.T) {
	m := newMaker(15)
	for k := range 20000 {
		kind := 1 + k%4
		e := m.expr(kind, m.Intn(5), 0, 0)
		if got, wrong := check.Type(e); got != kind || wrong != api.OK {
			t.Fatalf("Type(%q) = %d, %d, not %d", print.Expr(e), got, int(wrong), kind)
		}
		m.judge.holds(t, e)
		if t.Failed() {
			return
		}
	}
}

func TestMadeExpressionsThatMayBeWrong(t *testing.T) {
	m := newMaker(151)
	count := map[api.Errno]int{}
	for range 40000 {
		e := m.expr(1+m.Intn(4), 1+m.Intn(4), -m.Intn(2), 4+m.Intn(20))
		if m.Intn(4) == 0 {
			e = of(api.EOr, num(1), named("a", e))
		}
		count[m.judge.holds(t, e)]++
		if t.Failed() {
			return
		}
	}
	for _, wrong := range []api.Errno{api.OK, api.ErrFunc, api.ErrArity, api.ErrNest, api.ErrType} {
		if count[wrong] < 300 {
			t.Errorf("only %d are answered by %d", count[wrong], int(wrong))
		}
	}
}

// wild makes an expression of any fields.
func wild(r *rand.Rand, deep int) api.Expr {
	n := func() int { return []int{0, 1, 2, 14, 15, 16, 17, 20, 21, -1, math.MaxInt, math.MinInt}[r.Intn(12)] }
	s := func() string { return []string{"", "a", "true", "count", "\xff"}[r.Intn(5)] }
	list := func() (l []api.Expr) {
		for range r.Intn(4) * min(deep, 1) {
			l = append(l, wild(r, deep-1))
		}
		return l
	}
	e := api.Expr{Op: n(), S: s(), N: api.Dec{Tag: n(), V: int64(n())}, Abs: r.Intn(2) == 0, Kids: list()}
	if r.Intn(3) > 0 {
		e.N, e.Abs = api.Dec{}, false
	}
	for range r.Intn(3) {
		e.Steps = append(e.Steps, api.Step{Axis: n(), T: api.Test{Kind: n(), Name: s(), Has: r.Intn(2) == 0}, Preds: list()})
	}
	return e
}

func TestExpressionsOfAnyFields(t *testing.T) {
	r, j := rand.New(rand.NewSource(152)), newJudge()
	right := 0
	for range 50000 {
		if j.holds(t, wild(r, r.Intn(4))) != api.ErrArg {
			right++
		}
		if t.Failed() {
			return
		}
	}
	if right < 100 {
		t.Errorf("only %d may be", right)
	}
}

// R1: as deep as things may be nested in one another, and as wide.
func TestDeepAndWideExpressions(t *testing.T) {
	const deep = 1<<16 - 2
	one, a := num(1), named("a")
	for k, wrap := range []func(e api.Expr) api.Expr{
		neg,
		func(e api.Expr) api.Expr { return of(api.EAdd, e, one) },
		func(e api.Expr) api.Expr { return call("number", e) },
		func(e api.Expr) api.Expr { return union(e, a) },
		func(e api.Expr) api.Expr { return union(a, e) },
		func(e api.Expr) api.Expr { return filter(e, one) },
		func(e api.Expr) api.Expr { return from(e, child("a")) },
		func(e api.Expr) api.Expr { return from(e, child("a", named("b", one))) },
	} {
		right, wrong, bad := a, call("true", one), api.Expr{}
		for range deep {
			right, wrong, bad = wrap(right), wrap(wrong), wrap(bad)
		}
		want := api.VNum
		if k > 2 {
			want = api.VNodes
		}
		if got, e := check.Type(right); got != want || e != api.OK {
			t.Errorf("%d: Type of a deep one = %d, %d", k, got, int(e))
		}
		if got, e := check.Type(wrong); got != 0 || e != api.ErrArity {
			t.Errorf("%d: Type of a deep one that is wrong = %d, %d", k, got, int(e))
		}
		if got, e := check.Type(bad); got != 0 || e != api.ErrArg {
			t.Errorf("%d: Type of a deep one that may not be = %d, %d", k, got, int(e))
		}
	}
	nest := one
	for range deep / 2 {
		nest = named("a", nest)
	}
	if got, e := check.Type(nest); got != 0 || e != api.ErrNest {
		t.Errorf("Type of predicates in one another = %d, %d", got, int(e))
	}
	steps := path()
	for range 1 << 16 {
		steps.Steps = append(steps.Steps, child("a", one))
	}
	if got, e := check.Type(steps); got != api.VNodes || e != api.OK {
		t.Errorf("Type of many steps = %d, %d", got, int(e))
	}
	if got, e := check.Type(filter(append(times(1<<16, a), call("foo"))...)); got != 0 || e != api.ErrFunc {
		t.Errorf("Type of many predicates = %d, %d", got, int(e))
	}
	if got, e := check.Type(call("concat", times(1<<16, a)...)); got != 0 || e != api.ErrArity {
		t.Errorf("Type of many arguments = %d, %d", got, int(e))
	}
}

// P15.3

// What Parse refuses is refused with its error, whatever else would be wrong.
func TestTextsThatAreNoExpressions(t *testing.T) {
	long := "concat(" + strings.Repeat("1,", 200) + "1)"
	nested := strings.Repeat("string(", 13) + strings.Repeat(")", 13)
	refused(t, api.ErrSyntax, "", "a[", "()", "a/", "foo::a", "1 +", "count(1", "foo() +", "count(1) | -a", "$v + ", "$v $v", "true(1))", "a[b[c[d]]")
	refused(t, api.ErrLex, "a b", "a:b", "#", "'a", "count(1) #", "foo() foo()", "a[b[c[d]]] b", "fn:count(1)", "9223372036854.775808")
	refused(t, api.ErrChar, "a\xff", "\x00", "count(1)\xff", "foo('\ufffe')")
	refused(t, api.ErrLong, strings.Repeat("a", 401), long, "foo()"+strings.Repeat(" ", 400), strings.Repeat("1+", 60)+"1")
	refused(t, api.ErrNest, nested, strings.Repeat("(", 13)+"a"+strings.Repeat(")", 13), "foo("+nested+")", "true("+nested+")")
	is(t, api.VStr, strings.Repeat("string(", 12)+strings.Repeat(")", 12))
	is(t, api.VNodes, strings.Repeat("(", 12)+"a"+strings.Repeat(")", 12), strings.Repeat("a", 32))
	is(t, api.VStr, "concat("+strings.Repeat("1,", 57)+"1)")
	is(t, api.VNum, strings.Repeat("1+", 59)+"1")
}

func TestNamesThatAreTooLong(t *testing.T) {
	refused(t, api.ErrLex, strings.Repeat("a", 33), strings.Repeat("a", 33)+"()")
	refused(t, api.ErrFunc, strings.Repeat("a", 32)+"()")
}

// All short rows of words that are an expression.
func TestAllShortRows(t *testing.T) {
	j := newJudge()
	rows := []string{""}
	count := map[api.Errno]int{}
	for range 5 {
		var longer []string
		for _, row := range rows {
			for _, w := range []string{"a", "1", "'b'", "$v", "count(", "foo(", "true(", ")", "[", "]", "/", "|", "="} {
				s := row + w + " "
				longer = append(longer, s)
				count[j.compiles(t, s)]++
			}
			if t.Failed() {
				return
			}
		}
		rows = longer
	}
	for wrong, least := range map[api.Errno]int{api.OK: 200, api.ErrFunc: 500, api.ErrArity: 200, api.ErrType: 300, api.ErrSyntax: 5000, api.ErrLex: 5000} {
		if count[wrong] < least {
			t.Errorf("only %d are answered by %d", count[wrong], int(wrong))
		}
	}
}

// Texts of expressions with some bytes turned.
func TestTextsWithBytesTurned(t *testing.T) {
	m := newMaker(153)
	const bytes = "ab1()[]/|@'\"$,.*=+- \xff#"
	for range 30000 {
		s := []byte(print.Expr(m.expr(1+m.Intn(4), m.Intn(4), 0, 20)))
		for range m.Intn(3) {
			i := m.Intn(len(s))
			switch m.Intn(3) {
			case 0:
				s[i] = bytes[m.Intn(len(bytes))]
			case 1:
				s = slices.Insert(s, i, bytes[m.Intn(len(bytes))])
			case 2:
				s = append(slices.Delete(s, i, i+1), ' ')
			}
		}
		m.judge.compiles(t, string(s))
		if t.Failed() {
			return
		}
	}
}

// P15.4

// Whatever stands in an expression, it has one type, if it has one.
func TestTypesHangOnOpsAndFunctions(t *testing.T) {
	m := newMaker(154)
	types := map[string]int{}
	for range 60000 {
		e := m.expr(1+m.Intn(4), 1+m.Intn(3), 0, 30)
		got, wrong := check.Type(e)
		if wrong != api.OK {
			continue
		}
		key := strconv.Itoa(e.Op)
		if e.Op == api.ECall {
			key = e.S
		}
		if was, is := types[key]; is && was != got {
			t.Fatalf("Type(%q) = %d, but of another one of %s %d", print.Expr(e), got, key, was)
		}
		types[key] = got
	}
	// all Ops but ECall and EVar, and all functions
	if len(types) != 19+26 {
		t.Errorf("only %d sorts: %v", len(types), types)
	}
	for name, f := range functions() {
		if types[name] != f.Type {
			t.Errorf("%s is of type %d", name, types[name])
		}
	}
}

// R3, R4

// rooms is the expression with all that stands in the spare room of its lists.
func rooms(e api.Expr) api.Expr {
	list := func(l []api.Expr) (all []api.Expr) {
		for _, k := range l[:cap(l)] {
			all = append(all, rooms(k))
		}
		return all
	}
	e.Kids, e.Steps = list(e.Kids), slices.Clone(e.Steps[:cap(e.Steps)])
	for i := range e.Steps {
		e.Steps[i].Preds = list(e.Steps[i].Preds)
	}
	return e
}

// roomy is the expression with room to spare in all its lists, where something wrong stands.
func roomy(e api.Expr) api.Expr {
	list := func(l []api.Expr) []api.Expr {
		all := make([]api.Expr, 0, len(l)+2)
		for _, k := range l {
			all = append(all, roomy(k))
		}
		return append(all, variable("v"), api.Expr{})[:len(l)]
	}
	e.Kids = list(e.Kids)
	all := make([]api.Step, 0, len(e.Steps)+1)
	for _, s := range e.Steps {
		s.Preds = list(s.Preds)
		all = append(all, s)
	}
	e.Steps = append(all, api.Step{})[:len(e.Steps)]
	return e
}

func TestExpressionsAreOnlyAsked(t *testing.T) {
	m := newMaker(155)
	for k := range 4000 {
		e := m.expr(1+m.Intn(4), 3, 0, 8)
		if k%4 == 0 {
			e = wild(m.Rand, 3)
		}
		want, wrong := check.Type(e)
		e = roomy(e)
		kept := rooms(e)
		if got, e1 := check.Type(e); got != want || e1 != wrong {
			t.Fatalf("Type(%v) hangs on what stands behind its lists", e)
		}
		if !reflect.DeepEqual(rooms(e), kept) {
			t.Fatalf("Type turned %v", e)
		}
	}
}

// spoil wipes all lists of an expression, their spare room, too.
func spoil(e api.Expr) {
	for _, k := range e.Kids {
		spoil(k)
	}
	for _, s := range e.Steps {
		for _, k := range s.Preds {
			spoil(k)
		}
		clear(s.Preds[:cap(s.Preds)])
	}
	clear(e.Kids[:cap(e.Kids)])
	clear(e.Steps[:cap(e.Steps)])
}

func TestAnswersShareNothing(t *testing.T) {
	m := newMaker(156)
	for range 3000 {
		s := print.Expr(m.expr(1+m.Intn(4), m.Intn(4), 0, 0))
		want, wrong := syntax.Parse(s)
		if wrong != api.OK {
			continue
		}
		one, _, _ := check.Compile(s)
		other, _, _ := check.Compile(s)
		spoil(other)
		if !syntax.Same(one, want) {
			t.Fatalf("an answer to %q hangs on another one", s)
		}
		m.judge.compiles(t, s)
	}
}

func TestExamples(t *testing.T) {
	is(t, api.VNum, "count(//a) + 1")
	refused(t, api.ErrType, "count(1)", "1 | a", "'a'[1]")
	refused(t, api.ErrFunc, "foo()", "$v")
	refused(t, api.ErrArity, "true(1)")
	refused(t, api.ErrNest, "a[b[c[d]]]")
}
