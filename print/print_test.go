package print_test

import (
	"math"
	"math/rand"
	"reflect"
	"slices"
	"strings"
	"testing"

	"breviary/api"
	"breviary/char"
	"breviary/figure"
	"breviary/lex"
	"breviary/print"
	"breviary/syntax"
)

// Expressions, as they are told.

func of(op int, kids ...api.Expr) api.Expr     { return api.Expr{Op: op, Kids: kids} }
func neg(a api.Expr) api.Expr                  { return of(api.ENeg, a) }
func filter(kids ...api.Expr) api.Expr         { return of(api.EFilter, kids...) }
func lit(s string) api.Expr                    { return api.Expr{Op: api.ELit, S: s} }
func variable(s string) api.Expr               { return api.Expr{Op: api.EVar, S: s} }
func num(n int64) api.Expr                     { return api.Expr{Op: api.ENum, N: api.Dec{V: n * api.Unit}} }
func call(s string, kids ...api.Expr) api.Expr { return api.Expr{Op: api.ECall, S: s, Kids: kids} }
func path(steps ...api.Step) api.Expr          { return api.Expr{Op: api.EPath, Steps: steps} }
func root(steps ...api.Step) api.Expr          { return api.Expr{Op: api.EPath, Abs: true, Steps: steps} }
func from(e api.Expr, steps ...api.Step) api.Expr {
	return api.Expr{Op: api.EPath, Kids: []api.Expr{e}, Steps: steps}
}

// by is a step by an axis and a test.
func by(a int, t api.Test, preds ...api.Expr) api.Step {
	return api.Step{Axis: a, T: t, Preds: preds}
}

// child is the step to children of a name.
func child(name string, preds ...api.Expr) api.Step {
	return by(api.AxChild, api.Test{Kind: api.TestName, Name: name}, preds...)
}

// named is the path to children of a name.
func named(name string, preds ...api.Expr) api.Expr { return path(child(name, preds...)) }

// marks is the operators with two sides, by their Ops.
func marks() []string {
	return []string{"", "or", "and", "=", "!=", "<", "<=", ">", ">=", "+", "-", "*", "div", "mod", "|"}
}

// axes is the names of all axes, by their numbers.
func axes() []string {
	return []string{"", "child", "descendant", "parent", "ancestor", "following-sibling", "preceding-sibling", "following", "preceding", "attribute", "self", "descendant-or-self", "ancestor-or-self"}
}

// The chapter's words once more, to hold the package against.

// may asks whether an expression may be: what is left, when the fields that its Op has are taken off, is nothing.
func may(e api.Expr) bool {
	rest, is := e, true
	rest.Op = 0
	switch {
	case e.Op >= api.EOr && e.Op <= api.EUnion:
		rest.Kids, is = nil, len(e.Kids) == 2
	case e.Op == api.ENeg:
		rest.Kids, is = nil, len(e.Kids) == 1
	case e.Op == api.EFilter:
		rest.Kids, is = nil, len(e.Kids) > 1
	case e.Op == api.EPath:
		rest.Kids, rest.Steps, rest.Abs = nil, nil, false
		switch {
		case len(e.Kids) > 1 || len(e.Kids) == 1 && e.Abs:
			is = false
		case len(e.Kids) == 1 || !e.Abs:
			is = len(e.Steps) > 0
		}
	case e.Op == api.ELit:
		rest.S, is = "", mayStand(e.S)
	case e.Op == api.ENum:
		rest.N, is = api.Dec{}, e.N.Tag == api.Num && e.N.V >= 0
	case e.Op == api.ECall:
		rest.S, rest.Kids = "", nil
		is = char.Name(e.S) && !slices.Contains([]string{"comment", "text", "processing-instruction", "node"}, e.S)
	case e.Op == api.EVar:
		rest.S, is = "", char.Name(e.S)
	default:
		is = false
	}
	return is && reflect.DeepEqual(empty(rest), api.Expr{}) && !slices.ContainsFunc(e.Kids, mayNot) && !slices.ContainsFunc(e.Steps, stepMayNot)
}

// empty is an expression whose lists without parts are none at all.
func empty(e api.Expr) api.Expr {
	if len(e.Kids) == 0 {
		e.Kids = nil
	}
	if len(e.Steps) == 0 {
		e.Steps = nil
	}
	return e
}

// mayNot asks whether one may not be.
func mayNot(e api.Expr) bool { return !may(e) }

// stepMayNot asks whether a step may not be.
func stepMayNot(s api.Step) bool {
	if s.Axis < 1 || s.Axis > 12 || slices.ContainsFunc(s.Preds, mayNot) {
		return true
	}
	switch s.T.Kind {
	case api.TestName:
		return s.T.Has || !char.Name(s.T.Name)
	case api.TestAny, api.TestNode, api.TestTexts, api.TestComment:
		return s.T.Has || s.T.Name != ""
	case api.TestPI:
		return !s.T.Has && s.T.Name != "" || !mayStand(s.T.Name)
	}
	return true
}

// mayStand asks whether a text may stand in quotes, or in apostrophes.
func mayStand(s string) bool {
	return char.Text(s) && strings.Count(s, "'")*strings.Count(s, `"`) == 0
}

// rank is the chapter's.
func rank(e api.Expr) int {
	if e.Op == api.EPath && len(e.Steps) == 0 {
		return 0
	}
	return []int{0, 1, 2, 3, 3, 4, 4, 4, 4, 5, 5, 6, 6, 6, 8, 7, 9, 10, 10, 10, 10, 10}[e.Op]
}

// text is the text of an expression that may be.
func text(e api.Expr) string {
	brackets := func(e api.Expr, are bool) string {
		if are {
			return "(" + text(e) + ")"
		}
		return text(e)
	}
	switch e.Op {
	case api.ENeg:
		return "-" + brackets(e.Kids[0], rank(e.Kids[0]) < 7)
	case api.EPath:
		s := strings.Repeat("/", truth(e.Abs))
		for _, k := range e.Kids {
			s = brackets(k, rank(k) < 10) + "/"
		}
		for i, st := range e.Steps {
			s += strings.Repeat("/", min(i, 1)) + axes()[st.Axis] + "::" + tested(st.T) + predicates(st.Preds)
		}
		return s
	case api.EFilter:
		k := e.Kids[0]
		return brackets(k, rank(k) < 10 || k.Op == api.EFilter) + predicates(e.Kids[1:])
	case api.ELit:
		return quoted(e.S)
	case api.ENum:
		return figure.Show(e.N)
	case api.EVar:
		return "$" + e.S
	case api.ECall:
		var args []string
		for _, k := range e.Kids {
			args = append(args, text(k))
		}
		return e.S + "(" + strings.Join(args, ", ") + ")"
	}
	left, right := e.Kids[0], e.Kids[1]
	return brackets(left, rank(left) < rank(e)) + " " + marks()[e.Op] + " " + brackets(right, rank(right) <= rank(e))
}

// truth is 1, or 0.
func truth(is bool) int {
	if is {
		return 1
	}
	return 0
}

// tested is a test as a text.
func tested(t api.Test) string {
	if t.Kind == api.TestPI && t.Has {
		return "processing-instruction(" + quoted(t.Name) + ")"
	}
	return map[int]string{api.TestName: t.Name, api.TestAny: "*", api.TestNode: "node()", api.TestTexts: "text()", api.TestComment: "comment()", api.TestPI: "processing-instruction()"}[t.Kind]
}

// quoted is a text in quotes, or in apostrophes.
func quoted(s string) string {
	if strings.Contains(s, `"`) {
		return "'" + s + "'"
	}
	return `"` + s + `"`
}

// predicates is some behind one another.
func predicates(preds []api.Expr) (s string) {
	for _, p := range preds {
		s += "[" + text(p) + "]"
	}
	return s
}

// holds holds an expression against the chapter's words, and tells whether it may be.
func holds(t *testing.T, e api.Expr) bool {
	t.Helper()
	want, is := "", may(e)
	if is {
		want = text(e)
	}
	if print.Right(e) != is {
		t.Errorf("Right(%v) = %v", e, !is)
	}
	if got := print.Expr(e); got != want {
		t.Errorf("Expr(%v) = %.200q, not %.200q", e, got, want)
	}
	return is
}

// written asks whether expressions may be, and are this text.
func written(t *testing.T, want string, all ...api.Expr) {
	t.Helper()
	for _, e := range all {
		if got := print.Expr(e); got != want || !print.Right(e) {
			t.Errorf("Expr(%v) = %q, %v, not %q", e, got, print.Right(e), want)
		}
		holds(t, e)
	}
}

// refused asks whether expressions may not be.
func refused(t *testing.T, all ...api.Expr) {
	t.Helper()
	for _, e := range all {
		if print.Right(e) || print.Expr(e) != "" {
			t.Errorf("Expr(%v) = %q, %v", e, print.Expr(e), print.Right(e))
		}
		holds(t, e)
	}
}

// P14.1

func TestTextsOfOperators(t *testing.T) {
	a, b := named("a"), num(1)
	written(t, "child::a or 1", of(api.EOr, a, b))
	written(t, "child::a and 1", of(api.EAnd, a, b))
	written(t, "child::a = 1", of(api.EEq, a, b))
	written(t, "child::a != 1", of(api.ENe, a, b))
	written(t, "child::a < 1", of(api.ELt, a, b))
	written(t, "child::a <= 1", of(api.ELe, a, b))
	written(t, "child::a > 1", of(api.EGt, a, b))
	written(t, "child::a >= 1", of(api.EGe, a, b))
	written(t, "child::a + 1", of(api.EAdd, a, b))
	written(t, "child::a - 1", of(api.ESub, a, b))
	written(t, "child::a * 1", of(api.EMul, a, b))
	written(t, "child::a div 1", of(api.EDiv, a, b))
	written(t, "child::a mod 1", of(api.EMod, a, b))
	written(t, "child::a | 1", of(api.EUnion, a, b))
	written(t, "-child::a", neg(a))
	written(t, "--1", neg(neg(b)))
	written(t, "---1", neg(neg(neg(b))))
	written(t, "-(1 * 1)", neg(of(api.EMul, b, b)))
	written(t, "-child::a | 1", neg(of(api.EUnion, a, b)))
	written(t, "(-child::a) | 1", of(api.EUnion, neg(a), b))
	written(t, "1 | (-child::a)", of(api.EUnion, b, neg(a)))
	written(t, "-child::a * -1", of(api.EMul, neg(a), neg(b)))
	written(t, "1 - 1 - 1", of(api.ESub, of(api.ESub, b, b), b))
	written(t, "1 - (1 + 1)", of(api.ESub, b, of(api.EAdd, b, b)))
	written(t, "(1 or 1) and (1 or 1)", of(api.EAnd, of(api.EOr, b, b), of(api.EOr, b, b)))
	written(t, "1 and 1 or 1 and 1", of(api.EOr, of(api.EAnd, b, b), of(api.EAnd, b, b)))
	written(t, "1 < 1 = 1", of(api.EEq, of(api.ELt, b, b), b))
	written(t, "(1 = 1) < 1", of(api.ELt, of(api.EEq, b, b), b))
}

func TestRootsAsSides(t *testing.T) {
	r, b := root(), num(1)
	written(t, "/", r)
	written(t, "(/) * 1", of(api.EMul, r, b))
	written(t, "1 or (/)", of(api.EOr, b, r))
	written(t, "(/) or 1", of(api.EOr, r, b))
	written(t, "-(/)", neg(r))
	written(t, "(/)[1]", filter(r, b))
	written(t, "1[/]", filter(b, r))
	written(t, "(/)/child::a", from(r, child("a")))
	written(t, "child::a[/]", named("a", r))
	written(t, "f(/, /)", call("f", r, r))
	written(t, "1 | /child::a", of(api.EUnion, b, root(child("a"))))
	written(t, "(/child::a)[1]", filter(root(child("a")), b))
}

func TestTextsOfPrimaries(t *testing.T) {
	written(t, `""`, lit(""))
	written(t, `"a b"`, lit("a b"))
	written(t, `"it's"`, lit("it's"))
	written(t, `'say "a"'`, lit(`say "a"`))
	written(t, "\"\r\n\t日\"", lit("\r\n\t日"))
	written(t, `"`+strings.Repeat("a", 5000)+`"`, lit(strings.Repeat("a", 5000)))
	written(t, "0", num(0), api.Expr{Op: api.ENum})
	written(t, "10", num(10))
	written(t, "2.5", api.Expr{Op: api.ENum, N: api.Dec{V: 2_500_000}})
	written(t, "0.000001", api.Expr{Op: api.ENum, N: api.Dec{V: 1}})
	written(t, "9223372036854.775807", api.Expr{Op: api.ENum, N: api.Dec{V: math.MaxInt64}})
	written(t, "$v", variable("v"))
	written(t, "$text", variable("text"))
	written(t, "$"+strings.Repeat("a", 32), variable(strings.Repeat("a", 32)))
	written(t, "f()", call("f"), api.Expr{Op: api.ECall, S: "f", Kids: []api.Expr{}, Steps: []api.Step{}})
	written(t, "f(1)", call("f", num(1)))
	written(t, `f(1, "a", 1 or 2, g(3))`, call("f", num(1), lit("a"), of(api.EOr, num(1), num(2)), call("g", num(3))))
	written(t, "or(1)", call("or", num(1)))
	written(t, "self(1)", call("self", num(1)))
}

func TestTextsOfPaths(t *testing.T) {
	a, b := child("a"), child("b", num(1), of(api.EOr, num(2), num(3)))
	written(t, "child::a", path(a))
	written(t, "/child::a", root(a))
	written(t, "child::a/child::b[1][2 or 3]/child::a", path(a, b, a))
	written(t, "/child::b[1][2 or 3]/child::a", root(b, a))
	written(t, "$v/child::a/child::a", from(variable("v"), a, a))
	written(t, "$v[1]/child::a", from(filter(variable("v"), num(1)), a))
	written(t, "(child::a)/child::a", from(path(a), a))
	written(t, "(1 | 2)/child::a", from(of(api.EUnion, num(1), num(2)), a))
	written(t, "(-1)/child::a", from(neg(num(1)), a))
	written(t, `1/child::a`, from(num(1), a))
	written(t, `f(1)/child::a`, from(call("f", num(1)), a))
	written(t, "child::a[child::a[child::a]]", named("a", named("a", named("a"))))
}

func TestTextsOfFilters(t *testing.T) {
	one := num(1)
	written(t, "1[1]", filter(one, one))
	written(t, "1[2][3][4]", filter(one, num(2), num(3), num(4)))
	written(t, "(1[2])[3]", filter(filter(one, num(2)), num(3)))
	written(t, "((1[2])[3])[4]", filter(filter(filter(one, num(2)), num(3)), num(4)))
	written(t, "1[2[3]]", filter(one, filter(num(2), num(3))))
	written(t, "(child::a[2])[3]", filter(named("a", num(2)), num(3)))
	written(t, "(-1)[2]", filter(neg(one), num(2)))
	written(t, "(1 | 2)[3]", filter(of(api.EUnion, one, num(2)), num(3)))
	written(t, `f()["a"]`, filter(call("f"), lit("a")))
	written(t, `"a"[$v]`, filter(lit("a"), variable("v")))
	written(t, "1[2 = 3]", filter(one, of(api.EEq, num(2), num(3))))
}

func TestTextsOfSteps(t *testing.T) {
	for a, name := range axes() {
		if a > 0 {
			written(t, name+"::a", path(by(a, api.Test{Kind: api.TestName, Name: "a"})))
			written(t, "/"+name+"::node()[1]", root(by(a, api.Test{Kind: api.TestNode}, num(1))))
		}
	}
	for want, test := range map[string]api.Test{
		"a": {Kind: api.TestName, Name: "a"}, "div": {Kind: api.TestName, Name: "div"}, "text": {Kind: api.TestName, Name: "text"},
		"*": {Kind: api.TestAny}, "node()": {Kind: api.TestNode}, "text()": {Kind: api.TestTexts}, "comment()": {Kind: api.TestComment},
		"processing-instruction()":       {Kind: api.TestPI},
		`processing-instruction("")`:     {Kind: api.TestPI, Has: true},
		`processing-instruction("a b")`:  {Kind: api.TestPI, Has: true, Name: "a b"},
		`processing-instruction("it's")`: {Kind: api.TestPI, Has: true, Name: "it's"},
		`processing-instruction('"')`:    {Kind: api.TestPI, Has: true, Name: `"`},
	} {
		written(t, "self::"+want, path(by(api.AxSelf, test)))
		written(t, "self::"+want+"[1]/self::"+want, path(by(api.AxSelf, test, num(1)), by(api.AxSelf, test)))
	}
}

func TestOpsThatAreNone(t *testing.T) {
	for _, op := range []int{0, 22, 23, -1, 100, math.MaxInt, math.MinInt, 1 << 32, 1<<32 + 1} {
		refused(t, api.Expr{Op: op}, of(op, num(1)), of(op, num(1), num(2)), api.Expr{Op: op, S: "a"}, api.Expr{Op: op, Steps: []api.Step{child("a")}})
		refused(t, neg(of(op, num(1), num(2))), named("a", of(op, num(1))))
	}
}

func TestKidsThatAreTooFewOrTooMany(t *testing.T) {
	one := num(1)
	for op := api.EOr; op <= api.EUnion; op++ {
		refused(t, of(op), of(op, one), of(op, one, one, one))
	}
	refused(t, neg(api.Expr{}), of(api.ENeg), of(api.ENeg, one, one), filter(), filter(one))
	refused(t, path(), from(one), of(api.EPath, one, one), api.Expr{Op: api.EPath, Kids: []api.Expr{one, one}, Steps: []api.Step{child("a")}})
	refused(t, of(api.ENum, one), api.Expr{Op: api.ELit, S: "a", Kids: []api.Expr{one}}, api.Expr{Op: api.EVar, S: "a", Kids: []api.Expr{one}})
	abs := from(one, child("a"))
	abs.Abs = true
	refused(t, abs, api.Expr{Op: api.EPath, Abs: true, Kids: []api.Expr{one}})
}

func TestPrimariesThatMayNotBe(t *testing.T) {
	refused(t, lit(`'"`), lit(`a"b'c`), lit("\x00"), lit("\xff"), lit("a\ufffe"), lit("\xed\xa0\x80"))
	for _, n := range []api.Dec{{V: -1}, {V: math.MinInt64}, {V: math.MinInt64 + 1}, {Tag: api.NaN}, {Tag: api.Over}, {Tag: api.Under}, {Tag: 4}, {Tag: -1}, {Tag: 4, V: 1}, {Tag: api.NaN, V: 1}} {
		refused(t, api.Expr{Op: api.ENum, N: n})
	}
	for _, name := range []string{"", "1", "a b", "a:b", "-a", "a\xff", "$a", "a(", " a", "a ", strings.Repeat("a", 33)} {
		refused(t, variable(name), call(name), call(name, num(1)), named(name))
	}
	for _, name := range []string{"comment", "text", "processing-instruction", "node"} {
		refused(t, call(name), call(name, num(1)))
		written(t, "$"+name, variable(name))
		written(t, "child::"+name, named(name))
	}
}

func TestFieldsThatAnOpHasNot(t *testing.T) {
	one := num(1)
	for _, e := range []api.Expr{of(api.EOr, one, one), of(api.EUnion, one, one), neg(one), named("a"), root(), from(one, child("a")), filter(one, one), lit("a"), one, call("f", one), variable("v")} {
		written(t, text(e), e)
		if e.Op != api.ELit && e.Op != api.ECall && e.Op != api.EVar {
			other := e
			other.S = "a"
			refused(t, other)
		}
		if e.Op != api.ENum {
			for _, n := range []api.Dec{{V: 1}, {V: -1}, {Tag: api.NaN}, {Tag: 7}} {
				other := e
				other.N = n
				refused(t, other)
			}
		}
		if e.Op != api.EPath {
			other := e
			other.Abs = true
			refused(t, other)
			other = e
			other.Steps = []api.Step{child("a")}
			refused(t, other)
		}
	}
}

func TestStepsThatMayNotBe(t *testing.T) {
	for _, a := range []int{0, -1, 13, math.MaxInt, math.MinInt} {
		refused(t, path(by(a, api.Test{Kind: api.TestNode})), root(child("a"), by(a, api.Test{Kind: api.TestNode})), from(num(1), by(a, api.Test{Kind: api.TestAny})))
	}
	for _, test := range []api.Test{{}, {Kind: 7}, {Kind: -1}, {Kind: api.TestName}, {Kind: api.TestName, Name: "1"}, {Kind: api.TestName, Name: "a", Has: true}, {Kind: api.TestName, Name: "a'"},
		{Kind: api.TestAny, Name: "a"}, {Kind: api.TestAny, Has: true}, {Kind: api.TestNode, Name: "a"}, {Kind: api.TestNode, Has: true}, {Kind: api.TestTexts, Has: true}, {Kind: api.TestTexts, Name: "a"}, {Kind: api.TestComment, Name: "a"}, {Kind: api.TestComment, Has: true},
		{Kind: api.TestPI, Name: "a"}, {Kind: api.TestPI, Has: true, Name: `'"`}, {Kind: api.TestPI, Has: true, Name: "\xff"}, {Kind: api.TestPI, Has: true, Name: "\x01"}} {
		refused(t, path(by(api.AxChild, test)), root(by(api.AxChild, test)), from(num(1), by(api.AxChild, test)), path(child("a"), by(api.AxSelf, test), child("a")))
	}
}

// What may not be is found wherever it stands.
func TestPartsThatMayNotBe(t *testing.T) {
	one := num(1)
	for _, bad := range []api.Expr{{}, path(), lit(`'"`), {Op: api.ENum, N: api.Dec{V: -1}}, of(api.EAdd, one), named("1"), {Op: 22}} {
		for op := api.EOr; op <= api.EUnion; op++ {
			refused(t, of(op, bad, one), of(op, one, bad))
		}
		refused(t, neg(bad), from(bad, child("a")), filter(bad, one), filter(one, bad), filter(one, one, bad), call("f", bad), call("f", one, one, bad), call("f", bad, one))
		refused(t, named("a", bad), named("a", one, bad), path(child("a"), child("b", bad, one), child("c")), root(child("a", bad)), from(one, child("a"), child("a", one, bad)))
		refused(t, neg(neg(filter(one, call("f", named("a", of(api.EOr, one, bad)))))))
	}
}

// All expressions of one Op, kids, and all other fields out of a few.
func TestAllShapes(t *testing.T) {
	one := num(1)
	var kids [][]api.Expr
	pool := []api.Expr{one, root(), {}}
	for _, a := range pool {
		for _, b := range pool {
			kids = append(kids, []api.Expr{a, b})
		}
		kids = append(kids, []api.Expr{a}, []api.Expr{one, one, a})
	}
	kids = append(kids, nil, []api.Expr{})
	steps := [][]api.Step{nil, {}, {child("a")}, {child("a", root()), child("b")}, {child("")}, {{}}, {child("a", api.Expr{})}}
	right := 0
	for op := -1; op <= 23; op++ {
		for _, s := range []string{"", "a", "text", "'", `"`, `'"`, "\xff"} {
			for _, n := range []api.Dec{{}, {V: 1}, {V: -1}, {Tag: api.NaN}} {
				for _, k := range kids {
					for _, st := range steps {
						for _, abs := range []bool{false, true} {
							right += truth(holds(t, api.Expr{Op: op, S: s, N: n, Abs: abs, Kids: k, Steps: st}))
						}
					}
				}
			}
		}
		if t.Failed() {
			return
		}
	}
	if right < 200 {
		t.Errorf("only %d may be", right)
	}
}

// samples tells an expression of each Op, of a path each sort.
func samples() []api.Expr {
	one, two := num(1), lit("b")
	all := []api.Expr{neg(one), root(), named("a"), root(child("a")), from(variable("v"), child("a")), filter(one, two), one, two, call("f"), call("f", one), variable("v")}
	for op := api.EOr; op <= api.EUnion; op++ {
		all = append(all, of(op, one, two))
	}
	return all
}

// around tells what has an expression in one place.
func around(e api.Expr) []api.Expr {
	one := num(1)
	all := []api.Expr{neg(e), from(e, child("a")), filter(e, one), filter(one, e), filter(one, e, one), call("f", e), call("f", one, e), named("a", e), root(child("a", e, one), child("b")), path(child("a"), child("b", e))}
	for op := api.EOr; op <= api.EUnion; op++ {
		all = append(all, of(op, e, one), of(op, one, e), of(op, e, e))
	}
	return all
}

// Each sort of expression in each place of each other one, three in one another.
func TestAllPlaces(t *testing.T) {
	asked := 0
	for _, inmost := range samples() {
		for _, inner := range around(inmost) {
			back(t, inner)
			for _, e := range around(inner) {
				asked++
				back(t, e)
			}
		}
		if t.Failed() {
			return
		}
	}
	if asked < 50000 {
		t.Errorf("only %d were asked", asked)
	}
}

// P14.2

// fits asks whether a text is within the bounds: its bytes, its words, and its brackets in one another.
func fits(s string) bool {
	words, e := lex.Lex(s)
	count, most := 0, 0
	for _, w := range words {
		if w.Kind == api.WMark {
			count += map[string]int{"(": 1, "[": 1, ")": -1, "]": -1}[w.S]
			most = max(most, count)
		}
	}
	return e != api.ErrLong && most <= api.MaxDeep
}

// back asks whether an expression may be, and its text is parsed as it, if that fits; it tells whether it did.
func back(t *testing.T, e api.Expr) bool {
	t.Helper()
	if !holds(t, e) {
		t.Errorf("%v may not be", e)
		return false
	}
	s := print.Expr(e)
	if !fits(s) {
		return false
	}
	if got, wrong := syntax.Parse(s); wrong != api.OK || !syntax.Same(got, e) {
		t.Errorf("Parse(%q) = %v, %d, not %v", s, got, int(wrong), e)
	}
	return true
}

// maker makes expressions by chance.
type maker struct{ *rand.Rand }

// name makes a name.
func (m maker) name() string {
	return []string{"a", "b", "or", "and", "div", "mod", "self", "child", "a-1", "_.b", "日本", strings.Repeat("x", 32)}[m.Intn(12)]
}

// word makes a text that may stand in quotes, or in apostrophes.
func (m maker) word() string {
	return []string{"", "a", "it's", `"`, "(", "]", "日 本", "\n", " and "}[m.Intn(9)]
}

// expr makes one that may be.
func (m maker) expr(deep int) api.Expr {
	if deep <= 0 {
		return []func() api.Expr{
			func() api.Expr { return lit(m.word()) },
			func() api.Expr { return api.Expr{Op: api.ENum, N: api.Dec{V: m.Int63() >> m.Intn(63)}} },
			func() api.Expr { return variable(m.name()) },
			func() api.Expr { return named(m.name()) },
			func() api.Expr { return root() },
			func() api.Expr { return call(m.name()) },
		}[m.Intn(6)]()
	}
	switch m.Intn(8) {
	case 0:
		return neg(m.expr(deep - 1))
	case 1:
		return filter(append([]api.Expr{m.expr(deep - 1)}, m.exprs(1, 3, deep-1)...)...)
	case 2:
		return call(m.name(), m.exprs(0, 4, deep-1)...)
	case 3:
		return m.path(deep)
	case 4:
		return m.expr(0)
	}
	return of(1+m.Intn(14), m.exprs(2, 3, deep-1)...)
}

// exprs makes some, at least so many, and less than most.
func (m maker) exprs(least, most, deep int) (l []api.Expr) {
	for range least + m.Intn(most-least) {
		l = append(l, m.expr(deep))
	}
	return l
}

// path makes one of each sort.
func (m maker) path(deep int) api.Expr {
	e := path()
	switch m.Intn(4) {
	case 0:
		e.Abs = true
	case 1:
		e.Kids = m.exprs(1, 2, deep-1)
	}
	for range 1 + m.Intn(3) {
		test := api.Test{Kind: 1 + m.Intn(6)}
		switch {
		case test.Kind == api.TestName:
			test.Name = m.name()
		case test.Kind == api.TestPI && m.Intn(2) == 0:
			test.Name, test.Has = m.word(), true
		}
		e.Steps = append(e.Steps, by(1+m.Intn(12), test, m.exprs(0, 2*m.Intn(2)+1, deep-1)...))
	}
	return e
}

func TestMadeExpressionsAreParsedBack(t *testing.T) {
	m := maker{rand.New(rand.NewSource(14))}
	fit := 0
	for range 20000 {
		fit += truth(back(t, m.expr(1+m.Intn(4))))
		if t.Failed() {
			return
		}
	}
	if fit < 12000 {
		t.Errorf("only %d fit", fit)
	}
}

// loose writes an expression as it might be written: with abbreviations, with brackets that need not be, and spaces.
type loose struct{ *rand.Rand }

// space writes some.
func (l loose) space() string { return []string{"", " ", "\n\t", ""}[l.Intn(4)] }

// expr writes one, in brackets if it has to be, or now and then.
func (l loose) expr(e api.Expr, brackets bool) string {
	s := l.space() + l.open(e) + l.space()
	for brackets || l.Intn(12) == 0 {
		s, brackets = l.space()+"("+s+")"+l.space(), false
	}
	return s
}

// open writes one without brackets around it.
func (l loose) open(e api.Expr) string {
	switch e.Op {
	case api.ENeg:
		return "-" + l.expr(e.Kids[0], rank(e.Kids[0]) < 7)
	case api.EPath:
		s := strings.Repeat("/", truth(e.Abs))
		for _, k := range e.Kids {
			s = l.expr(k, rank(k) < 10) + "/"
		}
		return s + l.steps(e.Steps, e.Abs || len(e.Kids) > 0)
	case api.EFilter:
		k := e.Kids[0]
		return l.expr(k, rank(k) < 10 || k.Op == api.EFilter) + l.preds(e.Kids[1:])
	case api.ELit:
		return []string{quoted(e.S), "'" + e.S + "'"}[truth(!strings.Contains(e.S, "'") && l.Intn(2) == 0)]
	case api.ENum:
		s := figure.Show(e.N)
		if !strings.Contains(s, ".") {
			s += "."
		}
		return strings.Repeat("0", l.Intn(3)) + s + strings.Repeat("0", l.Intn(3))
	case api.EVar:
		return "$" + e.S
	case api.ECall:
		var args []string
		for _, k := range e.Kids {
			args = append(args, l.expr(k, false))
		}
		return e.S + l.space() + "(" + l.space() + strings.Join(args, ",") + l.space() + ")"
	}
	left, right := e.Kids[0], e.Kids[1]
	return l.expr(left, rank(left) < rank(e)) + " " + marks()[e.Op] + " " + l.expr(right, rank(right) <= rank(e))
}

// steps writes some behind a stroke, or not.
func (l loose) steps(steps []api.Step, ahead bool) (s string) {
	below := false
	for i, st := range steps {
		if i > 0 && !below {
			s += "/"
		}
		node, was := st.T.Kind == api.TestNode && len(st.Preds) == 0, below
		below = st.Axis == api.AxDescSelf && node && (ahead || i > 0) && i < len(steps)-1 && !was
		switch {
		case below: // a second stroke, behind the one that is there
			s += "/"
		case st.Axis == api.AxSelf && node:
			s += l.space() + "." + l.space()
		case st.Axis == api.AxParent && node:
			s += l.space() + ".." + l.space()
		case st.Axis == api.AxAttribute:
			s += l.space() + "@" + l.space() + tested(st.T) + l.preds(st.Preds)
		case st.Axis == api.AxChild:
			s += l.space() + tested(st.T) + l.preds(st.Preds)
		default:
			s += axes()[st.Axis] + l.space() + "::" + l.space() + tested(st.T) + l.preds(st.Preds)
		}
	}
	return s
}

// preds writes some.
func (l loose) preds(preds []api.Expr) (s string) {
	for _, p := range preds {
		s += l.space() + "[" + l.expr(p, false) + "]" + l.space()
	}
	return s
}

// What Parse tells of texts that are written in other ways is written in the one way.
func TestWhatParseTellsMayBe(t *testing.T) {
	r := rand.New(rand.NewSource(141))
	m, l := maker{r}, loose{r}
	parsed, fit := 0, 0
	for range 20000 {
		e := m.expr(1 + m.Intn(3))
		s := l.expr(e, false)
		if !fits(s) {
			continue
		}
		parsed++
		got, wrong := syntax.Parse(s)
		if wrong != api.OK || print.Expr(got) != text(e) {
			t.Fatalf("Expr of %q = %q (%d), not %q", s, print.Expr(got), int(wrong), text(e))
		}
		fit += truth(back(t, got))
		if t.Failed() {
			return
		}
	}
	if parsed < 10000 || fit < 8000 {
		t.Errorf("only %d were parsed, and %d fit", parsed, fit)
	}
}

// All short rows of words that are an expression.
func TestAllShortRowsAreWritten(t *testing.T) {
	rows, parsed := []string{""}, 0
	for range 5 {
		var longer []string
		for _, row := range rows {
			for _, w := range []string{"a", "1", "'b'", "f(", "(", ")", "[", "]", "/", "//", "..", "-", "|", "@"} {
				s := row + w + " "
				longer = append(longer, s)
				e, wrong := syntax.Parse(s)
				if wrong != api.OK {
					continue
				}
				parsed++
				if !back(t, e) || t.Failed() {
					t.Fatalf("Parse(%q)", s)
				}
			}
		}
		rows = longer
	}
	if parsed < 2000 {
		t.Errorf("only %d expressions", parsed)
	}
}

// What has few bytes, words or brackets may be written with too many: it may be none the less, and is written whole.
func TestTextsThatDoNotFit(t *testing.T) {
	nested := func(n int, inmost string) string {
		return strings.Repeat("f(", n) + inmost + strings.Repeat(")", n)
	}
	joined := func(s, between string, n int) string { return strings.Repeat(s+between, n-1) + s }
	long := strings.Repeat("a", 32)
	for _, c := range []struct {
		s    string
		want api.Errno
	}{
		{joined("..", "/", 20), api.OK},                                          // 20 times 5 words, and 19
		{joined("..", "/", 21), api.ErrLong},                                     // 125
		{joined("a", "|", 30), api.OK},                                           // 30 times 3, and 29
		{joined("a", "|", 31), api.ErrLong},                                      // 123
		{strings.Repeat(long+"/", 9) + "@" + long[:29], api.OK},                  // 9 times 40 bytes, and 40
		{strings.Repeat(long+"/", 9) + "@" + long[:30], api.ErrLong},             // 401
		{strings.Repeat("//a", 11), api.OK},                                      // 11 times 36
		{strings.Repeat("//a", 12), api.ErrLong},                                 // 432 bytes, though 120 words
		{"f(" + joined("1", ",", 59) + ")", api.OK},                              // 120 words, as they were
		{"f(" + joined("1", "=", 59) + ")", api.OK},                              // no brackets on the left
		{"f(" + joined("/", "|", 29) + ",1)", api.OK},                            // `(/)`: 29 times 3 words, 28 bars, and five
		{"f(" + joined("/", "|", 29) + ",-1)", api.ErrLong},                      // 121
		{"'" + strings.Repeat("a", 398) + "'", api.OK},                           // 400 bytes, as they were
		{"1=1=" + joined("'"+strings.Repeat("a", 128)+"'", "=", 3), api.ErrLong}, // blanks are bytes, too
		{nested(11, "."), api.OK},
		{nested(12, "a"), api.OK},
		{nested(12, "."), api.ErrNest}, // node() has brackets, too
		{nested(12, "//a"), api.ErrNest},
		{nested(11, "1=/"), api.OK},
		{nested(12, "1=/"), api.ErrNest}, // `(/)`
		{nested(12, "/"), api.OK},
	} {
		e, wrong := syntax.Parse(c.s)
		if wrong != api.OK || !holds(t, e) {
			t.Errorf("what Parse told of %q may not be: %v, %d", c.s, e, int(wrong))
		}
		if got, wrong := syntax.Parse(print.Expr(e)); wrong != c.want || c.want == api.OK && !syntax.Same(got, e) {
			t.Errorf("%q: Parse(%q) = %v, %d, not %d", c.s, print.Expr(e), got, int(wrong), int(c.want))
		}
	}
}

// Expressions by chance that are another one in one thing.
func TestExpressionsWithOneThingTurned(t *testing.T) {
	m := maker{rand.New(rand.NewSource(142))}
	wrong, right := 0, 0
	for range 6000 {
		e := m.expr(1 + m.Intn(3))
		m.turn(&e)
		if holds(t, e) {
			right++
		} else {
			wrong++
		}
		if t.Failed() {
			return
		}
	}
	if wrong < 1500 || right < 500 {
		t.Errorf("only %d may not be, only %d may", wrong, right)
	}
}

// turn turns one thing anywhere in an expression, which is new memory.
func (m maker) turn(e *api.Expr) {
	if len(e.Kids) > 0 && m.Intn(2) == 0 {
		m.turn(&e.Kids[m.Intn(len(e.Kids))])
		return
	}
	if len(e.Steps) > 0 && m.Intn(2) == 0 {
		s := &e.Steps[m.Intn(len(e.Steps))]
		switch m.Intn(5) {
		case 0:
			s.Axis += m.Intn(25) - 12
		case 1:
			s.T.Kind += m.Intn(7) - 3
		case 2:
			s.T.Name = []string{"", "1", `"`, `'"`, "a", "\xff"}[m.Intn(6)]
		case 3:
			s.T.Has = !s.T.Has
		case 4:
			s.Preds = append(s.Preds, m.wild(1))
		}
		return
	}
	switch m.Intn(7) {
	case 0:
		e.Op = m.Intn(24) - 1
	case 1:
		e.S = []string{"", "1", `"`, `'"`, "a", "\xff", "node"}[m.Intn(7)]
	case 2:
		e.N = []api.Dec{{}, {V: 1}, {V: -1}, {Tag: 3}, {Tag: 9}}[m.Intn(5)]
	case 3:
		e.Abs = !e.Abs
	case 4:
		e.Kids = append(e.Kids, m.wild(1))
	case 5:
		e.Kids = e.Kids[:max(len(e.Kids)-1, 0)]
	case 6:
		e.Steps = e.Steps[:max(len(e.Steps)-1, 0)]
	}
}

// wild makes an expression of any fields.
func (m maker) wild(deep int) api.Expr {
	n := func() int { return []int{0, 1, 2, 6, 15, 16, 21, -1, math.MaxInt, math.MinInt}[m.Intn(10)] }
	s := func() string { return []string{"", "a", "\xff", `"'`}[m.Intn(4)] }
	list := func() (l []api.Expr) {
		for range m.Intn(4) * min(deep, 1) {
			l = append(l, m.wild(deep-1))
		}
		return l
	}
	e := api.Expr{Op: n(), S: s(), N: api.Dec{Tag: n(), V: int64(n())}, Abs: m.Intn(2) == 0, Kids: list()}
	for range m.Intn(3) {
		e.Steps = append(e.Steps, api.Step{Axis: n(), T: api.Test{Kind: n(), Name: s(), Has: m.Intn(2) == 0}, Preds: list()})
	}
	return e
}

// R1

func TestExpressionsOfAnyFields(t *testing.T) {
	m := maker{rand.New(rand.NewSource(143))}
	for range 20000 {
		holds(t, m.wild(m.Intn(4)))
		if t.Failed() {
			return
		}
	}
}

// As deep as things may be nested in one another, and as wide.
func TestDeepAndWideExpressions(t *testing.T) {
	const deep = 1<<16 - 2
	wraps := []struct {
		ahead, behind string
		inmost        string
		wrap          func(e api.Expr) api.Expr
	}{
		{"-", "", "1", neg},
		{"f(", ")", "1", func(e api.Expr) api.Expr { return call("f", e) }},
		{"", " + 1", "1", func(e api.Expr) api.Expr { return of(api.EAdd, e, num(1)) }},
		{"1[", "]", "1", func(e api.Expr) api.Expr { return filter(num(1), e) }},
	}
	for _, w := range wraps {
		e, bad := num(1), api.Expr{Op: api.ENum, N: api.Dec{V: -1}}
		for range deep {
			e, bad = w.wrap(e), w.wrap(bad)
		}
		if !print.Right(e) || print.Expr(e) != strings.Repeat(w.ahead, deep)+w.inmost+strings.Repeat(w.behind, deep) {
			t.Errorf("a deep one of %q", w.ahead+w.behind)
		}
		if print.Right(bad) || print.Expr(bad) != "" {
			t.Errorf("a deep one of %q that may not be", w.ahead+w.behind)
		}
	}
	e := num(1)
	for range deep / 2 {
		e = named("a", e)
	}
	if print.Expr(e) != strings.Repeat("child::a[", deep/2)+"1"+strings.Repeat("]", deep/2) {
		t.Error("a deep one of steps")
	}
	wide, steps := call("f"), path()
	for range 1 << 16 {
		wide.Kids, steps.Steps = append(wide.Kids, num(1)), append(steps.Steps, child("a", num(1)))
	}
	if print.Expr(wide) != "f("+strings.Repeat("1, ", 1<<16-1)+"1)" || print.Expr(steps) != strings.Repeat("child::a[1]/", 1<<16-1)+"child::a[1]" {
		t.Error("wide ones")
	}
}

// R3

// rooms is the expression with all that stands in the spare room of its lists.
func rooms(e api.Expr) api.Expr {
	list := func(l []api.Expr) (all []api.Expr) {
		for _, k := range l[:cap(l)] {
			all = append(all, rooms(k))
		}
		return all
	}
	e.Kids, e.Steps = list(e.Kids), slices.Clone(e.Steps[:cap(e.Steps)])
	for i := range e.Steps {
		e.Steps[i].Preds = list(e.Steps[i].Preds)
	}
	return e
}

// roomy is the expression with room to spare in all its lists, where something stands.
func roomy(e api.Expr) api.Expr {
	list := func(l []api.Expr) []api.Expr {
		all := make([]api.Expr, 0, len(l)+2)
		for _, k := range l {
			all = append(all, roomy(k))
		}
		return append(all, num(7), num(8))[:len(l)]
	}
	e.Kids = list(e.Kids)
	all := make([]api.Step, 0, len(e.Steps)+1)
	for _, s := range e.Steps {
		s.Preds = list(s.Preds)
		all = append(all, s)
	}
	e.Steps = append(all, child("z"))[:len(e.Steps)]
	return e
}

func TestExpressionsAreOnlyAsked(t *testing.T) {
	m := maker{rand.New(rand.NewSource(144))}
	for k := range 2000 {
		e := m.wild(3)
		if k%2 == 0 {
			e = m.expr(3)
		}
		want := print.Expr(e)
		e = roomy(e)
		kept := rooms(e)
		if print.Expr(e) != want || print.Right(e) != (want != "") {
			t.Fatalf("Expr(%v) hangs on what stands behind its lists", e)
		}
		if !reflect.DeepEqual(rooms(e), kept) {
			t.Fatalf("Expr turned %v", e)
		}
	}
}

func TestExamples(t *testing.T) {
	for s, want := range map[string]string{
		"//a[1]": "/descendant-or-self::node()/child::a[1]", "(1+2)*3 - -a": "(1 + 2) * 3 - -child::a", "1-(2-3)": "1 - (2 - 3)",
		"(/)*2": "(/) * 2", "(a|b)[1]/@c": "(child::a | child::b)[1]/attribute::c", "/": "/",
	} {
		e, _ := syntax.Parse(s)
		written(t, want, e)
		back(t, e)
	}
}
