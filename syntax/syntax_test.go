package syntax_test

import (
	"math"
	"math/rand"
	"reflect"
	"slices"
	"strings"
	"testing"

	"breviary/api"
	"breviary/lex"
	"breviary/syntax"
)

// Expressions, as they are told.

func of(op int, kids ...api.Expr) api.Expr     { return api.Expr{Op: op, Kids: kids} }
func or(a, b api.Expr) api.Expr                { return of(api.EOr, a, b) }
func and(a, b api.Expr) api.Expr               { return of(api.EAnd, a, b) }
func add(a, b api.Expr) api.Expr               { return of(api.EAdd, a, b) }
func sub(a, b api.Expr) api.Expr               { return of(api.ESub, a, b) }
func mul(a, b api.Expr) api.Expr               { return of(api.EMul, a, b) }
func union(a, b api.Expr) api.Expr             { return of(api.EUnion, a, b) }
func neg(a api.Expr) api.Expr                  { return of(api.ENeg, a) }
func filter(kids ...api.Expr) api.Expr         { return of(api.EFilter, kids...) }
func lit(s string) api.Expr                    { return api.Expr{Op: api.ELit, S: s} }
func variable(s string) api.Expr               { return api.Expr{Op: api.EVar, S: s} }
func num(n int64) api.Expr                     { return api.Expr{Op: api.ENum, N: api.Dec{V: n * api.Unit}} }
func call(s string, kids ...api.Expr) api.Expr { return api.Expr{Op: api.ECall, S: s, Kids: kids} }
func path(steps ...api.Step) api.Expr          { return api.Expr{Op: api.EPath, Steps: steps} }
func root(steps ...api.Step) api.Expr          { return api.Expr{Op: api.EPath, Abs: true, Steps: steps} }
func from(e api.Expr, steps ...api.Step) api.Expr {
	return api.Expr{Op: api.EPath, Kids: []api.Expr{e}, Steps: steps}
}
func step(a, kind int, preds ...api.Expr) api.Step {
	return api.Step{Axis: a, T: api.Test{Kind: kind}, Preds: preds}
}

// child is the step to children of a name.
func child(name string, preds ...api.Expr) api.Step {
	return api.Step{Axis: api.AxChild, T: api.Test{Kind: api.TestName, Name: name}, Preds: preds}
}

// attribute is the step to attributes of a name.
func attribute(name string, preds ...api.Expr) api.Step {
	return api.Step{Axis: api.AxAttribute, T: api.Test{Kind: api.TestName, Name: name}, Preds: preds}
}

// named is the path to children of a name.
func named(name string) api.Expr { return path(child(name)) }

// self, parent, below are what is written as a point, two of them, two strokes.
func self() api.Step   { return step(api.AxSelf, api.TestNode) }
func parent() api.Step { return step(api.AxParent, api.TestNode) }
func below() api.Step  { return step(api.AxDescSelf, api.TestNode) }

// operators is those with two sides, by their ranks, the lowest first.
func operators() [][]sign {
	return [][]sign{
		{{"or", api.EOr}},
		{{"and", api.EAnd}},
		{{"=", api.EEq}, {"!=", api.ENe}},
		{{"<", api.ELt}, {"<=", api.ELe}, {">", api.EGt}, {">=", api.EGe}},
		{{"+", api.EAdd}, {"-", api.ESub}},
		{{"*", api.EMul}, {"div", api.EDiv}, {"mod", api.EMod}},
		nil, // here stands the one with one side
		{{"|", api.EUnion}},
	}
}

// sign is an operator as it is written, and what it makes.
type sign struct {
	mark string
	op   int
}

// axes is the names of all axes, by their numbers.
func axes() []string {
	return []string{"", "child", "descendant", "parent", "ancestor", "following-sibling", "preceding-sibling", "following", "preceding", "attribute", "self", "descendant-or-self", "ancestor-or-self"}
}

// means asks whether a text is this expression.
func means(t *testing.T, s string, want api.Expr) {
	t.Helper()
	if got, e := syntax.Parse(s); e != api.OK || !same(got, want) {
		t.Errorf("Parse(%.150q) = %v, %d, not %v", s, got, int(e), want)
	}
}

// refused asks whether texts are refused, by this error and without an expression.
func refused(t *testing.T, want api.Errno, texts ...string) {
	t.Helper()
	for _, s := range texts {
		if got, e := syntax.Parse(s); e != want || !reflect.DeepEqual(got, api.Expr{}) {
			t.Errorf("Parse(%.150q) = %v, %d, not %d", s, got, int(e), int(want))
		}
	}
}

// same asks whether expressions are the same in all their fields; no list is an empty one.
func same(a, b api.Expr) bool { return reflect.DeepEqual(spare(a, nil, nil), spare(b, nil, nil)) }

// spare is a new expression that is the same, and of which each list that has nothing in it is one of these.
func spare(e api.Expr, kids []api.Expr, steps []api.Step) api.Expr {
	list := func(from []api.Expr) []api.Expr {
		to := kids
		for _, k := range from {
			to = append(to, spare(k, kids, steps))
		}
		return to
	}
	e.Kids = list(e.Kids)
	to := steps
	for _, s := range e.Steps {
		s.Preds = list(s.Preds)
		to = append(to, s)
	}
	e.Steps = to
	return e
}

// The chapter's grammar once more, as it is written there, to hold the package against: what is derived is found by trying all
// places where a part may end, so nothing hangs on an order, and what may be read in two ways would be found twice.

// grammar is what each part may be: other parts, kinds of words, and marks and operators, which begin with an apostrophe.
var grammar = map[string][][]string{
	"Or":       {{"And"}, {"Or", "'or", "And"}},
	"And":      {{"Equal"}, {"And", "'and", "Equal"}},
	"Equal":    {{"Related"}, {"Equal", "'=", "Related"}, {"Equal", "'!=", "Related"}},
	"Related":  {{"Sum"}, {"Related", "'<", "Sum"}, {"Related", "'>", "Sum"}, {"Related", "'<=", "Sum"}, {"Related", "'>=", "Sum"}},
	"Sum":      {{"Product"}, {"Sum", "'+", "Product"}, {"Sum", "'-", "Product"}},
	"Product":  {{"Signed"}, {"Product", "'*", "Signed"}, {"Product", "'div", "Signed"}, {"Product", "'mod", "Signed"}},
	"Signed":   {{"Union"}, {"'-", "Signed"}},
	"Union":    {{"Path"}, {"Union", "'|", "Path"}},
	"Path":     {{"Location"}, {"Filter"}, {"Filter", "'/", "Relative"}, {"Filter", "'//", "Relative"}},
	"Filter":   {{"Primary"}, {"Filter", "Pred"}},
	"Primary":  {{"WVar"}, {"'(", "Or", "')"}, {"WLit"}, {"WNum"}, {"WFunc", "'(", "')"}, {"WFunc", "'(", "Ors", "')"}},
	"Ors":      {{"Or"}, {"Ors", "',", "Or"}},
	"Location": {{"Relative"}, {"'/"}, {"'/", "Relative"}, {"'//", "Relative"}},
	"Relative": {{"Step"}, {"Relative", "'/", "Step"}, {"Relative", "'//", "Step"}},
	"Step":     {{"'."}, {"'.."}, {"Axis", "Test", "Preds"}},
	"Preds":    {{}, {"Preds", "Pred"}},
	"Axis":     {{}, {"'@"}, {"WAxis", "'::"}},
	"Test":     {{"WName"}, {"WStar"}, {"WType", "'(", "')"}, {"WInstr", "'(", "WLit", "')"}},
	"Pred":     {{"'[", "Or", "']"}},
}

// kinds is the kinds of words that it names.
var kinds = map[string]int{"WName": api.WName, "WStar": api.WStar, "WType": api.WType, "WFunc": api.WFunc, "WLit": api.WLit, "WNum": api.WNum, "WVar": api.WVar}

// stands asks whether a word is what an alternative names.
func stands(w api.Word, what string) bool {
	if mark, is := strings.CutPrefix(what, "'"); is {
		return (w.Kind == api.WMark || w.Kind == api.WOp) && w.S == mark
	}
	switch what {
	case "WAxis":
		return w.Kind == api.WAxis && slices.Contains(axes()[1:], w.S)
	case "WInstr":
		return w.Kind == api.WType && w.S == "processing-instruction"
	}
	return w.Kind == kinds[what]
}

// least is how many words a part has at least.
func least(part string) int {
	if part == "Axis" || part == "Preds" {
		return 0
	}
	return 1
}

// tree is how a part is derived: by which alternative, out of what; of a word, it.
type tree struct {
	part string
	alt  int
	kids []tree
	w    api.Word
}

// grower keeps what was derived of its words.
type grower struct {
	words []api.Word
	been  map[spot][]tree
}

// spot is a part, and from which word up to which it would go.
type spot struct {
	part     string
	from, to int
}

// trees is all ways in which some words are a part.
func (g *grower) trees(s spot) []tree {
	all, known := g.been[s]
	if known {
		return all
	}
	ways := grammar[s.part]
	if ways == nil && s.to == s.from+1 && stands(g.words[s.from], s.part) {
		all = []tree{{w: g.words[s.from]}}
	}
	for alt, parts := range ways {
		for _, kids := range g.rows(parts, s.from, s.to) {
			all = append(all, tree{part: s.part, alt: alt, kids: kids})
		}
	}
	g.been[s] = all
	return all
}

// rows is all ways in which some words are these parts, one behind the other.
func (g *grower) rows(parts []string, from, to int) [][]tree {
	if len(parts) == 0 && from == to {
		return [][]tree{nil}
	}
	if len(parts) == 0 {
		return nil
	}
	room := to
	for _, p := range parts[1:] {
		room -= least(p)
	}
	// seldom more than one place is asked further, since a word that must stand there does not
	if grammar[parts[0]] == nil {
		room = min(room, from+1)
	}
	var all [][]tree
	for end := from + least(parts[0]); end <= room; end++ {
		if end == to && len(parts) > 1 && least(parts[1]) > 0 {
			break
		}
		if len(parts) > 1 && grammar[parts[1]] == nil && !stands(g.words[end], parts[1]) {
			continue
		}
		heads := g.trees(spot{parts[0], from, end})
		if len(heads) == 0 {
			continue
		}
		for _, rest := range g.rows(parts[1:], end, to) {
			for _, head := range heads {
				all = append(all, append([]tree{head}, rest...))
			}
		}
	}
	return all
}

// expr is what a part is, of those that are expressions.
func (d tree) expr() api.Expr {
	k := d.kids
	switch d.part {
	case "Or", "And", "Equal", "Related", "Sum", "Product", "Union":
		if d.alt == 0 {
			return k[0].expr()
		}
		for _, rank := range operators() {
			for _, s := range rank {
				if s.mark == k[1].w.S {
					return of(s.op, k[0].expr(), k[2].expr())
				}
			}
		}
	case "Signed":
		if d.alt == 1 {
			return neg(k[1].expr())
		}
		return k[0].expr()
	case "Path":
		if d.alt < 2 {
			return k[0].expr()
		}
		return from(k[0].expr(), append(between(d.alt == 3), k[2].steps()...)...)
	case "Filter":
		if all := d.exprs(); len(all) > 1 {
			return filter(all...)
		}
		for d.part == "Filter" {
			d = d.kids[0]
		}
		return d.expr()
	case "Primary":
		return d.primary()
	case "Location":
		if d.alt == 0 {
			return path(k[0].steps()...)
		}
		return root(append(between(d.alt == 3), d.steps()...)...)
	case "Pred":
		return k[1].expr()
	}
	panic(d.part)
}

// primary is what a Primary is.
func (d tree) primary() api.Expr {
	k := d.kids
	switch d.alt {
	case 0:
		return variable(k[0].w.S)
	case 1:
		return k[1].expr()
	case 2:
		return lit(k[0].w.S)
	case 3:
		return api.Expr{Op: api.ENum, N: k[0].w.N}
	case 4:
		return call(k[0].w.S)
	}
	return call(k[0].w.S, k[2].exprs()...)
}

// exprs is what a row of expressions is.
func (d tree) exprs() []api.Expr {
	switch {
	case len(d.kids) == 0:
		return nil
	case d.part == "Filter" && d.alt == 0, d.part == "Ors" && d.alt == 0:
		return []api.Expr{d.kids[0].expr()}
	}
	return append(d.kids[0].exprs(), d.kids[len(d.kids)-1].expr())
}

// between is the step that two strokes are.
func between(is bool) []api.Step {
	if is {
		return []api.Step{below()}
	}
	return nil
}

// steps is what a row of steps is.
func (d tree) steps() []api.Step {
	k := d.kids
	switch {
	case d.part == "Location" && len(k) == 1:
		return nil
	case d.part == "Location":
		return k[1].steps()
	case d.alt == 0:
		return []api.Step{k[0].step()}
	}
	return append(append(k[0].steps(), between(d.alt == 2)...), k[2].step())
}

// step is what a Step is.
func (d tree) step() api.Step {
	switch d.alt {
	case 0:
		return self()
	case 1:
		return parent()
	}
	way, test, preds := d.kids[0], d.kids[1], d.kids[2]
	s := api.Step{Axis: api.AxChild, Preds: preds.exprs()}
	switch way.alt {
	case 1:
		s.Axis = api.AxAttribute
	case 2:
		s.Axis = slices.Index(axes(), way.kids[0].w.S)
	}
	types := map[string]int{"comment": api.TestComment, "text": api.TestTexts, "processing-instruction": api.TestPI, "node": api.TestNode}
	switch w := test.kids[0].w; test.alt {
	case 0:
		s.T = api.Test{Kind: api.TestName, Name: w.S}
	case 1:
		s.T = api.Test{Kind: api.TestAny}
	case 2:
		s.T = api.Test{Kind: types[w.S]}
	case 3:
		s.T = api.Test{Kind: api.TestPI, Name: test.kids[2].w.S, Has: true}
	}
	return s
}

// parsed is what Parse is to answer.
func parsed(t *testing.T, s string) (api.Expr, api.Errno) {
	t.Helper()
	words, wrong := lex.Lex(s)
	if wrong != api.OK {
		return api.Expr{}, wrong
	}
	count := 0
	for _, w := range words {
		if w.Kind == api.WMark && (w.S == "(" || w.S == "[") {
			count++
		}
		if w.Kind == api.WMark && (w.S == ")" || w.S == "]") && count > 0 {
			count--
		}
		if count > 12 {
			return api.Expr{}, api.ErrNest
		}
	}
	g := grower{words, map[spot][]tree{}}
	if len(words) == 0 {
		return api.Expr{}, api.ErrSyntax
	}
	all := g.trees(spot{"Or", 0, len(words)})
	if len(all) == 0 {
		return api.Expr{}, api.ErrSyntax
	}
	if len(all) > 1 {
		t.Errorf("%q is an expression in %d ways", s, len(all))
	}
	return all[0].expr(), api.OK
}

// holds holds what a text is parsed as against what it is to be, and tells whether it is an expression.
func holds(t *testing.T, s string) bool {
	t.Helper()
	want, wanted := parsed(t, s)
	got, e := syntax.Parse(s)
	if e != wanted || !same(got, want) {
		t.Errorf("Parse(%.150q) = %v, %d, not %v, %d", s, got, int(e), want, int(wanted))
	}
	return wanted == api.OK
}

// P13.1: what is told ahead of ErrSyntax

func TestErrorsOfWords(t *testing.T) {
	repeat := strings.Repeat
	refused(t, api.ErrLong, repeat(" ", 401), "1"+repeat(" ", 400), repeat("(", 401), repeat("-", 120)+"1", repeat("1 ", 121), repeat("(", 121), repeat("a[", 61))
	refused(t, api.ErrChar, "\xff", "1\x00", "'\ufffe'", repeat("(", 13)+"\xff", "a/\xff", repeat("(", 121)+"\x01")
	refused(t, api.ErrLex, "a b", "#", "a:b", "'a", "1 +#", "a/b c", "a[b c]", "$", "1e5", "f(1) g", "99999999999999", repeat("(", 13)+"#", repeat("a[", 13)+"b c", "()#", "/ and a")
	means(t, "1"+repeat(" ", 399), num(1))
	means(t, repeat("-", 119)+"1", minus(119, num(1)))
	means(t, repeat(" ", 50)+"\t\r\n1", num(1))
	means(t, "f("+repeat("1,", 58)+"1)", call("f", slices.Repeat([]api.Expr{num(1)}, 59)...))
	refused(t, api.ErrLong, "f("+repeat("1,", 59)+"1)")
}

// minus is an expression with so many signs ahead of it.
func minus(n int, e api.Expr) api.Expr {
	for range n {
		e = neg(e)
	}
	return e
}

func TestBracketsInOneAnother(t *testing.T) {
	repeat := strings.Repeat
	around := func(n int, open, inner, end string) string { return repeat(open, n) + inner + repeat(end, n) }
	for n := range 13 {
		means(t, around(n, "(", "1", ")"), num(1))
		in, called := named("b"), lit("a")
		for range n {
			in, called = path(child("b", in)), call("f", called)
		}
		means(t, around(n, "b[", "b", "]"), in)
		means(t, around(n, "f(", "'a'", ")"), called)
	}
	for n := 13; n < 30; n++ {
		refused(t, api.ErrNest, around(n, "(", "1", ")"), around(n, "a[", "a", "]"), around(n, "f(", "1", ")"), repeat("(", n), repeat("[", n))
	}
	refused(t, api.ErrNest, around(6, "a[(", "f(1)", ")]"), around(12, "(", "text()", ")"), around(12, "(", "a[1]", ")"), around(12, "a[", "f()", "]"), around(12, "a[", "processing-instruction('a')", "]"), around(6, "f(a[", "(1)", "])"))
	means(t, around(11, "(", "text()", ")"), path(step(api.AxChild, api.TestTexts)))
	means(t, around(11, "(", "a[1]", ")"), path(child("a", num(1))))
	means(t, around(11, "(", "f()", ")"), call("f"))
	// the count goes through all words, ahead of all that is wrong with them, and brackets of both kinds are one
	refused(t, api.ErrNest, repeat("(", 13)+")", repeat("[", 13), repeat("([", 6)+"(", "a/ "+repeat("(", 13), "1 + + "+around(13, "(", "1", ")"), "f(1,) "+repeat("[", 13), repeat("(", 12)+"]"+"((", around(12, "(", "", "]")+repeat("[", 13), "foo::a"+repeat("[", 13), "() + "+around(13, "a[", "1", "]"), repeat("(", 13)+repeat(")", 20))
	refused(t, api.ErrSyntax, repeat("(", 12), repeat("[", 12), repeat("([", 6), repeat("(", 12)+"]"+"(", around(12, "(", "", ")"), around(12, "(", "", "]")+repeat("(", 12), around(12, "[", "1", ")"))
	// it is never below nothing
	refused(t, api.ErrSyntax, repeat(")", 13), repeat(")", 5)+repeat("(", 12), repeat("]", 5)+repeat("[", 12), "1)))"+repeat("[", 12))
	refused(t, api.ErrNest, repeat(")", 5)+repeat("(", 13), repeat("]", 5)+repeat("(", 13), "1]]"+repeat("[", 13), ")("+repeat("(", 12), "(1)))"+repeat("(", 13))
	// what follows one another is not in one another, and what is in quotes is no bracket
	means(t, "f("+repeat("(1),", 19)+"(1))", call("f", slices.Repeat([]api.Expr{num(1)}, 20)...))
	means(t, "a"+repeat("[1]", 30), path(child("a", slices.Repeat([]api.Expr{num(1)}, 30)...)))
	means(t, "'"+repeat("(", 50)+"' = \""+repeat("[", 50)+"\"", of(api.EEq, lit(repeat("(", 50)), lit(repeat("[", 50))))
	means(t, around(12, "(", "')'", ")"), lit(")"))
	means(t, "f("+repeat("'(',\"[\",", 15)+"'(')", call("f", append(slices.Repeat([]api.Expr{lit("("), lit("[")}, 15), lit("("))...))
	refused(t, api.ErrNest, repeat("(", 12)+"')' + ']' + (1)"+repeat(")", 12), repeat("(", 12)+"')))'+(1)"+repeat(")", 12), repeat("(", 12)+"$a["+repeat(")", 12))
}

// P13.1: the grammar

func TestOperators(t *testing.T) {
	a, b, c := named("a"), named("b"), named("c")
	for rank, signs := range operators() {
		for _, x := range signs {
			means(t, "a "+x.mark+" b", of(x.op, a, b))
			means(t, "1"+x.mark+" 2", of(x.op, num(1), num(2)))
			refused(t, api.ErrSyntax, "a "+x.mark, "1"+x.mark, "(1 "+x.mark+")", "a[1 "+x.mark+"]", "1 "+x.mark+")", "f(1"+x.mark+")", "1 "+x.mark+" "+"|"+" 1")
			for other, rest := range operators() {
				for _, y := range rest {
					want := of(y.op, of(x.op, a, b), c)
					if other > rank {
						want = of(x.op, a, of(y.op, b, c))
					}
					means(t, "a "+x.mark+" b "+y.mark+" c", want)
					means(t, "(a "+x.mark+" b) "+y.mark+" c", of(y.op, of(x.op, a, b), c))
					means(t, "a "+x.mark+" (b "+y.mark+" c)", of(x.op, a, of(y.op, b, c)))
				}
			}
			if rank == 7 { // a union's sides have no sign
				means(t, "-a | b", neg(union(a, b)))
				refused(t, api.ErrSyntax, "a | -b", "a |-1", "-a|-b", "a | - - b")
				means(t, "a | (-b)", union(a, neg(b)))
				continue
			}
			means(t, "-a "+x.mark+" b", of(x.op, neg(a), b))
			means(t, "a "+x.mark+" -b", of(x.op, a, neg(b)))
			means(t, "-a "+x.mark+" - - b", of(x.op, neg(a), neg(neg(b))))
			means(t, "-(a "+x.mark+" b)", neg(of(x.op, a, b)))
			means(t, "- a|b "+x.mark+" c|a", of(x.op, neg(union(a, b)), union(c, a)))
		}
	}
	refused(t, api.ErrSyntax, "=", "1 = = 2", "1 < > 2", "1 or = 2", "+1", "1 + + 2", "= 1", "| a", "a | | b", "1 < = 2", "-", "- -", "1 -", "* *", "/ * 2", "/ div 2")
	refused(t, api.ErrSyntax, "| 1", "< 1", "<= 1", "!= 1", "1 2", "1 'a'", "'a' 'b'", "$a $b", "1 $a", "a 'b'", "a 1", ". 1", "a ..", "1.5.5")
	means(t, "1 - 2 - 3", sub(sub(num(1), num(2)), num(3)))
	means(t, "1-2-3*4", sub(sub(num(1), num(2)), mul(num(3), num(4))))
	means(t, "1 + 2 * 3 < 4 = 5 and 6 or 7", or(and(of(api.EEq, of(api.ELt, add(num(1), mul(num(2), num(3))), num(4)), num(5)), num(6)), num(7)))
	means(t, "1 or 2 and 3 = 4 < 5 + 6 * - 7 | 8", or(num(1), and(num(2), of(api.EEq, num(3), of(api.ELt, num(4), add(num(5), mul(num(6), neg(union(num(7), num(8))))))))))
	means(t, "- - 1", neg(neg(num(1))))
	means(t, "1--1", sub(num(1), neg(num(1))))
	means(t, "a | 1", union(a, num(1)))
	means(t, "* * *", mul(path(step(api.AxChild, api.TestAny)), path(step(api.AxChild, api.TestAny))))
	means(t, "div div div", of(api.EDiv, named("div"), named("div")))
	means(t, "or or or", or(named("or"), named("or")))
	means(t, "a=b!=c", of(api.ENe, of(api.EEq, a, b), c))
	means(t, "'or' or '|'", or(lit("or"), lit("|")))
}

func TestPrimaries(t *testing.T) {
	for s, want := range map[string]api.Expr{
		"$v": variable("v"), "$and": variable("and"), "'a'": lit("a"), `"a"`: lit("a"), "''": lit(""), `"'"`: lit("'"), `'"'`: lit(`"`), "'日'": lit("日"),
		"1": num(1), "0": num(0), ".5": {Op: api.ENum, N: api.Dec{V: 500000}}, "12.50": {Op: api.ENum, N: api.Dec{V: 12500000}}, "9223372036854.775807": {Op: api.ENum, N: api.Dec{V: math.MaxInt64}},
		"f()": call("f"), "f( )": call("f"), "f(1)": call("f", num(1)), "f(a)": call("f", named("a")), "and()": call("and"), "texts()": call("texts"), "self()": call("self"),
		"f((1))": call("f", num(1)), "f(1,'a',$b)": call("f", num(1), lit("a"), variable("b")), "f(a or b, -c)": call("f", or(named("a"), named("b")), neg(named("c"))), "f(f(), f(1), 1)": call("f", call("f"), call("f", num(1)), num(1)),
	} {
		means(t, s, want)
		means(t, " ( "+s+"\n) ", want)
		means(t, "(("+s+"))", want)
		means(t, s+"[1]", filter(want, num(1)))
		means(t, s+"[1] [ a or b ]", filter(want, num(1), or(named("a"), named("b"))))
		means(t, "("+s+")[1]", filter(want, num(1)))
		means(t, "("+s+"[1])", filter(want, num(1)))
		means(t, "("+s+"[1])[2]", filter(filter(want, num(1)), num(2)))
		means(t, "(("+s+"[1])[2])[3][4]", filter(filter(filter(want, num(1)), num(2)), num(3), num(4)))
		means(t, s+"/b", from(want, child("b")))
		means(t, s+"//b", from(want, below(), child("b")))
		means(t, s+"[1]/b", from(filter(want, num(1)), child("b")))
		means(t, s+"[1]//b[2]/@c", from(filter(want, num(1)), below(), child("b", num(2)), attribute("c")))
		means(t, "("+s+"/b)/c", from(from(want, child("b")), child("c")))
		means(t, "("+s+"/b)[1]", filter(from(want, child("b")), num(1)))
		means(t, s+"/./..", from(want, self(), parent()))
		means(t, s+" | "+s, union(want, want))
		means(t, "a["+s+"]", path(child("a", want)))
		refused(t, api.ErrSyntax, s+"/", s+"//", s+"/1", s+"/(a)", s+"/$a", s+"/f()", s+"/'a'", s+"[", s+"[1", s+"[]", s+"]", s+")", "("+s, s+"("+s+")", s+" .", s+" ..", s+"@a", s+"::a", s+",1", "/"+s, "//"+s, "a/"+s, "a//"+s, "@"+s, "child::"+s, s+"/[1]", s+"///a", s+"//[1]")
	}
	refused(t, api.ErrSyntax, "()", "( )", "(", ")", "(1", "1)", "(1))", "((1)", "(1]", "[1)", "(1,2)", "(,)", "f(", "f(1", "f(,)", "f(,1)", "f(1,)", "f(1,,2)", "f(1 2)", "f)", "f(]", "f[)", "f(1]", "f(()", "f(())", ",", "1,2", "[1]", "[", "]", "f()()", "f()(1)", "$a()", "'a'()", "$a::b", "(a)(b)")
	means(t, "(a)", named("a"))
	means(t, "(a/b)", path(child("a"), child("b")))
	means(t, "(a)/b", from(named("a"), child("b")))
	means(t, "(a)[1]", filter(named("a"), num(1)))
	means(t, "(a[1])[2]", filter(path(child("a", num(1))), num(2)))
	means(t, "(a | b)[1]/c", from(filter(union(named("a"), named("b")), num(1)), child("c")))
	means(t, "(/)[1]", filter(root(), num(1)))
	means(t, "(/)/a", from(root(), child("a")))
	means(t, "(-1)[2]", filter(neg(num(1)), num(2)))
	means(t, "(1 or 2)//.", from(or(num(1), num(2)), below(), self()))
	means(t, "concat('a', 2, processing-instruction('x'))", call("concat", lit("a"), num(2), path(api.Step{Axis: api.AxChild, T: api.Test{Kind: api.TestPI, Name: "x", Has: true}})))
}

func TestLocations(t *testing.T) {
	a, b := child("a"), child("b")
	means(t, "/", root())
	means(t, "a", path(a))
	means(t, "/a", root(a))
	means(t, "//a", root(below(), a))
	means(t, "a/b", path(a, b))
	means(t, "a//b", path(a, below(), b))
	means(t, "/a/b", root(a, b))
	means(t, "/a//b", root(a, below(), b))
	means(t, "//a/b", root(below(), a, b))
	means(t, "//a//b//a/b", root(below(), a, below(), b, below(), a, b))
	means(t, ".", path(self()))
	means(t, "..", path(parent()))
	means(t, "/.", root(self()))
	means(t, "/..", root(parent()))
	means(t, "//.", root(below(), self()))
	means(t, "//..", root(below(), parent()))
	means(t, "./..", path(self(), parent()))
	means(t, ".//a", path(self(), below(), a))
	means(t, "../a/.", path(parent(), a, self()))
	means(t, "//a[1]/@b", root(below(), child("a", num(1)), attribute("b")))
	means(t, " / a / b ", root(a, b))
	means(t, "/*", root(step(api.AxChild, api.TestAny)))
	means(t, "/@*", root(step(api.AxAttribute, api.TestAny)))
	means(t, "/text()", root(step(api.AxChild, api.TestTexts)))
	means(t, "/self::a", root(api.Step{Axis: api.AxSelf, T: a.T}))
	// a stroke with no step behind it
	for mark, op := range map[string]int{"+": api.EAdd, "-": api.ESub, "=": api.EEq, "!=": api.ENe, "<": api.ELt, "<=": api.ELe, ">": api.EGt, ">=": api.EGe, "|": api.EUnion} {
		means(t, "/ "+mark+" 1", of(op, root(), num(1)))
		means(t, "/"+mark+"/", of(op, root(), root()))
		means(t, "1 "+mark+"/", of(op, num(1), root()))
		means(t, "a/b "+mark+" /c", of(op, path(a, b), root(child("c"))))
	}
	means(t, "-/", neg(root()))
	means(t, "f(/)", call("f", root()))
	means(t, "f(/,/)", call("f", root(), root()))
	means(t, "a[/]", path(child("a", root())))
	means(t, "(/) * 2", mul(root(), num(2)))
	means(t, "(/) and 2", and(root(), num(2)))
	refused(t, api.ErrSyntax, "//", "///", "/ /", "/ //", "// /", "///a", "/ /a", "/ //a", "// /a", "a/", "a//", "a/ /b", "a///b", "a//a//", "/a/", "//a/", "./", "..//", ".//", "@a/", "a/[1]", "/[1]", "//[1]", "/(a)", "//(a)", "a/(b)", "a/(b|c)", "/1", "/'a'", "/$a", "/f()", "//f()", "a/f()", "a/1", "a/'b'", "a/$b", "/)", "/]", "/,", "/::a", "/ * 2", "/ or 2", "/ mod 2", "// + 1", "//|a", "a/-b", "/-")
}

func TestSteps(t *testing.T) {
	refused(t, api.ErrSyntax, ".[1]", "..[1]", "a/.[1]", "//..[1]", ".()", "...", ".. ..", ". .", "./.[.]", ".::a", "..::a", "@.", "@..", "self::.", "self::..", "child::..", ".(1)", ".@a", ". /", "@", "@@a", "@@", "@[1]", "@1", "@'a'", "@$a", "@(a)", "@f()", "@/a", "@@*", "@child::a", "@attribute::a", "child::@a", "child::", "child::child::a", "child::1", "child::'a'", "child::$a", "child::(a)", "child::f()", "child::[1]", "child::/", "::", "::a", "a[", "a[]", "a[1", "a[1)", "a(1]", "a]", "a[1]]", "a[[1]]", "a[1][", "a[1,2]", "a[1]()", "a[1](1)", "a[1]@b", "a[1]$b", "a[1]'b'", "[a]", "a@b", "*@*", "a[1]1", "a [] [1]", "a[1].", "**")
	tests := map[string]api.Test{
		"a": {Kind: api.TestName, Name: "a"}, "a-1.b": {Kind: api.TestName, Name: "a-1.b"}, "é日": {Kind: api.TestName, Name: "é日"}, "or": {Kind: api.TestName, Name: "or"}, "text": {Kind: api.TestName, Name: "text"}, "child": {Kind: api.TestName, Name: "child"},
		"*": {Kind: api.TestAny}, "node()": {Kind: api.TestNode}, "text()": {Kind: api.TestTexts}, "comment()": {Kind: api.TestComment}, "processing-instruction()": {Kind: api.TestPI},
		"processing-instruction('b')": {Kind: api.TestPI, Name: "b", Has: true}, `processing-instruction("a b")`: {Kind: api.TestPI, Name: "a b", Has: true}, "processing-instruction('')": {Kind: api.TestPI, Has: true}, "processing-instruction ( '(' )": {Kind: api.TestPI, Name: "(", Has: true}, "node ( )": {Kind: api.TestNode},
	}
	for s, test := range tests {
		ways := map[string]int{"": api.AxChild, "@": api.AxAttribute, "@ ": api.AxAttribute}
		for a, name := range axes() {
			if a > 0 {
				ways[name+"::"], ways[name+" :: "] = a, a
			}
		}
		for way, a := range ways {
			plain := api.Step{Axis: a, T: test}
			some := api.Step{Axis: a, T: test, Preds: []api.Expr{num(1), path(plain), filter(named("x"), num(2))}}
			means(t, way+s, path(plain))
			means(t, "/"+way+s, root(plain))
			means(t, "//"+way+s+"//"+way+s, root(below(), plain, below(), plain))
			means(t, "$v/"+way+s, from(variable("v"), plain))
			means(t, way+s+"[1]["+way+s+"] [(x)[2]]/"+way+s, path(some, plain))
			means(t, "("+way+s+"[1])[1]", filter(path(api.Step{Axis: a, T: test, Preds: []api.Expr{num(1)}}), num(1)))
		}
		refused(t, api.ErrSyntax, "foo::"+s, "Child::"+s, "childs::"+s, "namespace::"+s, "children::"+s, "text::"+s, "or::"+s, "descendant-or-selfs::"+s, "child::"+s+"::", "a/foo::"+s, "a[foo::"+s+"]", "@foo::"+s, "a/b/foo::"+s+" or 1", "Self::"+s, "SELF::"+s)
	}
	refused(t, api.ErrSyntax, "text(1)", "text('a')", "node('a')", "comment('a')", "text(a)", "text(", "text)", "text()()", "text(()", "processing-instruction(a)", "processing-instruction(1)", "processing-instruction($a)", "processing-instruction('a','b')", "processing-instruction('a'", "processing-instruction('a'()", "processing-instruction('a' + 'b')", "processing-instruction(('a'))", "processing-instruction(,)", "processing-instruction('a')()", "processing-instruction(", "text(]", "comment('')", "node(.)", "node(*)", "text()(")
}

func TestWordsThatAreNone(t *testing.T) {
	refused(t, api.ErrSyntax, "", " ", "\t\r\n ", strings.Repeat(" ", 400))
	// what is in quotes is neither a mark nor an operator, nor a name
	refused(t, api.ErrSyntax, "'('1')'", "1 '+' 1", "a'/'1", "'@'*", "'('1)", "(1')'", "f'('1)", "f(1')'", "a'['1]", "a[1']'", "'.''.'", "'child'::a", "child'::'*", "f(1','2)", "'/'/a/", "a '*' 1", "'-'1", "a'|'.", "'f'()", "'text'()", "a'and'1")
	refused(t, api.ErrLex, "a'/'b", "'@'a", "a '*' b", "'$'a")
	means(t, "'.'", lit("."))
	means(t, "'..'/a", from(lit(".."), child("a")))
	means(t, "'/'/a", from(lit("/"), child("a")))
	means(t, "'-' - '-'", sub(lit("-"), lit("-")))
	means(t, "f(')',']',',')", call("f", lit(")"), lit("]"), lit(",")))
}

// All together: held against the grammar.

// Rows of words of all kinds.
func TestAllShortRows(t *testing.T) {
	many := []string{"a", "*", "1", "'/'", "$v", "f(", "text(", "processing-instruction(", "self::", "foo::", ".", "..", "@", "(", ")", "[", "]", ",", "::", "/", "//", "|", "-", "+", "=", "<", "and", "div"}
	some := []string{"a", "1", "'b'", "f(", "(", ")", "[", "]", "/", "//", "-", "|", "@", ","}
	few := []string{"a", "1", "f(", "(", ")", "[", "]", "/", "-"}
	for _, c := range []struct {
		words []string
		long  int
	}{{many, 3}, {some, 4}, {few, 5}} {
		right, rows := 0, []string{""}
		for range c.long {
			var longer []string
			for _, row := range rows {
				for _, w := range c.words {
					s := row + w + " "
					longer = append(longer, s)
					if holds(t, s) {
						right++
					}
					if t.Failed() {
						return
					}
				}
			}
			rows = longer
		}
		if right < 100 {
			t.Errorf("only %d expressions of words of %v", right, c.words)
		}
	}
}

// maker makes expressions by chance, as their words and as what these mean.
type maker struct{ *rand.Rand }

// expr makes one whose operators, if there are any outside of brackets, have a rank that is this, or is above it.
func (m maker) expr(rank, deep int) ([]string, api.Expr) {
	ranks := operators()
	switch {
	case rank < len(ranks) && (deep <= 0 || m.Intn(6) > 0):
		return m.expr(rank+1, deep)
	case rank == 6:
		words, e := m.expr(6, deep-1)
		return append([]string{"-"}, words...), neg(e)
	case rank < len(ranks):
		left, a := m.expr(rank, deep-1)
		right, b := m.expr(rank+1, deep-1)
		x := ranks[rank][m.Intn(len(ranks[rank]))]
		return slices.Concat(left, []string{x.mark}, right), of(x.op, a, b)
	case m.Intn(3) > 0:
		return m.location(deep)
	}
	words, e := m.filter(deep)
	if m.Intn(3) > 0 {
		return words, e
	}
	more, steps := m.steps(deep-1, true)
	return append(words, more...), from(e, steps...)
}

// filter makes a primary, with or without predicates.
func (m maker) filter(deep int) ([]string, api.Expr) {
	words, e := m.primary(deep)
	more, preds := m.preds(deep)
	if len(preds) == 0 {
		return words, e
	}
	return append(words, more...), filter(append([]api.Expr{e}, preds...)...)
}

// primary makes one that stands for itself, a call, or brackets.
func (m maker) primary(deep int) ([]string, api.Expr) {
	k := m.Intn(5)
	if deep <= 0 {
		k = m.Intn(3)
	}
	switch k {
	case 0:
		return []string{"$v"}, variable("v")
	case 1:
		return []string{"'a b'"}, lit("a b")
	case 2:
		return []string{"2."}, num(2)
	case 3:
		words, e := m.expr(0, deep-1)
		return slices.Concat([]string{"("}, words, []string{")"}), e
	}
	words, e := []string{"f", "("}, call("f")
	for i := range m.Intn(4) {
		if i > 0 {
			words = append(words, ",")
		}
		more, arg := m.expr(0, deep-1)
		words, e.Kids = append(words, more...), append(e.Kids, arg)
	}
	return append(words, ")"), e
}

// location makes a path from the root, or from where one is.
func (m maker) location(deep int) ([]string, api.Expr) {
	switch m.Intn(9) {
	case 0, 1:
		words, steps := m.steps(deep, true)
		return words, root(steps...)
	case 2: // in brackets, since behind it a star would be no operator
		return []string{"(", "/", ")"}, root()
	}
	words, steps := m.steps(deep, false)
	return words, path(steps...)
}

// steps makes some, with strokes between, and ahead, if asked for.
func (m maker) steps(deep int, ahead bool) (words []string, steps []api.Step) {
	for i := range 1 + m.Intn(3) {
		switch {
		case i == 0 && !ahead:
		case m.Intn(3) == 0:
			words, steps = append(words, "//"), append(steps, below())
		default:
			words = append(words, "/")
		}
		more, s := m.step(deep)
		words, steps = append(words, more...), append(steps, s)
	}
	return words, steps
}

// step makes one.
func (m maker) step(deep int) (words []string, s api.Step) {
	if k := m.Intn(8); k < 2 {
		return []string{[]string{".", ".."}[k]}, []api.Step{self(), parent()}[k]
	}
	a := m.Intn(len(axes()))
	switch {
	case a == 0:
		a = api.AxChild
	case a == api.AxAttribute && m.Intn(2) == 0:
		words = append(words, "@")
	default:
		words = append(words, axes()[a], "::")
	}
	s = api.Step{Axis: a, T: api.Test{Kind: 1 + m.Intn(6)}}
	switch s.T.Kind {
	case api.TestName:
		s.T.Name = []string{"a", "b", "div", "text", "self"}[m.Intn(5)]
		words = append(words, s.T.Name)
	case api.TestAny:
		words = append(words, "*")
	case api.TestNode:
		words = append(words, "node", "(", ")")
	case api.TestTexts:
		words = append(words, "text", "(", ")")
	case api.TestComment:
		words = append(words, "comment", "(", ")")
	case api.TestPI:
		words = append(words, "processing-instruction", "(", ")")
		if m.Intn(2) == 0 {
			s.T.Name, s.T.Has = "c", true
			words = slices.Insert(words, len(words)-1, `"c"`)
		}
	}
	more, preds := m.preds(deep)
	s.Preds = preds
	return append(words, more...), s
}

// preds makes predicates, or none.
func (m maker) preds(deep int) (words []string, preds []api.Expr) {
	for deep > 0 && m.Intn(4) == 0 {
		more, e := m.expr(0, deep-1)
		words, preds = slices.Concat(words, []string{"["}, more, []string{"]"}), append(preds, e)
	}
	return words, preds
}

// fits asks whether a text is within the bounds: its bytes, its words, and its brackets in one another.
func fits(s string) bool {
	words, e := lex.Lex(s)
	count, most := 0, 0
	for _, w := range words {
		if w.Kind == api.WMark {
			count += map[string]int{"(": 1, "[": 1, ")": -1, "]": -1}[w.S]
			most = max(most, count)
		}
	}
	return e != api.ErrLong && most <= 12
}

func TestMadeExpressions(t *testing.T) {
	m := maker{rand.New(rand.NewSource(13))}
	asked := 0
	for range 20000 {
		words, want := m.expr(0, 4)
		s := strings.Join(words, " ")
		if !fits(s) {
			continue
		}
		asked++
		means(t, s, want)
		loose, _ := lex.Lex(s)
		if close := strings.Join(words, ""); len(loose) == len(words) {
			if tight, _ := lex.Lex(close); reflect.DeepEqual(tight, loose) {
				means(t, close, want)
			}
		}
		if asked%20 == 0 && len(words) < 40 {
			holds(t, s)
		}
		if t.Failed() {
			return
		}
	}
	if asked < 15000 {
		t.Errorf("only %d were asked", asked)
	}
}

// Rows of words that are an expression, with one of them left out, doubled, another one, or two of them turned round.
func TestExpressionsWithOneWordTurned(t *testing.T) {
	m := maker{rand.New(rand.NewSource(131))}
	others := []string{"a", "*", "1", "'a'", "$v", "f", "text", "self", "foo", "::", ".", "..", "@", "(", ")", "[", "]", ",", "/", "//", "|", "-", "=", "and"}
	right := 0
	for range 6000 {
		words, _ := m.expr(0, 3)
		if len(words) > 24 {
			continue
		}
		i, w := m.Intn(len(words)), others[m.Intn(len(others))]
		switch m.Intn(4) {
		case 0:
			words = slices.Delete(words, i, i+1)
		case 1:
			words = slices.Insert(words, i, w)
		case 2:
			words[i] = w
		case 3:
			j := m.Intn(len(words))
			words[i], words[j] = words[j], words[i]
		}
		if holds(t, strings.Join(words, " ")) {
			right++
		}
		if t.Failed() {
			return
		}
	}
	if right < 300 {
		t.Errorf("only %d expressions", right)
	}
}

// Bytes by chance: each is answered, and without an expression, if it is none.
func TestTextsByChance(t *testing.T) {
	r := rand.New(rand.NewSource(132))
	const bytes = "aab()[]//..@*,:-+=<>|!'\"$1 \xff#"
	for range 50000 {
		s := make([]byte, r.Intn(30))
		for i := range s {
			s[i] = bytes[r.Intn(len(bytes)-2*r.Intn(2))]
		}
		_, lexed := lex.Lex(string(s))
		e, wrong := syntax.Parse(string(s))
		if lexed != api.OK && wrong != lexed || wrong != api.OK && !reflect.DeepEqual(e, api.Expr{}) {
			t.Fatalf("Parse(%q) = %v, %d", s, e, int(wrong))
		}
	}
}

// P13.2

// wild makes an expression by chance, which may be none that Parse tells.
func wild(r *rand.Rand, deep int) api.Expr {
	n := func() int { return []int{0, 1, 2, 21, -1, math.MaxInt, math.MinInt}[r.Intn(7)] }
	s := func() string { return []string{"", "a", "b", "\xff"}[r.Intn(4)] }
	list := func() (l []api.Expr) {
		for range r.Intn(4) * min(deep, 1) {
			l = append(l, wild(r, deep-1))
		}
		return l
	}
	e := api.Expr{Op: n(), S: s(), N: api.Dec{Tag: n(), V: int64(n())}, Abs: r.Intn(2) == 0, Kids: list()}
	for range r.Intn(3) {
		e.Steps = append(e.Steps, api.Step{Axis: n(), T: api.Test{Kind: n(), Name: s(), Has: r.Intn(2) == 0}, Preds: list()})
	}
	return e
}

// turned tells all expressions that are another one in one thing.
func turned(e api.Expr) (all []api.Expr) {
	with := func(turn func(e *api.Expr)) {
		other := spare(e, nil, nil)
		turn(&other)
		all = append(all, other)
	}
	with(func(e *api.Expr) { e.Op++ })
	with(func(e *api.Expr) { e.S += "x" })
	with(func(e *api.Expr) { e.N.Tag++ })
	with(func(e *api.Expr) { e.N.V++ })
	with(func(e *api.Expr) { e.Abs = !e.Abs })
	for _, kids := range lists(e.Kids) {
		with(func(e *api.Expr) { e.Kids = kids })
	}
	with(func(e *api.Expr) { e.Steps = append(e.Steps, api.Step{}) })
	with(func(e *api.Expr) { e.Steps = append([]api.Step{{Axis: -7}}, e.Steps...) })
	for i, s := range e.Steps {
		with(func(e *api.Expr) { e.Steps = slices.Delete(e.Steps, i, i+1) })
		with(func(e *api.Expr) { e.Steps[i].Axis++ })
		with(func(e *api.Expr) { e.Steps[i].T.Kind++ })
		with(func(e *api.Expr) { e.Steps[i].T.Name += "x" })
		with(func(e *api.Expr) { e.Steps[i].T.Has = !s.T.Has })
		for _, preds := range lists(s.Preds) {
			with(func(e *api.Expr) { e.Steps[i].Preds = preds })
		}
	}
	return all
}

// lists tells lists that are another one in one thing.
func lists(l []api.Expr) (all [][]api.Expr) {
	all = append(all, append(slices.Clone(l), api.Expr{}), append([]api.Expr{{Op: -7}}, l...))
	for i, e := range l {
		all = append(all, slices.Delete(slices.Clone(l), i, i+1))
		for _, other := range turned(e) {
			row := slices.Clone(l)
			row[i] = other
			all = append(all, row)
		}
	}
	return all
}

func TestSame(t *testing.T) {
	r := rand.New(rand.NewSource(133))
	for range 300 {
		e := wild(r, 2)
		// no list, one of nothing, and one with room to spare are one
		for _, other := range []api.Expr{e, spare(e, nil, nil), spare(e, []api.Expr{}, []api.Step{}), spare(e, make([]api.Expr, 0, 3)[:0:0], make([]api.Step, 0, 3)[:0:0])} {
			if !syntax.Same(e, other) || !syntax.Same(other, e) {
				t.Fatalf("Same(%v, %v) = false", e, other)
			}
		}
		for _, other := range turned(e) {
			if syntax.Same(e, other) || syntax.Same(other, e) {
				t.Fatalf("Same(%v, %v) = true", e, other)
			}
		}
		a, b := wild(r, 1), wild(r, 1)
		if syntax.Same(a, b) != same(a, b) {
			t.Fatalf("Same(%v, %v) = %v", a, b, !same(a, b))
		}
	}
	if !syntax.Same(api.Expr{}, api.Expr{}) {
		t.Error("nothing is not the same as nothing")
	}
	for _, p := range [][2]string{{"a[1][2]", "a[2][1]"}, {"a - b", "b - a"}, {"a/b", "b/a"}, {"f(1,2)", "f(2,1)"}, {"1", "2"}, {"1", "'1'"}, {"$a", "a"}, {"a", "/a"}, {"a", "@a"}, {"a", "b"}, {"processing-instruction()", "processing-instruction('')"}, {"(a)/b", "a/b"}, {"(a[1])[2]", "(a)[1][2]"}, {"(1[2])[3]", "1[2][3]"}, {"a < b", "b > a"}} {
		a, _ := syntax.Parse(p[0])
		b, _ := syntax.Parse(p[1])
		if syntax.Same(a, b) || !syntax.Same(a, a) || !syntax.Same(b, b) {
			t.Errorf("Same of %q and %q", p[0], p[1])
		}
	}
	for _, p := range [][2]string{{"a", "child::a"}, {"@a", "attribute::a"}, {".", "self::node()"}, {"..", "parent::node()"}, {"//a", "/descendant-or-self::node()/child::a"}, {"1.50", "1.5"}, {`"a"`, "'a'"}, {"((a))", " a "}, {"a or b", "(a)or(b)"}} {
		a, _ := syntax.Parse(p[0])
		b, _ := syntax.Parse(p[1])
		if !syntax.Same(a, b) || a.Op == 0 {
			t.Errorf("Same of %q and %q", p[0], p[1])
		}
	}
}

// As deep as things may be nested in one another.
func TestDeepExpressionsAreTheSame(t *testing.T) {
	deep := func(inmost api.Expr) api.Expr {
		e := inmost
		for i := range 1<<16 - 2 {
			if i%2 == 0 {
				e = neg(e)
			} else {
				e = path(child("a", e))
			}
		}
		return e
	}
	if !syntax.Same(deep(num(1)), deep(num(1))) || syntax.Same(deep(num(1)), deep(num(2))) {
		t.Error("Same of deep ones")
	}
}

// P13.3

func TestBracketsAreTheExpressionItself(t *testing.T) {
	m := maker{rand.New(rand.NewSource(134))}
	for range 5000 {
		words, want := m.expr(0, 3)
		s := strings.Join(words, " ")
		for range 3 {
			s = "( " + s + " )"
			if fits(s) {
				means(t, s, want)
			}
		}
	}
}

func TestSidesOfOperators(t *testing.T) {
	m := maker{rand.New(rand.NewSource(135))}
	for range 2000 {
		for rank, signs := range operators() {
			for _, x := range signs {
				left, a := m.expr(rank+1, 2)
				right, b := m.expr(rank+1, 2)
				if s := strings.Join(slices.Concat(left, []string{x.mark}, right), " "); fits(s) {
					means(t, s, of(x.op, a, b))
				}
			}
		}
	}
}

// R3

func TestAnswersShareNothing(t *testing.T) {
	m := maker{rand.New(rand.NewSource(136))}
	for range 3000 {
		words, want := m.expr(0, 3)
		s := strings.Join(words, " ")
		if !fits(s) {
			continue
		}
		one, _ := syntax.Parse(s)
		other, _ := syntax.Parse(s)
		spoil(other)
		if !same(one, want) {
			t.Fatalf("an answer to %q hangs on another one", s)
		}
		// what is written behind the end of one list is seen in no other one
		spoilRoom(one)
		if !same(one, want) {
			t.Fatalf("lists of the answer to %q share memory", s)
		}
		means(t, s, want)
	}
}

// spoil wipes all lists of an expression, their spare room, too.
func spoil(e api.Expr) {
	for _, k := range e.Kids {
		spoil(k)
	}
	for _, s := range e.Steps {
		for _, k := range s.Preds {
			spoil(k)
		}
		clear(s.Preds[:cap(s.Preds)])
	}
	clear(e.Kids[:cap(e.Kids)])
	clear(e.Steps[:cap(e.Steps)])
}

// spoilRoom writes into the spare room of all lists of an expression.
func spoilRoom(e api.Expr) {
	room := func(l []api.Expr) {
		for i := range l[len(l):cap(l)] {
			l[len(l):cap(l)][i] = api.Expr{Op: -7}
		}
		for _, k := range l {
			spoilRoom(k)
		}
	}
	room(e.Kids)
	for i := range e.Steps[len(e.Steps):cap(e.Steps)] {
		e.Steps[len(e.Steps):cap(e.Steps)][i] = api.Step{Axis: -7}
	}
	for _, s := range e.Steps {
		room(s.Preds)
	}
}

func TestExpressionsAreOnlyAsked(t *testing.T) {
	r := rand.New(rand.NewSource(137))
	for range 300 {
		a, b := wild(r, 2), wild(r, 2)
		kept, other := spare(a, nil, nil), spare(b, nil, nil)
		spoilRoom(a)
		spoilRoom(b)
		roomA, roomB := rooms(a), rooms(b)
		syntax.Same(a, b)
		syntax.Same(a, a)
		if !same(a, kept) || !same(b, other) || !reflect.DeepEqual(rooms(a), roomA) || !reflect.DeepEqual(rooms(b), roomB) {
			t.Fatalf("Same turned %v or %v", kept, other)
		}
	}
}

// rooms is the expression with all that stands in the spare room of its lists.
func rooms(e api.Expr) api.Expr {
	list := func(l []api.Expr) (all []api.Expr) {
		for _, k := range l[:cap(l)] {
			all = append(all, rooms(k))
		}
		return all
	}
	e.Kids, e.Steps = list(e.Kids), slices.Clone(e.Steps[:cap(e.Steps)])
	for i := range e.Steps {
		e.Steps[i].Preds = list(e.Steps[i].Preds)
	}
	return e
}

func TestExamples(t *testing.T) {
	means(t, "1 - 2 - 3", sub(sub(num(1), num(2)), num(3)))
	means(t, "//a[1]/@b", root(below(), child("a", num(1)), attribute("b")))
	means(t, "(a | b)[1]/c", from(filter(union(named("a"), named("b")), num(1)), child("c")))
	means(t, "-a|b", neg(union(named("a"), named("b"))))
	refused(t, api.ErrSyntax, "a[", "()", "a/", "foo::a", "1 +", "")
}
