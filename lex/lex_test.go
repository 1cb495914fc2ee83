package lex_test

import (
	"math/big"
	"math/rand"
	"reflect"
	"regexp"
	"strings"
	"testing"

	"breviary/api"
	"breviary/char"
	"breviary/lex"
)

// broken is bytes that are no text of characters.
var broken = []string{
	"\x00", "\x01", "\x08", "\x0b", "\x0c", "\x1f", "\ufffe", "\uffff",
	"\x80", "\xc3", "\xe6\x97", "\xc0\x80", "\xc0\xa0", "\xed\xa0\x80", "\xf4\x90\x80\x80", "\xff",
}

// Words, as they are told.

func word(kind int, s string) api.Word { return api.Word{Kind: kind, S: s} }
func mark(s string) api.Word           { return word(api.WMark, s) }
func name(s string) api.Word           { return word(api.WName, s) }
func star() api.Word                   { return word(api.WStar, "*") }
func kindOf(s string) api.Word         { return word(api.WType, s) }
func op(s string) api.Word             { return word(api.WOp, s) }
func call(s string) api.Word           { return word(api.WFunc, s) }
func way(s string) api.Word            { return word(api.WAxis, s) }
func text(s string) api.Word           { return word(api.WLit, s) }
func variable(s string) api.Word       { return word(api.WVar, s) }

// num is a number of so many millionths.
func num(s string, v int64) api.Word {
	return api.Word{Kind: api.WNum, S: s, N: api.Dec{V: v}}
}

const unit = api.Unit

// The chapter's words once more, by patterns and by whole numbers without bounds, to hold the package against.

const (
	part  = `[A-Z_a-z\x{C0}-\x{D6}\x{D8}-\x{F6}\x{F8}-\x{2FF}\x{370}-\x{37D}\x{37F}-\x{1FFF}\x{200C}\x{200D}\x{2070}-\x{218F}\x{2C00}-\x{2FEF}\x{3001}-\x{D7FF}\x{F900}-\x{FDCF}\x{FDF0}-\x{FFFD}\x{10000}-\x{EFFFF}\-.0-9\x{B7}\x{300}-\x{36F}\x{203F}\x{2040}]`
	space = `[\t\n\r ]`
)

var (
	spaces   = regexp.MustCompile(`^` + space + `*`)
	literal  = regexp.MustCompile(`^(?s:"(.*?)"|'(.*?)')`)
	number   = regexp.MustCompile(`^(?:([0-9]+)(?:\.([0-9]*))?|\.([0-9]+))`)
	sign     = regexp.MustCompile(`^(?:\.\.|::|[()\[\].@,])`)
	operator = regexp.MustCompile(`^(?://|!=|<=|>=|[/|+\-=<>])`)
	dollar   = regexp.MustCompile(`^\$(` + part + `+)`)
	letters  = regexp.MustCompile(`^` + part + `+`)
	joining  = regexp.MustCompile(`^(?:and|or|mod|div)$`)
	types    = regexp.MustCompile(`^(?:comment|text|processing-instruction|node)$`)
	opens    = regexp.MustCompile(`^` + space + `*\(`)
	colons   = regexp.MustCompile(`^` + space + `*::`)
	begins   = regexp.MustCompile(`^(?:@|::|\(|\[|,)$`)
)

// lexed is what Lex is to answer.
func lexed(s string) ([]api.Word, api.Errno) {
	if len(s) > 400 {
		return nil, api.ErrLong
	}
	if !char.Text(s) {
		return nil, api.ErrChar
	}
	var all []api.Word
	for {
		s = s[len(spaces.FindString(s)):]
		if s == "" {
			return all, api.OK
		}
		w, length := first(s, endsPart(all))
		if length == 0 {
			return nil, api.ErrLex
		}
		all = append(all, w)
		if len(all) > 120 {
			return nil, api.ErrLong
		}
		s = s[length:]
	}
}

// endsPart asks whether the last one of some words, if there is one, ends a part.
func endsPart(all []api.Word) bool {
	if len(all) == 0 {
		return false
	}
	last := all[len(all)-1]
	return last.Kind != api.WOp && !(last.Kind == api.WMark && begins.MatchString(last.S))
}

// first is the word that stands first, and how many bytes it has; 0, if none does.
func first(s string, ended bool) (api.Word, int) {
	if strings.HasPrefix(s, "*") {
		if ended {
			return op("*"), 1
		}
		return star(), 1
	}
	if m := literal.FindStringSubmatch(s); m != nil {
		return text(m[1] + m[2]), len(m[0])
	}
	if m := number.FindStringSubmatch(s); m != nil {
		v, _ := new(big.Int).SetString(m[1]+(m[2] + m[3] + "000000")[:6], 10)
		if !v.IsInt64() {
			return api.Word{}, 0
		}
		return num(m[0], v.Int64()), len(m[0])
	}
	if m := sign.FindString(s); m != "" {
		return mark(m), len(m)
	}
	if m := operator.FindString(s); m != "" {
		return op(m), len(m)
	}
	if m := dollar.FindStringSubmatch(s); m != nil && char.Name(m[1]) {
		return variable(m[1]), len(m[0])
	}
	m := letters.FindString(s)
	rest := s[len(m):]
	switch {
	case !char.Name(m):
		return api.Word{}, 0
	case ended && joining.MatchString(m):
		return op(m), len(m)
	case ended:
		return api.Word{}, 0
	case opens.MatchString(rest) && types.MatchString(m):
		return kindOf(m), len(m)
	case opens.MatchString(rest):
		return call(m), len(m)
	case colons.MatchString(rest):
		return way(m), len(m)
	}
	return name(m), len(m)
}

// shown is a word as it stands in an expression.
func shown(w api.Word) string {
	switch {
	case w.Kind == api.WVar:
		return "$" + w.S
	case w.Kind == api.WLit && strings.Contains(w.S, "'"):
		return `"` + w.S + `"`
	case w.Kind == api.WLit:
		return "'" + w.S + "'"
	}
	return w.S
}

// joined is words with something between.
func joined(all []api.Word, between string) string {
	texts := make([]string, len(all))
	for i, w := range all {
		texts[i] = shown(w)
	}
	return strings.Join(texts, between)
}

// holds holds what a text is lexed as, and what its words are lexed as, against what they are to be.
func holds(t *testing.T, s string) {
	t.Helper()
	want, wanted := lexed(s)
	got, e := lex.Lex(s)
	if e != wanted || !same(got, want) {
		t.Errorf("Lex(%.120q) = %v, %d, not %v, %d", s, got, int(e), want, int(wanted))
	}
	if e == api.OK {
		lexesAgain(t, got)
	}
}

// lexesAgain asks whether words, with spaces between, are lexed as the same words, as long as they fit (P12.2).
func lexesAgain(t *testing.T, all []api.Word) {
	t.Helper()
	for _, between := range []string{" ", " \t\r\n"} {
		s := joined(all, between)
		got, e := lex.Lex(s)
		if len(s) > 400 {
			if e != api.ErrLong || len(got) > 0 {
				t.Errorf("Lex(%.120q) = %v, %d, not %d", s, got, int(e), int(api.ErrLong))
			}
			continue
		}
		if e != api.OK || !same(got, all) {
			t.Errorf("Lex(%.120q) = %v, %d, not %v", s, got, int(e), all)
		}
	}
}

// same asks whether words are the same, in all their fields; no list is an empty one.
func same(a, b []api.Word) bool { return len(a) == 0 && len(b) == 0 || reflect.DeepEqual(a, b) }

// words asks whether a text is of these words.
func words(t *testing.T, s string, want ...api.Word) {
	t.Helper()
	if got, e := lex.Lex(s); e != api.OK || !same(got, want) {
		t.Errorf("Lex(%.120q) = %v, %d, not %v", s, got, int(e), want)
	}
	holds(t, s)
}

// refused asks whether texts are refused, by this error and without words.
func refused(t *testing.T, want api.Errno, texts ...string) {
	t.Helper()
	for _, s := range texts {
		if got, e := lex.Lex(s); e != want || len(got) != 0 {
			t.Errorf("Lex(%.120q) = %v, %d, not %d", s, got, int(e), int(want))
		}
		holds(t, s)
	}
}

// P12.1, ahead of all words

func TestLength(t *testing.T) {
	repeat := strings.Repeat
	words(t, repeat(" ", 400))
	words(t, repeat(" ", 399)+"a", name("a"))
	words(t, "a"+repeat(" ", 399), name("a"))
	words(t, "'"+repeat("a", 398)+"'", text(repeat("a", 398)))
	words(t, "'"+repeat("日", 132)+"é'", text(repeat("日", 132)+"é"))
	words(t, repeat("0", 399)+"7", num(repeat("0", 399)+"7", 7*unit))
	refused(t, api.ErrLong, repeat(" ", 401), repeat(" ", 400)+"a", "'"+repeat("a", 399)+"'", "'"+repeat("日", 133)+"'", repeat("0", 401), repeat("(", 401), repeat("a", 1<<20), repeat(" ", 1<<20))
	refused(t, api.ErrLong, repeat("\xff", 401), repeat("#", 401), repeat(" ", 400)+"\x00", "#"+repeat(" ", 400)) // ahead of all other errors
	refused(t, api.ErrChar, repeat("\xff", 400), repeat("(", 399)+"\xff")
	refused(t, api.ErrLex, repeat("#", 400), repeat("a", 400))
}

func TestCharacters(t *testing.T) {
	for _, w := range broken {
		refused(t, api.ErrChar, w, " "+w, w+" ", "a"+w, w+"a", "1"+w, "."+w, "'"+w+"'", "\""+w, "$"+w, "$a"+w, "a "+w, "a("+w, "a"+w+"::", "*"+w, "#"+w, w+"#", "a:b"+w, "99999999999999"+w, "a b "+w, strings.Repeat("1 ", 121)+w)
	}
	words(t, "'\ufffd\U0010ffff\ue000\u0085\x7f'", text("\ufffd\U0010ffff\ue000\u0085\x7f"))
	refused(t, api.ErrLex, "\ue000", "\U0010ffff", "\x7f", "a\ue000")
	words(t, "\ufffd", name("\ufffd"))
}

func TestSpaces(t *testing.T) {
	words(t, "")
	words(t, " ")
	words(t, "\t\n\r ")
	words(t, "\t\n\r a\t\n\r [\t\n\r 1\t\n\r ]\t\n\r ", name("a"), mark("["), num("1", unit), mark("]"))
	words(t, "a\n", name("a"))
	words(t, "< =", op("<"), op("="))
	words(t, "/ /", op("/"), op("/"))
	words(t, ". .", mark("."), mark("."))
	words(t, "1 .5", num("1", unit), num(".5", unit/2))
	words(t, "1. 5", num("1.", unit), num("5", 5*unit))
	words(t, ". 5", mark("."), num("5", 5*unit))
	refused(t, api.ErrLex, "! =", ": :", "$ a", "$\na", "a\u00a0", "\u00a0", "\u0085", "\u2028", "\u3000", "1\u20032", "a : : b")
}

// P12.1, 1

func TestLiterals(t *testing.T) {
	for _, s := range []string{"", "a", " ", " a ", "'", "''", "(", "@", "::", ",", "[", "and", "*", "$a", "1", "&lt;", "<a>", "日本", "\U0001f600", "\t\r\n", "\\", "\r\n", "#", "!"} {
		words(t, `"`+s+`"`, text(s))
		words(t, `"`+s+`"`+`"`+s+`"`, text(s), text(s))
		words(t, `a="`+s+`"]`, name("a"), op("="), text(s), mark("]"))
		s := strings.ReplaceAll(s, "'", `"`)
		words(t, `'`+s+`'`, text(s))
		words(t, `'`+s+`'`+`'`+s+`'`, text(s), text(s))
		words(t, `'`+s+`'*'`+s+`'`, text(s), op("*"), text(s))
		words(t, `'`+s+`'and'`+s+`'`, text(s), op("and"), text(s))
	}
	words(t, `"'"'"'`, text("'"), text(`"`))
	words(t, `'a'"b"`, text("a"), text("b"))
	words(t, `''""''`, text(""), text(""), text(""))
	refused(t, api.ErrLex, `"`, `'`, `"a`, `'a`, `"a'`, `'a"`, `"""`, `'''`, `"a" "`, `'a''`, `"a"'`, `' " `, `"'`, `'#`, `a="b`, `a '`, `'a' b`, `'a'b`, `'a`+"\n")
}

// P12.1, 2

func TestNumbers(t *testing.T) {
	for s, v := range map[string]int64{
		"0": 0, "1": unit, "9": 9 * unit, "10": 10 * unit, "007": 7 * unit, "2.50": 2500000, "3.": 3 * unit, "0.": 0, ".5": 500000, ".0": 0, ".05": 50000, "0.5": 500000, "00.50": 500000,
		"0.000001": 1, ".0000019": 1, "0.0000009": 0, "1.9999999": 1999999, "123456.789": 123456789000, "9223372036854.775807": 9223372036854775807, "9223372036854.7758079999": 9223372036854775807, "0009223372036854": 9223372036854 * unit,
	} {
		words(t, s, num(s, v))
		words(t, " "+s+" ", num(s, v))
		words(t, "-"+s, op("-"), num(s, v))
		words(t, "a["+s+"]", name("a"), mark("["), num(s, v), mark("]"))
		words(t, s+"*"+s, num(s, v), op("*"), num(s, v))
		words(t, s+" "+s, num(s, v), num(s, v))
		words(t, s+"and 1", num(s, v), op("and"), num("1", unit))
		words(t, s+"'a'", num(s, v), text("a"))
		words(t, s+"$a", num(s, v), variable("a"))
		words(t, "a mod "+s, name("a"), op("mod"), num(s, v))
	}
	words(t, "1.5.5", num("1.5", 1500000), num(".5", 500000))
	words(t, "1..5", num("1.", unit), num(".5", 500000))
	words(t, "1..", num("1.", unit), mark("."))
	words(t, "1...", num("1.", unit), mark(".."))
	words(t, "1...5", num("1.", unit), mark(".."), num("5", 5*unit))
	words(t, ".5.5", num(".5", 500000), num(".5", 500000))
	words(t, ".5.", num(".5", 500000), mark("."))
	words(t, ".5..", num(".5", 500000), mark(".."))
	words(t, "1.2.3.4", num("1.2", 1200000), num(".3", 300000), num(".4", 400000))
	words(t, "..5", mark(".."), num("5", 5*unit))
	words(t, "...5", mark(".."), num(".5", 500000))
	words(t, "1-1", num("1", unit), op("-"), num("1", unit))
	words(t, "1 mod 2", num("1", unit), op("mod"), num("2", 2*unit))
	words(t, "1.or .5", num("1.", unit), op("or"), num(".5", 500000))
}

func TestNumbersThatAreNone(t *testing.T) {
	for _, s := range []string{
		"9223372036854.775808", "9223372036854.8", "9223372036855", "9223372036855.", "9223372036855.0", "10000000000000", "99999999999999", "0009223372036855", "18446744073709.551616", "18446744073710", "36893488147419.103232", "99999999999999999999999999.5",
	} {
		refused(t, api.ErrLex, s, "-"+s, "1 "+s, s+" 1", "a["+s+"]", s+".5", s+"and 1", "'"+s+"' = "+s)
		words(t, "'"+s+"'", text(s))
	}
	refused(t, api.ErrLex, "1a", "1e5", "1E5", "1.5e5", "1_000", "0x10", "1.a", ".5a", "1 e", "1é", "1.or.5", "1\u0661", "\u00b2", "1\u00b2")
	words(t, "\u0661", name("\u0661")) // no other digits than ten: this one begins a name
}

// P12.1, 3

func TestMarksAndOperators(t *testing.T) {
	signs := []api.Word{
		mark("("), mark(")"), mark("["), mark("]"), mark("."), mark(".."), mark("@"), mark(","), mark("::"),
		op("/"), op("//"), op("|"), op("+"), op("-"), op("="), op("!="), op("<"), op("<="), op(">"), op(">="),
	}
	for _, a := range signs {
		words(t, a.S, a)
		words(t, " "+a.S+" ", a)
		for _, b := range signs {
			words(t, a.S+" "+b.S, a, b)
			words(t, a.S+"'a'"+b.S, a, text("a"), b)
			words(t, a.S+" 1 "+b.S, a, num("1", unit), b)
		}
	}
	words(t, "...", mark(".."), mark("."))
	words(t, "....", mark(".."), mark(".."))
	words(t, "///", op("//"), op("/"))
	words(t, "<==", op("<="), op("="))
	words(t, "<>=", op("<"), op(">="))
	words(t, "=<", op("="), op("<"))
	words(t, "=!=", op("="), op("!="))
	words(t, "!==", op("!="), op("="))
	words(t, "==", op("="), op("="))
	words(t, "--", op("-"), op("-"))
	words(t, "||", op("|"), op("|"))
	words(t, "@@", mark("@"), mark("@"))
	words(t, "::::", mark("::"), mark("::"))
	words(t, "/..//.", op("/"), mark(".."), op("//"), mark("."))
	words(t, "./.", mark("."), op("/"), mark("."))
	refused(t, api.ErrLex, "!", "!!", "!>", "! =", "=!", "a!b", ":", ":::", ": :", "a:b", "a :b", "a: b", "a::b:c", ":a", "::a:", "#", "%", "&", ";", "?", "\\", "^", "`", "{", "}", "~", "&lt;", "a#", "(#)", "1#", "1%2", "\u2260", "\u00d7")
}

// P12.1, 4

func TestStars(t *testing.T) {
	words(t, "*", star())
	words(t, "* * *", star(), op("*"), star())
	words(t, "*****", star(), op("*"), star(), op("*"), star())
	for s, last := range map[string]api.Word{"a": name("a"), "*": star(), "1": num("1", unit), "1.": num("1.", unit), "'('": text("("), `"@"`: text("@"), "''": text(""), "','": text(","), "'::'": text("::"), "'['": text("["), "'*'": text("*"), "$a": variable("a"), "$and": variable("and"), ".": mark("."), "..": mark(".."), ")": mark(")"), "]": mark("]"), "and": name("and"), "text": name("text")} {
		words(t, s+"*", last, op("*"))
		words(t, s+" *", last, op("*"))
		words(t, s+"\n**", last, op("*"), star())
		words(t, "("+s+")*", mark("("), last, mark(")"), op("*"))
	}
	for _, s := range []string{"(", "[", "@", ",", "::"} {
		words(t, s+"*", mark(s), star())
		words(t, s+" *", mark(s), star())
		words(t, s+"**", mark(s), star(), op("*"))
		words(t, "1"+s+"*", num("1", unit), mark(s), star())
	}
	for _, s := range []string{"/", "//", "|", "+", "-", "=", "!=", "<", "<=", ">", ">="} {
		words(t, s+"*", op(s), star())
		words(t, "1"+s+" *", num("1", unit), op(s), star())
	}
	for _, s := range []string{"and", "or", "mod", "div", "*"} {
		words(t, "1 "+s+" *", num("1", unit), op(s), star())
		words(t, "1 "+s+"* *", num("1", unit), op(s), star(), op("*"))
	}
	words(t, "f(*)", call("f"), mark("("), star(), mark(")"))
	words(t, "self::*", way("self"), mark("::"), star())
	words(t, "@*", mark("@"), star())
	words(t, "*/*[*]", star(), op("/"), star(), mark("["), star(), mark("]"))
	words(t, "*[1]*2", star(), mark("["), num("1", unit), mark("]"), op("*"), num("2", 2*unit))
	words(t, "f(*,*)", call("f"), mark("("), star(), mark(","), star(), mark(")"))
}

// P12.1, 5

func TestVariables(t *testing.T) {
	long, wide := strings.Repeat("a", 32), strings.Repeat("é", 16)
	for _, s := range []string{"v", "a1", "a-1", "a.", "a..", "_", "é", "日", "a\u00b7", "\U000effff", "and", "text", "xml", long, wide} {
		words(t, "$"+s, variable(s))
		words(t, " $"+s+" ", variable(s))
		words(t, "$"+s+"("+")", variable(s), mark("("), mark(")"))
		words(t, "$"+s+"::", variable(s), mark("::"))
		words(t, "1 $"+s, num("1", unit), variable(s))
		words(t, "'a'$"+s+"$"+s, text("a"), variable(s), variable(s))
		words(t, "$"+s+"*$"+s, variable(s), op("*"), variable(s))
		words(t, "$"+s+" and $"+s, variable(s), op("and"), variable(s))
		words(t, "$"+s+"/a", variable(s), op("/"), name("a"))
	}
	refused(t, api.ErrLex, "$", "$$", "$$a", "$ ", "$ a", "$\ta", "$1", "$1a", "$-", "$-a", "$.", "$.a", "$..", "$*", "$(", "$'a'", "$\u00b7", "$\u0300a", "$:a", "$a:b", "$a b", "a $", "$a $", "$"+long+"a", "$"+long+"-", "$"+long+"and 1", "$"+wide+"é", "$#", "$/", "$@a", "$\u00d7")
}

// P12.1, 6

func TestNames(t *testing.T) {
	long, wide := strings.Repeat("a", 32), strings.Repeat("é", 16)
	for _, s := range []string{"a", "A", "_", "a1", "a-1", "a-", "a.b", "a.", "a..", "a--b", "é", "日本", "a\u00b7", "\u200c", "\U0001f600", "\U000effff", "xml", "And", "AND", "ands", "an", "orr", "mo", "modd", "div2", "d", "self", "f", "Text", "texts", "nod", "node-", "processing-instructio", "processing-instructions", "processing", long, wide} {
		words(t, s, name(s))
		words(t, " "+s+"\n", name(s))
		words(t, s+"/"+s, name(s), op("/"), name(s))
		words(t, "@"+s+"=1", mark("@"), name(s), op("="), num("1", unit))
		words(t, s+"["+s+","+s+"]", name(s), mark("["), name(s), mark(","), name(s), mark("]"))
		words(t, s+" - "+s, name(s), op("-"), name(s))
		words(t, s+" -"+s, name(s), op("-"), name(s))
		for _, gap := range []string{"", " ", "\t\r\n "} {
			words(t, s+gap+"("+s+")", call(s), mark("("), name(s), mark(")"))
			words(t, s+gap+"::"+s, way(s), mark("::"), name(s))
			words(t, s+gap+"::"+s+gap+"("+s+gap+"::", way(s), mark("::"), call(s), mark("("), way(s), mark("::"))
			words(t, "@"+s+gap+"(", mark("@"), call(s), mark("("))
		}
		refused(t, api.ErrLex, s+" "+s, "1 "+s, "1 "+s+"(", "1 "+s+"::", s+" "+s+"(", s+" "+s+"::", "* "+s, "."+s, "..("+s+")"+s, "a["+s+"]"+s, "'a'"+s, "$a "+s, ") "+s, s+":"+s, s+" :"+s, s+"#", s+" : :")
	}
	refused(t, api.ErrLex, long+"a", long+"-", wide+"a", "a"+wide, long+"1(", long+".::", "1 "+long+"and", "\u00b7", "\u203f", "\u0300a", "\u00b7a", "@\u00b7", "a/\u0300", "\u00d7", "a\u00d7", "\U000f0000")
}

func TestTypesOfNodes(t *testing.T) {
	for _, s := range []string{"comment", "text", "processing-instruction", "node"} {
		for _, gap := range []string{"", " ", "\t\r\n "} {
			words(t, s+gap+"()", kindOf(s), mark("("), mark(")"))
			words(t, "a/"+s+gap+"(", name("a"), op("/"), kindOf(s), mark("("))
			words(t, "@"+s+gap+"(", mark("@"), kindOf(s), mark("("))
			words(t, "child::"+s+gap+"('a')", way("child"), mark("::"), kindOf(s), mark("("), text("a"), mark(")"))
			words(t, s+gap+"::"+s, way(s), mark("::"), name(s))
			words(t, "$"+s+gap+"(", variable(s), mark("("))
		}
		words(t, s, name(s))
		words(t, s+"[1]", name(s), mark("["), num("1", unit), mark("]"))
		words(t, s+" + (", name(s), op("+"), mark("("))
		words(t, s+" '('", name(s), text("("))
		words(t, strings.ToUpper(s)+"(", call(strings.ToUpper(s)), mark("("))
		refused(t, api.ErrLex, "a "+s+"()", "1 "+s, "."+s+"()", s+":(", "*"+s+"()")
	}
}

func TestOperatorsThatAreNames(t *testing.T) {
	for _, s := range []string{"and", "or", "mod", "div"} {
		words(t, s+" "+s+" "+s, name(s), op(s), name(s))
		words(t, s+"("+s+")", call(s), mark("("), name(s), mark(")"))
		words(t, s+"::"+s, way(s), mark("::"), name(s))
		for end, last := range map[string]api.Word{"a ": name("a"), "*": star(), "1": num("1", unit), "1.": num("1.", unit), ".5": num(".5", 500000), "'a'": text("a"), `"("`: text("("), "'@'": text("@"), "$a ": variable("a"), ".": mark("."), "..": mark(".."), ")": mark(")"), "]": mark("]")} {
			words(t, end+s, last, op(s))
			words(t, end+" "+s+" a", last, op(s), name("a"))
			for _, gap := range []string{"", " ", "\n"} {
				words(t, end+s+gap+"(", last, op(s), mark("("))
				words(t, end+s+gap+"::", last, op(s), mark("::"))
				words(t, end+s+gap+"'a'", last, op(s), text("a"))
				words(t, end+s+gap+"@a", last, op(s), mark("@"), name("a"))
			}
			words(t, end+s+" "+s, last, op(s), name(s))
			words(t, end+s+" "+s+" "+s, last, op(s), name(s), op(s))
			refused(t, api.ErrLex, end+s+"1", end+s+"-1", end+s+".5", end+s+"s", end+strings.ToUpper(s), end+s+"\u00b7", end+s+".", end+s[1:])
		}
		for _, begin := range []string{"(", "[", "@", ",", "::"} {
			words(t, "1"+begin+s, num("1", unit), mark(begin), name(s))
			words(t, begin+s+" "+s, mark(begin), name(s), op(s))
			words(t, begin+s+"(", mark(begin), call(s), mark("("))
		}
		for _, begin := range []string{"/", "//", "|", "+", "-", "=", "!=", "<", "<=", ">", ">=", "*"} {
			words(t, "1"+begin+s, num("1", unit), op(begin), name(s))
			words(t, "1"+begin+s+" ::", num("1", unit), op(begin), way(s), mark("::"))
		}
	}
	words(t, "div div div", name("div"), op("div"), name("div"))
	words(t, "a-1", name("a-1"))
	words(t, "a - 1", name("a"), op("-"), num("1", unit))
	words(t, "a -1", name("a"), op("-"), num("1", unit))
	words(t, "a- 1", name("a-"), num("1", unit))
	words(t, "text ()", kindOf("text"), mark("("), mark(")"))
	words(t, "self ::a", way("self"), mark("::"), name("a"))
	refused(t, api.ErrLex, "a b", "a and b c", "1 and2", "a or(b)c", "a and and and and b c")
}

// P12.1, behind each word

func TestManyWords(t *testing.T) {
	repeat := strings.Repeat
	list := func(n int, w ...api.Word) (all []api.Word) {
		for range n {
			all = append(all, w...)
		}
		return all
	}
	one := num("1", unit)
	words(t, repeat("1 ", 119), list(119, one)...)
	words(t, repeat("1 ", 120), list(120, one)...)
	words(t, repeat("(", 120)+repeat(" ", 280), list(120, mark("("))...)
	words(t, repeat("*", 120), list(60, star(), op("*"))...)
	words(t, repeat("a[", 60), list(60, name("a"), mark("["))...)
	words(t, repeat("''", 120), list(120, text(""))...)
	words(t, repeat("$a ", 120), list(120, variable("a"))...)
	words(t, repeat("a=", 59)+"a[", append(list(59, name("a"), op("=")), name("a"), mark("["))...)
	refused(t, api.ErrLong, repeat("1 ", 121), repeat("(", 121), repeat("(", 400), repeat("*", 121), repeat("a[", 60)+"a", repeat("''", 121), repeat("$a ", 121), repeat("1 ", 120)+"'a'", repeat("(", 120)+"a", repeat("(", 120)+"text(", repeat("(", 120)+".", repeat("1 ", 120)+"and")
	// the word that is one too many is told ahead of what is wrong behind it, and behind what is wrong with itself
	refused(t, api.ErrLong, repeat("1 ", 121)+"#", repeat("(", 121)+"'", repeat("(", 121)+"99999999999999", repeat("*", 122)+"$")
	refused(t, api.ErrLex, repeat("1 ", 120)+"#", repeat("(", 120)+"'", repeat("(", 120)+"99999999999999", repeat("*", 120)+"$", repeat("1 ", 120)+"a", "#"+repeat("1 ", 121), repeat("1 ", 60)+"a"+repeat("1 ", 121))
}

func TestWholeExpressions(t *testing.T) {
	words(t, "//a[1]/@b", op("//"), name("a"), mark("["), num("1", unit), mark("]"), op("/"), mark("@"), name("b"))
	words(t, "(//c/preceding-sibling::a)[1]", mark("("), op("//"), name("c"), op("/"), way("preceding-sibling"), mark("::"), name("a"), mark(")"), mark("["), num("1", unit), mark("]"))
	words(t, "count(//a)", call("count"), mark("("), op("//"), name("a"), mark(")"))
	words(t, "0.1 + 0.2 = 0.3", num("0.1", 100000), op("+"), num("0.2", 200000), op("="), num("0.3", 300000))
	words(t, "concat('a',\"b\" , $c)", call("concat"), mark("("), text("a"), mark(","), text("b"), mark(","), variable("c"), mark(")"))
	words(t, "-a|b!=..", op("-"), name("a"), op("|"), name("b"), op("!="), mark(".."))
	words(t, "processing-instruction('a')/node ( )", kindOf("processing-instruction"), mark("("), text("a"), mark(")"), op("/"), kindOf("node"), mark("("), mark(")"))
	words(t, "div/mod div mod*or or and", name("div"), op("/"), name("mod"), op("div"), name("mod"), op("*"), name("or"), op("or"), name("and"))
}

// Each beginning and end of an expression of all words, and it with each byte left out, doubled, or another one.
func TestExpressionsWithOneByteTurned(t *testing.T) {
	const whole = "//a-1 [@* = 'b(' and $c!=\"\"]/self ::text ()| f(.5,é)\r\n<= 12.*.. mod-*\tdiv//../. or日"
	holds(t, whole)
	for i := range len(whole) {
		holds(t, whole[:i])
		holds(t, whole[i:])
		holds(t, whole[:i]+whole[i+1:])
		holds(t, whole[:i+1]+whole[i:])
		for b := range 256 {
			holds(t, whole[:i]+string([]byte{byte(b)})+whole[i+1:])
			holds(t, whole[:i]+string([]byte{byte(b)})+whole[i:])
		}
		if t.Failed() {
			return
		}
	}
}

func TestAllShortBytes(t *testing.T) {
	for a := range 256 {
		one := string([]byte{byte(a)})
		for _, s := range []string{one, "a" + one, "a " + one, "(" + one, "1" + one, "." + one, "'" + one, "'" + one + "'", "\"" + one + "\"", "$" + one, "$a" + one, "a(" + one, "a:" + one, "*" + one, "a and" + one, "text" + one + "(", "self" + one + "::", "<" + one, "!" + one, "/" + one} {
			holds(t, s)
		}
		for b := range 256 {
			two := one + string([]byte{byte(b)})
			holds(t, two)
			holds(t, "a "+two)
		}
		if t.Failed() {
			return
		}
	}
}

// Each character by itself, in a name, and behind one.
func TestAllCharacters(t *testing.T) {
	for r := range rune(0x110000) {
		if !char.Is(r) || r > 0x3100 && r%97 != 0 {
			continue
		}
		for _, s := range []string{string(r), "a" + string(r), "$" + string(r), "$a" + string(r) + "b", "1 and" + string(r), "a" + string(r) + "(", "'" + string(r) + "'"} {
			holds(t, s)
		}
		if t.Failed() {
			return
		}
	}
}

// Texts of up to five of the pieces that words are made of.
func TestAllShortTexts(t *testing.T) {
	texts := []string{""}
	for range 5 {
		var longer []string
		for _, s := range texts {
			for _, p := range []string{"a", "or", "1", ".", "*", "-", "(", ":", " ", "'", "/", "$"} {
				holds(t, s+p)
				longer = append(longer, s+p)
			}
		}
		if t.Failed() {
			return
		}
		texts = longer
	}
}

func TestTextsOfAllSizes(t *testing.T) {
	r := rand.New(rand.NewSource(12))
	parts := []string{
		"a", "b-1", "and", " or ", "mod ", " div", "text", "node", "comment (", "self", "child::", "f(", "é", "日", "\u00b7",
		"1", "0", ".5", "12.50", "9999999999999", ".", "..", "*", "@", ",", "::", ":", "(", ")", "[", "]", "//", "/", "|", "+", "-", "=", "!=", "!", "<", "<=", ">", ">=",
		"'", "\"", "'a'", "\"b'\"", "''", "$", "$v", "$v-1 ", " ", " ", "  ", "\t", "\r\n", "\u00a0", "#", "\xff",
	}
	for range 60000 {
		var s strings.Builder
		for range r.Intn(16) {
			// what makes the whole of it none, seldom, since nothing else is asked then
			if i := r.Intn(len(parts)); i < len(parts)-3 || r.Intn(8) == 0 {
				s.WriteString(parts[i])
			}
		}
		holds(t, s.String())
		if t.Failed() {
			return
		}
	}
}

// P12.2

// Words in an order in which each is what it is: with a blank between, or as little as may stand there, they are lexed as themselves.
func TestWordsAreLexedAsThemselves(t *testing.T) {
	r := rand.New(rand.NewSource(122))
	pick := func(all ...api.Word) api.Word { return all[r.Intn(len(all))] }
	for range 20000 {
		var all []api.Word
		for range r.Intn(20) {
			if endsPart(all) {
				all = append(all, pick(op("and"), op("or"), op("mod"), op("div"), op("*"), op("/"), op("//"), op("-"), op("="), op("!="), op("<"), op(">="), op("|"), mark("["), mark("]"), mark(")"), mark("("), mark(","), mark("::"), mark("@"), num("2", 2*unit), text("'"), variable("and"), mark("..")))
				continue
			}
			switch r.Intn(4) {
			case 0:
				all = append(all, pick(kindOf("text"), kindOf("node"), call("f"), call("and"), call("texts")), mark("("))
			case 1:
				all = append(all, pick(way("self"), way("text"), way("div"), way("a-b")), mark("::"))
			default:
				all = append(all, pick(name("a"), name("and"), name("text"), star(), num("1.", unit), num(".5", 500000), text(""), text(`"`), text("a' "), variable("v"), mark("."), mark(".."), mark("("), mark("@"), op("-"), op("/")))
			}
		}
		// a name that is followed by what makes it another word is none
		for i := range len(all) - 1 {
			if w := &all[i]; w.Kind == api.WName && all[i+1].Kind == api.WMark {
				switch {
				case all[i+1].S == "(" && w.S == "text":
					w.Kind = api.WType
				case all[i+1].S == "(":
					w.Kind = api.WFunc
				case all[i+1].S == "::":
					w.Kind = api.WAxis
				}
			}
		}
		lexesAgain(t, all)
		if t.Failed() {
			return
		}
	}
}

// R3

func TestAnswersShareNothing(t *testing.T) {
	const s = "a and 'b' * 1.5"
	want := []api.Word{name("a"), op("and"), text("b"), op("*"), num("1.5", 1500000)}
	once, _ := lex.Lex(s)
	again, _ := lex.Lex(s)
	clear(once[:cap(once)])
	_ = append(once[:0], star())
	if !same(again, want) {
		t.Errorf("an answer hangs on another one: %v", again)
	}
	words(t, s, want...)
}
