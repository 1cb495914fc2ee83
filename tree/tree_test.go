package tree_test

import (
	"fmt"
	"math/rand"
	"reflect"
	"slices"
	"strings"
	"testing"

	"breviary/api"
	"breviary/scan"
	"breviary/tree"
)

var repeat = strings.Repeat

// Nodes, as they are told.

func elem(name string, kids ...api.Node) api.Node {
	return api.Node{Kind: api.Elem, Name: name, Kids: kids}
}

func with(n api.Node, attrs ...string) api.Node {
	for i := 0; i < len(attrs); i += 2 {
		n.Attrs = append(n.Attrs, api.Attr{Name: attrs[i], Text: attrs[i+1]})
	}
	return n
}

func text(s string) api.Node       { return api.Node{Kind: api.Text, Text: s} }
func comment(s string) api.Node    { return api.Node{Kind: api.Comment, Text: s} }
func pi(target, s string) api.Node { return api.Node{Kind: api.PI, Name: target, Text: s} }

// nested is elements in one another, with something in the innermost.
func nested(many int, inner ...api.Node) api.Node {
	n := elem("a", inner...)
	for range many - 1 {
		n = elem("a", n)
	}
	return n
}

// copied is a node that shares no list with another one; no list is an empty one.
func copied(n api.Node) api.Node {
	n.Attrs = append([]api.Attr{}, n.Attrs...)
	n.Kids = append([]api.Node{}, n.Kids...)
	for i := range n.Kids {
		n.Kids[i] = copied(n.Kids[i])
	}
	return n
}

// alike asks whether nodes are the same, in all their fields.
func alike(a, b api.Node) bool { return reflect.DeepEqual(copied(a), copied(b)) }

// The chapter's words once more, to hold Parse against: each beginning of the pieces is looked at by itself.

// parsed is what Parse is to answer.
func parsed(s string) (api.Node, api.Errno) {
	pieces, wrong := scan.Scan(s)
	if wrong != api.OK {
		return api.Node{}, wrong
	}
	for i := range pieces {
		if wrong := wrongAt(pieces[:i], pieces[i], pieces[:i+1]); wrong != api.OK {
			return api.Node{}, wrong
		}
	}
	if len(names(pieces)) > 0 {
		return api.Node{}, api.ErrEnd
	}
	kids, _ := kidsOf(pieces)
	kids = slices.DeleteFunc(kids, func(n api.Node) bool { return n.Kind != api.Elem })
	if len(kids) == 0 {
		return api.Node{}, api.ErrRoot
	}
	return kids[0], api.OK
}

// wrongAt is what is wrong with a piece behind right ones.
func wrongAt(before []api.Token, p api.Token, all []api.Token) api.Errno {
	open := names(before)
	been := slices.ContainsFunc(before, func(p api.Token) bool { return p.Kind == api.TStart })
	if len(open) == 0 {
		switch p.Kind {
		case api.TText:
			if strings.Trim(p.Text, "\t\n\r ") != "" {
				return api.ErrRoot
			}
		case api.TComment, api.TPI:
			return api.ErrRoot
		case api.TStart:
			if been {
				return api.ErrRoot
			}
		}
	}
	if p.Kind == api.TStart && len(open) >= 12 {
		return api.ErrDeep
	}
	if p.Kind == api.TEnd {
		if len(open) == 0 || open[len(open)-1] != p.Name {
			return api.ErrMatch
		}
	}
	if counted(all) > 120 {
		return api.ErrMany
	}
	return api.OK
}

// names is which elements are open behind right pieces.
func names(pieces []api.Token) []string {
	var open []string
	for _, p := range pieces {
		switch {
		case p.Kind == api.TStart && !p.Empty:
			open = append(open, p.Name)
		case p.Kind == api.TEnd:
			open = open[:len(open)-1]
		}
	}
	return open
}

// counted is how many nodes pieces make.
func counted(pieces []api.Token) int {
	many, run := 0, false
	for i, p := range pieces {
		switch p.Kind {
		case api.TStart:
			many += 1 + len(p.Attrs)
		case api.TComment, api.TPI:
			many++
		case api.TText:
			if len(names(pieces[:i])) > 0 && p.Text != "" && !run {
				many, run = many+1, true
			}
			continue
		}
		run = false
	}
	return many
}

// kidsOf is what stands up to an end that is not begun there, and the pieces behind it.
func kidsOf(pieces []api.Token) ([]api.Node, []api.Token) {
	var kids []api.Node
	for len(pieces) > 0 {
		p := pieces[0]
		pieces = pieces[1:]
		switch p.Kind {
		case api.TEnd:
			return kids, pieces
		case api.TStart:
			n := api.Node{Kind: api.Elem, Name: p.Name}
			n.Attrs = slices.SortedFunc(slices.Values(p.Attrs), func(x, y api.Attr) int { return strings.Compare(x.Name, y.Name) })
			if !p.Empty {
				n.Kids, pieces = kidsOf(pieces)
			}
			kids = append(kids, n)
		case api.TComment:
			kids = append(kids, comment(p.Text))
		case api.TPI:
			kids = append(kids, pi(p.Name, p.Text))
		case api.TText:
			s := p.Text
			for len(pieces) > 0 && pieces[0].Kind == api.TText {
				s += pieces[0].Text
				pieces = pieces[1:]
			}
			if s != "" {
				kids = append(kids, text(s))
			}
		}
	}
	return kids, nil
}

// holds holds Parse of a text against what it is to answer.
func holds(t *testing.T, s string) {
	t.Helper()
	want, wanted := parsed(s)
	got, e := tree.Parse(s)
	if e != wanted || !alike(got, want) {
		t.Errorf("Parse(%.200q) = %v, %d, not %v, %d", s, got, int(e), want, int(wanted))
	}
	if e == api.OK {
		rightAsParsed(t, got)
	}
}

// rightAsParsed holds a parsed node against P7.4, and the sizes against each other.
func rightAsParsed(t *testing.T, n api.Node) {
	t.Helper()
	if !tree.Right(n) {
		t.Errorf("parsed, but not right: %v", n)
	}
	if !tree.Same(n, copied(n)) {
		t.Errorf("parsed, but not the same as itself: %v", n)
	}
	if tree.Size(n) != sized(n) || tree.Depth(n) != deep(n) {
		t.Errorf("Size, Depth of %v: %d, %d, not %d, %d", n, tree.Size(n), tree.Depth(n), sized(n), deep(n))
	}
}

func sized(n api.Node) int {
	if n.Kind != api.Elem {
		return 1
	}
	size := 1 + len(n.Attrs)
	for _, k := range n.Kids {
		size += sized(k)
	}
	return size
}

func deep(n api.Node) int {
	if n.Kind != api.Elem {
		return 0
	}
	depth := 0
	for _, k := range n.Kids {
		depth = max(depth, deep(k))
	}
	return depth + 1
}

// is asks whether a text is of this element.
func is(t *testing.T, s string, want api.Node) {
	t.Helper()
	if got, e := tree.Parse(s); e != api.OK || !alike(got, want) {
		t.Errorf("Parse(%.200q) = %v, %d, not %v", s, got, int(e), want)
	}
	holds(t, s)
}

// taken asks whether a text is of any element.
func taken(t *testing.T, all ...string) {
	t.Helper()
	for _, s := range all {
		if got, e := tree.Parse(s); e != api.OK || got.Kind != api.Elem {
			t.Errorf("Parse(%.200q) = %v, %d", s, got, int(e))
		}
		holds(t, s)
	}
}

// refused asks whether texts are refused, by this error and with nothing beside it.
func refused(t *testing.T, want api.Errno, all ...string) {
	t.Helper()
	for _, s := range all {
		if got, e := tree.Parse(s); e != want || !reflect.DeepEqual(got, api.Node{}) {
			t.Errorf("Parse(%.200q) = %v, %d, not %d", s, got, int(e), int(want))
		}
		holds(t, s)
	}
}

// P7.1

func TestExamples(t *testing.T) {
	n := with(elem("a", text("b"), elem("c")), "x", "1", "y", "2")
	is(t, ` <a y="2" x="1">b<c/></a> `, n)
	if tree.Size(n) != 5 || tree.Depth(n) != 2 || !tree.Right(n) {
		t.Error(tree.Size(n), tree.Depth(n), tree.Right(n))
	}
	refused(t, api.ErrMatch, "<a></b>")
	refused(t, api.ErrRoot, "<a/><b/>", "x<a/>", "")
	refused(t, api.ErrEnd, "<a>")
}

func TestElements(t *testing.T) {
	for s, want := range map[string]api.Node{
		"<a/>": elem("a"), "<a></a>": elem("a"), "<a ></a\n>": elem("a"), "<日/>": elem("日"), "<xml/>": elem("xml"),
		"<a><a/></a>": elem("a", elem("a")), "<a><a></a></a>": elem("a", elem("a")), "<a><b/><b/></a>": elem("a", elem("b"), elem("b")), "<a><b><c/></b><d/></a>": elem("a", elem("b", elem("c")), elem("d")), "<a><b></b><c><d></d></c></a>": elem("a", elem("b"), elem("c", elem("d"))),
		"<a> </a>": elem("a", text(" ")), "<a>\r\n\t</a>": elem("a", text("\n\t")), "<a>b</a>": elem("a", text("b")), "<a> <b/> </a>": elem("a", text(" "), elem("b"), text(" ")), "<a>b<c>d</c>e</a>": elem("a", text("b"), elem("c", text("d")), text("e")), "<a>&lt;&#13;</a>": elem("a", text("<\r")),
		"<a><!--b--></a>": elem("a", comment("b")), "<a><!----></a>": elem("a", comment("")), "<a><!--b--><!--b--></a>": elem("a", comment("b"), comment("b")), "<a><!-- b\r --></a>": elem("a", comment(" b\n ")), "<a><b/><!--</a>--></a>": elem("a", elem("b"), comment("</a>")),
		"<a><?b?></a>": elem("a", pi("b", "")), "<a><?b  c d ?></a>": elem("a", pi("b", "c d ")), "<a><?b c?><?b c?></a>": elem("a", pi("b", "c"), pi("b", "c")), "<a>b<?c </a>?></a>": elem("a", text("b"), pi("c", "</a>")),
		"<a x='1'><b x='2'/></a>": with(elem("a", with(elem("b"), "x", "2")), "x", "1"), "<a x=''/>": with(elem("a"), "x", ""), "<a x=' &#13; '>b</a>": with(elem("a", text("b")), "x", " \r "),
	} {
		is(t, s, want)
		is(t, "\r\n"+s+"\t ", want)
		is(t, "<z y='1'>"+s+"<x>"+s+"</x>"+s+"</z>", with(elem("z", want, elem("x", want), want), "y", "1"))
	}
}

func TestAttributesRise(t *testing.T) {
	is(t, "<a y='2' x='1'/>", with(elem("a"), "x", "1", "y", "2"))
	is(t, "<a x='1' y='2'></a>", with(elem("a"), "x", "1", "y", "2"))
	is(t, "<a b='1' B='2' _='3' a.='4' a-='5' aa='6' a='7' é='8'/>", with(elem("a"), "B", "2", "_", "3", "a", "7", "a-", "5", "a.", "4", "aa", "6", "b", "1", "é", "8"))
	is(t, "<a a10='1' a9='2' a1='3'/>", with(elem("a"), "a1", "3", "a10", "1", "a9", "2"))
	// byte by byte, and not as runes in two halves: 10000 is behind FFFD
	is(t, "<a \U00010000='1' \ufffd='2' z='3'/>", with(elem("a"), "z", "3", "\ufffd", "2", "\U00010000", "1"))
	is(t, "<a><b y='' x=''/>c<b y='1' x=''></b></a>", elem("a", with(elem("b"), "x", "", "y", ""), text("c"), with(elem("b"), "x", "", "y", "1")))
}

func TestScansErrors(t *testing.T) {
	for s, want := range map[string]api.Errno{
		repeat(" ", 3997) + "<a/>": api.ErrLong, "<a>\x00</a>": api.ErrChar, "<a>\xff</a>": api.ErrChar, "<1/>": api.ErrName, "<a>&x;</a>": api.ErrRef, "<a>&</a>": api.ErrRef, "<a x=1/>": api.ErrTag, "<a><!x></a>": api.ErrTag, "<a x='' x=''/>": api.ErrTwice, "<a><!--</a>": api.ErrEnd, "<a": api.ErrEnd,
		"<a b='' c='' d='' e='' f='' g='' h='' i='' j=''/>": api.ErrMany, "<a><?xml?></a>": api.ErrName, "<!DOCTYPE a><a/>": api.ErrTag, "<?xml version='1.0'?><a/>": api.ErrName,
	} {
		refused(t, want, s)
	}
	// ahead of all that is wrong with the pieces, wherever it stands
	for _, s := range []string{"x", "</a>", "<!--c-->", "<a></b>", "<a/><b/>", "<a>", repeat("<a>", 13), repeat("<a/>", 121), "<?p?>"} {
		refused(t, api.ErrRef, s+"&", s+"&x;</a>", s+"&"+s)
		refused(t, api.ErrName, s+"<1>", s+"< ")
		refused(t, api.ErrEnd, s+"<", s+"<b", s+"</b")
	}
}

func TestOutside(t *testing.T) {
	for _, s := range []string{"x", "\u00a0", "\u2028", "\u0085", "&amp;", "&#160;", "<![CDATA[x]]>", "<![CDATA[<a/>]]>", "<!--c-->", "<!---->", "<?p?>", "<?p q?>", ">", " x ", "\n.\n"} {
		refused(t, api.ErrRoot, s, s+"<a/>", "<a/>"+s, " "+s+" <a></a>", "<a></a>\n"+s, "<a>b</a>"+s+"</b>", s+"<a></b>", s+"</a>", s+s, "<a/>"+s+"<b/>", "<![CDATA[]]>"+s+"<a/>")
	}
	refused(t, api.ErrRoot, "<a/><b/>", "<a/><a/>", "<a></a><a></a>", "<a/> <b>", "<a><b/></a><c></d>", "<a/><b/></c>")
	refused(t, api.ErrRoot, "", " ", "\r\n\t ", "<![CDATA[]]>", "<![CDATA[ ]]>", "&#32;", "&#9;&#10;&#13;", "\n<![CDATA[\t]]>&#13;")
}

func TestBlanksOutside(t *testing.T) {
	for _, s := range []string{" ", "\t", "\n", "\r", "\r\n", "\t\n\r ", "<![CDATA[]]>", "<![CDATA[ \t]]>", "&#32;", "&#x9;&#xA;&#xD;", " <![CDATA[]]>&#10;"} {
		is(t, s+"<a/>", elem("a"))
		is(t, "<a/>"+s, elem("a"))
		is(t, s+s+"<a>b</a>"+s+s, elem("a", text("b")))
		holds(t, s+"<a>"+s+"</a>"+s)
	}
}

func TestEnds(t *testing.T) {
	refused(t, api.ErrMatch, "</a>", " </a>", "</a><a/>", "<a/></a>", "<a></a></a>", "<a></a>\n</b>", "<a></b>", "<a></A>", "<a></aa>", "<aa></a>", "<a><b></a></b>", "<a><b></a>", "<a><b/></b></a>", "<a><b></b></b>", "<a><a></b></a>", "<a>x<!--c--><?p?></b>", "<a></é>")
	refused(t, api.ErrEnd, "<a>", "<a> ", "<a>x", "<a><a>", "<a><a></a>", "<a><b/>", "<a><!--c-->", "<a><?p?>", " <a x='1'>", "<a><b><c></c></b>", "\n<a><![CDATA[]]>")
	taken(t, "<a></a >", "<a><b></b></a>", "<a><b><a></a></b></a>", "<é></é>")
}

func TestTextsInARow(t *testing.T) {
	is(t, "<a>x<![CDATA[]]><![CDATA[y]]>&lt;<!--c-->z<?p q?></a>", elem("a", text("xy<"), comment("c"), text("z"), pi("p", "q")))
	is(t, "<a><![CDATA[x]]><![CDATA[y]]></a>", elem("a", text("xy")))
	is(t, "<a><![CDATA[]]></a>", elem("a"))
	is(t, "<a><![CDATA[]]><![CDATA[]]><b/><![CDATA[]]></a>", elem("a", elem("b")))
	is(t, "<a><![CDATA[]]>x</a>", elem("a", text("x")))
	is(t, "<a>x<![CDATA[]]></a>", elem("a", text("x")))
	is(t, "<a> <![CDATA[ ]]> </a>", elem("a", text("   ")))
	is(t, "<a>x<b/>y</a>", elem("a", text("x"), elem("b"), text("y")))
	is(t, "<a>x<b></b>y</a>", elem("a", text("x"), elem("b"), text("y")))
	is(t, "<a>x<b>y</b>z</a>", elem("a", text("x"), elem("b", text("y")), text("z")))
	is(t, "<a>x<!---->y</a>", elem("a", text("x"), comment(""), text("y")))
	is(t, "<a>x<?p?>y</a>", elem("a", text("x"), pi("p", ""), text("y")))
	is(t, "<a><!--c--><![CDATA[]]><!--d--></a>", elem("a", comment("c"), comment("d")))
	is(t, "<a>"+repeat("<![CDATA[x]]>", 300)+"</a>", elem("a", text(repeat("x", 300))))
}

func TestDepth(t *testing.T) {
	for many := 1; many <= 12; many++ {
		is(t, repeat("<a>", many)+repeat("</a>", many), nested(many))
		is(t, repeat("<a>", many-1)+"<a/>"+repeat("</a>", many-1), nested(many))
		is(t, repeat("<a>", many)+"x"+repeat("</a>", many), nested(many, text("x")))
		is(t, repeat("<a>", many)+"<!--c-->x<?p?>"+repeat("</a>", many), nested(many, comment("c"), text("x"), pi("p", "")))
	}
	twelve := repeat("<a>", 12)
	refused(t, api.ErrDeep, repeat("<a>", 13), repeat("<a>", 13)+repeat("</a>", 13), twelve+"<b/>"+repeat("</a>", 12), twelve+"<b></c>", twelve+"x<b>", twelve+"<b/><!--c-->", repeat("<a>", 300), "<z>"+repeat("<a>", 11)+"</a><a><a/>", twelve+"</a></a><a><a><a>")
	refused(t, api.ErrMatch, twelve+"</b><b>")
	refused(t, api.ErrEnd, twelve, twelve+"</a><a>")
	is(t, repeat("<a>", 11)+repeat("<b/>", 40)+repeat("</a>", 11), nested(11, slices.Repeat([]api.Node{elem("b")}, 40)...))
	taken(t, twelve+"</a><a></a></a><a><a/></a>"+repeat("</a>", 10), "<a>"+repeat("<b></b>", 100)+"</a>")
}

func TestMany(t *testing.T) {
	eight := " b='' c='' d='' e='' f='' g='' h='' i=''"
	full := []string{ // of 120 nodes, each with one element open that ends with </a>
		"<a>" + repeat("<b/>", 119), "<a>" + repeat("<b></b>", 119), "<a>" + repeat("<!--c-->", 119), "<a>" + repeat("<?p?>", 119), "<a>" + repeat("x<b/>", 59) + "x", "<a" + eight + ">" + repeat("<b/>", 111), "<a>" + repeat("<b x=''/>", 59) + "<b/>", "<a>" + repeat("<b"+eight+"/>", 13) + "x<!--c-->", "<a>" + repeat("<b>x</b>", 59) + "<?p?>", "<a>" + repeat("<b"+eight+">x</b>", 11) + repeat("<b/>", 8) + "x",
	}
	for _, s := range full {
		taken(t, s+"</a>", s+"</a>\n", "\t"+s+"<![CDATA[]]></a><![CDATA[ ]]>")
		if n, _ := tree.Parse(s + "</a>"); tree.Size(n) != 120 {
			t.Errorf("%.90q has %d nodes", s, tree.Size(n))
		}
		refused(t, api.ErrMany, s+"<b/></a>", s+"<b></b></a>", s+"<!--c--></a>", s+"<?p?></a>", s+"<b>", s+"<!--c--></b>", s+"<b/></b>", s+"<b>"+repeat("<b>", 20))
		refused(t, api.ErrEnd, s, s+"<![CDATA[]]>")
		refused(t, api.ErrMatch, s+"</b>", s+"</a></a>", s+"</b><b/>")
		refused(t, api.ErrRoot, s+"</a><b/>", s+"</a>x", s+"</a><!--c-->", s+"</a><?p?>")
		if strings.HasSuffix(s, "x") {
			taken(t, s+"<![CDATA[y]]></a>", s+"y</a>", s+"<![CDATA[]]>y<![CDATA[z]]></a> ")
		} else {
			refused(t, api.ErrMany, s+"x</a>", s+" </a>", s+"<![CDATA[x]]></a>", s+"<![CDATA[]]>&lt;</a>")
		}
	}
	// a start tag by all its attributes
	most := "<a>" + repeat("<b/>", 110)
	taken(t, most+"<c"+eight+"/></a>", most+"<c"+eight+"></c></a>")
	refused(t, api.ErrMany, most+"<b/><c"+eight+"/></a>", most+"<b/><c"+eight+">", most+"x<c"+eight+"></c></a>", most+"<c"+eight+"/>x</a>")
	taken(t, most+"x<c"+strings.TrimSuffix(eight, " i=''")+"/></a>")
	// too deep comes ahead, too many ahead of what follows
	deep := repeat("<a>", 11) + repeat("<b/>", 108) + "<a>"
	refused(t, api.ErrDeep, deep+"<b/>", deep+"<b"+eight+">", deep+"<b></c>")
	refused(t, api.ErrMany, deep+"x", deep+"</a><b/>", deep+"</a></a><a><a><a>", deep+"<!--c--><b/>")
	refused(t, api.ErrEnd, deep)
}

func TestWhichErrorIsFirst(t *testing.T) {
	for s, want := range map[string]api.Errno{
		"x</a>": api.ErrRoot, "</a>x": api.ErrMatch, "<a></b>x": api.ErrMatch, "<a/>x</b>": api.ErrRoot, "<a/><b></c>": api.ErrRoot, "</a><!--c-->": api.ErrMatch, "<?p?></a>": api.ErrRoot, "<a></b>" + repeat("<a>", 13): api.ErrMatch, repeat("<a>", 13) + "</b>": api.ErrDeep, "<a>" + repeat("<b/>", 120) + "</b>": api.ErrMany, "<a></b>" + repeat("<b/>", 120): api.ErrMatch, repeat("<a/>", 130): api.ErrRoot, repeat("</a>", 130): api.ErrMatch, repeat("<a>", 130): api.ErrDeep, " <a></a> <b": api.ErrEnd, "<a> <b></a>": api.ErrMatch,
	} {
		refused(t, want, s)
	}
}

// All rows of up to five of the pieces that markup is made of.
func TestAllShortRows(t *testing.T) {
	pieces := []string{"<a>", "</a>", "<a/>", "<b>", "</b>", "x", "<![CDATA[]]>", " ", "<!--c-->", "<?p?>"}
	rows := []string{""}
	for range 5 {
		var longer []string
		for _, s := range rows {
			for _, p := range pieces {
				holds(t, s+p)
				longer = append(longer, s+p)
			}
		}
		if t.Failed() {
			return
		}
		rows = longer
	}
}

// grow writes an element by chance, of about so many pieces, and seldom a wrong one.
func grow(r *rand.Rand, pieces, wrong int) string {
	var s strings.Builder
	var open []string
	if r.Intn(3) == 0 {
		s.WriteString("\n ")
	}
	for i := range pieces {
		name := string("abcdé"[r.Intn(4)])
		switch k := r.Intn(12); {
		case wrong > 0 && r.Intn(wrong) == 0:
			s.WriteString([]string{"</a>", "</b>", "<c>", "x", "<!--c-->", "<?p q?>", "<d/>", "&", "<1>"}[r.Intn(9)])
		case k < 4 || i == 0:
			s.WriteString("<" + name)
			for j := range r.Intn(4) {
				fmt.Fprintf(&s, " %c%d='%d'", "zyxw"[r.Intn(4)], j, r.Intn(3))
			}
			if i > 0 && r.Intn(3) == 0 {
				s.WriteString("/>")
			} else {
				s.WriteString(">")
				open = append(open, name)
			}
		case k < 7 && len(open) > 1:
			s.WriteString("</" + open[len(open)-1] + ">")
			open = open[:len(open)-1]
		case k < 10:
			s.WriteString([]string{"x", " ", "<![CDATA[]]>", "<![CDATA[<]]>", "&amp;", "\r\n"}[r.Intn(6)])
		case k == 10:
			s.WriteString("<!--" + name + "-->")
		default:
			s.WriteString("<?" + name + " x?>")
		}
	}
	for _, name := range slices.Backward(open) {
		s.WriteString("</" + name + ">")
	}
	return s.String()
}

func TestTextsOfAllSizes(t *testing.T) {
	r := rand.New(rand.NewSource(7))
	seen := map[api.Errno]int{}
	for range 5000 {
		s := grow(r, r.Intn(130), []int{0, 0, 20, 100}[r.Intn(4)])
		holds(t, s)
		if t.Failed() {
			return
		}
		_, e := tree.Parse(s)
		seen[e]++
	}
	for _, e := range []api.Errno{api.OK, api.ErrRoot, api.ErrMatch, api.ErrDeep, api.ErrMany} {
		if seen[e] < 20 {
			t.Errorf("%d was answered %d times: too seldom to tell", int(e), seen[e])
		}
	}
}

// Each beginning of a text of all pieces, and the text with each byte left out, doubled, or another one.
func TestTextsWithOneByteTurned(t *testing.T) {
	const whole = "\n<a y='1' x=\"&lt;\">b<![CDATA[]]>&gt;<c><d/ ><!--e--></c>f<?g h?></a>\r\n"
	right := strings.Replace(whole, "/ >", "/>", 1)
	is(t, right, with(elem("a", text("b>"), elem("c", elem("d"), comment("e")), text("f"), pi("g", "h")), "x", "<", "y", "1"))
	for _, s := range []string{whole, right} {
		for i := range len(s) {
			holds(t, s[:i])
			holds(t, s[i:])
			holds(t, s[:i]+s[i+1:])
			holds(t, s[:i+1]+s[i:])
			for b := range 256 {
				holds(t, s[:i]+string([]byte{byte(b)})+s[i+1:])
			}
			if t.Failed() {
				return
			}
		}
	}
}

// P7.2

func TestSizeAndDepth(t *testing.T) {
	for _, c := range []struct {
		n           api.Node
		size, depth int
	}{
		{elem("a"), 1, 1}, {with(elem("a"), "x", "1"), 2, 1}, {with(elem("a"), "x", "1", "x", "1", "", ""), 4, 1}, {elem("a", text("b")), 2, 1}, {elem("a", text(""), text("")), 3, 1}, {elem("a", elem("b")), 2, 2}, {elem("a", elem("b"), elem("c")), 3, 2}, {elem("a", elem("b", elem("c")), elem("d"), text("e")), 5, 3}, {elem("a", elem("b"), elem("c", with(elem("d"), "x", "1"))), 5, 3}, {with(elem("a", text("b"), elem("c")), "x", "1", "y", "2"), 5, 2}, {nested(12, text("x")), 13, 12}, {nested(13), 13, 13}, {elem(""), 1, 1}, {elem("a", comment("b"), pi("c", "d")), 3, 1},
		{text("a"), 1, 0}, {text(""), 1, 0}, {comment("a"), 1, 0}, {pi("a", "b"), 1, 0}, {api.Node{}, 1, 0},
	} {
		if size, depth := tree.Size(c.n), tree.Depth(c.n); size != c.size || depth != c.depth {
			t.Errorf("Size, Depth of %v: %d, %d, not %d, %d", c.n, size, depth, c.size, c.depth)
		}
	}
}

func TestSizeAndDepthOfNoElement(t *testing.T) {
	for _, kind := range []int{-1 << 63, -2, -1, 0, api.Root, api.Attribute, api.Text, api.Comment, api.PI, 7, 1 << 62} {
		n := with(api.Node{Kind: kind, Name: "a", Text: "b", Kids: []api.Node{elem("c", elem("d"))}}, "x", "1")
		if tree.Size(n) != 1 || tree.Depth(n) != 0 {
			t.Errorf("Size, Depth of kind %d: %d, %d", kind, tree.Size(n), tree.Depth(n))
		}
		if m := elem("e", n, elem("f"), n); tree.Size(m) != 4 || tree.Depth(m) != 2 {
			t.Errorf("Size, Depth with kind %d: %d, %d", kind, tree.Size(m), tree.Depth(m))
		}
	}
}

func TestSame(t *testing.T) {
	nodes := []api.Node{
		{}, {Name: "a"}, {Text: "a"}, {Kind: api.Root}, {Kind: 7}, {Kind: -1},
		text(""), text("a"), text("b"), text("a "), comment("a"), comment(""), pi("a", ""), pi("", "a"), pi("a", "a"), pi("b", "a"),
		elem(""), elem("a"), elem("A"), elem("b"), {Kind: api.Elem, Name: "a", Text: "a"}, {Kind: api.Attribute, Name: "a"},
		with(elem("a"), "x", "1"), with(elem("a"), "x", "2"), with(elem("a"), "y", "1"), with(elem("a"), "x", "1", "y", "1"), with(elem("a"), "y", "1", "x", "1"), with(elem("a"), "x", "1", "x", "1"), with(elem("a"), "", ""),
		elem("a", text("a")), elem("a", text("b")), elem("a", comment("a")), elem("a", text("a"), text("a")), elem("a", text("a"), text("b")), elem("a", text("b"), text("a")), elem("a", text("ab")), elem("a", api.Node{}), elem("a", elem("a")), elem("a", elem("a", elem("a"))), elem("a", elem("a"), elem("a")), elem("a", with(elem("a"), "x", "1")), with(elem("a", elem("a")), "x", "1"),
		with(text("a"), "x", "1"), with(text("a"), "x", "2"), {Kind: api.Text, Text: "a", Kids: []api.Node{text("a")}}, {Kind: api.Text, Text: "a", Kids: []api.Node{text("b")}}, {Kind: api.Text, Text: "a", Name: "b"}, with(api.Node{}, "x", "1"), {Kids: []api.Node{{}}}, {Kids: []api.Node{{}, {}}}, text("\xff"), text("\ufffd"),
	}
	for i, a := range nodes {
		for j, b := range nodes {
			for _, f := range []func(n api.Node) api.Node{
				func(n api.Node) api.Node { return n },
				func(n api.Node) api.Node { return with(elem("p", text("q"), elem("r", n, text("s")), n), "t", "u") },
			} {
				if got := tree.Same(f(a), copied(f(b))); got != (i == j) {
					t.Errorf("Same(%v, %v) = %v", a, b, got)
				}
			}
		}
	}
}

func TestSameOfNoListAndEmptyOne(t *testing.T) {
	none := api.Node{Kind: api.Elem, Name: "a"}
	empty := api.Node{Kind: api.Elem, Name: "a", Attrs: []api.Attr{}, Kids: []api.Node{}}
	roomy := api.Node{Kind: api.Elem, Name: "a", Attrs: make([]api.Attr, 0, 4), Kids: make([]api.Node, 0, 4)}
	for _, a := range []api.Node{none, empty, roomy} {
		for _, b := range []api.Node{none, empty, roomy} {
			if !tree.Same(a, b) || !tree.Same(elem("b", a), elem("b", b)) {
				t.Error("no list and an empty one are not one")
			}
		}
		if !tree.Right(a) || !tree.Right(elem("b", a, text("c"))) {
			t.Error("not right by an empty list")
		}
		for _, n := range []api.Node{text("b"), comment("b"), pi("b", "")} {
			n.Attrs, n.Kids = a.Attrs, a.Kids
			if !tree.Right(elem("a", n)) {
				t.Error("not right by an empty list of a kid")
			}
		}
	}
}

// Two that are written each from its own chances are the same just if all of them is.
func TestSameByChance(t *testing.T) {
	r := rand.New(rand.NewSource(72))
	for range 5000 {
		a, _ := tree.Parse(grow(r, r.Intn(40), 0))
		b := copied(a)
		if r.Intn(4) > 0 {
			turn(r, &b)
		}
		if got, want := tree.Same(a, b), alike(a, b); got != want || tree.Same(b, a) != want {
			t.Fatalf("Same(%v, %v) = %v", a, b, got)
		}
	}
}

// turn turns something in a node.
func turn(r *rand.Rand, n *api.Node) {
	for len(n.Kids) > 0 && r.Intn(4) > 0 {
		n = &n.Kids[r.Intn(len(n.Kids))]
	}
	words := []string{"", "a", "b", " a", "a-", "--", "a--b", "-", "\r", "a\rb", "?>", "?", "\n", "\xff", "\x00", "xml", "XmL", "xmlx", "1a", "a b", "a/", "é", repeat("a", 32), repeat("a", 33), "<", "]]>", "a='", ">", "--\r ?>\xff"}
	word := words[r.Intn(len(words))]
	nodes := []api.Node{text(word), text("a"), comment(word), pi(word, "a"), pi("a", word), elem(word), with(elem("a"), word, "a"), with(elem("a"), "a", word), {Kind: r.Intn(9) - 1, Text: word}}
	switch r.Intn(9) {
	case 0:
		n.Kind = r.Intn(9) - 1
	case 1:
		n.Name = word
	case 2:
		n.Text = word
	case 3:
		n.Attrs = append(n.Attrs, api.Attr{Name: word, Text: "1"})
	case 4:
		if len(n.Attrs) > 0 {
			n.Attrs[r.Intn(len(n.Attrs))] = api.Attr{Name: []string{word, "x", "y"}[r.Intn(3)], Text: words[r.Intn(len(words))]}
		}
	case 5:
		r.Shuffle(len(n.Attrs), reflect.Swapper(n.Attrs))
	case 6:
		n.Kids = slices.Insert(n.Kids, r.Intn(len(n.Kids)+1), nodes[r.Intn(len(nodes))])
	case 7:
		if i := len(n.Kids); i > 0 {
			i = r.Intn(i)
			n.Kids = slices.Delete(n.Kids, i, i+1)
		}
	case 8:
		if i := len(n.Kids); i > 0 {
			n.Kids[r.Intn(i)] = nodes[r.Intn(len(nodes))]
		}
	}
}

// P7.3

// written is a node's markup, whether it may be or not.
func written(n api.Node) string {
	in := strings.NewReplacer("&", "&amp;", "<", "&lt;", ">", "&gt;", "'", "&apos;", "\t", "&#9;", "\n", "&#10;", "\r", "&#13;").Replace
	switch n.Kind {
	case api.Elem:
		s := "<" + n.Name
		for _, a := range n.Attrs {
			s += " " + a.Name + "='" + in(a.Text) + "'"
		}
		s += ">"
		for _, k := range n.Kids {
			s += written(k)
		}
		return s + "</" + n.Name + ">"
	case api.Text:
		return in(n.Text)
	case api.Comment:
		return "<!--" + n.Text + "-->"
	case api.PI:
		return "<?" + n.Name + " " + n.Text + "?>"
	}
	return ""
}

// rights holds Right against what becomes of a node that is written and parsed; longer markup than Parse takes tells nothing.
func rights(t *testing.T, n api.Node) {
	t.Helper()
	s := written(n)
	if len(s) > api.MaxText {
		return
	}
	m, e := parsed(s)
	if got, want := tree.Right(n), e == api.OK && alike(m, n); got != want {
		t.Errorf("Right(%v) = %v: its markup is %.300q, %d", n, got, s, int(e))
	}
}

// fits asks of nodes whether they may be, alone or as kids.
func fits(t *testing.T, want bool, all ...api.Node) {
	t.Helper()
	for _, n := range all {
		m := with(elem("a", elem("b"), elem("c", comment("d"), n, pi("e", "")), text("f")), "g", "h")
		if tree.Right(m) != want {
			t.Errorf("Right of %v as a kid: %v", n, !want)
		}
		if got := tree.Right(n); got != (want && n.Kind == api.Elem) {
			t.Errorf("Right(%v) = %v", n, got)
		}
		rights(t, m)
		rights(t, n)
	}
}

func TestRightOfNames(t *testing.T) {
	long := repeat("a", 32)
	for _, name := range []string{"a", "A", "_", "é", "日本", "a-.1", "\U0001f600", long, repeat("é", 16), "xm", "xmll", "axml", "xmk"} {
		fits(t, true, elem(name), with(elem("a"), name, ""), pi(name, "b"))
	}
	for _, name := range []string{"", "1", "-", ".a", "a b", " a", "a ", "a:b", "a/", "a>", "a='1'", "\u00b7", "a\x00", "a\xff", "\xff", long + "a", repeat("é", 17), "a\r", "\u2028", "a?", "a?>"} {
		fits(t, false, elem(name), with(elem("a"), name, ""), pi(name, "b"))
	}
	for _, name := range []string{"xml", "XML", "xMl", "XmL"} {
		fits(t, true, elem(name), with(elem("a"), name, ""))
		fits(t, false, pi(name, ""), pi(name, "b"))
	}
}

func TestRightOfTexts(t *testing.T) {
	plain := []string{"a", " ", "\t\n", "<&>'\"", "]]>", "日", "\ufffd", "\U0010ffff", "\ue000", "\u0085", "a b ", "-a", "a-b", "?", "a?", "><", "- - ", "?a>", "\n- -\n"}
	for _, s := range plain {
		fits(t, true, text(s), with(elem("a"), "x", s), comment(s))
		fits(t, strings.TrimLeft(s, "\t\n ") == s, pi("a", s))
	}
	fits(t, true, comment(""), pi("a", ""), with(elem("a"), "x", ""))
	fits(t, false, text(""))
	for _, s := range []string{"\x00", "\x08", "\x0b", "\x1f", "\ufffe", "\uffff", "a\xff", "\xc0\x80", "\xed\xa0\x80", "\xf4\x90\x80\x80", "\xe6\x97"} {
		fits(t, false, text(s), text("a"+s+"b"), comment(s), comment("a"+s+"b"), pi("a", s), pi("a", "b"+s), with(elem("a"), "x", s), with(elem("a"), "x", "1", "y", "b"+s))
	}
	for _, s := range []string{"\r", "a\r", "\ra", "a\r\nb", "a\rb"} {
		fits(t, true, text(s), with(elem("a"), "x", s))
		fits(t, false, comment(s), pi("a", s))
	}
	for _, s := range []string{"--", "---", "a--", "--a", "a--b", "-", "a-", "a -", "-->", "a--b-"} {
		fits(t, true, text(s), pi("a", s), with(elem("a"), "x", s))
		fits(t, false, comment(s))
	}
	for _, s := range []string{"?>", "a?>", "?>a", "a?>b", "??>", " ?>"} {
		fits(t, true, text(s), comment(s), with(elem("a"), "x", s))
		fits(t, false, pi("a", s))
	}
	for _, s := range []string{" ", "\t", "\n", " a", "\na", "\ta ", "  "} {
		fits(t, true, text(s), comment(s), with(elem("a"), "x", s))
		fits(t, false, pi("a", s))
	}
	fits(t, true, pi("a", "\u00a0a"), pi("a", "\u0085"), pi("a", "a "), pi("a", "\u2003"))
	// how long it is asks Parse, not Right
	long := repeat("a", 5000)
	fits(t, true, text(long), comment(long), pi("a", long), with(elem("a"), "x", long))
}

func TestRightOfAttributes(t *testing.T) {
	fits(t, true, with(elem("a"), "x", "1", "y", "1"), with(elem("a"), "B", "", "a", ""), with(elem("a"), "_", "", "a", "", "a-", "", "a.", "", "aa", "", "z", "", "é", ""), with(elem("a"), "\ufffd", "", "\U00010000", ""))
	fits(t, false, with(elem("a"), "y", "", "x", ""), with(elem("a"), "a", "", "B", ""), with(elem("a"), "aa", "", "a", ""), with(elem("a"), "é", "", "z", ""), with(elem("a"), "\U00010000", "", "\ufffd", ""), with(elem("a"), "x", "", "z", "", "y", ""))
	fits(t, false, with(elem("a"), "x", "1", "x", "1"), with(elem("a"), "x", "1", "x", "2"), with(elem("a"), "w", "", "x", "", "x", ""), with(elem("a"), "x", "", "y", "", "x", ""))
	n := elem("a")
	for i := range 8 {
		n = with(n, fmt.Sprint("x", i), "1")
		fits(t, true, n)
	}
	fits(t, false, with(copied(n), "x8", "1"), with(copied(n), "x8", "", "x9", ""), with(copied(n), "x7", ""), with(copied(n), "", ""))
}

func TestRightOfOtherFields(t *testing.T) {
	kid := []api.Node{text("a")}
	for _, n := range []api.Node{
		{Kind: api.Elem, Name: "a", Text: "b"}, {Kind: api.Elem, Name: "a", Text: " "}, {Kind: api.Elem, Name: "a", Text: "\n", Kids: kid},
		{Kind: api.Text, Text: "a", Name: "b"}, with(text("a"), "x", "1"), {Kind: api.Text, Text: "a", Kids: kid}, {Kind: api.Text, Text: "a", Attrs: make([]api.Attr, 1)}, {Kind: api.Text, Text: "a", Kids: make([]api.Node, 1)}, {Kind: api.Text, Name: "a"},
		{Kind: api.Comment, Text: "a", Name: "b"}, with(comment("a"), "x", "1"), {Kind: api.Comment, Text: "a", Kids: kid}, {Kind: api.Comment, Name: "a"}, {Kind: api.Comment, Kids: kid},
		with(pi("a", "b"), "x", "1"), {Kind: api.PI, Name: "a", Kids: kid}, with(pi("a", ""), "", ""),
	} {
		fits(t, false, n)
	}
	for _, kind := range []int{-1 << 63, -1, 0, api.Root, api.Attribute, 7, 8, 1 << 40} {
		fits(t, false, api.Node{Kind: kind}, api.Node{Kind: kind, Name: "a"}, api.Node{Kind: kind, Text: "a"}, api.Node{Kind: kind, Name: "a", Text: "a"}, api.Node{Kind: kind, Name: "a", Kids: kid}, with(api.Node{Kind: kind, Name: "a"}, "x", "1"))
	}
}

func TestRightOfKids(t *testing.T) {
	fits(t, true, elem("a", text("a")), elem("a", text("a"), elem("b"), text("a")), elem("a", text("a"), comment("b"), text("a"), pi("c", ""), text("a")), elem("a", elem("b"), elem("b"), comment("c"), comment("c"), pi("d", ""), pi("d", "")), elem("a", text("a"), elem("b", text("a")), text("a")))
	fits(t, false, elem("a", text("a"), text("a")), elem("a", elem("b"), text("a"), text("b")), elem("a", text("a"), text("b"), elem("c")), elem("a", text("a"), elem("c"), text("b"), text("c")), elem("a", text(" "), text(" ")), elem("a", text("a"), text("")), elem("a", text(""), text("a")), elem("a", text("a"), text("b"), text("c")))
	fits(t, false, elem("a", elem("b", text("c"), text("d"))), elem("a", elem("b"), elem("c", elem("d", comment("--")))), elem("a", elem("b", elem("1"))), elem("a", text("b"), api.Node{}))
}

func TestRightOfDepth(t *testing.T) {
	for many := 1; many <= 14; many++ {
		for _, n := range []api.Node{nested(many), nested(many, text("x")), nested(many, comment("x"), text("x"), pi("x", "")), elem("a", text("x"), elem("b"), nested(many-1+max(0, 2-many)))} {
			rights(t, n)
			if got, want := tree.Right(n), deep(n) <= 12; got != want {
				t.Errorf("Right of %d elements in one another: %v", many, got)
			}
		}
	}
}

func TestRightOfSize(t *testing.T) {
	for many := 110; many <= 130; many++ {
		for _, kid := range []api.Node{elem("b"), comment("b"), pi("b", "c")} {
			n := elem("a", slices.Repeat([]api.Node{kid}, many-1)...)
			rights(t, n)
			rights(t, elem("c", n))
			rights(t, with(copied(n), "x", "", "y", ""))
			if got := tree.Right(n); got != (many <= 120) {
				t.Errorf("Right of %d nodes: %v", many, got)
			}
		}
		n := elem("a")
		for len(n.Kids) < (many-1)/2 {
			n.Kids = append(n.Kids, with(elem("b"), "x", "1"))
		}
		for tree.Size(n) < many {
			n.Kids = append(n.Kids, comment(""))
		}
		rights(t, n)
		if got := tree.Right(n); got != (many <= 120) {
			t.Errorf("Right of %d nodes: %v", many, got)
		}
	}
}

func TestRightByChance(t *testing.T) {
	r := rand.New(rand.NewSource(73))
	seen := map[int]int{}
	for range 8000 {
		n, _ := tree.Parse(grow(r, r.Intn(30), 0))
		n = copied(n)
		for range r.Intn(3) {
			turn(r, &n)
		}
		rights(t, n)
		if t.Failed() {
			return
		}
		if tree.Right(n) {
			seen[1]++
		} else {
			seen[0]++
		}
	}
	if seen[0] < 1000 || seen[1] < 1000 {
		t.Errorf("one answer too seldom to tell: %v", seen)
	}
}

// R1, R3

func TestGreatTrees(t *testing.T) {
	const many = 1 << 16
	deepest := nested(many, text("x"))
	other := nested(many, text("y"))
	if tree.Size(deepest) != many+1 || tree.Depth(deepest) != many || tree.Right(deepest) || !tree.Same(deepest, nested(many, text("x"))) || tree.Same(deepest, other) {
		t.Error("a deep tree is wrong")
	}
	wide := elem("a", slices.Repeat([]api.Node{with(elem("b"), "x", "1")}, 1<<20)...)
	if tree.Size(wide) != 1+2<<20 || tree.Depth(wide) != 2 || tree.Right(wide) || !tree.Same(wide, wide) {
		t.Error("a wide tree is wrong")
	}
	// beyond all counting, but Right has not to count it to its end
	n := elem("a")
	for range 60 {
		n = elem("a", n, n, n, n)
	}
	if tree.Right(n) {
		t.Error("a tree without end is right")
	}
}

func TestNothingIsTurned(t *testing.T) {
	room := append(make([]api.Node, 0, 8), text("b"), elem("c"), comment("d"))
	attrs := append(make([]api.Attr, 0, 8), api.Attr{Name: "y", Text: "2"}, api.Attr{Name: "x", Text: "1"})
	n := api.Node{Kind: api.Elem, Name: "a", Attrs: attrs, Kids: room}
	before, spare, beside := copied(n), slices.Clone(room[:8]), slices.Clone(attrs[:8])
	tree.Right(n)
	tree.Size(n)
	tree.Depth(n)
	tree.Same(n, n)
	tree.Same(n, elem("a"))
	if !alike(n, before) || !reflect.DeepEqual(room[:8], spare) || !reflect.DeepEqual(attrs[:8], beside) {
		t.Error("a list that was handed in was changed")
	}
}

// lists tells all lists of a node, to their ends.
func lists(n *api.Node, attrs func([]api.Attr), kids func([]api.Node)) {
	for i := range n.Kids {
		lists(&n.Kids[i], attrs, kids)
	}
	attrs(n.Attrs[:cap(n.Attrs)])
	kids(n.Kids[:cap(n.Kids)])
}

func TestAnswersShareNothing(t *testing.T) {
	const s = "<a z='1' y='2' x='3'>b<c y='1' x='2' w='3'/>d<e y='1'><f/><g/>h</e><i x='1' y='2' z='3'><j/>k<l/></i></a>"
	once, _ := tree.Parse(s)
	again, _ := tree.Parse(s)
	want := copied(again)
	at, kid := map[*api.Attr]int{}, map[*api.Node]int{}
	lists(&once,
		func(l []api.Attr) {
			for i := range l {
				at[&l[i]]++
			}
		},
		func(l []api.Node) {
			for i := range l {
				kid[&l[i]]++
			}
		})
	for _, many := range at {
		if many != 1 {
			t.Error("two lists of attributes share memory")
		}
	}
	for _, many := range kid {
		if many != 1 {
			t.Error("two lists of kids share memory")
		}
	}
	lists(&once, func(l []api.Attr) { clear(l) }, func(l []api.Node) { clear(l) })
	if !alike(again, want) {
		t.Errorf("an answer hangs on another one: %v", again)
	}
	if last, _ := tree.Parse(s); !alike(last, want) {
		t.Errorf("an answer hangs on an earlier one: %v", last)
	}
}
