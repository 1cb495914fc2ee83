package canon_test

import (
	"fmt"
	"math/rand"
	"reflect"
	"slices"
	"strings"
	"testing"

	"breviary/api"
	"breviary/canon"
	"breviary/tree"
)

var repeat = strings.Repeat

// Nodes, as they are told.

func elem(name string, kids ...api.Node) api.Node {
	return api.Node{Kind: api.Elem, Name: name, Kids: kids}
}

func with(n api.Node, attrs ...string) api.Node {
	for i := 0; i < len(attrs); i += 2 {
		n.Attrs = append(n.Attrs, api.Attr{Name: attrs[i], Text: attrs[i+1]})
	}
	return n
}

func text(s string) api.Node       { return api.Node{Kind: api.Text, Text: s} }
func comment(s string) api.Node    { return api.Node{Kind: api.Comment, Text: s} }
func pi(target, s string) api.Node { return api.Node{Kind: api.PI, Name: target, Text: s} }

// nested is elements in one another, with something in the innermost.
func nested(many int, inner ...api.Node) api.Node {
	n := elem("a", inner...)
	for range many - 1 {
		n = elem("a", n)
	}
	return n
}

// copied is a node that shares no list with another one; no list is an empty one.
func copied(n api.Node) api.Node {
	n.Attrs = append([]api.Attr{}, n.Attrs...)
	n.Kids = append([]api.Node{}, n.Kids...)
	for i := range n.Kids {
		n.Kids[i] = copied(n.Kids[i])
	}
	return n
}

// alike asks whether nodes are the same, in all their fields.
func alike(a, b api.Node) bool { return reflect.DeepEqual(copied(a), copied(b)) }

// The chapter's words once more, to hold Write against.

var (
	inText = strings.NewReplacer("&", "&amp;", "<", "&lt;", ">", "&gt;", "\r", "&#13;").Replace
	inAttr = strings.NewReplacer("&", "&amp;", "<", "&lt;", `"`, "&quot;", "\t", "&#9;", "\n", "&#10;", "\r", "&#13;").Replace
)

// marked is the markup of a node that may be.
func marked(n api.Node) string {
	switch n.Kind {
	case api.Text:
		return inText(n.Text)
	case api.Comment:
		return "<!--" + n.Text + "-->"
	case api.PI:
		if n.Text == "" {
			return "<?" + n.Name + "?>"
		}
		return "<?" + n.Name + " " + n.Text + "?>"
	}
	attrs, kids := "", ""
	for _, a := range n.Attrs {
		attrs += fmt.Sprintf(` %s="%s"`, a.Name, inAttr(a.Text))
	}
	for _, k := range n.Kids {
		kids += marked(k)
	}
	return fmt.Sprintf("<%s%s>%s</%[1]s>", n.Name, attrs, kids)
}

// writes asks whether a node that may be has this markup, and whether that is read as it was.
func writes(t *testing.T, n api.Node, want string) {
	t.Helper()
	if got := canon.Write(n); got != want {
		t.Errorf("Write(%.300v) = %.300q, not %.300q", n, got, want)
	}
	if len(want) > api.MaxText {
		return
	}
	if m, e := canon.Read(want); e != api.OK || !alike(m, n) {
		t.Errorf("Read(%.300q) = %v, %d, not %v", want, m, int(e), n)
	}
}

// holds holds the markup of a node that may be against the chapter's words.
func holds(t *testing.T, n api.Node) {
	t.Helper()
	if !tree.Right(n) {
		t.Errorf("may not be: %.300v", n)
	}
	writes(t, n, marked(n))
}

// nothing asks whether nodes that may not be have no markup, alone and within others.
func nothing(t *testing.T, all ...api.Node) {
	t.Helper()
	for _, n := range all {
		for _, m := range []api.Node{n, elem("a", n), with(elem("a", text("b"), elem("c", comment("d"), n), pi("e", "")), "f", "g")} {
			if got := canon.Write(m); got != "" {
				t.Errorf("Write(%.300v) = %.300q", m, got)
			}
		}
	}
}

// reads holds Read of a text against what is to be answered, and what it tells against P8.2.
func reads(t *testing.T, s string) {
	t.Helper()
	want, wanted := tree.Parse(s)
	if wanted == api.OK && len(marked(want)) > api.MaxText {
		want, wanted = api.Node{}, api.ErrLong
	}
	got, e := canon.Read(s)
	if e != wanted || !alike(got, want) {
		t.Errorf("Read(%.300q) = %v, %d, not %v, %d", s, got, int(e), want, int(wanted))
	}
	if e == api.OK {
		holds(t, got)
	}
}

// becomes asks whether a text is read, and what markup is written of it.
func becomes(t *testing.T, s, want string) {
	t.Helper()
	n, e := canon.Read(s)
	if got := canon.Write(n); e != api.OK || got != want {
		t.Errorf("Write of Read of %.300q is %.300q, %d, not %.300q", s, got, int(e), want)
	}
	reads(t, s)
	if s != want {
		becomes(t, want, want)
	}
}

// refused asks whether texts are refused, by this error and with nothing beside it.
func refused(t *testing.T, want api.Errno, all ...string) {
	t.Helper()
	for _, s := range all {
		if n, e := canon.Read(s); e != want || !reflect.DeepEqual(n, api.Node{}) {
			t.Errorf("Read(%.300q) = %v, %d, not %d", s, n, int(e), int(want))
		}
		reads(t, s)
	}
}

// P8.1: Write

func TestExamples(t *testing.T) {
	becomes(t, "<a  y='1' x=\"2\"><b/>c&gt;</a >", "<a x=\"2\" y=\"1\"><b></b>c&gt;</a>")
	becomes(t, `<a x="1">b</a>`, `<a x="1">b</a>`)
}

func TestWriteOfEachKind(t *testing.T) {
	for want, n := range map[string]api.Node{
		"<a></a>": elem("a"), "<日></日>": elem("日"), "<xml></xml>": elem("xml"), "<a-.1></a-.1>": elem("a-.1"),
		`<a x="1"></a>`: with(elem("a"), "x", "1"), `<a x=""></a>`: with(elem("a"), "x", ""), `<a X="1" x="2" y="3"></a>`: with(elem("a"), "X", "1", "x", "2", "y", "3"), `<a x=" 1 "></a>`: with(elem("a"), "x", " 1 "), `<a é="日"></a>`: with(elem("a"), "é", "日"),
		"<a>b</a>": elem("a", text("b")), "<a> </a>": elem("a", text(" ")), "<a>\n\t</a>": elem("a", text("\n\t")), "<a>a b</a>": elem("a", text("a b")),
		"<a><!--b--></a>": elem("a", comment("b")), "<a><!----></a>": elem("a", comment("")), "<a><!-- b --></a>": elem("a", comment(" b ")), "<a><!---b--></a>": elem("a", comment("-b")), "<a><!-->--></a>": elem("a", comment(">")),
		"<a><?b?></a>": elem("a", pi("b", "")), "<a><?b c?></a>": elem("a", pi("b", "c")), "<a><?b c  d ?></a>": elem("a", pi("b", "c  d ")), "<a><?b ??></a>": elem("a", pi("b", "?")), "<a><?b >?></a>": elem("a", pi("b", ">")), "<a><?xml- c\n?></a>": elem("a", pi("xml-", "c\n")),
		"<a><b></b></a>": elem("a", elem("b")), "<a><b></b><b></b></a>": elem("a", elem("b"), elem("b")), "<a><b><c></c></b><d></d></a>": elem("a", elem("b", elem("c")), elem("d")),
		`<a x="1" y="2">b<c z="3">d</c>e<!--f--><?g h?><i></i></a>`: with(elem("a", text("b"), with(elem("c", text("d")), "z", "3"), text("e"), comment("f"), pi("g", "h"), elem("i")), "x", "1", "y", "2"),
	} {
		writes(t, n, want)
		writes(t, elem("z", text("y"), n, n, with(elem("x", n), "w", "v")), "<z>y"+want+want+`<x w="v">`+want+"</x></z>")
		holds(t, n)
	}
}

func TestWriteOfWhatStandsForCharacters(t *testing.T) {
	const all = "\t\n\r !\"#&';<=>?[]/-&amp;&#13;]]>é日\U0001f600"
	writes(t, elem("a", text(all)), "<a>\t\n&#13; !\"#&amp;';&lt;=&gt;?[]/-&amp;amp;&amp;#13;]]&gt;é日\U0001f600</a>")
	writes(t, with(elem("a"), "x", all), "<a x=\"&#9;&#10;&#13; !&quot;#&amp;';&lt;=>?[]/-&amp;amp;&amp;#13;]]>é日\U0001f600\"></a>")
	writes(t, elem("a", comment("<&>'\"]]>?>&amp;\t\n<!-é")), "<a><!--<&>'\"]]>?>&amp;\t\n<!-é--></a>")
	writes(t, elem("a", pi("b", "<&>'\"]]>--&amp;\t\n<?é ")), "<a><?b <&>'\"]]>--&amp;\t\n<?é ?></a>")
}

// Each character below 3000, and some above, in each place where one may stand.
func TestWriteOfEachCharacter(t *testing.T) {
	runes := []rune{0xd7ff, 0xe000, 0xfffd, 0x10000, 0x1f600, 0x10ffff}
	for r := range rune(0x3000) {
		runes = append(runes, r)
	}
	for _, r := range runes {
		s := string(r)
		for _, n := range []api.Node{
			elem("a", text(s)), elem("a", text("b"+s+"c"+s)), with(elem("a"), "x", s), with(elem("a"), "x", "b"+s+"c"+s),
			elem("a", comment(s)), elem("a", comment("b"+s+"c")), elem("a", pi("b", s)), elem("a", pi("b", "c"+s+"d")), elem("a", pi("b", "c"+s)),
			elem(s), elem("a" + s), with(elem("a"), s, ""), elem("a", pi(s, "")), elem("a", pi("a"+s, s)),
		} {
			if tree.Right(n) {
				holds(t, n)
			} else {
				nothing(t, n)
			}
		}
		if t.Failed() {
			return
		}
	}
}

func TestWriteOfWhatMayNotBe(t *testing.T) {
	// no element: the markup of a kid by itself is not asked for
	for _, n := range []api.Node{{}, text("a"), text(" "), comment("a"), comment(""), pi("a", ""), pi("a", "b"), {Kind: api.Root, Kids: []api.Node{elem("a")}}, {Kind: api.Attribute, Name: "a", Text: "b"}} {
		if got := canon.Write(n); got != "" {
			t.Errorf("Write(%v) = %q", n, got)
		}
	}
	for _, kind := range []int{-1 << 63, -1, 0, api.Root, api.Attribute, 7, 1 << 62} {
		nothing(t, api.Node{Kind: kind}, api.Node{Kind: kind, Name: "a"}, api.Node{Kind: kind, Text: "a"}, api.Node{Kind: kind, Name: "a", Text: "b", Kids: []api.Node{elem("c")}})
	}
	nothing(t, elem(""), elem("1"), elem("a b"), elem("a>"), elem("\xff"), elem(repeat("a", 33)), api.Node{Kind: api.Elem, Name: "a", Text: "b"})
	nothing(t, with(elem("a"), "", ""), with(elem("a"), "1", ""), with(elem("a"), "x", "\x00"), with(elem("a"), "x", "\xff"), with(elem("a"), "y", "", "x", ""), with(elem("a"), "x", "1", "x", "1"), with(elem("a"), "a", "", "b", "", "c", "", "d", "", "e", "", "f", "", "g", "", "h", "", "i", ""))
	nothing(t, text(""), text("\x00"), text("\xff"), api.Node{Kind: api.Text, Name: "a", Text: "b"}, with(text("a"), "x", ""), api.Node{Kind: api.Text, Text: "a", Kids: make([]api.Node, 1)}, elem("a", text("b"), text("c")))
	nothing(t, comment("--"), comment("a-"), comment("-"), comment("\r"), comment("\xff"), api.Node{Kind: api.Comment, Name: "a"}, with(comment("a"), "x", ""))
	nothing(t, pi("", ""), pi("1", ""), pi("xml", ""), pi("XmL", "a"), pi("a", "?>"), pi("a", " b"), pi("a", "\n"), pi("a", "\r"), pi("a", "\xff"), with(pi("a", ""), "x", ""))
}

func TestWriteAtTheLimitsOfNodes(t *testing.T) {
	for many := 1; many <= 12; many++ {
		writes(t, nested(many), repeat("<a>", many)+repeat("</a>", many))
		writes(t, nested(many, text("b")), repeat("<a>", many)+"b"+repeat("</a>", many))
	}
	nothing(t, nested(13), nested(13, text("b")), elem("a", text("b"), nested(12)), nested(300))
	kids := slices.Repeat([]api.Node{elem("b")}, 130)
	writes(t, elem("a", kids[:119]...), "<a>"+repeat("<b></b>", 119)+"</a>")
	writes(t, with(elem("a", kids[:118]...), "x", ""), `<a x="">`+repeat("<b></b>", 118)+"</a>")
	nothing(t, elem("a", kids[:120]...), elem("a", kids...), with(elem("a", kids[:119]...), "x", ""))
	eight := with(elem("a"), "a", "1", "b", "2", "c", "3", "d", "4", "e", "5", "f", "6", "g", "7", "h", "8")
	writes(t, eight, `<a a="1" b="2" c="3" d="4" e="5" f="6" g="7" h="8"></a>`)
}

// How long markup may be asks Read, not Write.
func TestWriteOfLongTexts(t *testing.T) {
	long := repeat("b", 1<<20)
	for _, n := range []api.Node{elem("a", text(long)), elem("a", comment(long)), elem("a", pi("b", long)), with(elem("a"), "x", long), elem("a", text(repeat("&<>\r", 2000))), with(elem("a"), "x", repeat("\"\t\n", 2000))} {
		if got := canon.Write(n); got != marked(n) {
			t.Errorf("Write of a long text has %d bytes, not %d", len(got), len(marked(n)))
		}
	}
}

func TestWriteOfNoListAndEmptyOne(t *testing.T) {
	for _, n := range []api.Node{{Kind: api.Elem, Name: "a"}, {Kind: api.Elem, Name: "a", Attrs: []api.Attr{}, Kids: []api.Node{}}, {Kind: api.Elem, Name: "a", Attrs: make([]api.Attr, 0, 4), Kids: make([]api.Node, 0, 4)}} {
		b, c, d := text("b"), comment("c"), pi("d", "")
		for _, m := range []*api.Node{&b, &c, &d} {
			m.Attrs, m.Kids = n.Attrs, n.Kids
		}
		writes(t, n, "<a></a>")
		writes(t, elem("e", b, c, d, n), "<e>b<!--c--><?d?><a></a></e>")
	}
}

// P8.1: Read

func TestReadOfWhatIsWrittenOtherwise(t *testing.T) {
	for s, want := range map[string]string{
		"<a/>": "<a></a>", "<a />": "<a></a>", "\r\n<a\t></a\n>\r": "<a></a>", "<![CDATA[]]><a></a>&#32;": "<a></a>",
		"<a x='1'/>": `<a x="1"></a>`, "<a\nx = '1' />": `<a x="1"></a>`, "<a z='1' y='2' x='3'/>": `<a x="3" y="2" z="1"></a>`, "<a b='' B='' a=''/>": `<a B="" a="" b=""></a>`,
		"<a x='\"'/>": `<a x="&quot;"></a>`, `<a x="'"/>`: `<a x="'"></a>`, "<a x='&apos;&gt;>'/>": `<a x="'>>"></a>`, "<a x='1\t2\n3\r\n4\r5'/>": `<a x="1 2 3 4 5"></a>`, "<a x='&#x9;&#xA;&#xD;&#x20;'/>": `<a x="&#9;&#10;&#13; "></a>`, "<a x='&#60;&#38;&#34;'/>": `<a x="&lt;&amp;&quot;"></a>`,
		"<a>></a>": "<a>&gt;</a>", "<a>&quot;&apos;</a>": "<a>\"'</a>", "<a>&#65;&#x3C;</a>": "<a>A&lt;</a>", "<a>b\r\nc\rd</a>": "<a>b\nc\nd</a>", "<a>&#13;&#10;</a>": "<a>&#13;\n</a>", "<a>\t&#9;</a>": "<a>\t\t</a>",
		"<a><![CDATA[]]></a>": "<a></a>", "<a><![CDATA[<&>&amp;]]></a>": "<a>&lt;&amp;&gt;&amp;amp;</a>", "<a>b<![CDATA[c]]>d</a>": "<a>bcd</a>", "<a><![CDATA[]]]]><![CDATA[>]]></a>": "<a>]]&gt;</a>",
		"<a><!--\r\n--></a>": "<a><!--\n--></a>", "<a><!--&gt;--></a>": "<a><!--&gt;--></a>", "<a><?b  \t c ?></a>": "<a><?b c ?></a>", "<a><?b ?></a>": "<a><?b?></a>", "<a><?b\r\nc\r?></a>": "<a><?b c\n?></a>", "<a><?b &gt;?></a>": "<a><?b &gt;?></a>",
		" <a><b/> <b></b ></a> ": "<a><b></b> <b></b></a>",
	} {
		becomes(t, s, want)
	}
}

func TestReadOfWhatIsNoElement(t *testing.T) {
	for s, want := range map[string]api.Errno{
		"": api.ErrRoot, " ": api.ErrRoot, "x": api.ErrRoot, "x<a/>": api.ErrRoot, "<a/>x": api.ErrRoot, "<a/><b/>": api.ErrRoot, "<!--c--><a/>": api.ErrRoot, "<a/><?p?>": api.ErrRoot,
		"<a></b>": api.ErrMatch, "</a>": api.ErrMatch, "<a>": api.ErrEnd, "<a": api.ErrEnd, "<a><!--": api.ErrEnd, "<a><?b": api.ErrEnd, "<a><![CDATA[": api.ErrEnd, "<a x='": api.ErrEnd,
		"<a>\x00</a>": api.ErrChar, "<a>\xff</a>": api.ErrChar, "<1/>": api.ErrName, "<a><?xml?></a>": api.ErrName, "<a>&x;</a>": api.ErrRef, "<a>&#0;</a>": api.ErrRef, "<a x='<'/>": api.ErrTag, "<a x=1/>": api.ErrTag, "<!DOCTYPE a><a/>": api.ErrTag, "<a><!--b--c--></a>": api.ErrTag, "<a x='' x=''/>": api.ErrTwice,
		repeat("<a>", 13): api.ErrDeep, repeat("<a>", 13) + repeat("</a>", 13): api.ErrDeep, "<a>" + repeat("<b/>", 120) + "</a>": api.ErrMany, "<a b='' c='' d='' e='' f='' g='' h='' i='' j=''/>": api.ErrMany, repeat(" ", 3997) + "<a/>": api.ErrLong,
	} {
		refused(t, want, s)
	}
	// what is wrong with it comes ahead of how long its markup would be
	long := repeat(">", 1500)
	refused(t, api.ErrEnd, "<a>"+long, "<a>"+long+"<b/>")
	refused(t, api.ErrMatch, "<a>"+long+"</b>")
	refused(t, api.ErrRoot, "<a>"+long+"</a>"+long, "<a>"+long+"</a><b/>", long)
	refused(t, api.ErrTwice, "<a>"+long+"<b x='' x=''/></a>")
	refused(t, api.ErrDeep, "<a>"+long+repeat("<a>", 12))
}

// What is read may be short enough, and yet its markup too long.
func TestReadOfWhatGrows(t *testing.T) {
	for _, c := range []struct {
		s, grows, end string
		grown         int // bytes of markup of what grows
	}{
		{"<a>", ">", "</a>", 4}, {"<a><![CDATA[", "&", "]]></a>", 5}, {"<a><![CDATA[", "<", "]]></a>", 4}, {"<a><![CDATA[", "&lt;", "]]></a>", 8},
		{"<a x='", `"`, "'/>", 6}, {"<a>é", "é>", "</a>", 6}, {"<a y='", `"é`, "' x='&#xD;'></a>", 8}, {"<a><b/><!--c--><?d  e?>", ">", "<b/></a>", 4},
	} {
		base, _ := tree.Parse(c.s + c.end)
		fits := (api.MaxText - len(marked(base))) / c.grown
		left := (api.MaxText - len(marked(base))) % c.grown
		for _, many := range []int{0, 1, fits - 1, fits} {
			s := c.s + repeat(c.grows, many) + c.end
			n, e := canon.Read(s)
			if want := len(marked(base)) + many*c.grown; e != api.OK || len(canon.Write(n)) != want {
				t.Errorf("Read(%.90q): %d, its markup has %d bytes, not %d", s, int(e), len(canon.Write(n)), want)
			}
			reads(t, s)
		}
		refused(t, api.ErrLong, c.s+repeat(c.grows, fits+1)+c.end, c.s+repeat(c.grows, fits+2)+c.end)
		// to the byte
		at := c.s + repeat(c.grows, fits) + repeat("b", left)
		n, e := canon.Read(at + c.end)
		if e != api.OK || len(canon.Write(n)) != api.MaxText {
			t.Errorf("Read(%.90q): %d, its markup has %d bytes, not 4000", at, int(e), len(canon.Write(n)))
		}
		refused(t, api.ErrLong, at+"b"+c.end)
	}
}

func TestReadAtTheLimitOfBytes(t *testing.T) {
	for _, c := range []struct{ s, end string }{{"<a>", "</a>"}, {"<a>&amp;", "</a>"}, {`<a x="`, `"></a>`}, {"<a><!--", "--></a>"}, {"<a><?b ", "?></a>"}} {
		full := c.s + repeat("b", api.MaxText-len(c.s+c.end)) + c.end
		becomes(t, full, full)
		refused(t, api.ErrLong, strings.Replace(full, "bb", "bbb", 1), full+" ", " "+full)
	}
	// what is read may be longer than its markup, but not too long by itself
	becomes(t, repeat(" ", api.MaxText-4)+"<a/>", "<a></a>")
	becomes(t, "<a>"+repeat("<![CDATA[]]>", 332)+"</a>", "<a></a>")
	becomes(t, "<a>"+repeat("&#0038;", 570)+"</a>", "<a>"+repeat("&amp;", 570)+"</a>")
	refused(t, api.ErrLong, repeat(" ", api.MaxText-3)+"<a/>", "<a>"+repeat("<![CDATA[]]>", 333)+"</a>", "<a>"+repeat("&#0038;", 571)+"</a>")
	// as many elements as there may be, each of which grows by its end
	name := repeat("b", 11)
	becomes(t, "<a>"+repeat("<"+name+"/>", 119)+"</a>", "<a>"+repeat("<"+name+"></"+name+">", 119)+"</a>")
	name = repeat("b", 14)
	becomes(t, "<a>"+repeat("<"+name+"/>", 119)+"</a>", "<a>"+repeat("<"+name+"></"+name+">", 119)+"</a>")
	refused(t, api.ErrLong, "<a>"+repeat("<"+name+"b/>", 119)+"</a>")
}

// P8.2

// All rows of up to four of the pieces that markup is made of, in an element.
func TestAllShortRows(t *testing.T) {
	pieces := []string{"<b>", "</b>", "<b/>", "<c y='1' x='>\"'/>", ">", "&amp;", "<![CDATA[]]>", "<![CDATA[<]]>", " ", "\r\n", "&#13;", "<!--c-->", "<?p  q?>"}
	rows := []string{""}
	for range 4 {
		var longer []string
		for _, s := range rows {
			for _, p := range pieces {
				reads(t, "<a>"+s+p+"</a>")
				longer = append(longer, s+p)
			}
		}
		if t.Failed() {
			return
		}
		rows = longer
	}
}

// Each beginning and each end of a text of all pieces, and the text with each byte left out, doubled, or another one.
func TestTextsWithOneByteTurned(t *testing.T) {
	const whole = "\n<a y='1' x=\"&lt;\">b<![CDATA[&]]>&gt;<c><d/><!--e--></c>f<?g  h?></a>\r\n"
	becomes(t, whole, `<a x="&lt;" y="1">b&amp;&gt;<c><d></d><!--e--></c>f<?g h?></a>`)
	for i := range len(whole) {
		reads(t, whole[:i])
		reads(t, whole[i:])
		reads(t, whole[:i]+whole[i+1:])
		reads(t, whole[:i+1]+whole[i:])
		for b := range 256 {
			reads(t, whole[:i]+string([]byte{byte(b)})+whole[i+1:])
		}
		if t.Failed() {
			return
		}
	}
}

// grow makes a node that may be, by chance, of at most some elements in one another.
func grow(r *rand.Rand, levels int) api.Node {
	bit := func() string {
		words := []string{"b", "-", "?", "<", ">", "&", "\"", "'", "\t", "\n", "\r", " ", "]]>", "&gt;", "é"}
		s := ""
		for range r.Intn(5) {
			s += words[r.Intn(len(words))]
		}
		return s
	}
	n := elem([]string{"a", "b", "é"}[r.Intn(3)])
	for _, name := range []string{"A", "x", "y", "é"} {
		if r.Intn(5) == 0 {
			n = with(n, name, bit())
		}
	}
	if levels == 1 {
		return n
	}
	for range r.Intn(5) {
		kids := []api.Node{text(bit()), text(bit()), comment(bit()), pi("p", bit()), grow(r, levels-1)}
		m := n
		m.Kids = append(slices.Clone(n.Kids), kids[r.Intn(len(kids))])
		if tree.Right(m) {
			n = m
		}
	}
	return n
}

// Two nodes by chance, and one of them read out of its markup: each is as another one just if their markup is.
func TestSameJustIfMarkupIs(t *testing.T) {
	r := rand.New(rand.NewSource(8))
	byMarkup := map[string]api.Node{}
	met := 0
	for range 40000 {
		n := grow(r, 1+r.Intn(4))
		s := canon.Write(n)
		if m, been := byMarkup[s]; been {
			met++
			if !tree.Same(n, m) {
				t.Fatalf("%v and %v are both %q", n, m, s)
			}
		}
		byMarkup[s] = n
		holds(t, n)
		reads(t, s)
		if t.Failed() {
			return
		}
	}
	if met < 1000 || len(byMarkup) < 10000 {
		t.Errorf("of %d kinds of markup, %d met again: too seldom to tell", len(byMarkup), met)
	}
}

// What differs in one place differs in its markup.
func TestOtherNodesHaveOtherMarkup(t *testing.T) {
	nodes := []api.Node{
		elem("a"), elem("A"), elem("b"), elem("aa"), with(elem("a"), "x", ""), with(elem("a"), "x", "1"), with(elem("a"), "x", "2"), with(elem("a"), "y", "1"), with(elem("a"), "x", "1", "y", "1"), with(elem("a"), "x", "1\" y=\"1"), with(elem("a"), "x", "1'"), with(elem("a"), "x", "&quot;"), with(elem("a"), "x", "\""),
		with(elem("a"), "x", " "), with(elem("a"), "x", "\t"), with(elem("a"), "x", "\n"), with(elem("a"), "x", "\r"), with(elem("a"), "x", "\r\n"), with(elem("a"), "x", "&#10;"),
		elem("a", text("b")), elem("a", text(" ")), elem("a", text("\n")), elem("a", text("\r")), elem("a", text("\r\n")), elem("a", text("&#13;")), elem("a", text("<b></b>")), elem("a", text("&lt;b>")), elem("a", text("<!--b-->")), elem("a", text("<?b?>")), elem("a", text("</a>")),
		elem("a", comment("b")), elem("a", comment("")), elem("a", comment(" b")), elem("a", comment("<?b?>")), elem("a", comment("&lt;")), elem("a", comment("<")), elem("a", comment("b"), comment("c")), elem("a", comment("b"), text("--"), comment("c")),
		elem("a", pi("b", "")), elem("a", pi("b", "c")), elem("a", pi("c", "b")), elem("a", pi("b", "c ")), elem("a", pi("b", "&gt;")), elem("a", pi("b", ">")), elem("a", pi("b", ""), pi("c", "")), elem("a", pi("b", "<?c")),
		elem("a", elem("b")), elem("a", elem("b"), elem("b")), elem("a", elem("b", elem("b"))), elem("a", elem("b"), text("c")), elem("a", text("c"), elem("b")), elem("a", elem("b", text("c"))), with(elem("a", elem("b")), "x", ""), elem("a", with(elem("b"), "x", "")), elem("a", text("c"), elem("b"), text("c")), elem("a", text("cc"), elem("b")),
	}
	for i, a := range nodes {
		holds(t, a)
		for j, b := range nodes {
			b = copied(b)
			if got := canon.Write(a) == canon.Write(b); got != (i == j) || got != tree.Same(a, b) {
				t.Errorf("%v and %v: %q and %q", a, b, canon.Write(a), canon.Write(b))
			}
		}
	}
}

// R1, R3

func TestGreatTrees(t *testing.T) {
	wide := elem("a", slices.Repeat([]api.Node{with(elem("b"), "x", "1")}, 1<<20)...)
	// beyond all counting, but that it may not be is told ahead of its end
	endless := elem("a")
	for range 60 {
		endless = elem("a", endless, endless, endless, endless)
	}
	for _, n := range []api.Node{nested(1<<16, text("x")), wide, endless} {
		if got := canon.Write(n); got != "" {
			// at once, since the markup of the last one would have no end, either
			t.Fatalf("the markup of what may not be has %d bytes", len(got))
		}
	}
}

func TestNothingIsTurned(t *testing.T) {
	room := append(make([]api.Node, 0, 8), text("b"), elem("c"), comment("d"))
	attrs := append(make([]api.Attr, 0, 8), api.Attr{Name: "x", Text: "\""}, api.Attr{Name: "y", Text: "2"})
	n := api.Node{Kind: api.Elem, Name: "a", Attrs: attrs, Kids: room}
	before, spare, beside := copied(n), slices.Clone(room[:8]), slices.Clone(attrs[:8])
	for range 3 {
		writes(t, n, `<a x="&quot;" y="2">b<c></c><!--d--></a>`)
	}
	attrs[0].Name = "z"
	nothing(t, n)
	attrs[0].Name = "x"
	writes(t, n, `<a x="&quot;" y="2">b<c></c><!--d--></a>`)
	if !alike(n, before) || !reflect.DeepEqual(room[:8], spare) || !reflect.DeepEqual(attrs[:8], beside) {
		t.Error("a list that was handed in was changed")
	}
}

func TestAnswersShareNothing(t *testing.T) {
	const s = "<a z='1' y='2'>b<c y='1' x='2'/>d<e y='1'><f/>h</e></a>"
	once, _ := canon.Read(s)
	again, _ := canon.Read(s)
	want := copied(again)
	var wipe func(n *api.Node)
	wipe = func(n *api.Node) {
		for i := range n.Kids {
			wipe(&n.Kids[i])
		}
		clear(n.Attrs[:cap(n.Attrs)])
		clear(n.Kids[:cap(n.Kids)])
	}
	wipe(&once.Kids[3])
	if rest := with(elem("a", text("b"), with(elem("c"), "x", "2", "y", "1"), text("d")), "y", "2", "z", "1"); !alike(api.Node{Kind: api.Elem, Name: "a", Attrs: once.Attrs, Kids: once.Kids[:3]}, rest) {
		t.Errorf("two lists of an answer share memory: %v", once)
	}
	wipe(&once)
	if last, _ := canon.Read(s); !alike(again, want) || !alike(last, want) {
		t.Errorf("an answer hangs on another one: %v, %v", again, last)
	}
}
