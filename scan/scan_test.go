package scan_test

import (
	"fmt"
	"math/rand"
	"reflect"
	"regexp"
	"strings"
	"testing"

	"breviary/api"
	"breviary/char"
	"breviary/esc"
	"breviary/scan"
)

// broken is bytes that are no text of characters.
var broken = []string{
	"\x00", "\x01", "\x08", "\x0b", "\x0c", "\x1f", "\ufffe", "\uffff",
	"\x80", "\xc3", "\xe6\x97", "\xc0\x80", "\xc0\xbc", "\xed\xa0\x80", "\xf4\x90\x80\x80", "\xff",
}

// Pieces, as they are told.

func start(name string, attrs ...string) api.Token {
	tag := api.Token{Kind: api.TStart, Name: name}
	for i := 0; i < len(attrs); i += 2 {
		tag.Attrs = append(tag.Attrs, api.Attr{Name: attrs[i], Text: attrs[i+1]})
	}
	return tag
}

func empty(name string, attrs ...string) api.Token {
	tag := start(name, attrs...)
	tag.Empty = true
	return tag
}

func end(name string) api.Token     { return api.Token{Kind: api.TEnd, Name: name} }
func text(s string) api.Token       { return api.Token{Kind: api.TText, Text: s} }
func comment(s string) api.Token    { return api.Token{Kind: api.TComment, Text: s} }
func pi(target, s string) api.Token { return api.Token{Kind: api.TPI, Name: target, Text: s} }

// The chapter's words once more, by patterns, to hold the package against.

const (
	part  = `[A-Z_a-z\x{C0}-\x{D6}\x{D8}-\x{F6}\x{F8}-\x{2FF}\x{370}-\x{37D}\x{37F}-\x{1FFF}\x{200C}\x{200D}\x{2070}-\x{218F}\x{2C00}-\x{2FEF}\x{3001}-\x{D7FF}\x{F900}-\x{FDCF}\x{FDF0}-\x{FFFD}\x{10000}-\x{EFFFF}\-.0-9\x{B7}\x{300}-\x{36F}\x{203F}\x{2040}]`
	space = `[\t\n\r ]`
	attr  = space + `+(` + part + `*)` + space + `*=` + space + `*(?:"([^"]*)"|'([^']*)')`
)

var (
	lineEnd     = regexp.MustCompile(`\r\n?`)
	plain       = regexp.MustCompile(`^[^<]+`)
	remark      = regexp.MustCompile(`(?s)^<!--(.*?)--(>?)`)
	data        = regexp.MustCompile(`(?s)^<!\[CDATA\[(.*?)\]\]>`)
	instruction = regexp.MustCompile(`(?s)^<\?(.*?)\?>`)
	target      = regexp.MustCompile(`(?s)^(` + part + `*)(` + space + `*)(.*)$`)
	xml         = regexp.MustCompile(`^[xX][mM][lL]$`)
	endTag      = regexp.MustCompile(`^</(` + part + `*)` + space + `*`)
	startTag    = regexp.MustCompile(`^<(` + part + `*)((?:` + attr + `)*)`)
	anAttr      = regexp.MustCompile(attr)
	tagDone     = regexp.MustCompile(`^` + space + `*(/?)>`)
	tooShort    = regexp.MustCompile(`^` + space + `*/?$`)
	noAttr      = regexp.MustCompile(`^(?:[^\t\n\r ]|` + space + `*/)`)
	attrName    = regexp.MustCompile(`^` + space + `+(` + part + `*)` + space + `*`)
	attrEquals  = regexp.MustCompile(`^=` + space + `*`)
)

// scanned is what Scan is to answer.
func scanned(s string) ([]api.Token, api.Errno) {
	if len(s) > 4000 {
		return nil, api.ErrLong
	}
	if !char.Text(s) {
		return nil, api.ErrChar
	}
	s = lineEnd.ReplaceAllString(s, "\n")
	var all []api.Token
	for s != "" {
		piece, length, wrong := first(s)
		if wrong != api.OK {
			return nil, wrong
		}
		all = append(all, piece)
		s = s[length:]
	}
	return all, api.OK
}

// first is the first piece, and how many bytes it has.
func first(s string) (api.Token, int, api.Errno) {
	begins := func(mark string) bool { return strings.HasPrefix(s, mark) }
	switch {
	case !begins("<"):
		raw := plain.FindString(s)
		t, wrong := esc.Get(raw)
		return text(t), len(raw), wrong
	case begins("<!--"):
		m := remark.FindStringSubmatch(s)
		if m == nil {
			return api.Token{}, 0, api.ErrEnd
		}
		if m[2] == "" {
			return api.Token{}, 0, api.ErrTag
		}
		return comment(m[1]), len(m[0]), api.OK
	case begins("<![CDATA["):
		m := data.FindStringSubmatch(s)
		if m == nil {
			return api.Token{}, 0, api.ErrEnd
		}
		return text(m[1]), len(m[0]), api.OK
	case begins("<?"):
		return firstPI(s)
	case begins("</"):
		m := endTag.FindStringSubmatch(s)
		rest := s[len(m[0]):]
		switch {
		case rest == "" && (m[1] == "" && m[0] == "</" || char.Name(m[1])):
			return api.Token{}, 0, api.ErrEnd
		case !char.Name(m[1]):
			return api.Token{}, 0, api.ErrName
		case rest[0] != '>':
			return api.Token{}, 0, api.ErrTag
		}
		return end(m[1]), len(m[0]) + 1, api.OK
	case begins("<!"):
		return api.Token{}, 0, api.ErrTag
	}
	return firstStart(s)
}

func firstPI(s string) (api.Token, int, api.Errno) {
	m := instruction.FindStringSubmatch(s)
	if m == nil {
		return api.Token{}, 0, api.ErrEnd
	}
	parts := target.FindStringSubmatch(m[1])
	if !char.Name(parts[1]) || xml.MatchString(parts[1]) {
		return api.Token{}, 0, api.ErrName
	}
	if parts[2] == "" && parts[3] != "" {
		return api.Token{}, 0, api.ErrTag
	}
	return pi(parts[1], parts[3]), len(m[0]), api.OK
}

func firstStart(s string) (api.Token, int, api.Errno) {
	m := startTag.FindStringSubmatch(s)
	if s == "<" {
		return api.Token{}, 0, api.ErrEnd
	}
	if !char.Name(m[1]) {
		return api.Token{}, 0, api.ErrName
	}
	tag := start(m[1])
	seen := map[string]bool{}
	for _, a := range anAttr.FindAllStringSubmatch(m[2], -1) {
		t, wrong := esc.GetAttr(a[2] + a[3])
		switch {
		case !char.Name(a[1]):
			return api.Token{}, 0, api.ErrName
		case wrong != api.OK:
			return api.Token{}, 0, wrong
		case seen[a[1]]:
			return api.Token{}, 0, api.ErrTwice
		case len(tag.Attrs) == 8:
			return api.Token{}, 0, api.ErrMany
		}
		seen[a[1]] = true
		tag.Attrs = append(tag.Attrs, api.Attr{Name: a[1], Text: t})
	}
	rest := s[len(m[0]):]
	done := tagDone.FindStringSubmatch(rest)
	if done == nil {
		return api.Token{}, 0, undone(rest)
	}
	tag.Empty = done[1] != ""
	return tag, len(m[0]) + len(done[0]), api.OK
}

// undone is what is wrong with what follows a start tag's last right attribute, since the tag does not end there.
func undone(rest string) api.Errno {
	if tooShort.MatchString(rest) {
		return api.ErrEnd
	}
	if noAttr.MatchString(rest) {
		return api.ErrTag
	}
	m := attrName.FindStringSubmatch(rest)
	if !char.Name(m[1]) {
		return api.ErrName
	}
	rest = rest[len(m[0]):]
	if rest == "" {
		return api.ErrEnd
	}
	equals := attrEquals.FindString(rest)
	if equals == "" {
		return api.ErrTag
	}
	rest = rest[len(equals):]
	if rest == "" || rest[0] == '"' || rest[0] == '\'' {
		return api.ErrEnd
	}
	return api.ErrTag
}

// holds holds all calls of a text against what they are to answer.
func holds(t *testing.T, s string) {
	t.Helper()
	want, wanted := scanned(s)
	got, e := scan.Scan(s)
	if e != wanted || !same(got, want) {
		t.Errorf("Scan(%.90q) = %.90v, %d, not %.90v, %d", s, got, int(e), want, int(wanted))
	}
	if got, want := scan.Lines(s), lined(s); got != want {
		t.Errorf("Lines(%.90q) = %.90q, not %.90q", s, got, want)
	}
}

// lined is what Lines is to answer, byte by byte.
func lined(s string) string {
	var out []byte
	for i := range len(s) {
		switch {
		case s[i] == 0xD:
			out = append(out, 0xA)
		case s[i] != 0xA || i == 0 || s[i-1] != 0xD:
			out = append(out, s[i])
		}
	}
	return string(out)
}

// same asks whether pieces are the same, in all their fields; no list is an empty one.
func same(a, b []api.Token) bool {
	if len(a) != len(b) {
		return false
	}
	for i := range a {
		x, y := a[i], b[i]
		if len(x.Attrs) == 0 && len(y.Attrs) == 0 {
			x.Attrs, y.Attrs = nil, nil
		}
		if !reflect.DeepEqual(x, y) {
			return false
		}
	}
	return true
}

// pieces asks whether a text is of these pieces.
func pieces(t *testing.T, s string, want ...api.Token) {
	t.Helper()
	if got, e := scan.Scan(s); e != api.OK || !same(got, want) {
		t.Errorf("Scan(%.90q) = %.90v, %d, not %.90v", s, got, int(e), want)
	}
	holds(t, s)
}

// refused asks whether a text is refused, by this error and without pieces.
func refused(t *testing.T, s string, want api.Errno) {
	t.Helper()
	if got, e := scan.Scan(s); e != want || len(got) != 0 {
		t.Errorf("Scan(%.90q) = %.90v, %d, not %d", s, got, int(e), int(want))
	}
	holds(t, s)
}

// refusedEach asks it of several, alone, and behind right pieces.
func refusedEach(t *testing.T, want api.Errno, wrong ...string) {
	t.Helper()
	for _, s := range wrong {
		refused(t, s, want)
		refused(t, "<a>b<!--c--><?d?></a>\n"+s, want)
	}
}

// P6.1

func TestLines(t *testing.T) {
	for s, want := range map[string]string{
		"": "", "a": "a", "\n": "\n", "\r": "\n", "\r\n": "\n", "\n\r": "\n\n", "\r\r": "\n\n", "\r\r\n": "\n\n", "\r\n\r": "\n\n", "\r\n\n": "\n\n", "\r\n\r\n": "\n\n", "\n\r\n": "\n\n", "\r\r\r\n\n\r": "\n\n\n\n\n",
		"a\r\nb\rc\n": "a\nb\nc\n", "\t \v\f": "\t \v\f", "\r \n": "\n \n", "&#13;\r": "&#13;\n", "<a\r\n>": "<a\n>", "日\r本": "日\n本", "\u0085\u2028": "\u0085\u2028",
		"\xff\r\n\xc3\r": "\xff\n\xc3\n", "\x00\r\x00": "\x00\n\x00", "\xc0\x8d": "\xc0\x8d",
	} {
		if got := scan.Lines(s); got != want {
			t.Errorf("Lines(%q) = %q, not %q", s, got, want)
		}
	}
	if got := scan.Lines(strings.Repeat("\r\n\r", 50000)); got != strings.Repeat("\n", 100000) {
		t.Error("Lines of a long text are wrong")
	}
}

// P6.2, ahead of all pieces

func TestLength(t *testing.T) {
	repeat := strings.Repeat
	pieces(t, repeat("a", 4000), text(repeat("a", 4000)))
	refused(t, repeat("a", 4001), api.ErrLong)
	pieces(t, repeat("日", 1333)+"b", text(repeat("日", 1333)+"b"))
	refused(t, repeat("日", 1334), api.ErrLong)
	pieces(t, repeat("\r\n", 2000), text(repeat("\n", 2000)))
	refused(t, repeat("\r\n", 2000)+"\n", api.ErrLong) // counted ahead of what becomes of ends of lines
	pieces(t, repeat("&lt;", 1000), text(repeat("<", 1000)))
	refused(t, repeat("&lt;", 1000)+";", api.ErrLong)
	pieces(t, "<!--"+repeat("a", 3993)+"-->", comment(repeat("a", 3993)))
	refused(t, "<!--"+repeat("a", 3994)+"-->", api.ErrLong)
	many := make([]api.Token, 1000)
	for i := range many {
		many[i] = end("a")
	}
	pieces(t, repeat("</a>", 1000), many...)
	refused(t, repeat("<", 4000), api.ErrName)
	refused(t, repeat("<", 4001), api.ErrLong)
	refused(t, repeat("\xff", 4000), api.ErrChar)
	refused(t, repeat("\xff", 4001), api.ErrLong)
	refused(t, repeat("a", 1<<20), api.ErrLong)
}

func TestCharacters(t *testing.T) {
	for _, w := range broken {
		for _, s := range []string{
			w, "a" + w, w + "a", "<" + w, "<a" + w + ">", "<a>" + w, "<a x='" + w + "'/>", "<!--" + w + "-->", "<![CDATA[" + w + "]]>", "<?a " + w + "?>",
			"<1>" + w, "<" + w + ">", "&" + w, "</a b>" + w, "<!" + w, "<a x='1' x='2'>" + w, w + "\r\n", "<?xml?>" + w,
		} {
			refused(t, s, api.ErrChar)
		}
	}
	refused(t, "&#0;", api.ErrRef)
	pieces(t, "\ufffd\U0010ffff\ue000", text("\ufffd\U0010ffff\ue000"))
}

func TestNothing(t *testing.T) { pieces(t, "") }

// P6.2, 1

func TestTexts(t *testing.T) {
	for s, want := range map[string]string{
		"a": "a", " ": " ", "\r\n": "\n", "\r": "\n", "a\r\r\nb": "a\n\nb", "&lt;&amp;": "<&", "&#13;\r\n": "\r\n", "&#13;": "\r", "&#65;&#x42;": "AB", ">": ">", "]]>": "]]>", "-->": "-->", "?>": "?>", "/>": "/>", "\"'": "\"'", "a=b": "a=b", "\t\n": "\t\n", "日本": "日本", "!--": "!--", "[CDATA[": "[CDATA[", "&#60;a&#62;": "<a>",
	} {
		pieces(t, s, text(want))
		pieces(t, s+"<a>"+s+"</a>", text(want), start("a"), text(want), end("a"))
	}
	refusedEach(t, api.ErrRef, "&", "a&b", "&;", "&x;", "&#0;", "&amp", "&<;", "&<a/>", "a&amp<a/>;", "&lt;&")
}

// P6.2, 2

func TestComments(t *testing.T) {
	for _, s := range []string{"", "a", " a ", "-a", "a-b", "- -", "->", ">", "a>b", "<a>", "<", "&", "&amp;", "&#0;", "]]>", "?>", "<!-", "<![CDATA[", "日", "\n\t", "'\"", "->-"} {
		if strings.HasSuffix(s, "-") {
			continue
		}
		pieces(t, "<!--"+s+"-->", comment(s))
		pieces(t, "a<!--"+s+"--><!--"+s+"-->b", text("a"), comment(s), comment(s), text("b"))
	}
	pieces(t, "<!--\r\na\r-->", comment("\na\n"))
	refusedEach(t, api.ErrEnd, "<!--", "<!---", "<!-->", "<!--->", "<!--a", "<!--a-", "<!--a->", "<!--a- ->", "<!-- - ->")
	refusedEach(t, api.ErrTag, "<!--a--b-->", "<!--a--", "<!--a-- >", "<!----", "<!-----", "<!----->", "<!--a--->", "<!--a---", "<!--a----", "<!--a--!>", "<!----a-->", "<!--a--\n>")
}

// P6.2, 3

func TestData(t *testing.T) {
	for _, s := range []string{"", "a", "<&", "&amp;", "&#0;", "]]", "]", "]]]", "]] >", "]>", ">", "<a>", "<![CDATA[", "-->", "?>", " \n\t", "日", "--", "'\""} {
		pieces(t, "<![CDATA["+s+"]]>", text(s))
		pieces(t, "a<![CDATA["+s+"]]>b<![CDATA["+s+"]]>", text("a"), text(s), text("b"), text(s))
	}
	pieces(t, "<![CDATA[\r\na\r]]>", text("\na\n"))
	pieces(t, "<![CDATA[a]]>]]>", text("a"), text("]]>"))
	refusedEach(t, api.ErrEnd, "<![CDATA[", "<![CDATA[a", "<![CDATA[]", "<![CDATA[]]", "<![CDATA[]>", "<![CDATA[] ]>", "<![CDATA[]] >", "<![CDATA[a<b/>")
	refusedEach(t, api.ErrTag, "<![CDATA", "<![CDATA]]>", "<![cdata[a]]>", "<![ CDATA[a]]>", "<! [CDATA[a]]>", "<![CDATA [a]]>")
}

// P6.2, 4

func TestInstructions(t *testing.T) {
	for s, want := range map[string]api.Token{
		"a": pi("a", ""), "a ": pi("a", ""), "a \t\n ": pi("a", ""), "p  d ": pi("p", "d "), "a-": pi("a-", ""), "a b": pi("a", "b"), "a\nb": pi("a", "b"), "a\tb": pi("a", "b"), "a\r\nb\r": pi("a", "b\n"), "a\rb": pi("a", "b"), "a ?": pi("a", "?"), "a b?": pi("a", "b?"), "a <b>": pi("a", "<b>"), "a &amp;&": pi("a", "&amp;&"), "a >": pi("a", ">"), "a -->": pi("a", "-->"), "日 本": pi("日", "本"), "a \u00a0": pi("a", "\u00a0"), "a ? >": pi("a", "? >"),
		"xm": pi("xm", ""), "xmll": pi("xmll", ""), "xml-": pi("xml-", ""), "xml.a b": pi("xml.a", "b"), "_xml": pi("_xml", ""), "axml": pi("axml", ""), "a xml": pi("a", "xml"), "Xm1": pi("Xm1", ""),
	} {
		pieces(t, "<?"+s+"?>", want)
		pieces(t, "a<?"+s+"?><?"+s+"?>b", text("a"), want, want, text("b"))
	}
	refusedEach(t, api.ErrEnd, "<?", "<?a", "<?a?", "<?a>", "<?>", "<?a? >", "<?-a", "<?xml", "<?a!", "<??", "<?a/>")
	refusedEach(t, api.ErrName, "<??>", "<? ?>", "<? a?>", "<?-a?>", "<?1?>", "<?.?>", "<?-?>", "<?\na?>", "<?!a?>", "<?!?>", "<?<a>?>", "<?:a?>", "<?\u00b7?>", "<??a?>", "<?/?>", "<?=?>", "<?- ! ?>")
	refusedEach(t, api.ErrTag, "<?a!?>", "<?a??>", "<?a:b?>", "<?a=b?>", "<?a'b'?>", "<?a<b?>", "<?a>?>", "<?a\u00a0b?>", "<?a&amp;?>", "<?a/?>", "<?xm!?>")
	for _, x := range []string{"x", "X"} {
		for _, m := range []string{"m", "M"} {
			for _, l := range []string{"l", "L"} {
				refusedEach(t, api.ErrName, "<?"+x+m+l+"?>", "<?"+x+m+l+" a?>", "<?"+x+m+l+":a?>", "<?"+x+m+l+"!?>")
			}
		}
	}
}

// No other letter than x, m, l and X, M, L makes a target's name xml.
func TestLettersOfXml(t *testing.T) {
	for r := range rune(0x10000) {
		if !char.Start(r) || strings.ContainsRune("xmlXML", r) {
			continue
		}
		c := string(r)
		for _, name := range []string{c + "ml", "x" + c + "l", "xm" + c, "XM" + c} {
			if l, e := scan.Scan("<?" + name + "?>"); e != api.OK || !same(l, []api.Token{pi(name, "")}) {
				t.Fatalf("target %q: %v, %d", name, l, int(e))
			}
		}
	}
}

// P6.2, 5

func TestEnds(t *testing.T) {
	for s, want := range map[string]api.Token{"</a>": end("a"), "</a >": end("a"), "</a \t\r\n>": end("a"), "</a-1.b_>": end("a-1.b_"), "</日>": end("日"), "</xml>": end("xml")} {
		pieces(t, s, want)
		pieces(t, "b"+s+s+"b", text("b"), want, want, text("b"))
	}
	refusedEach(t, api.ErrEnd, "</", "</a", "</a ", "</a\n\t")
	refusedEach(t, api.ErrName, "</>", "</ >", "</ ", "</ a>", "</1>", "</-a", "</1", "</!>", "</<a>", "</:a>", "<//a>", "</ a", "</\u00b7a>", "</&amp;>")
	refusedEach(t, api.ErrTag, "</a b>", "</a b", "</a/>", "</a x='1'>", "</a<", "</a:b>", "</a =", "</a!>", "</a'>", "</a</a>", "</a\u00a0>")
}

// P6.2, 6

func TestStarts(t *testing.T) {
	for s, want := range map[string]api.Token{
		"<a>": start("a"), "<a >": start("a"), "<a\r\n\t >": start("a"), "<a/>": empty("a"), "<a />": empty("a"), "<a\n/>": empty("a"), "<xml/>": empty("xml"), "<日本/>": empty("日本"), "<a-1.b>": start("a-1.b"), "<_>": start("_"),
		"<a x='1' y=\"2\"/>": empty("a", "x", "1", "y", "2"), "<a y='2' x='1'>": start("a", "y", "2", "x", "1"), "<a x=''>": start("a", "x", ""), "<a x=\"\"/>": empty("a", "x", ""), "<a x='1'/>": empty("a", "x", "1"), "<a\tx='1'\ny='2' >": start("a", "x", "1", "y", "2"),
		"<a x = '1'>": start("a", "x", "1"), "<a x\r\n=\t'1'>": start("a", "x", "1"), "<a   x='1'   y='2'   />": empty("a", "x", "1", "y", "2"), "<a x= '1'>": start("a", "x", "1"), "<a x ='1'>": start("a", "x", "1"),
		"<a x='\"'>": start("a", "x", "\""), "<a x=\"'\">": start("a", "x", "'"), "<a x='>' y='/>'>": start("a", "x", ">", "y", "/>"), "<a x='y=\"1\"'>": start("a", "x", "y=\"1\""), "<a x='&lt;&amp;&apos;&#65;'>": start("a", "x", "<&'A"), "<a x='--' y=']]>' z='?>'>": start("a", "x", "--", "y", "]]>", "z", "?>"),
		"<a x=' a\tb\r\nc\rd\n'>": start("a", "x", " a b c d "), "<a x='&#9;&#10;&#13;\t'>": start("a", "x", "\t\n\r "), "<a x='\r\n&#13;\n'>": start("a", "x", " \r "), "<a x='1' X='2' xx='3'>": start("a", "x", "1", "X", "2", "xx", "3"), "<a a='a'>": start("a", "a", "a"), "<a xml='1' xmlns='2'>": start("a", "xml", "1", "xmlns", "2"), "<a 日='本'>": start("a", "日", "本"),
	} {
		pieces(t, s, want)
		pieces(t, "b"+s+s+"b", text("b"), want, want, text("b"))
	}
}

func TestStartsThatEndTooEarly(t *testing.T) {
	refusedEach(t, api.ErrEnd,
		"<", "<a", "<a ", "<a\r\n", "<a/", "<a /", "<a x", "<a x ", "<a x=", "<a x= ", "<a x='", "<a x=\"", "<a x='1", "<a x='1\"", "<a x=\"1'", "<a x='1'", "<a x='1' ", "<a x='1'/", "<a x='1' /", "<a x='1' y", "<a x='1' y=", "<a x='>", "<a x='&", "<a x='<", "<a x='&y;>", "<a x='1' x", "<a x='1' x='1", "<a x='a<b",
	)
}

func TestStartsOfNoName(t *testing.T) {
	refusedEach(t, api.ErrName,
		"<1>", "<1", "<->", "<-a>", "<.", "< ", "< a>", "<\na>", "<>", "<<", "<<a>", "<=>", "<&amp;>", "<:a>", "<'a'>", "<\u00b7a>", "<\u0300>", "<%>", "<\u2028>", "<\U000f0000>",
		"<a 1='1'>", "<a 1", "<a -x='1'>", "<a .", "<a ='1'>", "<a =", "<a '1'>", "<a \"", "<a !>", "<a <b>", "<a :x='1'>", "<a &x='1'>", "<a \u00b7", "<a x='1' 2='2'>", "<a x='1' =", "<a x='1' 'y'>", "<a x='1' <b/>", "<a \u00a0x='1'>",
	)
}

func TestStartsThatAreNoMarkup(t *testing.T) {
	refusedEach(t, api.ErrTag,
		"<a x=1>", "<a x=1", "<a x>", "<a x/>", "<a x y='1'>", "<a x 'y'>", "<a x'1'>", "<a x='1'y='2'>", "<a x=\"1\"y=\"2\">", "<a x='1'\"", "<a x='1''>", "<a x==''>", "<a x= =''>", "<a x=y='1'>", "<a x=&quot;1&quot;>", "<a x=`1`>", "<a x:y='1'>", "<a x=>", "<a x=/>", "<a x=<",
		"<a/b>", "<a/ >", "<a / >", "<a /b='1'>", "<a //>", "<a/a", "<a x='1'/ >", "<a x='1' /y='2'>", "<a/<", "<a:b>", "<a=", "<a='1'>", "<a'>", "<a<", "<a<b>", "<a!>", "<a&amp;>", "<a\u00a0>", "<a?>",
		"<!", "<!>", "<!a>", "<!-", "<!- -->", "<!-a-->", "<! --a-->", "<!DOCTYPE a>", "<!DOCTYPE", "<![", "<!]]>", "<!!", "<!1",
	)
	refusedEach(t, api.ErrTag, "<a x='<'/>", "<a x='<a y=\"'", "<a x='<' <b c='d'>", "<a x='<&'>", "<a x=\"&lt;<\">")
	refusedEach(t, api.ErrRef, "<a x='&'>", "<a x='&y;'/>", "<a x='&<'>", "<a x='a&b'", "<a x='&#0;'>", "<a x='&amp'>", "<a x='&amp;&'>")
}

func TestNames(t *testing.T) {
	long, wide := strings.Repeat("a", 32), strings.Repeat("é", 16)
	for _, name := range []string{"a", "A", "_", "é", "a1", "a-", "a.", "a\u00b7", "\U0001f600", "\U000effff", "\u200c", long, wide} {
		pieces(t, "<"+name+"/>", empty(name))
		pieces(t, "<"+name+">", start(name))
		pieces(t, "</"+name+">", end(name))
		pieces(t, "<?"+name+"?>", pi(name, ""))
		pieces(t, "<a "+name+"='1'/>", empty("a", name, "1"))
	}
	for _, name := range []string{"1", "-", ".a", "\u00b7", "\u203f", "\u0300a", long + "a", long + "-", wide + "a", wide + "é", "a" + wide} {
		for _, s := range []string{"<" + name + "/>", "<" + name, "</" + name + ">", "</" + name, "</" + name + " ", "<?" + name + "?>", "<a " + name + "='1'/>", "<a " + name, "<a " + name + " ", "<" + name + "!>", "</" + name + "!>", "<?" + name + "!?>", "<a " + name + "!>"} {
			refusedEach(t, api.ErrName, s)
		}
	}
}

func TestTwice(t *testing.T) {
	refusedEach(t, api.ErrTwice, "<a x='1' x='2'/>", "<a x='1' x='1'/>", "<a x='1' y='2' x=\"3\"", "<a x='1' x=''y", "<a x='' x='' 1", "<a x='1' x='2' y='<'>")
	refusedEach(t, api.ErrTag, "<a x='1' x='<'>", "<a x='1' x=2>", "<a x='1' x>", "<a x='1'x='2'>")
	refusedEach(t, api.ErrRef, "<a x='1' x='&'>")
	refusedEach(t, api.ErrEnd, "<a x='1' x='2", "<a x='1' x=")
	pieces(t, "<a x='1'><b x='1'/></a>", start("a", "x", "1"), empty("b", "x", "1"), end("a"))
}

func TestManyAttributes(t *testing.T) {
	tag, want := "<a", []string{}
	for i := range 8 {
		name := fmt.Sprint("q", i)
		tag += " " + name + "='" + name + "'"
		want = append(want, name, name)
		pieces(t, tag+">", start("a", want...))
		pieces(t, tag+"/>", empty("a", want...))
	}
	refusedEach(t, api.ErrMany, tag+" q8=''/>", tag+" q8=''", tag+" q8='' q8=''>", tag+" q8='' q9=''>", tag+" q8=\"a\" 1", tag+" q8=''q9=''>", tag+"\nq8\n=\n''>")
	refusedEach(t, api.ErrTwice, tag+" q0=''/>", tag+" q7=''")
	refusedEach(t, api.ErrTag, tag+" q8>", tag+" q8=1>", tag+" q8='<'>", tag+"q8=''>", tag+" / >")
	refusedEach(t, api.ErrRef, tag+" q8='&'>")
	refusedEach(t, api.ErrEnd, tag, tag+" ", tag+" q8='", tag+" q8", tag+" q8=")
	refusedEach(t, api.ErrName, tag+" 9=''>", tag+" ='' >")
	pieces(t, tag+">"+tag+"/>", start("a", want...), empty("a", want...))
}

func TestPiecesInARow(t *testing.T) {
	pieces(t, "<a>b<!--c--><?p  d ?><![CDATA[<&]]>\r\n</a >", start("a"), text("b"), comment("c"), pi("p", "d "), text("<&"), text("\n"), end("a"))
	pieces(t, "</a></b><c/>", end("a"), end("b"), empty("c")) // whether ends match is not asked here
	pieces(t, "<a><a><a>", start("a"), start("a"), start("a"))
	pieces(t, "<![CDATA[]]><![CDATA[]]>", text(""), text(""))
	pieces(t, "a&amp;<![CDATA[b]]>c", text("a&"), text("b"), text("c"))
	pieces(t, "<!--<a>--><a><!--</a>--></a>", comment("<a>"), start("a"), comment("</a>"), end("a"))
	pieces(t, "<?a <!--?>--><b/>", pi("a", "<!--"), text("-->"), empty("b"))
	pieces(t, "<a x='--'><!--'-->", start("a", "x", "--"), comment("'"))
}

func TestWhichErrorIsFirst(t *testing.T) {
	for s, want := range map[string]api.Errno{
		"<1>&": api.ErrName, "&<1>": api.ErrRef, "<!a>&": api.ErrTag, "a&b<!a>": api.ErrRef, "<a x='1' x='2'><1>": api.ErrTwice, "<1><a x='1' x='2'>": api.ErrName, "<a/><!--": api.ErrEnd, "<!--&": api.ErrEnd, "<!--a--><": api.ErrEnd, "</a b><": api.ErrTag, "<?a!?><1>": api.ErrTag, "<?1!?><!": api.ErrName, "<?1!<!": api.ErrEnd, "<![CDATA[<1>": api.ErrEnd,
		"<a x='&' x='<'>": api.ErrRef, "<a x='<' x='&'>": api.ErrTag, "<a 1='<'>": api.ErrName, "<a x='<' 1=''>": api.ErrTag, "<1 x='<'>": api.ErrName, "<a x='1' 1='' x=''>": api.ErrName, "<a x='1' x='' 1=''>": api.ErrTwice,
	} {
		refused(t, s, want)
	}
}

// Each beginning of a text of all pieces, and the text with each byte left out, doubled, or another one.
func TestTextsWithOneByteTurned(t *testing.T) {
	const whole = "b&lt;\r\n<a x='1' y = \"&#65;\tb\"\r>&amp;<!-- c--><?p-1 q ?><![CDATA[<]]>d</a >\n<e\n/><日 é='1'/>"
	holds(t, whole)
	for i := range len(whole) {
		holds(t, whole[:i])
		holds(t, whole[i:])
		holds(t, whole[:i]+whole[i+1:])
		holds(t, whole[:i+1]+whole[i:])
		for b := range 256 {
			holds(t, whole[:i]+string([]byte{byte(b)})+whole[i+1:])
			holds(t, whole[:i]+string([]byte{byte(b)})+whole[i:])
		}
		if t.Failed() {
			return
		}
	}
}

func TestAllShortBytes(t *testing.T) {
	for a := range 256 {
		one := string([]byte{byte(a)})
		for _, s := range []string{one, "<" + one, "<a" + one, "<a " + one, "<a x" + one, "<a x=" + one, "<a x='1'" + one, "</" + one, "</a" + one, "<?" + one + "?>", "<?a" + one + "?>", "<!" + one, "<!--" + one + "-->", "<!--" + one, "<a x='" + one + "'/>", "<a x=\"" + one + "\"/>"} {
			holds(t, s)
		}
		for b := range 256 {
			two := one + string([]byte{byte(b)})
			holds(t, two)
			holds(t, "<"+two)
			holds(t, "<a"+two)
		}
		if t.Failed() {
			return
		}
	}
}

// Texts of up to four of the pieces that markup is made of, behind some beginnings.
func TestAllShortTexts(t *testing.T) {
	for _, begin := range []string{"", "<", "<a", "<a x='1'", "<!--", "</", "<?"} {
		texts := []string{begin}
		for range 4 {
			var longer []string
			for _, s := range texts {
				for _, p := range []string{"<", ">", "/", "a", "1", " ", "=", "'", "-", "?", "&", "!"} {
					holds(t, s+p)
					longer = append(longer, s+p)
				}
			}
			if t.Failed() {
				return
			}
			texts = longer
		}
	}
}

func TestTextsOfAllSizes(t *testing.T) {
	r := rand.New(rand.NewSource(6))
	parts := []string{
		"<a>", "</a>", "<b x='1'/>", "<日 y=\"2\" z='3'>", "</日\n>", "<!--", "-->", "--", "-", "<![CDATA[", "]]>", "]]", "<?p", "?>", "?", "<", "</", "<!", "/>", ">", "<a", " x='", "' ", "'", "\"", " y=\"", "=", " x", "x", " ", "\t", "\r\n", "\r", "&amp;", "&#13;", "&", ";", "1", "a", "xml", "é", "日", "\u00a0", "\xff",
	}
	for range 60000 {
		var s strings.Builder
		for range r.Intn(14) {
			// the last one is no text of characters: seldom, since nothing else is asked then
			if i := r.Intn(len(parts)); i < len(parts)-1 || r.Intn(8) == 0 {
				s.WriteString(parts[i])
			}
		}
		holds(t, s.String())
		if t.Failed() {
			return
		}
	}
}

// R3

func TestAnswersShareNothing(t *testing.T) {
	const s = "<a x='1' y='2' z='3'/><b x='1' y='2' z='3'/>"
	want := []api.Token{empty("a", "x", "1", "y", "2", "z", "3"), empty("b", "x", "1", "y", "2", "z", "3")}
	once, _ := scan.Scan(s)
	again, _ := scan.Scan(s)
	for i := range once {
		clear(once[i].Attrs[:cap(once[i].Attrs)])
		_ = append(once[i].Attrs, api.Attr{Name: "w"})
		if i == 0 && !same(once[1:], want[1:]) {
			t.Errorf("a piece's attributes hang on another one's: %v", once[1])
		}
	}
	clear(once)
	if !same(again, want) {
		t.Errorf("an answer hangs on another one: %v", again)
	}
}

// P6.3

func TestOneText(t *testing.T) {
	r := rand.New(rand.NewSource(63))
	parts := []string{"a", ">", "/>", "-->", "]]>", "?>", "!--", "\"", "'", "=", ";", "#65;", "\r", "\n", "\r\n", "\t", " ", "日", "\U0001f600", "\ufffd"}
	for range 5000 {
		s := parts[r.Intn(len(parts))]
		for range r.Intn(9) {
			s += parts[r.Intn(len(parts))]
		}
		pieces(t, s, text(scan.Lines(s)))
		if t.Failed() {
			return
		}
	}
}
