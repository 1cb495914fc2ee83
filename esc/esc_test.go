package esc_test

import (
	"fmt"
	"math/big"
	"math/rand"
	"regexp"
	"strings"
	"testing"
	"unicode/utf8"

	"breviary/api"
	"breviary/char"
	"breviary/esc"
)

// broken is bytes that are no text of characters.
var broken = []string{
	"\x00", "\x01", "\x08", "\x0b", "\x0c", "\x0e", "\x1f", "\ufffe", "\uffff",
	"\x80", "\xbf", "\xc3", "\xe6\x97", "\xf0\x9f\x98", "\xc0\x80", "\xc0\xa6", "\xc0\xbc", "\xe0\x80\xa6", "\xed\xa0\x80", "\xed\xbf\xbf", "\xf4\x90\x80\x80", "\xfe", "\xff",
}

// The chapter's words once more, by patterns, to hold the package against.

var (
	piece     = regexp.MustCompile(`(?s)&[^;]*;?|\r\n|.`)
	reference = regexp.MustCompile(`^&(?:(amp|lt|gt|quot|apos)|#([0-9]+)|#x([0-9a-fA-F]+));$`)
	put       = regexp.MustCompile(`[&<>\r]`)
	putAttr   = regexp.MustCompile(`[&<"\t\n\r]`)
	named     = map[string]string{"amp": "&", "lt": "<", "gt": ">", "quot": "\"", "apos": "'"}
)

// escaped is a text in which what is of a form stands as a reference.
func escaped(form *regexp.Regexp, s string) string {
	var out strings.Builder
	for i := range len(s) { // byte by byte, since a pattern tells a wrong byte as a character
		b := s[i : i+1]
		if !form.MatchString(b) {
			out.WriteString(b)
			continue
		}
		ref := fmt.Sprintf("&#%d;", b[0])
		for name, text := range named {
			if text == b {
				ref = "&" + name + ";"
			}
		}
		out.WriteString(ref)
	}
	return out.String()
}

// referred is the character that a reference tells.
func referred(s string) (string, bool) {
	found := reference.FindStringSubmatch(s)
	if found == nil {
		return "", false
	}
	if found[1] != "" {
		return named[found[1]], true
	}
	n := new(big.Int)
	if found[2] != "" {
		n.SetString(found[2], 10)
	} else {
		n.SetString(found[3], 16)
	}
	if n.BitLen() > 21 || !char.Is(rune(n.Int64())) {
		return "", false
	}
	return string(rune(n.Int64())), true
}

// meant is what stands in markup, a tab and a line's end in it told by the texts handed in.
func meant(s, tab, end string) (string, api.Errno) {
	if !char.Text(s) {
		return "", api.ErrChar
	}
	var out strings.Builder
	for _, p := range piece.FindAllString(s, -1) {
		switch {
		case p == "<":
			return "", api.ErrTag
		case p[0] == '&':
			r, ok := referred(p)
			if !ok {
				return "", api.ErrRef
			}
			out.WriteString(r)
		case p == "\r\n" || p == "\r" || p == "\n":
			out.WriteString(end)
		case p == "\t":
			out.WriteString(tab)
		default:
			out.WriteString(p)
		}
	}
	return out.String(), api.OK
}

// holds holds all calls of a text against what they are to answer.
func holds(t *testing.T, s string) {
	t.Helper()
	if got, want := esc.Put(s), escaped(put, s); got != want {
		t.Errorf("Put(%.60q) = %.60q, not %.60q", s, got, want)
	}
	if got, want := esc.PutAttr(s), escaped(putAttr, s); got != want {
		t.Errorf("PutAttr(%.60q) = %.60q, not %.60q", s, got, want)
	}
	want, wanted := meant(s, "\t", "\n")
	if got, e := esc.Get(s); got != want || e != wanted {
		t.Errorf("Get(%.60q) = %.60q, %d, not %.60q, %d", s, got, int(e), want, int(wanted))
	}
	want, wanted = meant(s, " ", " ")
	if got, e := esc.GetAttr(s); got != want || e != wanted {
		t.Errorf("GetAttr(%.60q) = %.60q, %d, not %.60q, %d", s, got, int(e), want, int(wanted))
	}
	returns(t, s)
}

// returns asks whether what is put is what it was (P5.3), or is refused as it is.
func returns(t *testing.T, s string) {
	t.Helper()
	want, wanted := s, api.OK
	if !char.Text(s) {
		want, wanted = "", api.ErrChar
	}
	if got, e := esc.Get(esc.Put(s)); got != want || e != wanted {
		t.Errorf("Get of Put of %.60q = %.60q, %d", s, got, int(e))
	}
	if got, e := esc.GetAttr(esc.PutAttr(s)); got != want || e != wanted {
		t.Errorf("GetAttr of PutAttr of %.60q = %.60q, %d", s, got, int(e))
	}
}

// refused asks whether Get and GetAttr of a text answer an error.
func refused(t *testing.T, s string, want api.Errno) {
	t.Helper()
	if got, e := esc.Get(s); got != "" || e != want {
		t.Errorf("Get(%q) = %q, %d, not %d", s, got, int(e), int(want))
	}
	if got, e := esc.GetAttr(s); got != "" || e != want {
		t.Errorf("GetAttr(%q) = %q, %d, not %d", s, got, int(e), int(want))
	}
	holds(t, s)
}

// means asks whether Get and GetAttr of a text answer one text.
func means(t *testing.T, s, want string) {
	t.Helper()
	if got, e := esc.Get(s); got != want || e != api.OK {
		t.Errorf("Get(%q) = %q, %d, not %q", s, got, int(e), want)
	}
	if got, e := esc.GetAttr(s); got != want || e != api.OK {
		t.Errorf("GetAttr(%q) = %q, %d, not %q", s, got, int(e), want)
	}
	holds(t, s)
}

// P5.1

func TestPut(t *testing.T) {
	for s, want := range map[string]string{
		"": "", "a": "a", "a<b": "a&lt;b", "a<b>&": "a&lt;b&gt;&amp;", "<<>>&&": "&lt;&lt;&gt;&gt;&amp;&amp;", "\"'": "\"'", "]]>": "]]&gt;",
		"\r": "&#13;", "\n": "\n", "\t": "\t", "\r\n": "&#13;\n", "\n\r": "\n&#13;", "\r\r": "&#13;&#13;", " a ": " a ",
		"&amp;": "&amp;amp;", "&#13;": "&amp;#13;", "&lt;": "&amp;lt;", ";": ";", "#": "#", "日本é\U0001f600": "日本é\U0001f600", "日<本": "日&lt;本", "\u0085\u2028": "\u0085\u2028",
		"\x00": "\x00", "\xff": "\xff", "\xff<\xc3": "\xff&lt;\xc3", "\xc0\xa6": "\xc0\xa6", "\ufffd": "\ufffd", "\xed\xa0\x80&": "\xed\xa0\x80&amp;", "\x7f\x0b": "\x7f\x0b",
	} {
		if got := esc.Put(s); got != want {
			t.Errorf("Put(%q) = %q, not %q", s, got, want)
		}
		holds(t, s)
	}
}

func TestPutAttr(t *testing.T) {
	for s, want := range map[string]string{
		"": "", "a": "a", "a<b>&\"'": "a&lt;b>&amp;&quot;'", "\"\"": "&quot;&quot;", "''": "''", ">": ">", "]]>": "]]>",
		"\t": "&#9;", "\n": "&#10;", "\r": "&#13;", "\r\n": "&#13;&#10;", "\t\t": "&#9;&#9;", " ": " ", " a\tb ": " a&#9;b ",
		"&quot;": "&amp;quot;", "&#9;": "&amp;#9;", ";": ";", "日\"本": "日&quot;本", "\u0085\u2028": "\u0085\u2028",
		"\x00": "\x00", "\xff": "\xff", "\xff\"\xc3": "\xff&quot;\xc3", "\xc0\x8a": "\xc0\x8a", "\ufffd": "\ufffd", "\v\f\x08": "\v\f\x08",
	} {
		if got := esc.PutAttr(s); got != want {
			t.Errorf("PutAttr(%q) = %q, not %q", s, got, want)
		}
		holds(t, s)
	}
}

func TestPutOfEachByte(t *testing.T) {
	text := map[byte]string{'&': "&amp;", '<': "&lt;", '>': "&gt;", 0xD: "&#13;"}
	attr := map[byte]string{'&': "&amp;", '<': "&lt;", 0x22: "&quot;", 9: "&#9;", 0xA: "&#10;", 0xD: "&#13;"}
	for b := range 256 {
		s := string([]byte{byte(b)})
		inText, inAttr := s, s
		if ref, ok := text[byte(b)]; ok {
			inText = ref
		}
		if ref, ok := attr[byte(b)]; ok {
			inAttr = ref
		}
		if got := esc.Put("a" + s + s + "b"); got != "a"+inText+inText+"b" {
			t.Errorf("Put of %q twice = %q", s, got)
		}
		if got := esc.PutAttr("a" + s + s + "b"); got != "a"+inAttr+inAttr+"b" {
			t.Errorf("PutAttr of %q twice = %q", s, got)
		}
	}
}

// P5.2

func TestReferences(t *testing.T) {
	for s, want := range map[string]string{
		"": "", "a": "a", "a b": "a b", "&amp;": "&", "&lt;": "<", "&gt;": ">", "&quot;": "\"", "&apos;": "'", "&lt;&gt;&amp;&quot;&apos;": "<>&\"'", "a&amp;b": "a&b",
		"&#65;&#x42;": "AB", "&#x4A;&#x4a;": "JJ", "&#xaB;&#xAb;": "\u00ab\u00ab", "&#xfF;": "\u00ff", "&#000065;": "A", "&#x00042;": "B", "&#x1F600;": "\U0001f600", "&#128512;": "\U0001f600", "&#x10FFFF;": "\U0010ffff", "&#1114111;": "\U0010ffff",
		"&#9;": "\t", "&#10;": "\n", "&#13;": "\r", "&#x9;": "\t", "&#xA;": "\n", "&#xa;": "\n", "&#xD;": "\r", "&#xd;": "\r", "&#32;": " ", "&#13;&#10;": "\r\n", "&#10;&#13;": "\n\r", "&#13;&#13;": "\r\r", "&#009;": "\t",
		"&#38;": "&", "&#60;": "<", "&#x3c;": "<", "&#62;": ">", "&#34;": "\"", "&#39;": "'",
		"&#xD7FF;": "\ud7ff", "&#xE000;": "\ue000", "&#xFFFD;": "\ufffd", "&#x10000;": "\U00010000", "&#x7F;": "\x7f", "&#x80;": "\u0080", "&#x85;": "\u0085", "&#x2028;": "\u2028",
		"&amp;amp;": "&amp;", "&#38;lt;": "&lt;", "&#38;#60;": "&#60;", "&amp;#65;": "&#65;", "&lt;a&gt;": "<a>", "&amp;&amp;": "&&", "&lt;;": "<;", ";&lt;": ";<", // nothing is read twice
		";": ";", "#65;": "#65;", "amp;": "amp;", ">": ">", "]]>": "]]>", "\"'": "\"'", "日本é\U0001f600": "日本é\U0001f600", "\u0085\u00a0\u2028": "\u0085\u00a0\u2028", "\ufffd": "\ufffd", "日&#x672C;": "日本",
	} {
		means(t, s, want)
	}
}

func TestNoReferences(t *testing.T) {
	for _, s := range []string{
		"&", "a&b", "&;", "&&", "& ;", "&amp", "&amp ;", "& amp;", "&amp\n;", "&AMP;", "&Amp;", "&aMp;", "&am;", "&ampe;", "&amp&amp;", "&&amp;", "&lt", "&LT;", "&GT;", "&l;", "&ltt;", "&quo;", "&QUOT;", "&quote;", "&apo;", "&nbsp;", "&copy;", "&a;", "&x;", "&x<;", "&日;",
		"&#", "&#;", "&#x", "&#x;", "&#X41;", "&#xx41;", "&#x0x41;", "&#0x41;", "&#0X41;", "&#4A;", "&#a;", "&#A;", "&#xg;", "&#xG;", "&#x4g;", "&#x@;", "&#x`;", "&#x/;", "&#x:;", "&#/;", "&#:;", "&##65;", "&65;", "&x41;", "#&65;", "&#65", "&#x41", "&#65a;", "&#65,",
		"& #65;", "&# 65;", "&#65 ;", "&#6 5;", "&#\n65;", "&#x 41;", "&#x41 ;", "&#+65;", "&#-65;", "&#x+41;", "&#x-41;", "&#-0;", "&#6_5;", "&#x4_1;", "&#_65;", "&#65.;", "&#65.0;", "&#1e2;", "&#0b1000001;", "&#0o101;", "&#x4.1;", "&#\u0666\u0665;", "&#\uff16\uff15;", "&#x\uff21;", "&#65&#65;", "&#6&#65;",
		"&#0;", "&#00;", "&#x0;", "&#x000;", "&#1;", "&#8;", "&#x8;", "&#11;", "&#xB;", "&#12;", "&#xC;", "&#14;", "&#xE;", "&#31;", "&#x1F;", "&#xD800;", "&#55296;", "&#xDBFF;", "&#xDC00;", "&#xDFFF;", "&#57343;", "&#xFFFE;", "&#xFFFF;", "&#65535;", "&#x110000;", "&#1114112;", "&#xD83D;&#xDE00;",
		"&#2147483647;", "&#2147483648;", "&#2147483713;", "&#4294967295;", "&#4294967296;", "&#4294967361;", "&#x80000041;", "&#xFFFFFFFF;", "&#x100000041;", "&#x1000000041;", "&#x8000000000000041;", "&#x10000000000000041;", "&#18446744073709551615;", "&#18446744073709551681;", "&#9223372036854775873;", "&#99999999999999999999999999;", // of which many, wrapped round, are 65
		"&\xc2\xa0;", "&a&b;c", "a&", "&lt;&", "&amp;a&b;", "\r\n&", "\t&;",
	} {
		refused(t, s, api.ErrRef)
	}
}

func TestTags(t *testing.T) {
	for _, s := range []string{"<", "a<b", "a<", "<a", "<a>", "</a>", "<!-- -->", "<![CDATA[a]]>", "<?a?>", "&lt;<", "&#60;<", "<<", "\r\n<", "日<本", "a>b<c"} {
		refused(t, s, api.ErrTag)
	}
}

func TestWhichErrorIsFirst(t *testing.T) {
	for s, want := range map[string]api.Errno{
		"<&": api.ErrTag, "&<": api.ErrRef, "a<b&c": api.ErrTag, "a&b<c": api.ErrRef, "&x<;": api.ErrRef, "&lt<;": api.ErrRef, "&amp;<&": api.ErrTag, "&amp;&<": api.ErrRef, "<&amp;": api.ErrTag, "&amp;<": api.ErrTag,
		"&<;": api.ErrRef, "&#<65;": api.ErrRef, "&#0;<": api.ErrRef, "<&#0;": api.ErrTag, "&;<": api.ErrRef, "<&;": api.ErrTag, "&a;<": api.ErrRef, "<;&": api.ErrTag,
	} {
		refused(t, s, want)
	}
	for _, w := range broken {
		for _, s := range []string{w, "a" + w, w + "a", w + "<", "<" + w, w + "&", "&" + w, "&" + w + ";", "&#65;" + w, "&#0;" + w, "<&" + w, "a<b&c" + w, w + "\r\n", "&#" + w + "65;"} {
			refused(t, s, api.ErrChar)
		}
	}
}

func TestEndsOfLines(t *testing.T) {
	for s, want := range map[string]string{
		"\n": "\n", "\r": "\n", "\r\n": "\n", "\n\r": "\n\n", "\r\r": "\n\n", "\n\n": "\n\n", "\r\r\n": "\n\n", "\r\n\r": "\n\n", "\r\n\n": "\n\n", "\r\n\r\n": "\n\n", "\n\r\n": "\n\n", "\r\n\r\r\n": "\n\n\n",
		"a\r\nb\rc\nd": "a\nb\nc\nd", "\t": "\t", "\t\r": "\t\n", "a\tb": "a\tb", " ": " ", "\r \n": "\n \n",
		"&#13;\n": "\r\n", "\r&#10;": "\n\n", "\r&#13;": "\n\r", "&#13;\r": "\r\n", "&#13;\r\n": "\r\n", "\r&#13;\n": "\n\r\n", "\n&#10;": "\n\n", "&#xD;&#xA;": "\r\n", "&#9;\t": "\t\t", "\r&amp;\n": "\n&\n", "\r\n&#13;\n": "\n\r\n",
	} {
		if got, e := esc.Get(s); got != want || e != api.OK {
			t.Errorf("Get(%q) = %q, %d, not %q", s, got, int(e), want)
		}
		holds(t, s)
	}
}

func TestEndsOfLinesInAttributes(t *testing.T) {
	for s, want := range map[string]string{
		"\n": " ", "\r": " ", "\r\n": " ", "\n\r": "  ", "\r\r": "  ", "\n\n": "  ", "\r\r\n": "  ", "\r\n\r": "  ", "\r\n\n": "  ", "\t": " ", "\t\t": "  ", " ": " ", "  ": "  ", "\t\r\n": "  ", "\r\t\n": "   ", " \t\n\r": "    ",
		"a\nb\tc\r\nd": "a b c d", "\na\n": " a ",
		"&#10;": "\n", "&#9;": "\t", "&#13;": "\r", "&#xA;": "\n", "&#x9;": "\t", "&#xD;": "\r", "&#13;\n": "\r ", "\r&#10;": " \n", "\n&#10;\n": " \n ", "&#9;\t&#9;": "\t \t", "&#13;\r\n": "\r ", "\r\n&#13;&#10;": " \r\n", "a\nb\tc\r\nd&#10;": "a b c d\n", "&#32;\n": "  ",
	} {
		if got, e := esc.GetAttr(s); got != want || e != api.OK {
			t.Errorf("GetAttr(%q) = %q, %d, not %q", s, got, int(e), want)
		}
		holds(t, s)
	}
}

func TestEachNumber(t *testing.T) {
	for n := range rune(0x110400) {
		want, wanted := string(n), api.OK
		if !char.Is(n) {
			want, wanted = "", api.ErrRef
		}
		for _, form := range []string{"&#%d;", "&#x%x;", "&#x%X;", "&#0%d;", "&#x0%x;"} {
			if n%0x100 > 0x20 && n%7 > 0 && form != "&#x%X;" {
				continue // some of all forms, and all of one
			}
			s := fmt.Sprintf(form, n)
			if got, e := esc.Get(s); got != want || e != wanted {
				t.Fatalf("Get(%q) = %q, %d", s, got, int(e))
			}
			if got, e := esc.GetAttr(s); got != want || e != wanted {
				t.Fatalf("GetAttr(%q) = %q, %d", s, got, int(e))
			}
		}
	}
}

// Numbers above all characters, by which others might be told when they are wrapped round.
func TestGreatNumbers(t *testing.T) {
	for bits := uint(21); bits < 140; bits++ {
		great := new(big.Int).Lsh(big.NewInt(1), bits)
		for _, more := range []int64{-1, 0, 9, 0x41, 0x20000} {
			n := new(big.Int).Add(great, big.NewInt(more))
			refused(t, fmt.Sprintf("&#%d;", n), api.ErrRef)
			refused(t, fmt.Sprintf("&#x%x;", n), api.ErrRef)
		}
	}
}

func TestLongTexts(t *testing.T) {
	const many = 20000
	repeat := strings.Repeat
	means(t, repeat("&amp;", many), repeat("&", many))
	means(t, repeat("&#x1F600;a", many), repeat("\U0001f600a", many))
	means(t, "&#"+repeat("0", many)+"65;", "A")
	means(t, "&#x"+repeat("0", many)+"42;", "B")
	means(t, repeat(";", many), repeat(";", many))
	refused(t, "&#"+repeat("0", many)+";", api.ErrRef)
	refused(t, "&#"+repeat("9", many)+";", api.ErrRef)
	refused(t, "&#x"+repeat("f", many)+";", api.ErrRef)
	refused(t, "&"+repeat("a", many)+";", api.ErrRef)
	refused(t, repeat("&", many), api.ErrRef)
	refused(t, repeat("&lt;", many)+"&", api.ErrRef)
	refused(t, repeat("a", many)+"<", api.ErrTag)
	refused(t, repeat("<", many)+"\xff", api.ErrChar)
	holds(t, repeat("\r\n", many))
	holds(t, repeat("\r", many))
	holds(t, repeat("\t<>&\"'", many))
}

func TestAllShortBytes(t *testing.T) {
	holds(t, "")
	for a := range 256 {
		one := string([]byte{byte(a)})
		holds(t, one)
		holds(t, "&#6"+one+";")
		holds(t, "&#x4"+one+";")
		holds(t, "&"+one+"amp;")
		for b := range 256 {
			two := one + string([]byte{byte(b)})
			holds(t, two)
			holds(t, "&#"+two+";")
		}
		if t.Failed() {
			return
		}
	}
}

// All texts of up to five of the pieces that markup is made of, and of some that it is not made of.
func TestAllShortTexts(t *testing.T) {
	texts := []string{""}
	for range 5 {
		var longer []string
		for _, s := range texts {
			for _, p := range []string{"&", "#", "x", "65", "amp", ";", "<", "\r", "\n", "\t"} {
				holds(t, s+p)
				longer = append(longer, s+p)
			}
		}
		if t.Failed() {
			return
		}
		texts = longer
	}
}

func TestTextsOfAllSizes(t *testing.T) {
	r := rand.New(rand.NewSource(5))
	pieces := []string{
		"a", "日", "é", "\U0001f600", "\ufffd", " ", "\t", "\n", "\r", "\r\n", ">", "\"", "'", ";", "#", "&amp;", "&lt;", "&gt;", "&quot;", "&apos;", "&#65;", "&#x41;", "&#13;", "&#10;", "&#9;", "&#xa;", "&#xD;",
	}
	wrong := append([]string{"<", "&", "&;", "&#0;", "&#", "&x;", "&amp"}, broken...)
	for range 50000 {
		var s strings.Builder
		for range r.Intn(12) {
			if r.Intn(25) == 0 {
				s.WriteString(wrong[r.Intn(len(wrong))])
			} else {
				s.WriteString(pieces[r.Intn(len(pieces))])
			}
		}
		holds(t, s.String())
		if t.Failed() {
			return
		}
	}
}

// P5.3

func TestPutAndGot(t *testing.T) {
	for r := range rune(utf8.MaxRune + 1) {
		if char.Is(r) {
			returns(t, string(r))
			returns(t, "\r"+string(r)+"\n&")
		}
		if t.Failed() {
			return
		}
	}
	for _, s := range []string{
		"", "a<b>&\"'\r\n\t", "&amp;", "&#13;", "\r\n", "\n\r", "\r\r\n\n", " \t ", "]]>", "&&&", "<a b=\"c\">\r\n</a>", "&#38;#38;", "日本\r",
	} {
		returns(t, s)
	}
	for _, w := range broken {
		returns(t, w)
		returns(t, "a<"+w+"&")
	}
}
