package span_test

import (
	"math"
	"strings"
	"testing"
	"unicode/utf8"

	"breviary/span"
)

// The chapter's words once more, by plain means, to hold the package against.

// cut is the characters of a text.
func cut(s string) []string {
	var all []string
	for s != "" {
		_, size := utf8.DecodeRuneInString(s)
		all = append(all, s[:size])
		s = s[size:]
	}
	return all
}

// find is the first place where t's bytes stand in s, or -1.
func find(s, t string) int {
	for i := 0; i+len(t) <= len(s); i++ {
		if s[i:i+len(t)] == t {
			return i
		}
	}
	return -1
}

// turn is what Map is to answer.
func turn(s, from, to string) string {
	heirs, out := cut(to), ""
	for _, c := range cut(s) {
		place := -1
		for i, f := range cut(from) {
			if f == c {
				place = i
				break
			}
		}
		if place < 0 {
			out += c
		} else if place < len(heirs) {
			out += heirs[place]
		}
	}
	return out
}

// norm is what Norm is to answer.
func norm(s string) string {
	out, wanted := "", false
	for i := range len(s) {
		switch s[i] {
		case 9, 0xA, 0xD, 0x20:
			wanted = out != ""
		default:
			if wanted {
				out += " "
			}
			out, wanted = out+s[i:i+1], false
		}
	}
	return out
}

// eachOf tells all texts of at most a number of some parts.
func eachOf(parts []string, most int) func(func(string) bool) {
	return func(yield func(string) bool) {
		texts := []string{""}
		for n := 0; ; n++ {
			var longer []string
			for _, s := range texts {
				if !yield(s) {
					return
				}
				for _, p := range parts {
					longer = append(longer, s+p)
				}
			}
			if texts = longer; n == most {
				return
			}
		}
	}
}

// odd is bytes that make characters, parts of some, and none, by how they are laid together.
var odd = []string{"a", "\u00e9", "\u65e5", "\U0001f600", "\ufffd", "\xc3", "\xa9", "\xe6", "\x97", "\xff", "\x00"}

// ends is numbers at which reckoning may go wrong.
var ends = []int{
	math.MinInt, math.MinInt + 1, math.MinInt + 2, math.MinInt / 2, math.MinInt/2 - 1, math.MinInt32, -1 << 31, -7, -3, -2, -1,
	0, 1, 2, 3, 4, 7, 1 << 31, 1 << 32, math.MaxInt / 2, math.MaxInt/2 + 1, math.MaxInt - 2, math.MaxInt - 1, math.MaxInt,
}

// P2.1

func TestLen(t *testing.T) {
	for s, want := range map[string]int{
		"": 0, "a": 1, "abc": 3, " \t\n": 3, "\x00": 1, "\u65e5\u672c": 2, "\u00e9": 1, "e\u0301": 2, "\U0001f600": 1,
		"\ufffd": 1, "\ufffe": 1, "\ufeff": 1, "\U0010ffff": 1, "a\r\nb": 4,
		"\xff": 1, "a\xff\xfe": 3, "\xc3": 1, "\xa9\xc3": 2, "\xe6\x97": 2, "\xe6\x97\xe6\x97\xa5": 3, "\xf0\x9f\x98": 3,
		"\xc0\x80": 2, "\xc1\x81": 2, "\xe0\x81\x81": 3, "\xf0\x80\x81\x81": 4, // longer than need be
		"\xed\xa0\x80": 3, "\xed\xbf\xbf": 3, "\xed\x9f\xbf": 1, "\xee\x80\x80": 1, // D800 to DFFF, and beside
		"\xf4\x90\x80\x80": 4, "\xf8\x88\x80\x80\x80": 5, // above 10FFFF
	} {
		if got := span.Len(s); got != want {
			t.Errorf("Len(%q) = %d, not %d", s, got, want)
		}
	}
	if got := span.Len(strings.Repeat("\u65e5a\xff", 100000)); got != 300000 {
		t.Errorf("Len of a long text = %d", got)
	}
}

func TestLenOfOneCharacter(t *testing.T) {
	for r := rune(0); r <= 0x10FFFF; r++ {
		if r >= 0xD800 && r <= 0xDFFF {
			continue
		}
		s := string(r)
		if span.Len(s) != 1 || span.Len("\xff"+s+"a") != 3 || span.Cut("a"+s+"b", 1, 1) != s {
			t.Fatalf("%X is not one character", r)
		}
	}
}

func TestLenOfOddBytes(t *testing.T) {
	for s := range eachOf(odd, 4) {
		if got := span.Len(s); got != len(cut(s)) {
			t.Fatalf("Len(%q) = %d, not %d", s, got, len(cut(s)))
		}
	}
}

func TestCut(t *testing.T) {
	for _, x := range []struct {
		s          string
		from, many int
		want       string
	}{
		{"abcd", 1, 2, "bc"}, {"abcd", -1, 3, "ab"}, {"abcd", 0, 4, "abcd"}, {"abcd", 0, 5, "abcd"}, {"abcd", 0, 3, "abc"},
		{"abcd", 3, 1, "d"}, {"abcd", 3, 9, "d"}, {"abcd", 4, 1, ""}, {"abcd", 5, 9, ""}, {"", 0, 1, ""}, {"", -1, 9, ""}, {"", 0, 0, ""},
		{"abcd", 1, 0, ""}, {"abcd", 1, -1, ""}, {"abcd", 0, 0, ""}, {"abcd", 0, -1, ""}, {"abcd", -2, 0, ""}, {"abcd", -2, -9, ""}, {"abcd", 2, -2, ""},
		{"abcd", -1, 1, ""}, {"abcd", -1, 2, "a"}, {"abcd", -4, 4, ""}, {"abcd", -4, 5, "a"}, {"abcd", -4, 8, "abcd"}, {"abcd", -4, 9, "abcd"},
		{"\u65e5\u672c\u8a9e", 1, 1, "\u672c"}, {"\u65e5\u672c\u8a9e", 1, 9, "\u672c\u8a9e"}, {"\u65e5\u672c\u8a9e", 3, 1, ""}, {"e\u0301a", 1, 1, "\u0301"},
		{"a\xff\xfeb", 1, 1, "\xff"}, {"a\xff\xfeb", 2, 1, "\xfe"}, {"a\xff\xfeb", 1, 3, "\xff\xfeb"}, {"\xe6\x97\xe6\x97\xa5", 1, 2, "\x97\u65e5"}, {"\xe6\x97", 0, 1, "\xe6"},
		{"abc", math.MinInt, math.MaxInt, ""}, {"abc", math.MinInt, math.MinInt, ""}, {"abc", math.MinInt, -1, ""}, {"abc", math.MinInt, 0, ""},
		{"abc", math.MinInt + 1, math.MaxInt, ""}, {"abc", math.MinInt + 2, math.MaxInt, "a"}, {"abc", math.MinInt + 4, math.MaxInt, "abc"},
		{"abc", 0, math.MaxInt, "abc"}, {"abc", 1, math.MaxInt, "bc"}, {"abc", 2, math.MaxInt - 1, "c"}, {"abc", -1, math.MaxInt, "abc"},
		{"abc", math.MaxInt, math.MaxInt, ""}, {"abc", math.MaxInt, 1, ""}, {"abc", math.MaxInt, math.MinInt, ""}, {"abc", 1, math.MinInt, ""}, {"abc", 0, math.MinInt, ""},
		{"abc", 1 << 32, 1, ""}, {"abc", 0, 1 << 32, "abc"}, {"abc", -1 << 32, 1 << 32, ""}, {"abc", -1 << 32, 1<<32 + 1, "a"},
	} {
		if got := span.Cut(x.s, x.from, x.many); got != x.want {
			t.Errorf("Cut(%q, %d, %d) = %q, not %q", x.s, x.from, x.many, got, x.want)
		}
	}
}

// asked tells whether a number is in what Cut is asked for: in unsigned numbers, of which two ints together are one again.
func asked(place, from, many int) bool {
	if many < 1 || place < from {
		return false
	}
	return uint(place)-uint(from) < uint(many)
}

func TestCutAtAllEnds(t *testing.T) {
	for _, s := range []string{"", "a", "ab", "a\u65e5\xffb", "\xe6\x97\u00e9\U0001f600abc"} {
		for _, from := range ends {
			for _, many := range ends {
				want := ""
				for place, c := range cut(s) {
					if asked(place, from, many) {
						want += c
					}
				}
				if got := span.Cut(s, from, many); got != want {
					t.Errorf("Cut(%q, %d, %d) = %q, not %q", s, from, many, got, want)
				}
			}
		}
	}
}

// P2.2

func TestHasBeforeAfter(t *testing.T) {
	for _, x := range []struct {
		s, t          string
		has           bool
		before, after string
	}{
		{"1999/04/01", "/", true, "1999", "04/01"}, {"1999/04/01", "19", true, "", "99/04/01"}, {"1999/04/01", "01", true, "1999/04/", ""},
		{"abc", "b", true, "a", "c"}, {"abc", "a", true, "", "bc"}, {"abc", "c", true, "ab", ""}, {"abc", "abc", true, "", ""},
		{"abc", "x", false, "", ""}, {"abc", "abcd", false, "", ""}, {"abc", "ac", false, "", ""}, {"abc", "cb", false, "", ""}, {"abc", "B", false, "", ""},
		{"abc", "", true, "", "abc"}, {"", "", true, "", ""}, {"", "a", false, "", ""}, {"", "\x00", false, "", ""},
		{"aaa", "aa", true, "", "a"}, {"baab", "aa", true, "b", "b"}, {"aab", "ab", true, "a", ""}, {"ababac", "abac", true, "ab", ""}, {"a-b-c", "-", true, "a", "b-c"},
		{"\u65e5\u672c\u8a9e", "\u672c", true, "\u65e5", "\u8a9e"}, {"\u65e5\u672c", "\u8a9e", false, "", ""}, {"e\u0301", "\u00e9", false, "", ""},
		{"\u00e9", "\xc3", true, "", "\xa9"}, {"\u00e9", "\xa9", true, "\xc3", ""}, {"a\u65e5b", "\x97", true, "a\xe6", "\xa5b"}, {"\u00e9\u00e9", "\xa9\xc3", true, "\xc3", "\xa9"},
		{"a\xffb", "\xff", true, "a", "b"}, {"a\xffb", "\xfe", false, "", ""}, {"a\xffb", "\ufffd", false, "", ""}, {"\ufffd", "\xff", false, "", ""}, {"a\xfe\xff", "\xff", true, "a\xfe", ""},
		{"a\x00b", "\x00", true, "a", "b"}, {"a b", " ", true, "a", "b"},
	} {
		if got := span.Has(x.s, x.t); got != x.has {
			t.Errorf("Has(%q, %q) = %v", x.s, x.t, got)
		}
		if got := span.Before(x.s, x.t); got != x.before {
			t.Errorf("Before(%q, %q) = %q, not %q", x.s, x.t, got, x.before)
		}
		if got := span.After(x.s, x.t); got != x.after {
			t.Errorf("After(%q, %q) = %q, not %q", x.s, x.t, got, x.after)
		}
	}
}

func TestHasOfOddBytes(t *testing.T) {
	parts := []string{"a", "\u00e9", "\xc3", "\xa9", "\ufffd"}
	for s := range eachOf(parts, 4) {
		for u := range eachOf(parts, 2) {
			has, before, after := false, "", ""
			if at := find(s, u); at >= 0 {
				has, before, after = true, s[:at], s[at+len(u):]
			}
			if span.Has(s, u) != has || span.Before(s, u) != before || span.After(s, u) != after {
				t.Fatalf("%q in %q: %v, %q, %q", u, s, span.Has(s, u), span.Before(s, u), span.After(s, u))
			}
		}
	}
}

// P2.3

func TestMap(t *testing.T) {
	for _, x := range []struct{ s, from, to, want string }{
		{"bar", "abc", "AB", "BAr"}, {"-a-", "-", "", "a"}, {"aaa", "aa", "xy", "xxx"}, {"", "abc", "ABC", ""}, {"", "", "", ""},
		{"abc", "", "", "abc"}, {"abc", "", "xyz", "abc"}, {"abc", "abc", "", ""}, {"abc", "abc", "abc", "abc"}, {"abc", "a", "xyz", "xbc"},
		{"abcabc", "abc", "bca", "bcabca"}, {"ab", "ab", "ba", "ba"}, {"abc", "aba", "xyz", "xyc"}, {"abc", "aab", "xy", "xc"}, {"abc", "aab", "xyz", "xzc"},
		{"aa", "aa", "", ""}, {"--aaa--", "abc-", "ABC", "AAA"}, {"abc", "xyz", "123", "abc"}, {"aba", "b", "bb", "aba"}, {"a b", " ", "_", "a_b"},
		{"\u65e5\u672c", "\u672c\u65e5", "ab", "ba"}, {"ab", "ab", "\u65e5\u672c", "\u65e5\u672c"}, {"ab", "ba", "\U0001f600", "\U0001f600"},
		{"\u65e5", "\xe6", "x", "\u65e5"}, {"\u65e5", "\xa5", "", "\u65e5"}, {"\u00e9", "\u00e8", "x", "\u00e9"}, {"e\u0301", "\u0301", "", "e"},
		{"\xff\xfe\ufffd", "\xfe", "x", "\xffx\ufffd"}, {"\xff\xfe\ufffd", "\xff\xfe", "ab", "ab\ufffd"}, {"\xff\xfe\ufffd", "\ufffd", "x", "\xff\xfex"},
		{"\xff\xfe\ufffd", "\xff", "", "\xfe\ufffd"}, {"ab", "ab", "\xfe\xff", "\xfe\xff"}, {"ab", "ab", "\ufffd\xff", "\ufffd\xff"},
		{"\xe6\x97", "\x97", "\xff", "\xe6\xff"}, {"ab", "ab", "\xc3\xa9", "\u00e9"}, {"abx", "ab", "\xe6\x97", "\xe6\x97x"}, {"a\x00", "\x00", "0", "a0"},
	} {
		if got := span.Map(x.s, x.from, x.to); got != x.want {
			t.Errorf("Map(%q, %q, %q) = %q, not %q", x.s, x.from, x.to, got, x.want)
		}
	}
	long := strings.Repeat("ab\u65e5\xff", 20000)
	if got := span.Map(long, "\u65e5b", "\U0001f600"); got != strings.Repeat("a\U0001f600\xff", 20000) {
		t.Errorf("Map of a long text has %d bytes", len(got))
	}
}

func TestMapOfOddBytes(t *testing.T) {
	parts := []string{"a", "b", "\u00e9", "\xff", "\xc3", "\ufffd"}
	s := strings.Join(parts, "x") + "\xa9\xfea"
	for from := range eachOf(parts, 3) {
		for to := range eachOf(parts, 3) {
			if got, want := span.Map(s, from, to), turn(s, from, to); got != want {
				t.Fatalf("Map(%q, %q, %q) = %q, not %q", s, from, to, got, want)
			}
		}
	}
}

func TestNorm(t *testing.T) {
	for s, want := range map[string]string{
		"": "", " ": "", " \t\r\n": "", "a": "a", " a": "a", "a ": "a", " a  b ": "a b", " a \n b ": "a b", "a\tb": "a b", "a\r\nb\rc": "a b c", "a b": "a b",
		"\n\n\u65e5\t\t\u672c\r": "\u65e5 \u672c", "a\u00a0b": "a\u00a0b", "\u00a0a\u00a0": "\u00a0a\u00a0", "a\u2003 b": "a\u2003 b", "\u3000a": "\u3000a", "a\u2028b": "a\u2028b",
		"\u0085a": "\u0085a", "a\vb": "a\vb", "\fa\f": "\fa\f", "\x00 \x00": "\x00 \x00", "\ufeffa": "\ufeffa", "\u200b": "\u200b",
		"\xff": "\xff", " \xff \xfe ": "\xff \xfe", "\x85 \xa0": "\x85 \xa0", "\xe6\x97  \xa5": "\xe6\x97 \xa5", "\xc0\xa0": "\xc0\xa0", "\xc3 \xa9": "\xc3 \xa9", "\ufffd\t": "\ufffd",
	} {
		if got := span.Norm(s); got != want {
			t.Errorf("Norm(%q) = %q, not %q", s, got, want)
		}
	}
	if got := span.Norm(strings.Repeat(" \n\u65e5\t", 20000)); got != strings.Repeat(" \u65e5", 20000)[1:] {
		t.Errorf("Norm of a long text has %d bytes", len(got))
	}
}

func TestNormOfAllShortBytes(t *testing.T) {
	for a := range 256 {
		for b := range 256 {
			s := string([]byte{byte(a), byte(b)})
			for _, s := range []string{s[:1], s, "x" + s + "x"} {
				if got := span.Norm(s); got != norm(s) {
					t.Fatalf("Norm(%q) = %q, not %q", s, got, norm(s))
				}
			}
		}
	}
}

// P2.4

func TestPartsTogether(t *testing.T) {
	for s := range eachOf(odd, 3) {
		for u := range eachOf(odd, 1) {
			if span.Has(s, u) && span.Before(s, u)+u+span.After(s, u) != s {
				t.Fatalf("%q: what stands ahead of %q is %q, behind it %q", s, u, span.Before(s, u), span.After(s, u))
			}
		}
		for n := range len(s) + 2 {
			ahead, behind := span.Cut(s, 0, n), span.Cut(s, n, math.MaxInt)
			if ahead+behind != s || len(cut(ahead)) != min(n, len(cut(s))) {
				t.Fatalf("%q: what is ahead of %d is %q, from it on %q", s, n, ahead, behind)
			}
		}
	}
}

func TestNormOfNorm(t *testing.T) {
	for s := range eachOf([]string{" ", "\t", "\n", "\r", "a", "\u65e5", "\xff", "\u00a0"}, 5) {
		once := span.Norm(s)
		if once != norm(s) || span.Norm(once) != once {
			t.Fatalf("Norm(%q) = %q, and of that %q", s, once, span.Norm(once))
		}
	}
}
