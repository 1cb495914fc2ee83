package char_test

import (
	"math"
	"strings"
	"testing"
	"unicode/utf8"

	"breviary/char"
)

// The ranges of the chapter, by their ends. What lies beside them is found by going through all runes.
var (
	isRanges = [][2]rune{
		{0x9, 0x9}, {0xA, 0xA}, {0xD, 0xD}, {0x20, 0xD7FF}, {0xE000, 0xFFFD}, {0x10000, 0x10FFFF},
	}
	spaceRanges = [][2]rune{
		{0x9, 0x9}, {0xA, 0xA}, {0xD, 0xD}, {0x20, 0x20},
	}
	startRanges = [][2]rune{
		{0x41, 0x5A}, {0x5F, 0x5F}, {0x61, 0x7A}, {0xC0, 0xD6}, {0xD8, 0xF6},
		{0xF8, 0x2FF}, {0x370, 0x37D}, {0x37F, 0x1FFF}, {0x200C, 0x200C}, {0x200D, 0x200D},
		{0x2070, 0x218F}, {0x2C00, 0x2FEF}, {0x3001, 0xD7FF}, {0xF900, 0xFDCF},
		{0xFDF0, 0xFFFD}, {0x10000, 0xEFFFF},
	}
	partRanges = append([][2]rune{
		{0x2D, 0x2D}, {0x2E, 0x2E}, {0x30, 0x39}, {0xB7, 0xB7}, {0x300, 0x36F},
		{0x203F, 0x203F}, {0x2040, 0x2040},
	}, startRanges...)
)

func in(ranges [][2]rune, r rune) bool {
	for _, p := range ranges {
		if r >= p[0] && r <= p[1] {
			return true
		}
	}
	return false
}

// eachRune tells all code points, those around both ends of their range, and the ends of the type.
func eachRune(yield func(rune) bool) {
	for r := rune(-0x400); r <= 0x110400; r++ {
		if !yield(r) {
			return
		}
	}
	for _, r := range []rune{math.MinInt32, math.MinInt32 + 1, math.MaxInt32 - 1, math.MaxInt32, 0x200000, 0x110041, 0x1000041, -0x41} {
		if !yield(r) {
			return
		}
	}
}

// checkRanges holds a question against ranges: at each end, beside it, and at all runes.
func checkRanges(t *testing.T, name string, ask func(rune) bool, ranges [][2]rune) {
	t.Helper()
	for _, p := range ranges {
		if !ask(p[0]) || !ask(p[1]) {
			t.Errorf("%s refuses an end of %X to %X", name, p[0], p[1])
		}
		for _, r := range []rune{p[0] - 1, p[1] + 1} {
			if ask(r) != in(ranges, r) {
				t.Errorf("%s(%X) = %v beside %X to %X", name, r, ask(r), p[0], p[1])
			}
		}
	}
	bad := 0
	for r := range eachRune {
		if ask(r) != in(ranges, r) {
			if bad++; bad < 9 {
				t.Errorf("%s(%X) = %v", name, r, ask(r))
			}
		}
	}
}

// P1.1

func TestIs(t *testing.T) {
	checkRanges(t, "Is", char.Is, isRanges)
	for r, want := range map[rune]bool{
		-1: false, 0: false, 8: false, 9: true, 0xA: true, 0xB: false, 0xC: false, 0xD: true, 0xE: false,
		0x1F: false, 0x20: true, 'a': true, 0x7F: true, 0x80: true, 0xD7FF: true, 0xD800: false, 0xDFFF: false,
		0xE000: true, 0xFFFD: true, 0xFFFE: false, 0xFFFF: false, 0x10000: true, 0x1F600: true,
		0x1FFFE: true, 0x10FFFF: true, 0x110000: false,
	} {
		if char.Is(r) != want {
			t.Errorf("Is(%X) = %v", r, !want)
		}
	}
}

func TestSpace(t *testing.T) {
	checkRanges(t, "Space", char.Space, spaceRanges)
	for r, want := range map[rune]bool{
		8: false, 9: true, 0xA: true, 0xB: false, 0xC: false, 0xD: true, 0xE: false, 0x1F: false, 0x20: true,
		0x21: false, 0x85: false, 0xA0: false, 0x2003: false, 0x2028: false, 0x3000: false, 0xFEFF: false,
	} {
		if char.Space(r) != want {
			t.Errorf("Space(%X) = %v", r, !want)
		}
	}
}

// P1.2

func TestStart(t *testing.T) {
	checkRanges(t, "Start", char.Start, startRanges)
	for r, want := range map[rune]bool{
		'A': true, 'Z': true, '_': true, 'a': true, 'z': true, '@': false, '[': false, '`': false, '{': false,
		'-': false, '.': false, '0': false, '9': false, ':': false, ' ': false, 0xAA: false, 0xB7: false,
		0xC0: true, 0xD7: false, 0xF7: false, 0x2FF: true, 0x300: false, 0x36F: false, 0x370: true, 0x37E: false,
		0x2000: false, 0x200B: false, 0x200C: true, 0x200D: true, 0x200E: false, 0x203F: false, 0x2190: false,
		0x2BFF: false, 0x2FF0: false, 0x3000: false, 0x3001: true, 0x65E5: true, 0xD800: false, 0xE000: false,
		0xFDD0: false, 0xFDEF: false, 0xFFFD: true, 0xFFFE: false, 0xEFFFF: true, 0xF0000: false, 0x10FFFF: false,
	} {
		if char.Start(r) != want {
			t.Errorf("Start(%X) = %v", r, !want)
		}
	}
}

func TestPart(t *testing.T) {
	checkRanges(t, "Part", char.Part, partRanges)
	for r, want := range map[rune]bool{
		'a': true, '_': true, '-': true, '.': true, '0': true, '9': true, ',': false, '/': false, ':': false,
		';': false, ' ': false, 0xB6: false, 0xB7: true, 0xB8: false, 0x300: true, 0x36F: true, 0x203E: false,
		0x203F: true, 0x2040: true, 0x2041: false, 0xD7: false, 0x37E: false, 0xF0000: false, -1: false,
	} {
		if char.Part(r) != want {
			t.Errorf("Part(%X) = %v", r, !want)
		}
	}
}

// P1.3

// wrong is bytes that are no right UTF-8.
var wrong = []string{
	"\x80", "\xbf", "\xc3", "\xe6\x97", "\xf0\x9f\x98", // parts of characters
	"\xc0\x80", "\xc1\x81", "\xe0\x81\x81", "\xe0\x9f\xbf", "\xf0\x80\x81\x81", "\xf0\x8f\xbf\xbf", // longer than need be
	"\xed\xa0\x80", "\xed\xad\xbf", "\xed\xae\x80", "\xed\xbf\xbf", "\xed\xa0\xbd\xed\xb8\x80", // D800 to DFFF
	"\xf4\x90\x80\x80", "\xf7\xbf\xbf\xbf", "\xf8\x88\x80\x80\x80", "\xfc\x84\x80\x80\x80\x80", // above 10FFFF
	"\xfe", "\xff", "\xc3\x28", "\xe6\x28\xa5", "\xf0\x9f\x28\x80",
}

func TestText(t *testing.T) {
	for s, want := range map[string]bool{
		"": true, "a": true, "a\u00e9\u65e5\U0001f600": true, " \t\r\n": true, "<&>\"'": true,
		"\ufffd": true, "a\ufffdb": true, "\ud7ff\ue000": true, "\U00010000\U0010ffff": true,
		"\x00": false, "a\x00": false, "a\x08": false, "a\x0bb": false, "\x0c": false, "\x1f": false, "\x7f": true,
		"\ufffe": false, "a\uffff": false, "\ufffeb": false, "\ufffda\uffff": false,
	} {
		if char.Text(s) != want {
			t.Errorf("Text(%q) = %v", s, !want)
		}
	}
	for _, w := range wrong {
		for _, s := range []string{w, "a" + w, w + "a", "a" + w + "a", "\ufffd" + w, w + "\ufffd"} {
			if char.Text(s) {
				t.Errorf("Text(%q) is taken", s)
			}
		}
	}
	if long := strings.Repeat("日é a", 5000); !char.Text(long) || char.Text(long+"\xff") || char.Text(long+"\x01") {
		t.Error("Text of a long text")
	}
}

func TestTextOfOneCharacter(t *testing.T) {
	for r := rune(0); r <= 0x10FFFF; r++ {
		if r >= 0xD800 && r <= 0xDFFF {
			continue
		}
		s := string(r)
		if want := in(isRanges, r); char.Text(s) != want || char.Text("é"+s) != want || char.Text(s+"é") != want {
			t.Fatalf("Text of %X is not %v", r, want)
		}
	}
}

func TestTextOfAllShortBytes(t *testing.T) {
	right := func(s string) bool {
		for _, r := range s {
			if !in(isRanges, r) {
				return false
			}
		}
		return utf8.ValidString(s)
	}
	ends := []byte{0x00, 0x41, 0x7F, 0x80, 0x8F, 0x90, 0x9F, 0xA0, 0xBD, 0xBE, 0xBF, 0xC0, 0xFF}
	for a := range 256 {
		for b := range 256 {
			two := string([]byte{byte(a), byte(b)})
			if char.Text(two) != right(two) || char.Text(two[:1]) != right(two[:1]) {
				t.Fatalf("Text(%q) = %v, Text(%q) = %v", two, char.Text(two), two[:1], char.Text(two[:1]))
			}
			for _, c := range ends {
				three := two + string([]byte{c})
				if char.Text(three) != right(three) {
					t.Fatalf("Text(%q) = %v", three, char.Text(three))
				}
				for _, d := range ends {
					if four := three + string([]byte{d}); char.Text(four) != right(four) {
						t.Fatalf("Text(%q) = %v", four, char.Text(four))
					}
				}
			}
		}
	}
}

func TestName(t *testing.T) {
	for s, want := range map[string]bool{
		"": false, "a": true, "_": true, "a-1": true, "a.b": true, "a_": true, "A9": true, "日本": true, "é.": true,
		"a\u00b7": true, "a\u0301": true, "a\u203f\u2040": true, "\U00010000": true, "a\U000effff": true,
		"\ufffd": true, "a\ufffd": true,
		"1a": false, "-a": false, ".a": false, "\u00b7a": false, "\u0301a": false, "\u203fa": false, "9": false, "-": false,
		"a:b": false, ":": false, ":a": false, "a:": false, "a b": false, " a": false, "a ": false, "\ta": false,
		"a\n": false, "a\x00": false, "a/": false, "a*": false, "*": false, "@a": false, "a\u00d7": false,
		"a\u037e": false, "a\ufffe": false, "\ue000": false, "a\ue000": false, "\U000f0000": false, "a\U0010ffff": false,
	} {
		if char.Name(s) != want {
			t.Errorf("Name(%q) = %v", s, !want)
		}
	}
	for _, w := range wrong {
		for _, s := range []string{w, "a" + w, w + "a", "a" + w + "a"} {
			if char.Name(s) {
				t.Errorf("Name(%q) is taken", s)
			}
		}
	}
}

func TestNameAtItsGreatest(t *testing.T) {
	repeat := strings.Repeat
	for s, want := range map[string]bool{
		repeat("n", 31): true, repeat("n", 32): true, repeat("n", 33): false, repeat("n", 34): false,
		repeat("n", 64): false, repeat("n", 256): false, repeat("n", 288): false, repeat("n", 1<<16+1): false,
		"a" + repeat("-", 31): true, "a" + repeat("-", 32): false,
		repeat("é", 16): true, "a" + repeat("é", 16): false, repeat("é", 17): false,
		repeat("日", 10) + "é": true, repeat("日", 11): false, repeat("日", 10) + "aa": true,
		repeat("\U00010000", 8): true, repeat("\U00010000", 8) + "a": false, repeat("\U00010000", 9): false,
		repeat("n", 31) + ":": false, repeat("n", 31) + "\xff": false, repeat("n", 31) + "\xc3": false,
	} {
		if char.Name(s) != want {
			t.Errorf("Name(%q) of %d bytes = %v", s, len(s), !want)
		}
	}
	for n := range 80 {
		if got := char.Name(repeat("x", n)); got != (n >= 1 && n <= 32) {
			t.Errorf("Name of %d bytes = %v", n, got)
		}
	}
}

func TestNameOfOneCharacter(t *testing.T) {
	for r := rune(0); r <= 0x10FFFF; r++ {
		if r >= 0xD800 && r <= 0xDFFF {
			continue
		}
		s := string(r)
		if want := in(startRanges, r); char.Name(s) != want || char.Name(s+"a") != want {
			t.Fatalf("Name that begins with %X is not %v", r, want)
		}
		if want := in(partRanges, r); char.Name("a"+s) != want || char.Name("é"+s+"1") != want {
			t.Fatalf("Name that goes on with %X is not %v", r, want)
		}
	}
}

func TestBlank(t *testing.T) {
	for s, want := range map[string]bool{
		"": true, " ": true, "\t": true, "\n": true, "\r": true, " \t\r\n": true, "\r\n": true,
		"a": false, " a": false, "a ": false, " a ": false, "\x00": false, " \x00": false, "\v": false, "\f": false,
		"\u0085": false, "\u00a0": false, " \u2003": false, "\u3000": false, "\ufeff": false, "\ufffd": false,
		"\x85": false, "\xa0": false, "\xff": false, " \x80": false, "\xc0\xa0": false, "\xe0\x80\xa0": false,
	} {
		if char.Blank(s) != want {
			t.Errorf("Blank(%q) = %v", s, !want)
		}
	}
	if long := strings.Repeat(" \n", 20000); !char.Blank(long) || char.Blank(long+"x") || char.Blank("x"+long) {
		t.Error("Blank of a long text")
	}
}

func TestBlankOfAllShortBytes(t *testing.T) {
	blank := func(b byte) bool { return b == 9 || b == 0xA || b == 0xD || b == 0x20 }
	for a := range 256 {
		for b := range 256 {
			s := string([]byte{byte(a), byte(b)})
			if char.Blank(s) != (blank(byte(a)) && blank(byte(b))) || char.Blank(s[:1]) != blank(byte(a)) {
				t.Fatalf("Blank(%q) = %v", s, char.Blank(s))
			}
		}
	}
}

// P1.4

func TestWhatFollows(t *testing.T) {
	for r := range eachRune {
		if char.Start(r) && !char.Part(r) {
			t.Fatalf("a name may begin with %X, and not go on with it", r)
		}
		if char.Part(r) && !char.Is(r) {
			t.Fatalf("a name may go on with %X, which is no character", r)
		}
		if char.Space(r) && (char.Start(r) || char.Part(r)) {
			t.Fatalf("%X is a space, and part of a name", r)
		}
		if char.Space(r) && !char.Is(r) {
			t.Fatalf("%X is a space, and no character", r)
		}
	}
}
