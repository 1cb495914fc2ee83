// Package char is layer 1: characters of XML, and names.
package char

import (
	"unicode/utf8"

	"breviary/api"
)

// Is asks whether a rune is a character.
func Is(r rune) bool {
	ranges := [...][2]rune{
		{0x9, 0xA}, {0xD, 0xD}, {0x20, 0xD7FF}, {0xE000, 0xFFFD}, {0x10000, 0x10FFFF},
	}
	return within(ranges[:], r)
}

// Space asks whether it is a space.
func Space(r rune) bool {
	ranges := [...][2]rune{{0x9, 0xA}, {0xD, 0xD}, {0x20, 0x20}}
	return within(ranges[:], r)
}

// Start asks whether a name may begin with it.
func Start(r rune) bool {
	ranges := [...][2]rune{
		{0x41, 0x5A}, {0x5F, 0x5F}, {0x61, 0x7A},
		{0xC0, 0xD6}, {0xD8, 0xF6}, {0xF8, 0x2FF},
		{0x370, 0x37D}, {0x37F, 0x1FFF}, {0x200C, 0x200D},
		{0x2070, 0x218F}, {0x2C00, 0x2FEF}, {0x3001, 0xD7FF},
		{0xF900, 0xFDCF}, {0xFDF0, 0xFFFD}, {0x10000, 0xEFFFF},
	}
	return within(ranges[:], r)
}

// Part asks whether a name may go on with it.
func Part(r rune) bool {
	ranges := [...][2]rune{
		{0x2D, 0x2E}, {0x30, 0x39}, {0xB7, 0xB7}, {0x300, 0x36F}, {0x203F, 0x2040},
	}
	return Start(r) || within(ranges[:], r)
}

// Text asks whether a string is of characters.
func Text(s string) bool {
	// A range tells a wrong byte as FFFD, which is a character: it has to be found out ahead.
	if !utf8.ValidString(s) {
		return false
	}
	for _, r := range s {
		if !Is(r) {
			return false
		}
	}
	return true
}

// Name asks whether a string is a name.
func Name(s string) bool {
	if len(s) == 0 || len(s) > api.MaxName || !Text(s) {
		return false
	}
	for i, r := range s {
		if i == 0 && !Start(r) || !Part(r) {
			return false
		}
	}
	return true
}

// Blank asks whether a string is of spaces.
func Blank(s string) bool {
	for _, r := range s {
		if !Space(r) {
			return false
		}
	}
	return true
}

// within asks whether a rune is in one of some ranges, their ends included.
func within(ranges [][2]rune, r rune) bool {
	for _, p := range ranges {
		if p[0] <= r && r <= p[1] {
			return true
		}
	}
	return false
}
