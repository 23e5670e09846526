// Package utf is layer 1: where characters begin and end. See shared/doc/01-utf.md.
package utf

import "unicode/utf8"

// odd stands for the number of a byte that is no UTF-8, and where there is no character.
const odd = -1

// Classes of characters.
const (
	blank = iota
	letter
	other
)

// Size tells how many bytes the character has that begins at a place.
func Size(b []byte, at int) int {
	_, size := decode(b, at)
	return size
}

// Rune tells the number of the character that begins at a place.
func Rune(b []byte, at int) int {
	r, _ := decode(b, at)
	return r
}

func decode(b []byte, at int) (int, int) {
	if at < 0 || at >= len(b) {
		return odd, 0
	}
	r, size := utf8.DecodeRune(b[at:])
	// The number FFFD can be written, too; it has three bytes then.
	if r == utf8.RuneError && size == 1 {
		return odd, 1
	}
	return int(r), size
}

// Bound: does a character begin there, or is it the end?
func Bound(b []byte, at int) bool {
	if at < 0 || at > len(b) {
		return false
	}
	// A first byte of UTF-8 never stands within UTF-8 of another number, so each character
	// of several bytes begins at a boundary: one that reaches beyond the place is enough.
	for back := 1; back < utf8.UTFMax; back++ {
		if Size(b, at-back) > back {
			return false
		}
	}
	return true
}

// Next tells the first boundary above a place.
func Next(b []byte, at int) int {
	if at < 0 {
		return 0
	}
	if at >= len(b) {
		return len(b)
	}
	at++
	for !Bound(b, at) {
		at++
	}
	return at
}

// Prev tells the last boundary below a place.
func Prev(b []byte, at int) int {
	if at <= 0 {
		return 0
	}
	if at > len(b) {
		return len(b)
	}
	at--
	for !Bound(b, at) {
		at--
	}
	return at
}

// Count tells how many characters there are.
func Count(b []byte) int {
	return utf8.RuneCount(b)
}

// First tells the place behind the first n characters.
func First(b []byte, n int) int {
	at := 0
	for ; n > 0 && at < len(b); n-- {
		at += Size(b, at)
	}
	return at
}

// Put tells the UTF-8 of a number.
func Put(r int) []byte {
	// Held against the bounds as it is: a great number could be a right one once it is cut to a rune.
	if r < 0 || r > utf8.MaxRune || !utf8.ValidRune(rune(r)) {
		return nil
	}
	var room [utf8.UTFMax]byte
	size := utf8.EncodeRune(room[:], rune(r))
	return room[:size:size]
}

// Class tells of which class a character's number is.
func Class(r int) int {
	switch {
	case r == ' ', '\t' <= r && r <= '\r':
		return blank
	case 'a' <= r && r <= 'z', 'A' <= r && r <= 'Z', '0' <= r && r <= '9', r == '_', r > 127:
		return letter
	}
	return other
}
