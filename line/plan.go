package line

import (
	"damier/keys"
	"damier/utf"
)

// Edit is what a key does: the bytes from From to ahead of To go, In comes instead, and the place is At then.
type Edit struct {
	From, To int
	In       string
	At       int
}

// longer tells how many bytes there are behind an edit of n ones.
func (e Edit) longer(n int) int {
	return n - (e.To - e.From) + len(e.In)
}

// Plan tells what a key does to bytes at a place, and whether it is one that does something.
func Plan(b []byte, at, k int) (Edit, bool) {
	at = place(b, at)
	switch k {
	case keys.Rubout:
		return without(utf.Prev(b, at), at), true
	case keys.Delete:
		return without(at, utf.Next(b, at)), true
	case keys.Ctrl('u'):
		return without(0, at), true
	case keys.Ctrl('w'):
		return without(wordAhead(b, at), at), true
	case keys.Left:
		return moved(at, utf.Prev(b, at)), true
	case keys.Right:
		return moved(at, utf.Next(b, at)), true
	case keys.Home:
		return moved(at, 0), true
	case keys.End:
		return moved(at, len(b)), true
	}
	if k == keys.Return || keys.Types(k) {
		return with(at, string(utf.Put(k))), true
	}
	return moved(at, at), false
}

// place takes any number as a boundary: the one that it is, or the last one below.
func place(b []byte, at int) int {
	// Held to the end first, since one more than the greatest number would be the least one.
	return utf.Prev(b, min(at, len(b))+1)
}

// without is the edit by which bytes go.
func without(from, to int) Edit {
	return Edit{From: from, To: to, At: from}
}

// moved is the edit by which the place alone is another one.
func moved(at, to int) Edit {
	return Edit{From: at, To: at, At: to}
}

// with is the edit by which bytes come at a place.
func with(at int, in string) Edit {
	return Edit{From: at, To: at, In: in, At: at + len(in)}
}

// wordAhead tells where the blanks ahead of a place begin, and the characters of one class ahead of these.
func wordAhead(b []byte, at int) int {
	const blank = 0
	at = classAhead(b, at, blank)
	return classAhead(b, at, class(b, utf.Prev(b, at)))
}

// classAhead tells where the characters of a class begin that stand up to a place.
func classAhead(b []byte, at, c int) int {
	for at > 0 && class(b, utf.Prev(b, at)) == c {
		at = utf.Prev(b, at)
	}
	return at
}

// class tells the class of the character at a place.
func class(b []byte, at int) int {
	return utf.Class(utf.Rune(b, at))
}
