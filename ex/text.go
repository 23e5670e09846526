package ex

import (
	"strings"

	"damier/filter"
	"damier/num"
	"damier/order"
)

// What stands in the texts of lines, beside their words.
const (
	blank      = " "
	downwards  = "-"
	everywhere = "%"
	substitute = "s/"
	slash      = "/"
	escape     = `\`
	eachPlace  = "g"
)

// text tells the text of a line that is sound.
func text(x Line) string {
	word := words()[x.Name]
	switch x.Name {
	case Goto:
		return num.Text(x.N)
	case Col, Row, Undo:
		return word + blank + num.Text(x.N)
	case Sort:
		return word + keysText(x.By)
	case Subst:
		return flag(everywhere, x.Whole) + substitute + escaped(x.Pat) + slash + escaped(x.With) + slash + flag(eachPlace, x.Each)
	}
	if x.Has {
		return word + blank + filter.Print(x.Test)
	}
	return word
}

// flag tells what stands for something, if that is so.
func flag(mark string, is bool) string {
	if is {
		return mark
	}
	return ""
}

// keysText tells the text of the keys to sort by.
func keysText(l []order.By) string {
	s := ""
	for _, k := range l {
		s += blank + flag(downwards, k.Down) + num.Text(k.Col+1)
	}
	return s
}

// escaped tells a text as it stands between slashes.
func escaped(s string) string {
	// First what escapes, so that nothing is escaped twice.
	s = strings.ReplaceAll(s, escape, escape+escape)
	return strings.ReplaceAll(s, slash, escape+slash)
}

// reader tells the function that reads what stands behind the word of a Name. The line that it tells is the one
// whose text that is, if there is one; else it is not right, or has another text.
func reader(name int) func(s string) Line {
	switch name {
	case Goto:
		return func(s string) Line { return Line{Name: name, N: number(s)} }
	case Col, Row, Undo:
		return func(s string) Line { return Line{Name: name, N: number(strings.TrimPrefix(s, blank))} }
	case Sort:
		return func(s string) Line { return Line{Name: name, By: keys(s)} }
	case Filter, Narrow:
		return func(s string) Line {
			s, has := strings.CutPrefix(s, blank)
			test, _ := filter.Parse(s)
			return Line{Name: name, Test: test, Has: has}
		}
	case Subst:
		return substitution
	}
	return func(string) Line { return Line{Name: name} }
}

// number tells the number of which s is a text; 0, if it is of none.
func number(s string) int {
	n, _ := num.Parse([]byte(s))
	return n
}

// keys reads the keys to sort by, each behind a blank.
func keys(s string) []order.By {
	var l []order.By
	for _, key := range strings.Split(s, blank)[1:] {
		col, down := strings.CutPrefix(key, downwards)
		l = append(l, order.By{Col: number(col) - 1, Down: down})
	}
	return l
}

// substitution reads the line by which a text is put in the place of another one.
func substitution(s string) Line {
	s, whole := strings.CutPrefix(s, everywhere)
	pat, s := upToSlash(strings.TrimPrefix(s, substitute))
	with, s := upToSlash(s)
	return Line{Name: Subst, Pat: pat, With: with, Whole: whole, Each: s == eachPlace}
}

// upToSlash tells the text that stands up to the first slash that is not escaped, and what stands behind that.
func upToSlash(s string) (string, string) {
	var l []byte
	as := false
	for i := range len(s) {
		c := s[i]
		switch {
		case as:
			l, as = append(l, c), false
		case c == slash[0]:
			return string(l), s[i+1:]
		case c == escape[0]:
			as = true
		default:
			l = append(l, c)
		}
	}
	return string(l), ""
}
