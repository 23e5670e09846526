package keys_test

import (
	"fmt"
	"math"
	"slices"
	"strings"
	"testing"
	"unicode/utf8"

	"damier/api"
	"damier/keys"
)

// texts are by the words the texts of all keys but those of characters, and that of <.
var texts = map[int]string{
	1: "<C-a>", 2: "<C-b>", 3: "<C-c>", 4: "<C-d>", 5: "<C-e>", 6: "<C-f>", 7: "<C-g>", 8: "<BS>", 9: "<Tab>", 10: "<C-j>", 11: "<C-k>", 12: "<C-l>", 13: "<CR>",
	14: "<C-n>", 15: "<C-o>", 16: "<C-p>", 17: "<C-q>", 18: "<C-r>", 19: "<C-s>", 20: "<C-t>", 21: "<C-u>", 22: "<C-v>", 23: "<C-w>", 24: "<C-x>", 25: "<C-y>", 26: "<C-z>",
	27: "<Esc>", 60: "<lt>", 127: "<Del>", -1: "<Left>", -2: "<Right>", -3: "<Up>", -4: "<Down>", -5: "<Home>", -6: "<End>",
}

// isCharacter tells by the words whether a number is that of a character's key.
func isCharacter(k int) bool {
	return 32 <= k && k <= 0x10FFFF && k != 127 && (k < 0xD800 || k > 0xDFFF)
}

// text tells by the words the text of a key; "" of what is none.
func text(k int) string {
	if s, is := texts[k]; is {
		return s
	}
	if isCharacter(k) {
		return string(rune(k))
	}
	return ""
}

// eachNumber hands over all numbers that are keys, all about these, and some far ones.
func eachNumber(f func(k int)) {
	for k := -100; k < 0x110100; k++ {
		f(k)
	}
	for _, k := range []int{math.MinInt, math.MinInt + 'a', -1 << 32, -1<<32 + 'a', -1<<31 + 27, 1<<31 - 1, 1 << 31, 1<<31 + 'a', 1<<32 - 1, 1 << 32, 1<<32 + 27, 1<<32 + 'a', 1<<40 + 127, math.MaxInt - 'a', math.MaxInt} {
		f(k)
	}
}

// eachList hands over all lists of up to so many things of some.
func eachList[T any](most int, some []T, f func(l []T)) {
	var grow func(l []T)
	grow = func(l []T) {
		f(l)
		for i := 0; i < len(some) && len(l) < most; i++ {
			grow(append(slices.Clone(l), some[i]))
		}
	}
	grow(nil)
}

func TestP22_1Names(t *testing.T) {
	got := []int{keys.Left, keys.Right, keys.Up, keys.Down, keys.Home, keys.End, keys.Rubout, keys.Tab, keys.Return, keys.Enter, keys.Esc, keys.Delete}
	if want := []int{-1, -2, -3, -4, -5, -6, 8, 9, 10, 13, 27, 127}; !slices.Equal(got, want) {
		t.Errorf("%v, not %v", got, want)
	}
}

func TestP22_1Is(t *testing.T) {
	eachNumber(func(k int) {
		_, other := texts[k]
		if got, want := keys.Is(k), other || isCharacter(k); got != want {
			t.Fatalf("%d is a key: %v", k, got)
		}
	})
	for _, k := range []int{0, 28, 29, 30, 31, -7, 0xD800, 0xDFFF, 0x110000} {
		if keys.Is(k) {
			t.Errorf("%d is a key", k)
		}
	}
}

func TestP22_1Types(t *testing.T) {
	eachNumber(func(k int) {
		if got := keys.Types(k); got != isCharacter(k) {
			t.Fatalf("%d types: %v", k, got)
		}
	})
}

func TestP22_1Ctrl(t *testing.T) {
	for b := range 256 {
		want := 0
		if 'a' <= b && b <= 'z' {
			want = b - 'a' + 1
		}
		if got := keys.Ctrl(byte(b)); got != want {
			t.Errorf("Ctrl and %q: %d, not %d", rune(b), got, want)
		}
	}
}

func TestP22_1Text(t *testing.T) {
	eachNumber(func(k int) {
		if got := keys.Text(k); got != text(k) {
			t.Fatalf("%d: %q, not %q", k, got, text(k))
		}
	})
}

// several are keys of all kinds, and numbers that are none.
func several() []int {
	return []int{1, 8, 9, 10, 13, 26, 27, 32, '<', '>', 'C', 'a', '~', 127, 128, 0xE4, 0xFFFD, 0x10FFFF, -1, -6, 0, 28, -7, 0xD800, math.MaxInt, math.MinInt}
}

func TestP22_1Print(t *testing.T) {
	eachList(3, several(), func(l []int) {
		var want strings.Builder
		for _, k := range l {
			want.WriteString(text(k))
		}
		was := slices.Clone(l)
		if got := keys.Print(l); got != want.String() {
			t.Fatalf("%v: %q, not %q", l, got, want.String())
		}
		if !slices.Equal(l, was) {
			t.Fatalf("%v became %v", was, l)
		}
	})
}

// first tells, of all keys, those whose texts a text begins with.
func first(s string) []int {
	var l []int
	for k, x := range texts {
		if strings.HasPrefix(s, x) {
			l = append(l, k)
		}
	}
	if r, n := utf8.DecodeRuneInString(s); n > 0 && (r != utf8.RuneError || n > 1) && r != '<' && isCharacter(int(r)) {
		l = append(l, int(r))
	}
	return l
}

// rowsOf tells all rows of keys whose texts, one behind the other, are a text.
func rowsOf(s string) [][]int {
	if s == "" {
		return [][]int{nil}
	}
	var rows [][]int
	for _, k := range first(s) {
		for _, rest := range rowsOf(s[len(text(k)):]) {
			rows = append(rows, append([]int{k}, rest...))
		}
	}
	return rows
}

// checkParse says so, if a text's keys are not those that are printed so.
func checkParse(t *testing.T, s string) {
	t.Helper()
	got, err := keys.Parse(s)
	rows := rowsOf(s)
	switch len(rows) {
	case 0:
		if err != api.ErrForm || len(got) > 0 {
			t.Fatalf("%q: %v %d, not none", s, got, err)
		}
	case 1:
		if err != api.OK || !slices.Equal(got, rows[0]) {
			t.Fatalf("%q: %v %d, not %v", s, got, err, rows[0])
		}
		if again := keys.Print(got); again != s {
			t.Fatalf("%q is printed as %q", s, again)
		}
	default:
		t.Fatalf("%q: keys of several rows: %v", s, rows)
	}
}

func TestP22_2Brackets(t *testing.T) {
	eachList(5, []string{"<", ">", "C-", "l", "t", "i", "j", "h", "m", "Tab", "Up"}, func(l []string) {
		checkParse(t, strings.Join(l, ""))
	})
}

func TestP22_2Bytes(t *testing.T) {
	some := []string{"\x00", "\t", "\r", "\x1b", "\x1f", " ", "<", "z", "\x7f", "\x80", "\xbf", "\xc2", "\xc3", "\xa4", "\xef", "\xed", "\xa0", "\xf4", "\x8f", "\x90", "\xff", "\ufffd"}
	eachList(4, some, func(l []string) {
		checkParse(t, strings.Join(l, ""))
	})
	for b := range 256 {
		s := string([]byte{byte(b)})
		for _, s := range []string{s, "a" + s, s + "b", "<Esc>" + s, s + "<C-z>", "<" + s + ">", "<C-" + s + ">", "<C-a" + s} {
			checkParse(t, s)
		}
	}
}

// Each text of a key with a byte more, a byte less, or another one, alone and among others.
func TestP22_2Spoiled(t *testing.T) {
	eachOf := func(s string, f func(s string)) {
		f(s)
		for at := range len(s) + 1 {
			for _, x := range []string{"<", ">", "a", "C", "-", "T", "\xc3"} {
				f(s[:at] + x + s[at:])
				if at < len(s) {
					f(s[:at] + x + s[at+1:])
				}
			}
			if at < len(s) {
				f(s[:at] + s[at+1:])
				f(s[:at])
				f(s[:at] + strings.ToUpper(s[at:]))
				f(s[:at] + strings.ToLower(s[at:]))
			}
		}
	}
	for _, x := range texts {
		eachOf(x, func(s string) {
			checkParse(t, s)
			checkParse(t, "x"+s)
			checkParse(t, s+"<Up>")
		})
	}
}

func TestP22_2OfFew(t *testing.T) {
	for _, x := range []struct {
		s    string
		want []int
	}{
		{"", nil},
		{"<lt>Esc>", []int{'<', 'E', 's', 'c', '>'}},
		{"<C-a><C-z>>", []int{1, 26, '>'}},
		{"<C-j><CR><Tab><BS>", []int{keys.Return, keys.Enter, keys.Tab, keys.Rubout}},
		{"\u00e4\ufffd", []int{0xE4, 0xFFFD}},
		{"<Left><Right><Up><Down><Home><End><Del>", []int{-1, -2, -3, -4, -5, -6, 127}},
	} {
		if got, err := keys.Parse(x.s); err != api.OK || !slices.Equal(got, x.want) {
			t.Errorf("%q: %v %d, not %v", x.s, got, err, x.want)
		}
	}
	for _, s := range []string{
		"<", "a<", "<<", "<>", "<lt", "<<lt>", "<LT>", "<esc>", "<ESC>", "<Esc", "<Escape>", "<cr>", "<Enter>", "<Return>", "<Rubout>", "<Delete>", "<tab>",
		"<C-h>", "<C-i>", "<C-m>", "<C-A>", "<c-a>", "<C-[>", "<C-1>", "<C-lt>", "<C-<lt>>", "<C-ab>", "<C->", "<C-a", "<C a>", "<a>", "< >",
		"\n", "\t", "\r", "\x1b", "\x7f", "\x00", "\xff", "a\xc3", "\xc3", "\xed\xa0\x80", "\xf4\x90\x80\x80", "\xc0\xbc",
	} {
		if got, err := keys.Parse(s); err != api.ErrForm || len(got) > 0 {
			t.Errorf("%q: %v %d", s, got, err)
		}
	}
}

func TestP22_3EachKey(t *testing.T) {
	eachNumber(func(k int) {
		if !keys.Is(k) {
			return
		}
		for _, l := range [][]int{{k}, {k, k}, {'<', k, '>'}, {k, keys.Esc}} {
			if got, err := keys.Parse(keys.Print(l)); err != api.OK || !slices.Equal(got, l) {
				t.Fatalf("%v was printed %q, and parsed %v %d", l, keys.Print(l), got, err)
			}
		}
	})
}

func TestP22_3Rows(t *testing.T) {
	eachList(3, several(), func(l []int) {
		want := slices.DeleteFunc(slices.Clone(l), func(k int) bool { return !keys.Is(k) })
		if got, err := keys.Parse(keys.Print(l)); err != api.OK || !slices.Equal(got, want) {
			t.Fatalf("%v was printed %q, and parsed %v %d", l, keys.Print(l), got, err)
		}
	})
	long := slices.Repeat(several()[:20], 10000)
	if got, err := keys.Parse(keys.Print(long)); err != api.OK || !slices.Equal(got, long) {
		t.Errorf("a long row is parsed as one of %d keys: %d", len(got), err)
	}
}

func TestP1OwnMemory(t *testing.T) {
	const s = "a<Esc><lt>\u00e4"
	got, _ := keys.Parse(s)
	_ = append(got, 9, 9, 9)
	clear(got)
	if got, err := keys.Parse(s); err != api.OK || fmt.Sprint(got) != "[97 27 60 228]" {
		t.Errorf("written into an answer: %v %d", got, err)
	}
	if keys.Print(nil) != "" || keys.Print([]int{}) != "" {
		t.Error("no keys have a text")
	}
}

func TestP22Example(t *testing.T) {
	if got, err := keys.Parse("ix<Esc>"); err != api.OK || !slices.Equal(got, []int{105, 120, 27}) {
		t.Errorf("%v %d", got, err)
	}
}
