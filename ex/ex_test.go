package ex_test

import (
	"fmt"
	"math"
	"reflect"
	"regexp"
	"slices"
	"strconv"
	"strings"
	"testing"

	"damier/api"
	"damier/ex"
	"damier/filter"
	"damier/order"
)

// words are the words of lines, from sort to undo.
func words() map[int]string {
	return map[int]string{
		ex.Sort: "sort", ex.Filter: "filter", ex.Narrow: "narrow", ex.Col: "move", ex.Row: "row", ex.Flip: "transpose",
		ex.Upend: "upend", ex.Mirror: "mirror", ex.Write: "write", ex.Pad: "pad", ex.Undo: "undo",
	}
}

// same tells whether two lines are the same; an empty list is as none.
func same(x, y ex.Line) bool {
	l, m := x.By, y.By
	x.By, y.By = nil, nil
	return reflect.DeepEqual(x, y) && slices.Equal(l, m)
}

// lineText is a right line and its text.
type lineText struct {
	line ex.Line
	text string
}

// keyLists are rows of keys to sort by that are right, or none, and how they are told behind sort.
func keyLists() []lineText {
	most := order.By{Col: api.MaxCols - 1}
	return []lineText{
		{ex.Line{}, ""},
		{ex.Line{By: []order.By{}}, ""},
		{ex.Line{By: []order.By{{}}}, " 1"},
		{ex.Line{By: []order.By{{Down: true}}}, " -1"},
		{ex.Line{By: []order.By{{Col: 8}, {Col: 9, Down: true}}}, " 9 -10"},
		{ex.Line{By: []order.By{most}}, " 40"},
		{ex.Line{By: []order.By{{Col: 1}, {Col: 1}, {Col: 1, Down: true}}}, " 2 2 -2"},
		{ex.Line{By: []order.By{most, most, {Col: 39, Down: true}, {}}}, " 40 40 -40 1"},
	}
}

// tests are right tests, and their texts.
func tests() map[string]filter.Test {
	return map[string]filter.Test{
		"1~":         {},
		"2<10":       {Col: 1, Op: filter.Under, Arg: "10"},
		"!1?":        {Op: filter.Blank, Not: true},
		"40= a b ":   {Col: 39, Op: filter.Is, Arg: " a b "},
		"!9$/\\":     {Col: 8, Op: filter.Ends, Arg: "/\\", Not: true},
		"3^\xff\x00": {Col: 2, Op: filter.Begins, Arg: "\xff\x00"},
	}
}

// parts are texts that may stand between slashes, and how they stand there.
func parts() map[string]string {
	return map[string]string{
		"a": "a", "ab": "ab", "/": `\/`, `\`: `\\`, `\/`: `\\\/`, `/\`: `\/\\`, "//": `\/\/`, `\\`: `\\\\`, "a/b": `a\/b`,
		" ": " ", "g": "g", "%s": "%s", `\n`: `\\n`, "\t\x00\xff\xc3": "\t\x00\xff\xc3", "\"": "\"", "ä": "ä",
	}
}

// numbers are some that are right.
func numbers(least, most int) []int {
	l := []int{least, least + 1, 9, 10, most - 1, most}
	return slices.DeleteFunc(l, func(n int) bool { return n < least || n > most })
}

// rights are right lines of all Names, and their texts by the words.
func rights() []lineText {
	l := []lineText{{ex.Line{}, ""}}
	put := func(x ex.Line, text string) { l = append(l, lineText{x, text}) }
	for _, n := range numbers(1, api.MaxRows) {
		put(ex.Line{Name: ex.Goto, N: n}, strconv.Itoa(n))
		put(ex.Line{Name: ex.Row, N: n}, "row "+strconv.Itoa(n))
	}
	for _, n := range numbers(1, api.MaxCols) {
		put(ex.Line{Name: ex.Col, N: n}, "move "+strconv.Itoa(n))
	}
	for _, n := range numbers(0, math.MaxInt32) {
		put(ex.Line{Name: ex.Undo, N: n}, "undo "+strconv.Itoa(n))
	}
	for _, x := range keyLists() {
		x.line.Name = ex.Sort
		put(x.line, "sort"+x.text)
	}
	for name, word := range map[int]string{ex.Filter: "filter", ex.Narrow: "narrow"} {
		put(ex.Line{Name: name}, word)
		for text, test := range tests() {
			put(ex.Line{Name: name, Test: test, Has: true}, word+" "+text)
		}
	}
	for _, name := range []int{ex.Flip, ex.Upend, ex.Mirror, ex.Write, ex.Pad} {
		put(ex.Line{Name: name}, words()[name])
	}
	return append(l, substitutions()...)
}

// substitutions are right lines of the Name Subst, and their texts.
func substitutions() []lineText {
	var l []lineText
	with := parts()
	with[""] = ""
	for pat, stands := range parts() {
		for text, as := range with {
			x := ex.Line{Name: ex.Subst, Pat: pat, With: text}
			s := "s/" + stands + "/" + as + "/"
			l = append(l, lineText{x, s})
			x.Each = true
			l = append(l, lineText{x, s + "g"})
			x.Whole = true
			l = append(l, lineText{x, "%" + s + "g"})
			x.Each = false
			l = append(l, lineText{x, "%" + s})
		}
	}
	return l
}

func TestP25_1Numbers(t *testing.T) {
	all := []int{ex.None, ex.Goto, ex.Sort, ex.Filter, ex.Narrow, ex.Col, ex.Row, ex.Subst, ex.Flip, ex.Upend, ex.Mirror, ex.Write, ex.Pad, ex.Undo}
	for i, name := range all {
		if name != i {
			t.Errorf("%d is %d", i, name)
		}
	}
}

func TestP25_1RightAndPrint(t *testing.T) {
	for _, x := range rights() {
		if !ex.Right(x.line) {
			t.Errorf("%+v is not right", x.line)
		}
		if got := ex.Print(x.line); got != x.text {
			t.Errorf("%+v: %q, not %q", x.line, got, x.text)
		}
	}
}

// foreign are lines made of right ones that have something for which their Name does not ask.
func foreign() []ex.Line {
	var l []ex.Line
	put := func(x ex.Line, asked bool, change func(x *ex.Line)) {
		if !asked {
			change(&x)
			l = append(l, x)
		}
	}
	for _, r := range rights() {
		x := r.line
		numbered := slices.Contains([]int{ex.Goto, ex.Col, ex.Row, ex.Undo}, x.Name)
		tested := x.Name == ex.Filter || x.Name == ex.Narrow
		subst := x.Name == ex.Subst
		put(x, numbered, func(x *ex.Line) { x.N = 1 })
		put(x, numbered, func(x *ex.Line) { x.N = -1 })
		put(x, x.Name == ex.Sort, func(x *ex.Line) { x.By = []order.By{{}} })
		put(x, x.Name == ex.Sort, func(x *ex.Line) { x.By = []order.By{{Col: -1}} })
		put(x, tested, func(x *ex.Line) { x.Test.Col = 1 })
		put(x, tested, func(x *ex.Line) { x.Test.Op = filter.Blank })
		put(x, tested, func(x *ex.Line) { x.Test.Arg = "a" })
		put(x, tested, func(x *ex.Line) { x.Test.Not = true })
		put(x, tested, func(x *ex.Line) { x.Has = true })
		put(x, subst, func(x *ex.Line) { x.Whole = true })
		put(x, subst, func(x *ex.Line) { x.Each = true })
		put(x, subst, func(x *ex.Line) { x.Pat = "a" })
		put(x, subst, func(x *ex.Line) { x.With = "a" })
	}
	return l
}

// outside are numbers that lie outside of those from least to most.
func outside(least, most int) []int {
	return []int{math.MinInt, math.MinInt + 1, -1 << 32, -least - 1, least - 1, most + 1, most + 2, 1 << 32, 1<<32 + 1, math.MaxInt}
}

// wrongs are lines that are not right.
func wrongs() []ex.Line {
	l := foreign()
	put := func(x ex.Line) { l = append(l, x) }
	for _, name := range outside(ex.None, ex.Undo) {
		put(ex.Line{Name: name})
		put(ex.Line{Name: name, N: 1})
	}
	for _, x := range []struct{ name, least, most int }{{ex.Goto, 1, 400}, {ex.Row, 1, 400}, {ex.Col, 1, 40}, {ex.Undo, 0, 1<<31 - 1}} {
		for _, n := range outside(x.least, x.most) {
			put(ex.Line{Name: x.name, N: n})
		}
	}
	for _, col := range outside(0, api.MaxCols-1) {
		for _, down := range []bool{false, true} {
			k := order.By{Col: col, Down: down}
			put(ex.Line{Name: ex.Sort, By: []order.By{k}})
			put(ex.Line{Name: ex.Sort, By: []order.By{{}, {Col: 1}, {}, k}})
		}
	}
	for _, n := range []int{5, 6, 40, 1000} {
		put(ex.Line{Name: ex.Sort, By: make([]order.By, n)})
	}
	for _, name := range []int{ex.Filter, ex.Narrow} {
		for _, test := range []filter.Test{{Col: -1}, {Col: 40}, {Op: 7}, {Op: -1}, {Arg: "a\n"}, {Op: filter.Blank, Arg: "a"}} {
			put(ex.Line{Name: name, Has: true, Test: test})
			put(ex.Line{Name: name, Test: test})
		}
		for _, test := range tests() {
			if test != (filter.Test{}) {
				put(ex.Line{Name: name, Test: test})
			}
		}
	}
	for _, with := range []string{"", "a", "/"} {
		put(ex.Line{Name: ex.Subst, With: with})
		put(ex.Line{Name: ex.Subst, With: with, Whole: true, Each: true})
		for _, bad := range []string{"\n", "\r", "a\n", "\rb", "a\r\nb"} {
			put(ex.Line{Name: ex.Subst, Pat: bad, With: with})
			put(ex.Line{Name: ex.Subst, Pat: "a" + with, With: bad})
		}
	}
	return l
}

func TestP25_1Wrong(t *testing.T) {
	for _, x := range wrongs() {
		if ex.Right(x) {
			t.Errorf("%+v is right", x)
		}
		if got := ex.Print(x); got != "" {
			t.Errorf("%+v: %q", x, got)
		}
	}
}

// sized are lines of all Names that have texts of any length, right but for that, and their texts, of n bytes.
func sized(n int) []lineText {
	fill := func(ahead, behind string) string { return strings.Repeat("x", n-len(ahead)-len(behind)) }
	var l []lineText
	for name, word := range map[int]string{ex.Filter: "filter", ex.Narrow: "narrow"} {
		arg := fill(word+" 40=", "")
		l = append(l, lineText{ex.Line{Name: name, Has: true, Test: filter.Test{Col: 39, Op: filter.Is, Arg: arg}}, word + " 40=" + arg})
	}
	pat := fill("s/", "/y/g")
	l = append(l, lineText{ex.Line{Name: ex.Subst, Pat: pat, With: "y", Each: true}, "s/" + pat + "/y/g"})
	with := fill(`%s/\\`, `/\//`)
	l = append(l, lineText{ex.Line{Name: ex.Subst, Pat: `\` + with, With: "/", Whole: true}, `%s/\\` + with + `/\//`})
	pat = strings.Repeat("/", (n-5)/2)
	if n%2 == 1 {
		l = append(l, lineText{ex.Line{Name: ex.Subst, Pat: pat, With: "y"}, "s/" + strings.Repeat(`\/`, (n-5)/2) + "/y/"})
	}
	return l
}

func TestP25_1Length(t *testing.T) {
	for n := api.MaxLine - 4; n <= api.MaxLine; n++ {
		for _, x := range sized(n) {
			if len(x.text) != n || !ex.Right(x.line) || ex.Print(x.line) != x.text {
				t.Errorf("%d bytes: %+v: %v, %q", n, x.line, ex.Right(x.line), ex.Print(x.line))
			}
			if got, err := ex.Parse(x.text); err != api.OK || !same(got, x.line) {
				t.Errorf("%q: %+v, %d", x.text, got, err)
			}
		}
	}
	for n := api.MaxLine + 1; n <= api.MaxLine+6; n++ {
		for _, x := range sized(n) {
			if len(x.text) != n || ex.Right(x.line) || ex.Print(x.line) != "" {
				t.Errorf("%d bytes: %+v: %v, %q", n, x.line, ex.Right(x.line), ex.Print(x.line))
			}
		}
	}
}

// full tells by the words the word of which s is a beginning, and of no other one.
func full(s string) (string, bool) {
	var l []string
	for _, word := range words() {
		if len(s) <= len(word) && word[:len(s)] == s {
			l = append(l, word)
		}
	}
	if len(l) != 1 {
		return "", false
	}
	return l[0], true
}

// eachText hands over all texts of up to so many of some bytes.
func eachText(most int, letters string, f func(s string)) {
	var grow func(s string)
	grow = func(s string) {
		f(s)
		for i := 0; i < len(letters) && len(s) < most; i++ {
			grow(s + letters[i:i+1])
		}
	}
	grow("")
}

func TestP25_1Full(t *testing.T) {
	check := func(s string) {
		want, is := full(s)
		if got, ok := ex.Full(s); got != want || ok != is {
			t.Errorf("%q: %q, %v, not %q, %v", s, got, ok, want, is)
		}
	}
	eachText(3, "acdefgilmnoprstuvwxyz S/%1 ", check)
	for _, word := range words() {
		for n := range len(word) + 1 {
			for _, behind := range []string{"", " ", "x", word, "\x00"} {
				check(word[:n] + behind)
				check(behind + word[:n])
				check(strings.ToUpper(word[:n]) + behind)
			}
		}
	}
	check(strings.Repeat("sort", 1000))
}

func TestP25_1FullExamples(t *testing.T) {
	for s, want := range map[string]string{
		"s": "sort", "so": "sort", "sort": "sort", "f": "filter", "n": "narrow", "mo": "move", "mi": "mirror", "r": "row", "t": "transpose",
		"up": "upend", "un": "undo", "w": "write", "p": "pad", "": "", "m": "", "u": "", "s/": "", "%s/": "", "sorts": "", "1": "", "x": "", "%": "", " ": "", "S": "",
	} {
		if got, ok := ex.Full(s); got != want || ok != (want != "") {
			t.Errorf("%q: %q, %v", s, got, ok)
		}
	}
}

func TestP25_3PrintedIsParsed(t *testing.T) {
	texts := map[string]ex.Line{}
	for _, x := range rights() {
		got, err := ex.Parse(ex.Print(x.line))
		if err != api.OK || !same(got, x.line) {
			t.Errorf("%q: %+v, %d, not %+v", x.text, got, err, x.line)
		}
		if old, there := texts[x.text]; there && !same(old, x.line) {
			t.Errorf("%q is the text of %+v and of %+v", x.text, old, x.line)
		}
		texts[x.text] = x.line
	}
}

// forms are how the texts of lines with their words in full look, but for how great numbers may be.
type forms struct{ number, sort, filter, move, plain, subst *regexp.Regexp }

func newForms() forms {
	return forms{
		number: regexp.MustCompile(`^[1-9][0-9]*$`),
		sort:   regexp.MustCompile(`^sort((?: -?[1-9][0-9]*){0,4})$`),
		filter: regexp.MustCompile(`^(?s)(filter|narrow)(?: (.*))?$`),
		move:   regexp.MustCompile(`^(move|row|undo) (0|[1-9][0-9]*)$`),
		plain:  regexp.MustCompile(`^(transpose|upend|mirror|write|pad)$`),
		subst:  regexp.MustCompile(`^(%?)s/((?:[^/\\\n\r]|\\[/\\])+)/((?:[^/\\\n\r]|\\[/\\])*)/(g?)$`),
	}
}

// count tells a number, if it is not above most; else 0, and false.
func count(s string, most int) (int, bool) {
	n, err := strconv.Atoi(s)
	if err != nil || n > most {
		return 0, false
	}
	return n, true
}

// named tells the Name of a word.
func named(word string) int {
	for name, x := range words() {
		if x == word {
			return name
		}
	}
	return ex.None
}

// read tells by the words the line whose text s is, with its word in full; false, if there is none.
func (f forms) read(s string) (ex.Line, bool) {
	none := ex.Line{}
	if s == "" {
		return none, true
	}
	if f.number.MatchString(s) {
		n, ok := count(s, api.MaxRows)
		return ex.Line{Name: ex.Goto, N: n}, ok
	}
	if m := f.sort.FindStringSubmatch(s); m != nil {
		x := ex.Line{Name: ex.Sort}
		for _, key := range strings.Fields(m[1]) {
			n, ok := count(strings.TrimPrefix(key, "-"), api.MaxCols)
			if !ok {
				return none, false
			}
			x.By = append(x.By, order.By{Col: n - 1, Down: key[0] == '-'})
		}
		return x, true
	}
	if m := f.filter.FindStringSubmatch(s); m != nil {
		if s == m[1] {
			return ex.Line{Name: named(m[1])}, true
		}
		test, err := filter.Parse(m[2])
		return ex.Line{Name: named(m[1]), Has: true, Test: test}, err == api.OK
	}
	if m := f.move.FindStringSubmatch(s); m != nil {
		x := ex.Line{Name: named(m[1])}
		least, most := 1, map[int]int{ex.Col: api.MaxCols, ex.Row: api.MaxRows, ex.Undo: math.MaxInt32}[x.Name]
		if x.Name == ex.Undo {
			least = 0
		}
		n, ok := count(m[2], most)
		x.N = n
		return x, ok && n >= least
	}
	if m := f.plain.FindStringSubmatch(s); m != nil {
		return ex.Line{Name: named(m[1])}, true
	}
	if m := f.subst.FindStringSubmatch(s); m != nil {
		plain := strings.NewReplacer(`\\`, `\`, `\/`, `/`)
		return ex.Line{Name: ex.Subst, Whole: m[1] != "", Pat: plain.Replace(m[2]), With: plain.Replace(m[3]), Each: m[4] != ""}, true
	}
	return none, false
}

// parse tells by the words what a text is parsed as.
func (f forms) parse(s string) (ex.Line, api.Errno) {
	if len(s) > api.MaxLine {
		return ex.Line{}, api.ErrLong
	}
	word := strings.SplitN(s, " ", 2)[0]
	inFull, is := full(word)
	if is {
		if x, ok := f.read(inFull + s[len(word):]); ok {
			return x, api.OK
		}
		return ex.Line{}, api.ErrForm
	}
	if x, ok := f.read(s); ok {
		return x, api.OK
	}
	if s[0] >= '0' && s[0] <= '9' || strings.HasPrefix(s, "s/") || strings.HasPrefix(s, "%s/") {
		return ex.Line{}, api.ErrForm
	}
	return ex.Line{}, api.ErrCmd
}

// check says so, if a text is parsed otherwise than the words have it.
func (f forms) check(t *testing.T, s string) {
	t.Helper()
	want, wrong := f.parse(s)
	if got, err := ex.Parse(s); err != wrong || !same(got, want) {
		t.Fatalf("%q: %+v, %d, not %+v, %d", s, got, err, want, wrong)
	}
}

// All texts of up to so many of some bytes.
func TestP25_2ParseShort(t *testing.T) {
	f := newForms()
	for _, letters := range []string{"s/\\g%a", "so -012", "s/a\ng", "un 019-", "fn 1?!~"} {
		eachText(6, letters, func(s string) { f.check(t, s) })
	}
	for _, ahead := range []string{"sort", "filter", "narrow", "move", "row", "undo", "write", "m", "mo", "up", "sort 1 -2 3", "filter 2<", "s/a/", "%s/a/", "s/"} {
		eachText(4, " -014/\\ag~\n", func(s string) { f.check(t, ahead+s) })
	}
	eachText(4, "0123456789", func(s string) {
		f.check(t, s)
		f.check(t, "move "+s)
		f.check(t, "r "+s)
		f.check(t, "s "+s)
		f.check(t, "undo "+s)
	})
}

// All texts that are right but for one byte: one more, one less, or another one.
func TestP25_2ParseOneOff(t *testing.T) {
	f := newForms()
	l := rights()
	for n := api.MaxLine - 2; n <= api.MaxLine+1; n++ {
		l = append(l, sized(n)...)
	}
	for _, x := range l {
		s := x.text
		f.check(t, s)
		for i := range len(s) + 1 {
			if i < len(s) {
				f.check(t, s[:i]+s[i+1:])
			}
			for _, c := range []string{"/", "\\", " ", "-", "0", "1", "g", "s", "%", "x", "\n", "\r", "\xff"} {
				f.check(t, s[:i]+c+s[i:])
				if i < len(s) {
					f.check(t, s[:i]+c+s[i+1:])
				}
			}
		}
	}
}

// All beginnings of words ahead of what stands behind them.
func TestP25_2ParseBeginnings(t *testing.T) {
	f := newForms()
	for _, x := range rights() {
		word, behind, _ := strings.Cut(x.text, " ")
		if words()[x.line.Name] != word {
			continue
		}
		for n := range len(word) + 1 {
			s := word[:n] + x.text[len(word):]
			f.check(t, s)
			got, err := ex.Parse(s)
			if _, is := full(word[:n]); is && (err != api.OK || !same(got, x.line)) {
				t.Errorf("%q: %+v, %d, not %+v", s, got, err, x.line)
			}
			f.check(t, word[:n]+"  "+behind)
			f.check(t, " "+s)
		}
	}
}

// A text of MaxLine bytes whose word is not in full is read, though in full it has more.
func TestP25_2ParseLongInFull(t *testing.T) {
	f := newForms()
	for n := api.MaxLine - 6; n <= api.MaxLine+6; n++ {
		for _, word := range []string{"f", "fil", "filter", "n", "narro"} {
			arg := strings.Repeat("x", n-len(word)-3)
			s := word + " 2=" + arg
			f.check(t, s)
			got, err := ex.Parse(s)
			if n > api.MaxLine {
				if err != api.ErrLong {
					t.Errorf("%q: %d", s, err)
				}
				continue
			}
			inFull, _ := full(word)
			want := ex.Line{Name: named(inFull), Has: true, Test: filter.Test{Col: 1, Op: filter.Is, Arg: arg}}
			if err != api.OK || !same(got, want) {
				t.Errorf("%q: %+v, %d", s, got, err)
			}
			if fits := len(inFull)+3+len(arg) <= api.MaxLine; ex.Right(got) != fits || (ex.Print(got) != "") != fits {
				t.Errorf("%q: right is %v, printed it is %q", s, ex.Right(got), ex.Print(got))
			}
		}
	}
}

func TestP25_2ParseLong(t *testing.T) {
	for _, n := range []int{api.MaxLine + 1, api.MaxLine + 2, 5000} {
		for _, s := range []string{"1", "s/", "x", " ", "\n", "/"} {
			if x, err := ex.Parse(strings.Repeat(s, n)); err != api.ErrLong || !same(x, ex.Line{}) {
				t.Errorf("%d times %q: %+v, %d", n, s, x, err)
			}
		}
	}
	for s, want := range map[string]api.Errno{"1": api.ErrForm, "x": api.ErrCmd, " ": api.ErrCmd} {
		if x, err := ex.Parse(strings.Repeat(s, api.MaxLine)); err != want || !same(x, ex.Line{}) {
			t.Errorf("%d times %q: %+v, %d", api.MaxLine, s, x, err)
		}
	}
}

func TestP25_2ParseWrong(t *testing.T) {
	for want, l := range map[api.Errno][]string{
		api.ErrForm: {
			"0", "00", "01", "401", "1 ", "1a", "4000", "18446744073709551617", "9223372036854775808", "4294967297", "1s/a/b/",
			"sort ", "sort 0", "sort 41", "sort 01", "sort +1", "sort --1", "sort - 1", "sort -", "sort -0", "sort 1 ", "sort  1", "sort 1  2", "sort 1 2 3 4 5", "sort a", "sort 1,2", "s ", "s 0",
			"sort --9223372036854775808", "sort -9223372036854775809", "sort 18446744073709551617", "sort 1\n",
			"filter ", "filter 0?", "filter 41?", "filter  1?", "filter 1", "filter a", "filter 1?x", "narrow ", "narrow 1=\n", "f 1=\r", "n x",
			"move", "move ", "move 0", "move 41", "move 01", "move  1", "move 1 ", "move +1", "move -1", "mo x", "move 1 1",
			"row", "row 0", "row 401", "r 0400", "row 4294967297",
			"transpose ", "transpose 1", "upend x", "mirror ", "write x", "write ", "pad 1", "p ",
			"undo", "undo ", "undo -1", "undo 00", "undo 2147483648", "undo 2147483649", "undo 4294967296", "undo 9223372036854775808", "undo +0", "undo -0", "un 01",
			"s/", "s//", "s///", "s//b/", "s/a", "s/a/", "s/a/b", "s/a/b/x", "s/a/b/gg", "s/a/b/ ", "s/a/b/g ", "s/a/b//", "s/a/b/c/", `s/a\/b`, `s/a\b/c/`, `s/a/\b/`, `s/a/b\/`, `s/a/b/\`, `s/a/b/\g`, `s/\`,
			"s/a\n/b/", "s/a/\r/", "%s/", "%s//b/", "%s/a/b", "%s/a/b/%", "s/a/b/%",
		},
		api.ErrCmd: {
			" ", "  ", " 1", "-1", "+1", "x", "m", "m 1", "u", "u 0", "sorts", "sort\t1", "sort\n", "sort-1", "sort1", "sor1", "Sort", "SORT 1", " sort", "filter2<10", "filters 1?", "movex 1", "rows 1", "tr/a/b/",
			"%", "%%s/a/b/", "%s", "%sort", "% s/a/b/", "%S/a/b/", "S/a/b/", " s/a/b/", "/", "/a/b/", "\\", "g", "\n", "\x00", "\xff", "a/b", "undo1", "q", "?", "-", "sort/", "so/a/b/",
		},
	} {
		for _, s := range l {
			if x, err := ex.Parse(s); err != want || !same(x, ex.Line{}) {
				t.Errorf("%q: %+v, %d, not %d", s, x, err, want)
			}
		}
	}
}

func TestP25Examples(t *testing.T) {
	for text, want := range map[string]ex.Line{
		"so -2":         {Name: ex.Sort, By: []order.By{{Col: 1, Down: true}}},
		`%s/a\/b/c/g`:   {Name: ex.Subst, Pat: "a/b", With: "c", Whole: true, Each: true},
		"":              {},
		"400":           {Name: ex.Goto, N: 400},
		"s":             {Name: ex.Sort},
		"sort 1 -40":    {Name: ex.Sort, By: []order.By{{}, {Col: 39, Down: true}}},
		"filter":        {Name: ex.Filter},
		"f 2<10":        {Name: ex.Filter, Has: true, Test: filter.Test{Col: 1, Op: filter.Under, Arg: "10"}},
		"narrow 1~":     {Name: ex.Narrow, Has: true},
		"n !1?":         {Name: ex.Narrow, Has: true, Test: filter.Test{Op: filter.Blank, Not: true}},
		"mo 40":         {Name: ex.Col, N: 40},
		"r 1":           {Name: ex.Row, N: 1},
		"t":             {Name: ex.Flip},
		"upe":           {Name: ex.Upend},
		"mirr":          {Name: ex.Mirror},
		"w":             {Name: ex.Write},
		"pa":            {Name: ex.Pad},
		"und 0":         {Name: ex.Undo},
		"un 2147483647": {Name: ex.Undo, N: 1<<31 - 1},
		"s/a b//":       {Name: ex.Subst, Pat: "a b"},
		`s/\\/\//`:      {Name: ex.Subst, Pat: `\`, With: "/"},
		"%s/ / /":       {Name: ex.Subst, Pat: " ", With: " ", Whole: true},
	} {
		if got, err := ex.Parse(text); err != api.OK || !same(got, want) {
			t.Errorf("%q: %+v, %d, not %+v", text, got, err, want)
		}
	}
}

func TestP1ExOwnMemory(t *testing.T) {
	by := []order.By{{Col: 3}, {Col: 1, Down: true}}
	x := ex.Line{Name: ex.Sort, By: by}
	s := ex.Print(x)
	if !ex.Right(x) || !slices.Equal(by, []order.By{{Col: 3}, {Col: 1, Down: true}}) {
		t.Errorf("the keys became %+v", by)
	}
	one, _ := ex.Parse(s)
	two, _ := ex.Parse(s)
	one.By[0] = order.By{Col: 9}
	_ = append(one.By[:1], order.By{Col: 8})
	if !slices.Equal(two.By, by) || ex.Print(two) != s {
		t.Errorf("%+v", two)
	}
	if three, _ := ex.Parse(s); !same(three, two) {
		t.Errorf("%+v", three)
	}
}

func TestP1ExAnyArguments(t *testing.T) {
	long := strings.Repeat("\\/\n", 1<<16)
	for _, name := range append(outside(ex.None, ex.Undo), ex.None, ex.Goto, ex.Sort, ex.Filter, ex.Narrow, ex.Col, ex.Row, ex.Subst, ex.Flip, ex.Undo) {
		for _, n := range outside(0, 1) {
			for _, s := range []string{"", "\xff\xfe", "\x00", long} {
				x := ex.Line{Name: name, N: n, By: make([]order.By, 1<<16), Test: filter.Test{Col: n, Op: n, Arg: s, Not: true}, Has: true, Whole: true, Each: true, Pat: s, With: s}
				y := ex.Line{Name: name, By: []order.By{{Col: n}}, Pat: long, With: s}
				z := ex.Line{Name: name, Pat: "a" + s, With: strings.ReplaceAll(s, "\n", "")}
				for _, line := range []ex.Line{x, y, z} {
					if ex.Right(line) != (ex.Print(line) != "" || same(line, ex.Line{})) {
						t.Errorf("%s", fmt.Sprintf("%+v", line)[:60])
					}
				}
			}
		}
	}
	for c := range 256 {
		for _, s := range []string{"%c", "s/%c", "sort %c", "%c1", "%cs/a/b/", "s/a/b/%c", "filter %c", "\\%c"} {
			ex.Parse(strings.ReplaceAll(s, "%c", string([]byte{byte(c)})))
			ex.Full(strings.ReplaceAll(s, "%c", string([]byte{byte(c)})))
		}
	}
	ex.Parse(long)
	ex.Full(long)
}
