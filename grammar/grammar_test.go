package grammar_test

import (
	"fmt"
	"math"
	"slices"
	"testing"

	"damier/api"
	"damier/grammar"
	"damier/keys"
)

// tail is a row of keys that makes a command, without its counts and registers.
type tail struct {
	keys     []int
	op, verb int
	char     int
}

// pair is the verb of two keys.
func pair(first, second int) int {
	return 256*first + second
}

// motions are by the words the rows of keys of motions.
func motions() []tail {
	var l []tail
	for _, k := range "hjkl0$wb{}GHLnN" {
		l = append(l, tail{keys: []int{int(k)}, verb: int(k)})
	}
	for k, same := range map[int]int{keys.Left: 'h', keys.Right: 'l', keys.Up: 'k', keys.Down: 'j', keys.Home: '0', keys.End: '$'} {
		l = append(l, tail{keys: []int{k}, verb: same})
	}
	return append(l, tail{keys: []int{'g', 'g'}, verb: pair('g', 'g')})
}

// alone are rows of one key each.
func alone(some string) []tail {
	var l []tail
	for _, k := range some {
		l = append(l, tail{keys: []int{int(k)}, verb: int(k)})
	}
	return l
}

// behindOp are by the words the rows of keys behind an operator.
func behindOp(op int) []tail {
	l := append(motions(), tail{keys: []int{op}, verb: op})
	for _, k := range "crlbt" {
		l = append(l, tail{keys: []int{'i', int(k)}, verb: pair('i', int(k))})
	}
	for i := range l {
		l[i].op = op
	}
	return l
}

// normal are by the words the rows of keys without an operator in the normal way.
func normal(recording bool) []tail {
	l := append(motions(), alone("xpPoOu.iaIAvV:/\x16\x12\x04\x15")...)
	for k := 'a'; k <= 'z'; k++ {
		l = append(l, tail{keys: []int{'@', int(k)}, verb: '@', char: int(k)})
		if !recording {
			l = append(l, tail{keys: []int{'q', int(k)}, verb: 'q', char: int(k)})
		}
	}
	if recording {
		l = append(l, tail{keys: []int{'q'}, verb: 'q'})
	}
	for _, k := range "-+iadhljk" {
		l = append(l, tail{keys: []int{'g', int(k)}, verb: pair('g', int(k))})
	}
	return l
}

// visual are by the words the rows of keys in the visual way.
func visual() []tail {
	return append(motions(), alone("dxycpovV:\x16\x04\x15")...)
}

// stand is how things stand when keys come: all of them alike.
type stand struct {
	way       int
	recording bool
}

// stands are all of these.
func stands() []stand {
	return []stand{{grammar.Normal, false}, {grammar.Normal, true}, {grammar.Visual, false}, {grammar.Visual, true}}
}

// tables are all rows of keys of commands, by how things stand and by the operator (0: none).
type tables map[stand]map[int][]tail

func newTables() tables {
	m := tables{}
	for _, s := range stands() {
		m[s] = map[int][]tail{}
		if s.way == grammar.Visual {
			m[s][0] = visual()
			continue
		}
		m[s][0] = normal(s.recording)
		for _, op := range "dyc" {
			m[s][int(op)] = behindOp(int(op))
		}
	}
	return m
}

// counted takes the digits off with which a row of keys begins, if the first one is not 0: the rest, and the count times n; false, if it is too great.
func counted(l []int, n int) ([]int, int, bool) {
	if len(l) == 0 || l[0] < '1' || l[0] > '9' {
		return l, n, true
	}
	more := 0
	for len(l) > 0 && '0' <= l[0] && l[0] <= '9' {
		more = 10*more + l[0] - '0'
		if more*max(n, 1) > api.MaxCount {
			return nil, 0, false
		}
		l = l[1:]
	}
	return l, more * max(n, 1), true
}

// comes tells by the words what a row of keys comes to, if all its beginnings come to more.
func (m tables) comes(l []int, s stand) (grammar.Cmd, int, api.Errno) {
	c := grammar.Cmd{}
	ok := true
	for len(l) > 0 && (l[0] == '"' || '1' <= l[0] && l[0] <= '9') {
		if l[0] != '"' {
			if l, c.Count, ok = counted(l, c.Count); !ok {
				return grammar.Cmd{}, grammar.Wrong, api.ErrRange
			}
			continue
		}
		if len(l) == 1 {
			return grammar.Cmd{}, grammar.More, api.OK
		}
		if l[1] < 'A' || 'Z' < l[1] && l[1] < 'a' || l[1] > 'z' {
			return grammar.Cmd{}, grammar.Wrong, api.ErrKey
		}
		c.Reg, l = l[1], l[2:]
	}
	if len(l) > 0 && l[0] != 0 && len(m[s][l[0]]) > 0 {
		c.Op, l = l[0], l[1:]
		if l, c.Count, ok = counted(l, c.Count); !ok {
			return grammar.Cmd{}, grammar.Wrong, api.ErrRange
		}
	}
	return ends(m[s][c.Op], l, c)
}

// ends tells what a row of keys behind all counts and registers comes to.
func ends(some []tail, l []int, c grammar.Cmd) (grammar.Cmd, int, api.Errno) {
	if len(l) == 0 {
		return grammar.Cmd{}, grammar.More, api.OK
	}
	begins := false
	for _, x := range some {
		switch {
		case slices.Equal(x.keys, l):
			c.Op, c.Verb, c.Char = x.op, x.verb, x.char
			return c, grammar.Done, api.OK
		case len(l) < len(x.keys) && slices.Equal(x.keys[:len(l)], l):
			begins = true
		}
	}
	if begins {
		return grammar.Cmd{}, grammar.More, api.OK
	}
	return grammar.Cmd{}, grammar.Wrong, api.ErrKey
}

// takes hands a key to a parser of which pending is begun, says so, if it tells anything else than the words have it, and tells what is begun then.
func (m tables) takes(t *testing.T, p *grammar.Parser, pending []int, k int, s stand) []int {
	t.Helper()
	want, wantComes, wantErr := grammar.Cmd{}, grammar.More, api.OK
	l := append(slices.Clone(pending), k)
	if k != keys.Esc {
		want, wantComes, wantErr = m.comes(l, s)
	}
	c, comes, err := p.Key(k, s.way, s.recording)
	if c != want || comes != wantComes || err != wantErr {
		t.Fatalf("%v %q: %v %d %d, not %v %d %d", s, keys.Print(l), c, comes, err, want, wantComes, wantErr)
	}
	if comes != grammar.More || k == keys.Esc {
		l = nil
	}
	if got := p.Pending(); !slices.Equal(got, l) {
		t.Fatalf("%v %q: begun is %v, not %v", s, keys.Print(append(slices.Clone(pending), k)), got, l)
	}
	return l
}

// after tells a parser of which some keys are begun.
func after(t *testing.T, l []int, s stand) *grammar.Parser {
	t.Helper()
	p := grammar.New()
	for _, k := range l {
		if c, comes, err := p.Key(k, s.way, s.recording); c != (grammar.Cmd{}) || comes != grammar.More || err != api.OK {
			t.Fatalf("%v %q: %v %d %d", s, keys.Print(l), c, comes, err)
		}
	}
	return p
}

// eachBegun hands over all rows of up to so many keys of some that are begun and make nothing yet.
func (m tables) eachBegun(most int, some []int, s stand, f func(l []int)) {
	var grow func(l []int)
	grow = func(l []int) {
		f(l)
		for i := 0; i < len(some) && len(l) < most; i++ {
			next := append(slices.Clone(l), some[i])
			if _, comes, _ := m.comes(next, s); comes == grammar.More {
				grow(next)
			}
		}
	}
	grow(nil)
}

// beginners are keys of all kinds by which a command may be begun, and of its counts and registers.
func beginners() []int {
	return []int{'0', '1', '2', '9', '"', 'a', 'z', 'A', 'Z', 'd', 'y', 'c', 'i', 'g', 'q', '@'}
}

// numbers are numbers of all kinds, and all keys of few bits.
func numbers() []int {
	var l []int
	for k := -10; k < 300; k++ {
		l = append(l, k)
	}
	for _, k := range []int{'"', '1', '0', 'd', 'g', 'i', 'q', 'a', 'w', 'x', keys.Esc, keys.Left} {
		// Of the same last bits as keys that mean something.
		l = append(l, k+1<<8, k+1<<16, k+1<<31, k+1<<32, k-1<<8, k-1<<32, k+math.MinInt, -k-1, ^k)
	}
	return append(l, pair('g', 'g'), pair('i', 'c'), 0xFFFD, 0x10FFFF, math.MinInt, math.MaxInt, math.MaxInt-'a')
}

func TestP24_1Names(t *testing.T) {
	if grammar.Normal != 0 || grammar.Visual != 1 || grammar.More != 0 || grammar.Done != 1 || grammar.Wrong != 2 {
		t.Error("the numbers of ways, or of what comes")
	}
}

// All numbers behind all short rows that begin a command, and one behind these again.
func TestP24_1EachKey(t *testing.T) {
	m, all := newTables(), numbers()
	for _, s := range stands() {
		m.eachBegun(2, beginners(), s, func(l []int) {
			for i, k := range all {
				p := after(t, l, s)
				rest := m.takes(t, p, l, k, s)
				for _, k := range []int{all[i*7%len(all)], 'x', 'g', 'g', '"', '2', keys.Esc, 'l'} {
					rest = m.takes(t, p, rest, k, s)
				}
			}
		})
	}
}

// All short rows of keys of few kinds, and some keys behind each.
func TestP24_1ShortRows(t *testing.T) {
	m := newTables()
	for _, s := range stands() {
		m.eachBegun(5, []int{'0', '3', '7', '"', 'a', 'B', 'd', 'c', 'g', 'i', '@'}, s, func(l []int) {
			for _, k := range []int{'0', '1', '"', 'a', 'Z', 'd', 'c', 'g', 'i', 'q', 'x', 'w', 'l', '-', keys.Home, keys.Left, keys.Esc, keys.Ctrl('v'), 0} {
				m.takes(t, after(t, l, s), l, k, s)
			}
		})
	}
}

// mixed tells n numbers from 0 to ahead of most that come in no order.
func mixed(n, most int) []int {
	l, x := make([]int, n), uint32(n)
	for i := range l {
		x = x*1664525 + 1013904223
		l[i] = int(x>>8) % most
	}
	return l
}

// Long rows of commands, wrong keys among them; how things stand is another one whenever nothing is begun.
func TestP24_1LongRow(t *testing.T) {
	m, all := newTables(), stands()
	some := append(beginners(), '"', '"', '1', '3', 'd', 'w', 'g', '-', 'x', 'l', ':', 'v', '%', keys.Esc, keys.Ctrl('d'), keys.Down)
	p, s := grammar.New(), stand{}
	var pending []int
	for i, x := range mixed(200000, len(some)) {
		if len(pending) == 0 {
			s = all[i%len(all)]
		}
		pending = m.takes(t, p, pending, some[x], s)
	}
}

// Any number but Visual counts as Normal.
func TestP24_1Ways(t *testing.T) {
	for _, way := range []int{grammar.Normal, 2, -1, 1 << 8, 1<<8 + 1, 1<<32 + 1, math.MinInt, math.MaxInt} {
		p := grammar.New()
		p.Key('d', way, false)
		if c, comes, err := p.Key('w', way, false); c != (grammar.Cmd{Op: 'd', Verb: 'w'}) || comes != grammar.Done || err != api.OK {
			t.Errorf("the way %d: %v %d %d", way, c, comes, err)
		}
		if c, comes, err := p.Key('u', way, false); c != (grammar.Cmd{Verb: 'u'}) || comes != grammar.Done || err != api.OK {
			t.Errorf("the way %d: %v %d %d", way, c, comes, err)
		}
	}
}

// row tells the keys of a text of them.
func row(t *testing.T, s string) []int {
	t.Helper()
	l, err := keys.Parse(s)
	if err != api.OK {
		t.Fatal(s, err)
	}
	return l
}

// last hands a row of keys to a new parser: what the last one comes to.
func last(t *testing.T, s string, st stand) (grammar.Cmd, int, api.Errno) {
	t.Helper()
	l := row(t, s)
	p := after(t, l[:len(l)-1], st)
	return p.Key(l[len(l)-1], st.way, st.recording)
}

func TestP24_1OfFew(t *testing.T) {
	type cmd = grammar.Cmd
	plain, recorded, selected := stand{}, stand{recording: true}, stand{way: grammar.Visual}
	for _, x := range []struct {
		keys string
		at   stand
		want cmd
	}{
		{"j", plain, cmd{Verb: 'j'}},
		{"0", plain, cmd{Verb: '0'}},
		{"10j", plain, cmd{Verb: 'j', Count: 10}},
		{`2"a0`, plain, cmd{Verb: '0', Count: 2, Reg: 'a'}},
		{"7<Home>", plain, cmd{Verb: '0', Count: 7}},
		{"<End>", plain, cmd{Verb: '$'}},
		{"3gg", plain, cmd{Verb: pair('g', 'g'), Count: 3}},
		{"g-", plain, cmd{Verb: pair('g', '-')}},
		{`"a"B"cx`, plain, cmd{Verb: 'x', Reg: 'c'}},
		{`2"a3"B4dd`, plain, cmd{Op: 'd', Verb: 'd', Count: 24, Reg: 'B'}},
		{"2d3d", plain, cmd{Op: 'd', Verb: 'd', Count: 6}},
		{"d20<Left>", plain, cmd{Op: 'd', Verb: 'h', Count: 20}},
		{"d0", plain, cmd{Op: 'd', Verb: '0'}},
		{"5y0", plain, cmd{Op: 'y', Verb: '0', Count: 5}},
		{"cib", plain, cmd{Op: 'c', Verb: pair('i', 'b')}},
		{"y12gg", plain, cmd{Op: 'y', Verb: pair('g', 'g'), Count: 12}},
		{"dn", plain, cmd{Op: 'd', Verb: 'n'}},
		{"4qa", plain, cmd{Verb: 'q', Count: 4, Char: 'a'}},
		{"q", recorded, cmd{Verb: 'q'}},
		{"2q", recorded, cmd{Verb: 'q', Count: 2}},
		{"@q", recorded, cmd{Verb: '@', Char: 'q'}},
		{"2@z", plain, cmd{Verb: '@', Count: 2, Char: 'z'}},
		{"<C-r>", plain, cmd{Verb: 18}},
		{"d", selected, cmd{Verb: 'd'}},
		{`3"Ac`, selected, cmd{Verb: 'c', Count: 3, Reg: 'A'}},
		{"2gg", selected, cmd{Verb: pair('g', 'g'), Count: 2}},
		{"<Up>", selected, cmd{Verb: 'k'}},
		{"<C-v>", selected, cmd{Verb: 22}},
	} {
		if c, comes, err := last(t, x.keys, x.at); c != x.want || comes != grammar.Done || err != api.OK {
			t.Errorf("%v %s: %v %d %d, not %v", x.at, x.keys, c, comes, err, x.want)
		}
	}
	for _, x := range []struct {
		keys string
		at   stand
		want api.Errno
	}{
		{"%", plain, api.ErrKey}, {"<CR>", plain, api.ErrKey}, {"<Del>", plain, api.ErrKey}, {"<C-a>", plain, api.ErrKey}, {"D", plain, api.ErrKey},
		{`""`, plain, api.ErrKey}, {`"1`, plain, api.ErrKey}, {`"<Left>`, plain, api.ErrKey}, {"\"\u00e4", plain, api.ErrKey},
		{"dy", plain, api.ErrKey}, {`d"`, plain, api.ErrKey}, {"dx", plain, api.ErrKey}, {"di0", plain, api.ErrKey}, {"dia", plain, api.ErrKey}, {"dg-", plain, api.ErrKey}, {"d2i2", plain, api.ErrKey},
		{"gx", plain, api.ErrKey}, {"g2", plain, api.ErrKey}, {"g<Left>", plain, api.ErrKey}, {"qA", plain, api.ErrKey}, {"q1", plain, api.ErrKey}, {"@@", plain, api.ErrKey},
		{"u", selected, api.ErrKey}, {"i", selected, api.ErrKey}, {"/", selected, api.ErrKey}, {"q", selected, api.ErrKey}, {"@", selected, api.ErrKey}, {"gd", selected, api.ErrKey}, {"<C-r>", selected, api.ErrKey}, {"P", selected, api.ErrKey},
		{"10000", plain, api.ErrRange}, {"99999", selected, api.ErrRange}, {"d10000", plain, api.ErrRange}, {"5000d2", plain, api.ErrRange}, {`3333"a4`, plain, api.ErrRange}, {`100"a100`, selected, api.ErrRange},
	} {
		l := row(t, x.keys)
		p := after(t, l[:len(l)-1], x.at)
		if c, comes, err := p.Key(l[len(l)-1], x.at.way, x.at.recording); c != (cmd{}) || comes != grammar.Wrong || err != x.want || len(p.Pending()) > 0 {
			t.Errorf("%v %s: %v %d %d, and %v is begun", x.at, x.keys, c, comes, err, p.Pending())
		}
	}
}

// digits are the keys of a number.
func digits(n int) []int {
	var l []int
	for _, c := range fmt.Sprint(n) {
		l = append(l, int(c))
	}
	return l
}

// Counts about the greatest one: alone, multiplied ahead of the command and behind an operator.
func TestP24_1Counts(t *testing.T) {
	m := newTables()
	checks := func(rows ...[]int) {
		t.Helper()
		p := grammar.New()
		var pending []int
		for _, k := range slices.Concat(rows...) {
			pending = m.takes(t, p, pending, k, stand{})
		}
	}
	x, a, b, d, w := []int{'x'}, []int{'"', 'a'}, []int{'"', 'B'}, []int{'d'}, []int{'w'}
	for _, n := range []int{1, 2, 3, 7, 9, 10, 99, 100, 101, 999, 1000, 1111, 3333, 4999, 5000, 9998, api.MaxCount} {
		checks(digits(n), x)
		checks(d, digits(n), w)
		for _, more := range []int{1, 2, 3, 9, 10, api.MaxCount / n, api.MaxCount/n + 1, api.MaxCount, api.MaxCount + 1} {
			checks(digits(n), a, digits(more), x)
			checks(digits(n), d, digits(more), w)
			for _, other := range []int{1, 2, 10, max(1, api.MaxCount/n/more), api.MaxCount/n/more + 1} {
				checks(digits(n), a, digits(other), b, digits(more), d, d)
				checks(digits(n), a, digits(other), d, digits(more), d)
			}
		}
	}
	for _, n := range []int{api.MaxCount + 1, 99999, math.MaxInt} {
		checks(digits(n), x)
		checks(d, digits(n), w)
	}
}

// As often as you like.
func TestP24_1Often(t *testing.T) {
	p := grammar.New()
	var want []int
	for i := range 100000 {
		for _, k := range []int{'1', '"', 'a' + i%26} {
			if _, comes, err := p.Key(k, i%2, false); comes != grammar.More || err != api.OK {
				t.Fatalf("%d: %d %d", i, comes, err)
			}
			want = append(want, k)
		}
	}
	if got := p.Pending(); !slices.Equal(got, want) {
		t.Errorf("%d keys are begun, not %d", len(got), len(want))
	}
	if c, comes, err := p.Key('x', grammar.Normal, false); c != (grammar.Cmd{Verb: 'x', Count: 1, Reg: 'a' + 99999%26}) || comes != grammar.Done || err != api.OK {
		t.Errorf("%v %d %d", c, comes, err)
	}
}

// Esc ends whatever is begun, and nothing of it is left.
func TestP24_1Esc(t *testing.T) {
	m := newTables()
	for _, s := range stands() {
		m.eachBegun(3, beginners(), s, func(l []int) {
			for _, ends := range []func(p *grammar.Parser){
				func(p *grammar.Parser) {
					if c, comes, err := p.Key(keys.Esc, s.way, s.recording); c != (grammar.Cmd{}) || comes != grammar.More || err != api.OK {
						t.Fatalf("%q: Esc: %v %d %d", keys.Print(l), c, comes, err)
					}
				},
				func(p *grammar.Parser) { p.Reset() },
			} {
				p := after(t, l, s)
				ends(p)
				if got := p.Pending(); len(got) > 0 {
					t.Fatalf("%q: begun is %v", keys.Print(l), got)
				}
				if c, comes, err := p.Key('l', s.way, s.recording); c != (grammar.Cmd{Verb: 'l'}) || comes != grammar.Done || err != api.OK {
					t.Fatalf("%q: behind it: %v %d %d", keys.Print(l), c, comes, err)
				}
			}
		})
	}
}

func TestP24_2OwnMemory(t *testing.T) {
	p := grammar.New()
	l := row(t, `2"ad3`)
	for _, k := range l {
		p.Key(k, grammar.Normal, false)
	}
	got := p.Pending()
	_ = append(got, 9, 9)
	_ = append(got[:2], 9)
	clear(got)
	if got := p.Pending(); !slices.Equal(got, l) {
		t.Errorf("written into an answer: %v", got)
	}
	before := p.Pending()
	p.Key('w', grammar.Normal, false)
	for _, k := range "345" {
		p.Key(int(k), grammar.Normal, false)
	}
	if !slices.Equal(before, l) || !slices.Equal(p.Pending(), []int{'3', '4', '5'}) {
		t.Errorf("what was told became %v, and %v is begun", before, p.Pending())
	}
}

func TestP24_2Moves(t *testing.T) {
	for _, k := range numbers() {
		want := k == pair('g', 'g')
		for _, c := range "hjkl0$wb{}GHLnN" {
			want = want || k == int(c)
		}
		if got := grammar.Moves(k); got != want {
			t.Errorf("%d moves: %v", k, got)
		}
	}
	for _, k := range "-+iadhljk" {
		if grammar.Moves(pair('g', int(k))) || grammar.Moves(pair('i', int(k))) || grammar.Moves(pair(int(k), 'g')) {
			t.Errorf("g %c moves", k)
		}
	}
}

// printed tells by the words what Print tells.
func (m tables) printed(c grammar.Cmd) []int {
	var l []int
	if c.Reg != 0 {
		l = append(l, '"', c.Reg)
	}
	if c.Count != 0 {
		l = append(l, digits(c.Count)...)
	}
	if c.Op != 0 {
		l = append(l, c.Op)
	}
	if c.Verb > 255 {
		l = append(l, c.Verb/256, c.Verb%256)
	} else {
		l = append(l, c.Verb)
	}
	if c.Char != 0 {
		l = append(l, c.Char)
	}
	for n := range l {
		// Esc ends what the keys ahead of it began: no part of a command is lost so.
		if _, comes, _ := m.comes(l[:n], stand{}); comes != grammar.More || l[n] == keys.Esc {
			return nil
		}
	}
	if made, comes, _ := m.comes(l, stand{}); made != c || comes != grammar.Done {
		return nil
	}
	return l
}

// checkPrint says so, if a command is not printed as the words have it, or not made again.
func (m tables) checkPrint(t *testing.T, c grammar.Cmd) {
	t.Helper()
	got, want := grammar.Print(c), m.printed(c)
	if !slices.Equal(got, want) {
		t.Fatalf("%v: %v, not %v", c, got, want)
	}
	if len(got) == 0 {
		return
	}
	p := after(t, got[:len(got)-1], stand{})
	if again, comes, err := p.Key(got[len(got)-1], grammar.Normal, false); again != c || comes != grammar.Done || err != api.OK {
		t.Fatalf("%v was printed %q, and made %v %d %d", c, keys.Print(got), again, comes, err)
	}
}

func TestP24_3Print(t *testing.T) {
	m := newTables()
	wild := []int{0, 1, -1, '"', '2', 27, 'x', 'd', 'i', 'g', 'Q', 255, 256, 300, math.MinInt, math.MaxInt}
	verbs := append(numbers(), pair('g', '-'), pair('g', 'j'), pair('g', 'x'), pair('i', 'r'), pair('i', 't'), pair('i', 'x'), pair('d', 'd'), pair('2', 'x'), pair('"', 'a'), pair(27, 'x'), pair('q', 'a'), pair('0', 'x'), pair('x', 'x'), -pair('g', 'g'))
	for _, op := range append([]int{'y', 'c'}, wild...) {
		for _, verb := range verbs {
			for _, count := range []int{0, 1, 10, api.MaxCount, api.MaxCount + 1, -1} {
				for _, reg := range []int{0, 'a', 'Z', '1', 27} {
					for _, char := range []int{0, 'z', 'A', 27} {
						m.checkPrint(t, grammar.Cmd{Op: op, Verb: verb, Count: count, Reg: reg, Char: char})
					}
				}
			}
		}
	}
	for _, some := range []grammar.Cmd{{Verb: 'x'}, {Op: 'd', Verb: 'w'}, {Verb: '@', Char: 'a'}, {Verb: 'q', Char: 'q'}} {
		for _, n := range append(wild, numbers()...) {
			for _, c := range []grammar.Cmd{{Reg: n}, {Char: n}, {Count: n}} {
				m.checkPrint(t, grammar.Cmd{Op: some.Op, Verb: some.Verb, Count: c.Count, Reg: c.Reg, Char: some.Char + c.Char})
			}
		}
	}
}

func TestP24_3OfFew(t *testing.T) {
	for _, x := range []struct {
		c    grammar.Cmd
		want string
	}{
		{grammar.Cmd{Op: 'd', Verb: 'w', Count: 6, Reg: 'a'}, `"a6dw`},
		{grammar.Cmd{Verb: pair('g', 'g')}, "gg"},
		{grammar.Cmd{Op: 'c', Verb: pair('i', 'b'), Reg: 'B'}, `"Bcib`},
		{grammar.Cmd{Verb: '@', Count: 20, Char: 'q'}, "20@q"},
		{grammar.Cmd{Op: 'y', Verb: '0', Count: 5}, "5y0"},
		{grammar.Cmd{Verb: '0', Reg: 'a'}, `"a0`},
		{grammar.Cmd{Verb: 22}, "<C-v>"},
		{grammar.Cmd{}, ""},
		{grammar.Cmd{Verb: '0', Count: 5}, ""},
		{grammar.Cmd{Verb: 'd'}, ""},
		{grammar.Cmd{Verb: 'q'}, ""},
		{grammar.Cmd{Verb: keys.Left}, ""},
		{grammar.Cmd{Verb: 'x', Char: 'a'}, ""},
		{grammar.Cmd{Op: 'd', Verb: 'c'}, ""},
		{grammar.Cmd{Verb: 'x', Count: -2}, ""},
		{grammar.Cmd{Verb: 'x', Count: 10000}, ""},
	} {
		if got := keys.Print(grammar.Print(x.c)); got != x.want {
			t.Errorf("%v: %q, not %q", x.c, got, x.want)
		}
	}
	l := grammar.Print(grammar.Cmd{Verb: 'x'})
	l[0] = 'y'
	if got := grammar.Print(grammar.Cmd{Verb: 'x'}); !slices.Equal(got, []int{'x'}) {
		t.Errorf("written into an answer: %v", got)
	}
}

// Each command that keys make is made again by those that are printed; nothing is printed only of a count ahead of 0, and of what the normal way does not have.
func TestP24_4Again(t *testing.T) {
	m := newTables()
	for _, s := range stands() {
		m.eachBegun(4, []int{'2', '0', '"', 'a', 'd', 'g', 'i', '@', 'q'}, s, func(l []int) {
			for k := -6; k < 128; k++ {
				p := after(t, l, s)
				c, comes, _ := p.Key(k, s.way, s.recording)
				if comes != grammar.Done {
					continue
				}
				none := c.Op == 0 && c.Verb == '0' && c.Count > 0 || c.Op == 0 && slices.Contains([]int{'d', 'y', 'c'}, c.Verb) || c.Verb == 'q' && c.Char == 0
				if got := grammar.Print(c); len(got) == 0 != none {
					t.Fatalf("%v %q: %v is printed %v", s, keys.Print(append(slices.Clone(l), k)), c, got)
				}
				m.checkPrint(t, c)
			}
		})
	}
}

func TestP1NilParser(t *testing.T) {
	var p *grammar.Parser
	for _, k := range []int{'x', 'd', '"', keys.Esc, 0, math.MinInt} {
		if c, comes, err := p.Key(k, grammar.Normal, false); c != (grammar.Cmd{}) || comes != grammar.Wrong || err != api.ErrNil {
			t.Errorf("%d: %v %d %d", k, c, comes, err)
		}
	}
	p.Reset()
	if got := p.Pending(); len(got) > 0 {
		t.Errorf("begun is %v", got)
	}
}

func TestP1MadeByHand(t *testing.T) {
	for _, k := range numbers() {
		for _, p := range []*grammar.Parser{{}, new(grammar.Parser)} {
			p.Pending()
			p.Key(k, k, k%2 == 0)
			p.Pending()
			p.Key(k, -k, true)
			p.Reset()
		}
	}
	// One that is copied while something is begun.
	p := grammar.New()
	p.Key('2', grammar.Normal, false)
	p.Key('d', grammar.Normal, false)
	other := *p
	p.Key('3', grammar.Normal, false)
	if c, comes, err := other.Key('w', grammar.Normal, false); c != (grammar.Cmd{Op: 'd', Verb: 'w', Count: 2}) || comes != grammar.Done || err != api.OK {
		t.Errorf("%v %d %d", c, comes, err)
	}
	if c, comes, err := p.Key('w', grammar.Normal, false); c != (grammar.Cmd{Op: 'd', Verb: 'w', Count: 6}) || comes != grammar.Done || err != api.OK {
		t.Errorf("%v %d %d", c, comes, err)
	}
}

// Ways that change while something is begun: each row of keys of all kinds ends.
func TestP1MixedWays(t *testing.T) {
	some := append(beginners(), 'w', 'l', '-', 'x', keys.Esc, keys.Left)
	p := grammar.New()
	for i, x := range mixed(100000, len(some)*4) {
		_, comes, err := p.Key(some[x%len(some)], x/len(some)%2, x/len(some)/2 == 0)
		if comes < grammar.More || comes > grammar.Wrong || (err != api.OK) != (comes == grammar.Wrong) || comes != grammar.More && len(p.Pending()) > 0 {
			t.Fatalf("%d: %d %d, and %v is begun", i, comes, err, p.Pending())
		}
	}
}

func TestP24Example(t *testing.T) {
	if c, comes, err := last(t, `2"a3dw`, stand{}); c != (grammar.Cmd{Op: 'd', Verb: 'w', Count: 6, Reg: 'a'}) || comes != grammar.Done || err != api.OK {
		t.Errorf("%v %d %d", c, comes, err)
	}
}
