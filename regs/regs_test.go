package regs_test

import (
	"math"
	"slices"
	"strings"
	"testing"

	"damier/api"
	"damier/regs"
)

// Kinds of what a register has.
const (
	cells = iota
	rows
	cols
)

// reg tells what a register may have: rows parted by /, texts by commas.
func reg(kind int, s string) regs.Reg {
	x := regs.Reg{Kind: kind}
	for _, texts := range strings.Split(s, "/") {
		x.L = append(x.L, strings.Split(texts, ","))
	}
	return x
}

// text tells the same as one text.
func text(x regs.Reg) string {
	var l []string
	for _, texts := range x.L {
		l = append(l, strings.Join(texts, ","))
	}
	return string(rune('0'+x.Kind)) + strings.Join(l, "/")
}

// cloned tells the same in lists of its own.
func cloned(x regs.Reg) regs.Reg {
	l := make([][]string, len(x.L))
	for i := range l {
		l[i] = slices.Clone(x.L[i])
	}
	return regs.Reg{Kind: x.Kind, L: l}
}

// same tells by the words whether two are of one kind, with the same texts.
func same(x, y regs.Reg) bool {
	if x.Kind != y.Kind || len(x.L) != len(y.L) {
		return false
	}
	for i := range x.L {
		if !slices.Equal(x.L[i], y.L[i]) {
			return false
		}
	}
	return true
}

// size tells by the words how great one is.
func size(x regs.Reg) int {
	n := 0
	for _, texts := range x.L {
		n += len(strings.Join(texts, "")) + len(texts)
	}
	return n
}

// model is registers by the words: what each name has, small letters and 0.
type model map[int]regs.Reg

// small tells the small letter of a name; 0 of 0; false of others.
func small(name int) (int, bool) {
	if name < 0 || name > 'z' {
		return 0, false
	}
	at := strings.IndexByte("\x00abcdefghijklmnopqrstuvwxyzABCDEFGHIJKLMNOPQRSTUVWXYZ", byte(name))
	if at > 26 {
		return name + 'a' - 'A', true
	}
	return name, at >= 0
}

func (m model) set(name int, x regs.Reg) api.Errno {
	to, is := small(name)
	if !is || x.Kind < cells || x.Kind > cols || len(x.L) == 0 {
		return api.ErrArg
	}
	x = cloned(x)
	if old := m[to]; name != to && old.Kind == x.Kind && x.Kind != cols {
		x.L = append(cloned(old).L, x.L...)
	}
	if size(x) > api.MaxBytes || len(x.L) > api.MaxRows {
		return api.ErrFull
	}
	m[to], m[0] = x, x
	return api.OK
}

func (m model) get(name int) (regs.Reg, bool) {
	from, is := small(name)
	if !is || len(m[from].L) == 0 {
		return regs.Reg{}, false
	}
	return cloned(m[from]), true
}

func (m model) drop(name int) bool {
	from, is := small(name)
	if !is || name == 0 || len(m[from].L) == 0 {
		return false
	}
	delete(m, from)
	return true
}

func (m model) names() []int {
	var l []int
	for name := range 128 {
		if name != 0 && len(m[name].L) > 0 {
			l = append(l, name)
		}
	}
	return l
}

func (m model) size() int {
	n := 0
	for _, name := range m.names() {
		n += size(m[name])
	}
	return n
}

// names are all that mean something, and others.
func names() []int {
	l := []int{math.MinInt, -1, 0, 1, ' ', '0', '"', '@', '[', '`', '{', 127, 'a' + 256, 'Z' + 1<<32, -'a', 1000, math.MaxInt}
	for c := range 26 {
		l = append(l, 'a'+c, 'A'+c)
	}
	return l
}

// check says so, if registers have other things than the words have it.
func check(t *testing.T, what string, r *regs.Regs, m model, names []int) {
	t.Helper()
	if got, want := r.Names(), m.names(); !slices.Equal(got, want) {
		t.Fatalf("%s: names %v, not %v", what, got, want)
	}
	if got, want := r.Size(), m.size(); got != want {
		t.Fatalf("%s: size %d, not %d", what, got, want)
	}
	for _, name := range names {
		got, is := r.Get(name)
		want, wantIs := m.get(name)
		if is != wantIs || !same(got, want) {
			t.Fatalf("%s: %d has %q, %v, not %q, %v", what, name, text(got), is, text(want), wantIs)
		}
	}
}

// step is a call that changes registers: it sets, or, without a thing to set, drops.
type step struct {
	name int
	x    regs.Reg
	drop bool
}

// done does a step to registers and to a model, and says so, if they answer unlike.
func (s step) done(t *testing.T, what string, r *regs.Regs, m model) {
	t.Helper()
	if s.drop {
		if got, want := r.Drop(s.name), m.drop(s.name); got != want {
			t.Fatalf("%s: Drop of %d: %v", what, s.name, got)
		}
		return
	}
	if got, want := r.Set(s.name, s.x), m.set(s.name, s.x); got != want {
		t.Fatalf("%s: Set of %d to %q: %d, not %d", what, s.name, text(s.x), got, want)
	}
}

// some are steps that change a few registers, by all kinds.
func some() []step {
	return []step{
		{name: 'a', x: reg(cells, "p")}, {name: 'a', x: reg(rows, "q,r/s")}, {name: 'a', x: reg(cols, "t")},
		{name: 'A', x: reg(cells, "u/v")}, {name: 'A', x: reg(rows, "")}, {name: 'A', x: reg(cols, "w,x")},
		{name: 'Z', x: reg(cells, "y")}, {name: 0, x: reg(rows, "z")}, {name: 'z', x: reg(cells, ",")},
		{name: 'A', drop: true}, {name: 'z', drop: true}, {name: 0, drop: true}, {name: 'a', x: regs.Reg{Kind: cells}},
	}
}

func TestP28ShortRowsOfCalls(t *testing.T) {
	steps, asked := some(), []int{'a', 'A', 'z', 'Z', 0, 'b', 1}
	var go4 func(l []int)
	go4 = func(l []int) {
		r, m := regs.New(), model{}
		for _, i := range l {
			steps[i].done(t, "short", r, m)
		}
		check(t, "short", r, m, asked)
		for i := 0; i < len(steps) && len(l) < 4; i++ {
			go4(append(slices.Clone(l), i))
		}
	}
	go4(nil)
}

func TestP28LongRowOfCalls(t *testing.T) {
	r, m, all := regs.New(), model{}, names()
	seed := uint32(3)
	next := func(n int) int {
		seed = seed*1664525 + 1013904223
		return int(seed>>8) % n
	}
	for range 4000 {
		s := step{name: all[next(len(all))], drop: next(9) == 0}
		for range next(4) {
			s.x.Kind = next(4)
			s.x.L = append(s.x.L, slices.Repeat([]string{strings.Repeat("x", next(60))}, next(20)))
		}
		s.done(t, "long", r, m)
		check(t, "long", r, m, []int{s.name, 0, 'a' + next(26)})
	}
	check(t, "long", r, m, all)
}

func TestP28_1New(t *testing.T) {
	for _, r := range []*regs.Regs{regs.New(), {}} {
		check(t, "new", r, model{}, names())
		if regs.New() == r {
			t.Error("the same ones")
		}
	}
}

func TestP28_1SetErrArg(t *testing.T) {
	r, m := regs.New(), model{}
	step{name: 'a', x: reg(rows, "a,b")}.done(t, "first", r, m)
	for _, name := range names() {
		for _, kind := range []int{math.MinInt, -1, cells, rows, cols, 3, math.MaxInt} {
			for _, l := range [][][]string{nil, {}, {nil}, {{}}, {{""}}, {{"a"}, nil}} {
				r, m := regs.New(), model{}
				step{name: 'a', x: reg(rows, "a,b")}.done(t, "first", r, m)
				step{name: name, x: regs.Reg{Kind: kind, L: l}}.done(t, "any", r, m)
				check(t, "any", r, m, []int{name, 0, 'a'})
			}
		}
	}
	// What may not be is told ahead of what is too much.
	for _, x := range []step{{name: '1', x: great(api.MaxBytes+1, 1)}, {name: 'a', x: regs.Reg{Kind: 3, L: great(api.MaxBytes+1, 1).L}}} {
		x.done(t, "both", r, m)
		if err := r.Set(x.name, x.x); err != api.ErrArg {
			t.Errorf("%d, not ErrArg", err)
		}
	}
}

// great tells rows of texts of one size, in so many rows.
func great(size, n int) regs.Reg {
	x := regs.Reg{Kind: rows, L: make([][]string, n)}
	x.L[n-1] = []string{strings.Repeat("x", size/2-1), strings.Repeat("y", size-size/2-1)}
	return x
}

func TestP28_1SetErrFull(t *testing.T) {
	for _, first := range []regs.Reg{great(2, 1), great(100, 3), great(api.MaxBytes-2, 2), great(9, api.MaxRows-1), great(api.MaxBytes, api.MaxRows)} {
		for _, name := range []int{'k', 'K', 0, 'l', 'L'} {
			for _, size := range []int{2, 3, api.MaxBytes - 100, api.MaxBytes - 99, api.MaxBytes, api.MaxBytes + 1, 1 << 20} {
				for _, n := range []int{1, 2, api.MaxRows - 3, api.MaxRows - 2, api.MaxRows, api.MaxRows + 1} {
					r, m := regs.New(), model{}
					step{name: 'k', x: first}.done(t, "first", r, m)
					step{name: name, x: great(size, n)}.done(t, "full", r, m)
					check(t, "full", r, m, []int{'k', 'l', 0})
				}
			}
		}
	}
	for size, want := range map[int]api.Errno{api.MaxBytes: api.OK, api.MaxBytes + 1: api.ErrFull} {
		if err := regs.New().Set('a', great(size, 1)); err != want {
			t.Errorf("of the size %d: %d", size, err)
		}
	}
	for n, want := range map[int]api.Errno{api.MaxRows: api.OK, api.MaxRows + 1: api.ErrFull} {
		if err := regs.New().Set(0, great(9, n)); err != want {
			t.Errorf("of %d rows: %d", n, err)
		}
	}
}

// Each letter's register may be full.
func TestP28_2SizeOfAll(t *testing.T) {
	r, m := regs.New(), model{}
	for c := range api.MaxRegs {
		step{name: 'z' - c, x: great(api.MaxBytes, 1+c)}.done(t, "all", r, m)
		check(t, "all", r, m, []int{'z' - c, 0})
	}
	if r.Size() != api.MaxRegs*api.MaxBytes || len(r.Names()) != api.MaxRegs {
		t.Errorf("%d, %d", r.Size(), len(r.Names()))
	}
	for c := range api.MaxRegs {
		step{name: 'A' + c, drop: true}.done(t, "dropped", r, m)
		check(t, "dropped", r, m, []int{'a' + c, 0})
	}
	if x, is := r.Get(0); !is || size(x) != api.MaxBytes || r.Size() != 0 {
		t.Error("the last one is gone")
	}
}

func TestP28_2DropOfAnyName(t *testing.T) {
	for _, name := range names() {
		r, m := regs.New(), model{}
		for _, c := range []int{'a', 'm', 'z'} {
			step{name: c, x: reg(cells, "x")}.done(t, "set", r, m)
		}
		for range 2 {
			step{name: name, drop: true}.done(t, "dropped", r, m)
			check(t, "dropped", r, m, names())
		}
	}
}

func TestP28_3Same(t *testing.T) {
	var all []regs.Reg
	for _, kind := range []int{-1, cells, rows, cols, 3, math.MaxInt} {
		for _, s := range []string{"", ",", "/", "a", "a,b", "a/b", "ab", "a,", "b,a", "a,b/c", "a,b/c/", "\xff"} {
			all = append(all, reg(kind, s))
		}
		all = append(all, regs.Reg{Kind: kind}, regs.Reg{Kind: kind, L: [][]string{}}, regs.Reg{Kind: kind, L: [][]string{nil}}, regs.Reg{Kind: kind, L: [][]string{{}}})
	}
	for _, x := range all {
		for _, y := range all {
			if got, want := regs.Same(x, y), same(x, y); got != want || !regs.Same(x, cloned(x)) {
				t.Errorf("%q and %q: %v", text(x), text(y), got)
			}
		}
	}
}

func TestP28_3Size(t *testing.T) {
	for s, want := range map[string]int{"": 1, "a": 2, "\xc3\xa4": 3, ",": 2, "a,bc": 5, "a/bc/": 6, "/,/": 4} {
		for _, kind := range []int{cells, rows, cols, -9} {
			if got := regs.Size(reg(kind, s)); got != want {
				t.Errorf("%q: %d, not %d", s, got, want)
			}
		}
	}
	for _, x := range []regs.Reg{{}, {Kind: rows, L: [][]string{nil, {}}}} {
		if regs.Size(x) != 0 {
			t.Errorf("of no texts: %d", regs.Size(x))
		}
	}
	for _, n := range []int{2, 77, api.MaxBytes + 1} {
		if got := regs.Size(great(n, 3)); got != n {
			t.Errorf("%d: %d", n, got)
		}
	}
}

func TestP28_4Theorem(t *testing.T) {
	for c := range 26 {
		for _, kind := range []int{cells, rows, cols} {
			r, x := regs.New(), reg(kind, "a,b/c/,")
			if r.Set('A'+c, x) != api.OK || r.Set('a'+(c+1)%26, reg(rows, "z")) != api.OK {
				t.Fatal("not set")
			}
			for _, name := range []int{'a' + c, 'A' + c} {
				if got, is := r.Get(name); !is || !same(got, x) {
					t.Errorf("%d: %q", name, text(got))
				}
			}
			if got, _ := r.Get(0); text(got) != "1z" {
				t.Errorf("the last one: %q", text(got))
			}
		}
	}
}

// spoil writes into all that something has.
func spoil(x regs.Reg) {
	for i := range x.L {
		_ = append(x.L[i], "more")
		for k := range x.L[i] {
			x.L[i][k] = "other"
		}
		x.L[i] = []string{"gone"}
	}
	_ = append(x.L, []string{"more"})
}

func TestP1RegsOwnMemory(t *testing.T) {
	for _, kind := range []int{cells, rows, cols} {
		r, m := regs.New(), model{}
		for _, name := range []int{'a', 'A', 'A', 0, 'b', 'B'} {
			x := reg(kind, "p,q/r")
			m.set(name, x)
			r.Set(name, x)
			spoil(x)
			check(t, "handed in", r, m, []int{'a', 'b', 0})
			for _, name := range []int{'a', 'A', 'b', 0} {
				got, is := r.Get(name)
				if is {
					spoil(got)
				}
				check(t, "handed out", r, m, []int{'a', 'b', 0})
			}
		}
		l := r.Names()
		l[0] = 'x'
		check(t, "names", r, m, nil)
	}
}

// What is appended to is what the letter's register has, though the last one had the same.
func TestP1RegsApart(t *testing.T) {
	r, m := regs.New(), model{}
	for _, s := range []step{
		{name: 'a', x: reg(rows, "p")}, {name: 0, x: reg(rows, "q")}, {name: 'A', x: reg(rows, "r")}, {name: 'b', x: reg(rows, "s")},
		{name: 'A', x: reg(rows, "t")}, {name: 'a', drop: true}, {name: 'A', x: reg(cells, "u")}, {name: 'A', x: reg(rows, "v")},
	} {
		s.done(t, "apart", r, m)
		check(t, "apart", r, m, []int{'a', 'b', 0})
	}
	if got, _ := r.Get('a'); text(got) != "1v" {
		t.Errorf("%q", text(got))
	}
}

func TestP1RegsChangesNothing(t *testing.T) {
	x, y := reg(rows, "p,q/r"), reg(rows, "s")
	l := x.L
	r := regs.New()
	r.Set('a', x)
	r.Set('A', y)
	r.Set('A', regs.Reg{Kind: rows, L: l[:1]})
	regs.Same(x, y)
	regs.Size(x)
	if text(x) != "1p,q/r" || text(y) != "1s" {
		t.Errorf("%q, %q", text(x), text(y))
	}
}

func TestP1RegsNil(t *testing.T) {
	var r *regs.Regs
	for _, name := range names() {
		for _, x := range []regs.Reg{{}, reg(rows, "a"), great(api.MaxBytes+1, 1)} {
			if err := r.Set(name, x); err != api.ErrNil {
				t.Errorf("Set of %d: %d", name, err)
			}
		}
		if x, is := r.Get(name); is || !same(x, regs.Reg{}) || r.Drop(name) {
			t.Errorf("%d: %q", name, text(x))
		}
	}
	if len(r.Names()) != 0 || r.Size() != 0 {
		t.Error("there are some")
	}
}

func TestP28Examples(t *testing.T) {
	r := regs.New()
	r.Set('a', reg(rows, "a,b"))
	r.Set('A', reg(rows, "c"))
	if x, is := r.Get('a'); !is || text(x) != "1a,b/c" {
		t.Errorf("%q", text(x))
	}
}
