package cell_test

import (
	"bytes"
	"math"
	"slices"
	"strings"
	"testing"

	"damier/api"
	"damier/arena"
	"damier/cell"
	"damier/piece"
	"damier/quote"
	"damier/scan"
)

// eachText hands over every text of the bytes of some, up to a length.
func eachText(some string, most int, f func(b []byte)) {
	var grow func(b []byte)
	grow = func(b []byte) {
		f(b)
		for i := 0; i < len(some) && len(b) < most; i++ {
			grow(append(bytes.Clone(b), some[i]))
		}
	}
	grow(nil)
}

// fresh makes an arena of a file.
func fresh(t *testing.T, file string) *arena.Arena {
	t.Helper()
	a, err := arena.New([]byte(file))
	if err != api.OK {
		t.Fatal(err)
	}
	return a
}

// full fills an arena up with a byte that stands nowhere else.
func full(t *testing.T, a *arena.Arena) {
	t.Helper()
	if _, err := a.Add(bytes.Repeat([]byte{0xee}, a.Room())); err != api.OK {
		t.Fatal(err)
	}
}

// loaded tells all cells of a file that stands in an arena, with their raw bytes.
func loaded(file []byte, take func(c cell.Cell, raw, value []byte)) {
	for _, r := range scan.All(file) {
		for _, f := range r.Fields {
			take(cell.Load(f), file[f.Raw.At:f.Raw.At+f.Raw.N], scan.Value(file, f))
		}
	}
}

// written tells whether a cell is written.
func written(c cell.Cell) bool {
	return !c.Kept && c.Raw == arena.Span{}
}

// scattered tells a text of n pieces of one byte, none of which begins where another one ends.
func scattered(n int) piece.Text {
	var l []arena.Span
	for i := range n {
		l = append(l, arena.Span{At: i % 2 * 2, N: 1})
	}
	return piece.Of(l...)
}

func TestP7_1Load(t *testing.T) {
	file := `a,"b""c",,"x"y`
	a := fresh(t, file)
	want := []struct {
		raw   arena.Span
		value string
	}{{arena.Span{At: 0, N: 1}, "a"}, {arena.Span{At: 2, N: 6}, `b"c`}, {arena.Span{At: 9}, ""}, {arena.Span{At: 10, N: 4}, "xy"}}
	r, _ := scan.One([]byte(file), 0)
	for i, f := range r.Fields {
		c := cell.Load(f)
		if !c.Kept || c.Raw != want[i].raw || string(c.Bytes(a)) != want[i].value || !piece.Same(c.Text, piece.Of(f.Parts...)) {
			t.Errorf("%d: %+v", i, c)
		}
	}
	if c := cell.Load(scan.Field{}); !c.Kept || !c.Empty() || c.Raw != (arena.Span{}) {
		t.Errorf("of no bytes: %+v", c)
	}
}

func TestP7_1LoadKeepsNoList(t *testing.T) {
	a := fresh(t, "abc")
	f := scan.Field{Raw: arena.Span{N: 3}, Parts: []arena.Span{{At: 0, N: 1}, {At: 2, N: 1}}}
	c := cell.Load(f)
	f.Parts[0] = arena.Span{At: 1, N: 1}
	if string(c.Bytes(a)) != "ac" {
		t.Errorf("%q", c.Bytes(a))
	}
}

func TestP7_1Of(t *testing.T) {
	a := fresh(t, "abc")
	for _, x := range []piece.Text{{}, piece.Of(arena.Span{At: 1, N: 2}), scattered(100)} {
		c := cell.Of(x)
		if !written(c) || !piece.Same(c.Text, x) || !bytes.Equal(c.Bytes(a), x.Flat(a)) {
			t.Errorf("%+v", c)
		}
	}
}

func TestP7_1Put(t *testing.T) {
	a := fresh(t, "one,two")
	c, err := cell.Put(a, []byte("two"))
	if err != api.OK || !written(c) || a.Len() != 7 || !slices.Equal(c.Text.Spans(), []arena.Span{{At: 4, N: 3}}) {
		t.Errorf("what stands there: %+v %d", c, err)
	}
	c, err = cell.Put(a, []byte("new"))
	if err != api.OK || !written(c) || a.Len() != 10 || string(c.Bytes(a)) != "new" {
		t.Errorf("what is new: %+v %d", c, err)
	}
	for _, b := range [][]byte{nil, {}} {
		c, err = cell.Put(a, b)
		if err != api.OK || !written(c) || !c.Empty() || a.Len() != 10 {
			t.Errorf("no bytes: %+v %d", c, err)
		}
	}
}

func TestP7_1PutErrors(t *testing.T) {
	long := bytes.Repeat([]byte("x"), api.MaxCell+1)
	a := fresh(t, "")
	c, err := cell.Put(a, long)
	if err != api.ErrLong || !written(c) || !c.Empty() || a.Len() != 0 {
		t.Errorf("too long: %+v %d", c, err)
	}
	if c, err = cell.Put(a, long[1:]); err != api.OK || c.Text.Len() != api.MaxCell {
		t.Errorf("as long as may be: %d", err)
	}
	full(t, a)
	if c, err = cell.Put(a, []byte("new")); err != api.ErrFull || !written(c) || !c.Empty() {
		t.Errorf("no room: %+v %d", c, err)
	}
	if _, err = cell.Put(a, append(bytes.Clone(long), '!')); err != api.ErrLong {
		t.Errorf("too long, and no room: %d", err)
	}
	if c, err = cell.Put(a, []byte("xx")); err != api.OK || string(c.Bytes(a)) != "xx" {
		t.Errorf("no room, but there already: %d", err)
	}
	if _, err = cell.Put(nil, []byte("a")); err != api.ErrNil {
		t.Errorf("no arena: %d", err)
	}
	if _, err = cell.Put(nil, long); err != api.ErrLong {
		t.Errorf("too long, and no arena: %d", err)
	}
}

func TestP7_1Write(t *testing.T) {
	a := fresh(t, `"a",b`)
	loaded([]byte(`"a",b`), func(c cell.Cell, raw, value []byte) {
		for _, x := range []piece.Text{{}, piece.Of(arena.Span{At: 0, N: 2}), c.Text, scattered(api.MaxPieces)} {
			before := c
			d, err := c.Write(a, x)
			if err != api.OK || !written(d) || !piece.Same(d.Text, x) {
				t.Errorf("%q: %+v %d", raw, d, err)
			}
			if !c.Kept || c.Raw != before.Raw || !bytes.Equal(c.Bytes(a), value) {
				t.Errorf("%q: became %+v", raw, c)
			}
		}
	})
	d, err := cell.Cell{}.Write(a, scattered(api.MaxPieces+1))
	if err != api.OK || !written(d) || len(d.Text.Spans()) != 1 || !bytes.Equal(d.Bytes(a), scattered(api.MaxPieces+1).Flat(a)) {
		t.Errorf("of many pieces: %+v %d", d, err)
	}
}

func TestP7_1WriteErrors(t *testing.T) {
	a := fresh(t, `"a",b`)
	full(t, a)
	c := cell.Of(piece.Of(arena.Span{At: 1, N: 1}))
	for _, x := range []struct {
		text piece.Text
		err  api.Errno
	}{
		{piece.Of(arena.Span{At: 5, N: api.MaxCell + 1}), api.ErrLong},
		{piece.Of(arena.Span{At: 5, N: api.MaxCell}), api.OK},
		{scattered(api.MaxCell + 1), api.ErrLong},
		{scattered(api.MaxCell), api.ErrFull},
		{scattered(api.MaxPieces + 1), api.ErrFull},
		{scattered(api.MaxPieces), api.OK},
	} {
		d, err := c.Write(a, x.text)
		if err != x.err || err != api.OK && (!written(d) || !d.Empty()) {
			t.Errorf("%d bytes of %d pieces: %+v %d", x.text.Len(), len(x.text.Spans()), d, err)
		}
	}
	if a.Room() != 0 || string(c.Bytes(a)) != "a" {
		t.Errorf("what was there became another one")
	}
}

func TestP7_2BytesPrintEmpty(t *testing.T) {
	for _, c := range []struct{ b, print string }{
		{"", ""}, {"a", "a"}, {" a", " a"}, {"a,b", `"a,b"`}, {`"`, `""""`}, {`"a"`, `"""a"""`}, {"\r\n", "\"\r\n\""}, {"\xff", "\xff"},
	} {
		a := fresh(t, "")
		got, err := cell.Put(a, []byte(c.b))
		if err != api.OK || string(got.Bytes(a)) != c.b || string(got.Print(a)) != c.print || got.Empty() != (c.b == "") {
			t.Errorf("%q: %q %q %v", c.b, got.Bytes(a), got.Print(a), got.Empty())
		}
	}
	for _, raw := range []string{"", "a", `"a"`, `""`, `"a""b"`, `a"b`, `"a"b`, `"a`, `"`} {
		a := fresh(t, raw)
		value, _ := quote.Read([]byte(raw))
		f := scan.Field{}
		if r, _ := scan.One([]byte(raw), 0); len(r.Fields) > 0 {
			f = r.Fields[0]
		}
		got := cell.Load(f)
		if !bytes.Equal(got.Bytes(a), value) || string(got.Print(a)) != raw || got.Empty() != (len(value) == 0) {
			t.Errorf("%q, loaded: %q %q %v", raw, got.Bytes(a), got.Print(a), got.Empty())
		}
	}
	a := fresh(t, "abc")
	if zero := (cell.Cell{}); !zero.Empty() || len(zero.Bytes(a)) != 0 || len(zero.Print(a)) != 0 {
		t.Error("the zero cell")
	}
	// What is kept is printed as it came, whatever its text is.
	made := cell.Cell{Text: piece.Of(arena.Span{At: 0, N: 1}), Raw: arena.Span{At: 1, N: 2}, Kept: true}
	if string(made.Bytes(a)) != "a" || string(made.Print(a)) != "bc" {
		t.Errorf("%q %q", made.Bytes(a), made.Print(a))
	}
}

func TestP7_2Same(t *testing.T) {
	file := []byte("a,a,\"a\",b,,\"\",\"a")
	a := fresh(t, string(file))
	type one struct {
		cell  cell.Cell
		value string
		raw   string
		kept  bool
	}
	var all []one
	loaded(file, func(c cell.Cell, raw, value []byte) {
		all = append(all, one{c, string(value), string(raw), true})
		w, err := c.Write(a, c.Text)
		if err != api.OK {
			t.Fatal(err)
		}
		all = append(all, one{w, string(value), "", false})
	})
	elsewhere, _ := a.Add([]byte("a"))
	// The raw bytes of what is written count for nothing.
	all = append(all, one{cell.Of(piece.Of(elsewhere)), "a", "", false}, one{cell.Cell{Text: piece.Of(elsewhere), Raw: elsewhere}, "a", "", false}, one{cell.Cell{}, "", "", false})
	all = append(all, one{cell.Cell{Text: piece.Of(elsewhere), Raw: elsewhere, Kept: true}, "a", "a", true})
	for i, c := range all {
		for j, d := range all {
			want := c.value == d.value && c.raw == d.raw && c.kept == d.kept
			if cell.Same(a, c.cell, d.cell) != want {
				t.Errorf("%d and %d: %v", i, j, !want)
			}
		}
	}
}

func TestP7_3LoadedIsPrintedAsItStood(t *testing.T) {
	eachText("\",\r\na", 6, func(file []byte) {
		a := fresh(t, string(file))
		loaded(file, func(c cell.Cell, raw, value []byte) {
			if !bytes.Equal(c.Print(a), raw) || !bytes.Equal(c.Bytes(a), value) {
				t.Fatalf("%q: %q %q", file, c.Print(a), c.Bytes(a))
			}
		})
	})
}

func TestP7_3WrittenIsRead(t *testing.T) {
	eachText("\",\r\na", 6, func(b []byte) {
		a := fresh(t, "")
		c, err := cell.Put(a, b)
		if err != api.OK {
			t.Fatal(err)
		}
		value, kind := quote.Read(c.Print(a))
		if !bytes.Equal(value, b) || !scan.Fine(kind) {
			t.Fatalf("%q: %q %d", b, value, kind)
		}
	})
}

func TestP1OwnMemory(t *testing.T) {
	a := fresh(t, "a,b")
	c := cell.Load(scan.Field{Raw: arena.Span{N: 3}, Parts: []arena.Span{{N: 3}}})
	w := cell.Of(c.Text)
	for _, tell := range []func() []byte{func() []byte { return c.Bytes(a) }, func() []byte { return c.Print(a) }, func() []byte { return w.Bytes(a) }, func() []byte { return w.Print(a) }} {
		want := string(tell())
		first := tell()
		_ = append(first, "!!!!"...)
		first[0] = '!'
		if string(tell()) != want || string(a.Bytes(arena.Span{N: 3})) != "a,b" {
			t.Errorf("%q: %q", want, tell())
		}
	}
	b := []byte("new")
	p, _ := cell.Put(a, b)
	b[0] = '!'
	if string(p.Bytes(a)) != "new" {
		t.Errorf("%q", p.Bytes(a))
	}
}

func TestP1WrongArguments(t *testing.T) {
	far := []int{math.MinInt, -1, 0, 1, math.MaxInt}
	some := fresh(t, strings.Repeat("ab", 20))
	for _, a := range []*arena.Arena{nil, some} {
		for _, at := range far {
			for _, n := range far {
				s := arena.Span{At: at, N: n}
				c := cell.Load(scan.Field{Raw: s, Kind: n, Parts: []arena.Span{s, s}})
				d := cell.Cell{Text: piece.Of(s), Raw: s}
				for _, e := range []cell.Cell{c, d, {}} {
					e.Bytes(a)
					e.Print(a)
					e.Empty()
					cell.Same(a, c, e)
					cell.Same(a, e, d)
					e.Write(a, c.Text)
				}
			}
		}
		cell.Cell{}.Write(a, scattered(api.MaxPieces+1))
	}
}

func TestP7Example(t *testing.T) {
	a := fresh(t, `"a"`)
	r, _ := scan.One([]byte(`"a"`), 0)
	c := cell.Load(r.Fields[0])
	if !c.Kept || string(c.Print(a)) != `"a"` {
		t.Errorf("%+v prints %q", c, c.Print(a))
	}
	w, err := c.Write(a, c.Text)
	if err != api.OK || string(w.Print(a)) != "a" {
		t.Errorf("%+v prints %q", w, w.Print(a))
	}
}
