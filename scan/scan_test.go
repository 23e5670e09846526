package scan_test

import (
	"bytes"
	"math"
	"regexp"
	"slices"
	"strings"
	"testing"

	"damier/arena"
	"damier/scan"
)

// eachText hands over every text of the bytes of some, up to a length.
func eachText(some string, most int, f func(b []byte)) {
	var grow func(b []byte)
	grow = func(b []byte) {
		f(b)
		for i := 0; i < len(some) && len(b) < most; i++ {
			grow(append(bytes.Clone(b), some[i]))
		}
	}
	grow(nil)
}

// The inside is as many pairs and others as there can be, so that a quote behind it is the first one that none follows.
var (
	quotedForm = regexp.MustCompile(`^"((?:[^"]|"")*)(?:(")([^,\r\n]*))?`)
	plainForm  = regexp.MustCompile(`^[^,\r\n]*`)
	pairForm   = regexp.MustCompile(`""`)
)

// byWords tells by the words which field stands from a place on.
func byWords(b []byte, at int) scan.Field {
	m := quotedForm.FindSubmatchIndex(b[at:])
	if m == nil {
		raw := plainForm.Find(b[at:])
		kind := 0
		if strings.Contains(string(raw), `"`) {
			kind = 2
		}
		return scan.Field{Raw: arena.Span{At: at, N: len(raw)}, Kind: kind, Parts: runs(at, len(raw), nil)}
	}
	inside := b[at+m[2] : at+m[3]]
	out := []int{at}
	for _, p := range pairForm.FindAllIndex(inside, -1) {
		out = append(out, at+m[2]+p[1]-1)
	}
	kind := 4
	if m[4] >= 0 {
		out = append(out, at+m[4])
		kind = 1
		if m[7] > m[6] {
			kind = 3
		}
	}
	return scan.Field{Raw: arena.Span{At: at, N: m[1]}, Kind: kind, Parts: runs(at, m[1], out)}
}

// runs tells the spans, as long as may be, of a stretch's bytes without some of them.
func runs(at, n int, out []int) []arena.Span {
	var l []arena.Span
	for k := at; k < at+n; k++ {
		switch last := len(l) - 1; {
		case slices.Contains(out, k):
		case last >= 0 && l[last].At+l[last].N == k:
			l[last].N++
		default:
			l = append(l, arena.Span{At: k, N: 1})
		}
	}
	return l
}

// rowByWords tells by the words which row stands from a place on, and the place behind its line's end.
func rowByWords(b []byte, at int) (scan.Row, int) {
	var r scan.Row
	for {
		f := byWords(b, at)
		r.Fields = append(r.Fields, f)
		at += f.Raw.N
		if !bytes.HasPrefix(b[at:], []byte(",")) {
			break
		}
		at++
	}
	for end, mark := range []string{1: "\n", 2: "\r\n", 3: "\r"} {
		if end > 0 && bytes.HasPrefix(b[at:], []byte(mark)) {
			return scan.Row{Fields: r.Fields, End: end}, at + len(mark)
		}
	}
	return r, at
}

func sameField(f, g scan.Field) bool {
	return f.Raw == g.Raw && f.Kind == g.Kind && slices.Equal(f.Parts, g.Parts)
}

func sameRow(r, s scan.Row) bool {
	return r.End == s.End && slices.EqualFunc(r.Fields, s.Fields, sameField)
}

func TestP5_1Fields(t *testing.T) {
	type spans = []arena.Span
	for _, c := range []struct {
		b     string
		kind  int
		raw   int
		parts spans
		value string
	}{
		{`a`, scan.Bare, 1, spans{{At: 0, N: 1}}, `a`},
		{`,a`, scan.Bare, 0, nil, ``},
		{"\nx", scan.Bare, 0, nil, ``},
		{"ab\rc", scan.Bare, 2, spans{{At: 0, N: 2}}, `ab`},
		{" \"a\"\n", scan.Loose, 4, spans{{At: 0, N: 4}}, ` "a"`},
		{`a"b,c"`, scan.Loose, 3, spans{{At: 0, N: 3}}, `a"b`},
		{`a"`, scan.Loose, 2, spans{{At: 0, N: 2}}, `a"`},
		{`a""b`, scan.Loose, 4, spans{{At: 0, N: 4}}, `a""b`},
		{`""`, scan.Quoted, 2, nil, ``},
		{`"",`, scan.Quoted, 2, nil, ``},
		{`"a"`, scan.Quoted, 3, spans{{At: 1, N: 1}}, `a`},
		{"\"a,\r\n\rb\",c", scan.Quoted, 8, spans{{At: 1, N: 6}}, "a,\r\n\rb"},
		{`"a""b"`, scan.Quoted, 6, spans{{At: 1, N: 2}, {At: 4, N: 1}}, `a"b`},
		{`""""`, scan.Quoted, 4, spans{{At: 1, N: 1}}, `"`},
		{`""""""`, scan.Quoted, 6, spans{{At: 1, N: 1}, {At: 3, N: 1}}, `""`},
		{`"""a"""`, scan.Quoted, 7, spans{{At: 1, N: 1}, {At: 3, N: 2}}, `"a"`},
		{`""a`, scan.Torn, 3, spans{{At: 2, N: 1}}, `a`},
		{`"" `, scan.Torn, 3, spans{{At: 2, N: 1}}, ` `},
		{`"a"b`, scan.Torn, 4, spans{{At: 1, N: 1}, {At: 3, N: 1}}, `ab`},
		{`"a"b"",c`, scan.Torn, 6, spans{{At: 1, N: 1}, {At: 3, N: 3}}, `ab""`},
		{"\"a\"b\"\nc\"", scan.Torn, 5, spans{{At: 1, N: 1}, {At: 3, N: 2}}, `ab"`},
		{"\"a,\"\"\"b\rc", scan.Torn, 7, spans{{At: 1, N: 3}, {At: 6, N: 1}}, `a,"b`},
		{`"`, scan.Open, 1, nil, ``},
		{`"""`, scan.Open, 3, spans{{At: 1, N: 1}}, `"`},
		{`"""""`, scan.Open, 5, spans{{At: 1, N: 1}, {At: 3, N: 1}}, `""`},
		{`"a""`, scan.Open, 4, spans{{At: 1, N: 2}}, `a"`},
		{"\"a,b\r\nc", scan.Open, 7, spans{{At: 1, N: 6}}, "a,b\r\nc"},
		{`"a""b`, scan.Open, 5, spans{{At: 1, N: 2}, {At: 4, N: 1}}, `a"b`},
	} {
		r, _ := scan.One([]byte(c.b), 0)
		if len(r.Fields) == 0 {
			t.Errorf("%q: no field", c.b)
			continue
		}
		f := r.Fields[0]
		if !sameField(f, scan.Field{Raw: arena.Span{N: c.raw}, Kind: c.kind, Parts: c.parts}) {
			t.Errorf("%q: %+v", c.b, f)
		}
		if v := scan.Value([]byte(c.b), f); string(v) != c.value {
			t.Errorf("%q: value %q", c.b, v)
		}
	}
}

func TestP5_1Rows(t *testing.T) {
	for _, c := range []struct {
		b      string
		fields int
		end    int
		behind int
	}{
		{"a", 1, scan.None, 1}, {"a,", 2, scan.None, 2}, {",", 2, scan.None, 1}, {"a,b", 2, scan.None, 3}, {",,", 3, scan.None, 2},
		{"a\nb", 1, scan.LF, 2}, {"a\r\nb", 1, scan.Both, 3}, {"a\rb", 1, scan.CR, 2}, {"a\r", 1, scan.CR, 2}, {"a\r\r\n", 1, scan.CR, 2},
		{"\n\r", 1, scan.LF, 1}, {"\r\n\n", 1, scan.Both, 2}, {"\r", 1, scan.CR, 1}, {",\r\n", 2, scan.Both, 3}, {"\"a\"\r\n", 1, scan.Both, 5},
		{"\"a\r\nb\"x,c\ny", 2, scan.LF, 10}, {"a,\"b\nc", 2, scan.None, 6}, {"\"a\"\rb", 1, scan.CR, 4},
	} {
		r, behind := scan.One([]byte(c.b), 0)
		if len(r.Fields) != c.fields || r.End != c.end || behind != c.behind {
			t.Errorf("%q: %d fields, end %d, %d", c.b, len(r.Fields), r.End, behind)
		}
	}
	r, _ := scan.One([]byte("a,"), 0)
	if f := r.Fields[1]; !sameField(f, scan.Field{Raw: arena.Span{At: 2}}) {
		t.Errorf("behind the last comma: %+v", f)
	}
}

func TestP5_1NoRow(t *testing.T) {
	for _, b := range []string{"", "a", "a,\"b\n"} {
		for _, at := range []int{math.MinInt, -2, -1, len(b), len(b) + 1, math.MaxInt} {
			if r, behind := scan.One([]byte(b), at); len(r.Fields) != 0 || r.End != scan.None || behind != at {
				t.Errorf("%q from %d: %+v %d", b, at, r, behind)
			}
		}
	}
	if r, behind := scan.One(nil, 0); len(r.Fields) != 0 || behind != 0 {
		t.Error("nil", r, behind)
	}
}

func TestP5_1ByTheWords(t *testing.T) {
	check := func(b []byte) {
		for at := range len(b) {
			want, to := rowByWords(b, at)
			if r, behind := scan.One(b, at); !sameRow(r, want) || behind != to {
				t.Fatalf("%q from %d: %+v %d, not %+v %d", b, at, r, behind, want, to)
			}
		}
	}
	eachText("\",\r\na", 6, check)
	eachText("\",a", 9, check)
	for c := range 256 {
		x := byte(c)
		check([]byte{x})
		check([]byte{'a', x, 'b'})
		check([]byte{'"', x, '"', x, ','})
	}
}

func TestP5_2All(t *testing.T) {
	if rows := scan.All(nil); len(rows) != 0 {
		t.Error("of nothing", rows)
	}
	if rows := scan.All([]byte{}); len(rows) != 0 {
		t.Error("of no bytes", rows)
	}
	for b, n := range map[string]int{"a": 1, "a\n": 1, "a\nb": 2, "\n\n": 2, "\r\n\r\n": 2, "\n\r": 2, "\r\r\n": 2, "\"\n\n": 1, "a,b\r,\n\"\n\",c": 3} {
		if rows := scan.All([]byte(b)); len(rows) != n {
			t.Errorf("%q: %d rows", b, len(rows))
		}
	}
	eachText("\",\r\na", 6, func(b []byte) {
		at := 0
		for _, r := range scan.All(b) {
			var want scan.Row
			if want, at = rowByWords(b, at); !sameRow(r, want) {
				t.Fatalf("%q: %+v, not %+v", b, r, want)
			}
		}
		if at != len(b) {
			t.Fatalf("%q: only up to %d", b, at)
		}
	})
}

func TestP5_2Value(t *testing.T) {
	b := []byte("abcdef")
	for _, c := range []struct {
		parts []arena.Span
		want  string
	}{
		{nil, ""},
		{[]arena.Span{{At: 0, N: 6}}, "abcdef"},
		{[]arena.Span{{At: 4, N: 2}, {At: 0, N: 1}, {At: 0, N: 2}}, "efaab"},
		{[]arena.Span{{At: 1, N: 0}, {At: 6, N: 0}, {}}, ""},
		{[]arena.Span{{At: 5, N: 2}, {At: 2, N: 1}, {At: -1, N: 2}, {At: 2, N: -1}, {At: 3, N: 1}, {At: 7, N: 0}, {At: 6, N: 1}}, "cd"},
		{[]arena.Span{{At: math.MaxInt, N: math.MaxInt}, {At: 1, N: math.MaxInt}, {At: math.MaxInt, N: 1}, {At: 1, N: 1}}, "b"},
		{[]arena.Span{{At: math.MinInt, N: math.MinInt}, {At: math.MinInt, N: math.MaxInt}, {At: 2, N: math.MinInt}}, ""},
	} {
		// Kind and Raw don't count.
		f := scan.Field{Raw: arena.Span{At: -3, N: 99}, Kind: 77, Parts: c.parts}
		if v := scan.Value(b, f); string(v) != c.want {
			t.Errorf("%v: %q", c.parts, v)
		}
	}
	if v := scan.Value(nil, scan.Field{Parts: []arena.Span{{}, {N: 1}}}); len(v) != 0 {
		t.Errorf("of no bytes: %q", v)
	}
}

func TestP5_3Mark(t *testing.T) {
	marks := map[int]string{0: "", 1: "\n", 2: "\r\n", 3: "\r", 4: "", -1: "", 10: "", 13: "", 257: "", math.MaxInt: "", math.MinInt: ""}
	for end, want := range marks {
		if got := scan.Mark(end); got != want {
			t.Errorf("%d: %q", end, got)
		}
	}
	if scan.None != 0 || scan.LF != 1 || scan.Both != 2 || scan.CR != 3 {
		t.Error("the ends' numbers")
	}
}

func TestP5_3Fine(t *testing.T) {
	for kind := -3; kind < 9; kind++ {
		if scan.Fine(kind) != (kind == 0 || kind == 1) {
			t.Error(kind, scan.Fine(kind))
		}
	}
	if scan.Fine(math.MinInt) || scan.Fine(math.MaxInt) || scan.Fine(256) {
		t.Error("far away")
	}
	if scan.Bare != 0 || scan.Quoted != 1 || scan.Loose != 2 || scan.Torn != 3 || scan.Open != 4 {
		t.Error("the kinds' numbers")
	}
}

// printed puts rows together to a file again.
func printed(b []byte, rows []scan.Row) []byte {
	var out []byte
	for _, r := range rows {
		for i, f := range r.Fields {
			if i > 0 {
				out = append(out, ',')
			}
			out = append(out, b[f.Raw.At:f.Raw.At+f.Raw.N]...)
		}
		out = append(out, scan.Mark(r.End)...)
	}
	return out
}

// checkFile holds a file against the theorem.
func checkFile(t *testing.T, b []byte) {
	t.Helper()
	rows := scan.All(b)
	if got := printed(b, rows); !bytes.Equal(got, b) {
		t.Fatalf("%q is put together as %q", b, got)
	}
	for i, r := range rows {
		if i < len(rows)-1 && r.End == scan.None {
			t.Fatalf("%q: the row %d has no end", b, i)
		}
		if r.End == scan.None && len(r.Fields) == 1 && r.Fields[0].Raw.N == 0 {
			t.Fatalf("%q: the row %d is nothing", b, i)
		}
	}
}

func TestP5_4FilesPutTogether(t *testing.T) {
	eachText("\",\r\na", 7, func(b []byte) { checkFile(t, b) })
	const some = "\"\"\"\",,,\r\n\r\n\n\rabc\x00\xff\xe4 "
	n := uint32(1)
	for range 300 {
		var b []byte
		for range 400 {
			n = n*1664525 + 1013904223
			b = append(b, some[int(n>>16)%len(some)])
		}
		checkFile(t, b)
	}
	for _, long := range []string{`"`, `""`, `a`, `,`, "\r", "\n", "\r\n", `",`, `""a,`} {
		checkFile(t, []byte(strings.Repeat(long, 50000)))
	}
}

func TestP1OwnMemory(t *testing.T) {
	const file = "\"a\"\"b\"\"c\"d,\"e\"\"f\"\r\ng,\"h\"\"\"i\n"
	b := append(make([]byte, 0, 100), file...)
	want := scan.All(b)
	rows := scan.All(b)
	for _, r := range rows {
		for _, f := range r.Fields {
			_ = append(f.Parts, arena.Span{At: 77, N: 77})
		}
		_ = append(r.Fields, scan.Field{Kind: 77})
	}
	if !slices.EqualFunc(rows, want, sameRow) {
		t.Error("what is appended to one list is seen in another one", rows)
	}
	first := rows[0].Fields[0]
	v := scan.Value(b, first)
	for i := range v {
		v[i] = 'X'
	}
	_ = append(v, 'Y')
	for i := range first.Parts {
		first.Parts[i] = arena.Span{At: 77, N: 77}
	}
	if !sameField(rows[0].Fields[1], want[0].Fields[1]) || !slices.EqualFunc(scan.All(b), want, sameRow) {
		t.Error("what is written into an answer is seen later")
	}
	if string(b) != file || b[:len(b)+1][len(b)] != 0 {
		t.Errorf("what was handed in is changed: %q", b[:len(b)+1])
	}
	b[0] = 'X'
	if !slices.EqualFunc(rows[1:], want[1:], sameRow) {
		t.Error("what was handed in is kept")
	}
}

func TestP5Example(t *testing.T) {
	b := []byte(`a,"b""c"d`)
	r, behind := scan.One(b, 0)
	if len(r.Fields) != 2 || r.Fields[0].Kind != scan.Bare || r.Fields[1].Kind != scan.Torn || behind != len(b) {
		t.Fatalf("%+v %d", r, behind)
	}
	if v := scan.Value(b, r.Fields[1]); string(v) != `b"cd` {
		t.Errorf("%q", v)
	}
}
