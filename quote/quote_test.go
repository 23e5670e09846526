package quote_test

import (
	"bytes"
	"regexp"
	"slices"
	"strings"
	"testing"

	"damier/quote"
	"damier/scan"
)

// eachText hands over every text of the bytes of some, up to a length.
func eachText(some string, most int, f func(b []byte)) {
	var grow func(b []byte)
	grow = func(b []byte) {
		f(b)
		for i := 0; i < len(some) && len(b) < most; i++ {
			grow(append(bytes.Clone(b), some[i]))
		}
	}
	grow(nil)
}

func TestP6_1Needs(t *testing.T) {
	for c := range 256 {
		special := c == 44 || c == 34 || c == 13 || c == 10
		for _, b := range [][]byte{{byte(c)}, {'a', byte(c)}, {byte(c), 'a'}, {'a', byte(c), 'b'}} {
			if quote.Needs(b) != special {
				t.Errorf("%q: %v", b, quote.Needs(b))
			}
		}
	}
	for _, b := range []string{"", "a", " ", "a b", "'", ";", "\u201c", "\t"} {
		if quote.Needs([]byte(b)) {
			t.Errorf("%q needs quotes", b)
		}
	}
	if quote.Needs(nil) {
		t.Error("nil needs quotes")
	}
}

func TestP6_1PutAndWidth(t *testing.T) {
	for b, want := range map[string]string{
		"": "", "a": "a", " a ": " a ", "\xff\x00": "\xff\x00",
		`"`: `""""`, `""`: `""""""`, `a"b`: `"a""b"`, `"a"`: `"""a"""`,
		",": `","`, "a,b": `"a,b"`, "\n": "\"\n\"", "\r": "\"\r\"", "a\r\nb": "\"a\r\nb\"", "\",\"\n": "\"\"\",\"\"\n\"",
	} {
		if got := quote.Put([]byte(b)); string(got) != want {
			t.Errorf("%q: %q", b, got)
		}
	}
	check := func(b []byte) {
		want := string(b)
		if strings.ContainsAny(want, ",\"\r\n") {
			want = `"` + strings.ReplaceAll(want, `"`, `""`) + `"`
		}
		if got := quote.Put(b); string(got) != want || quote.Width(b) != len(want) {
			t.Fatalf("%q: %q, %d wide", b, got, quote.Width(b))
		}
	}
	check(nil)
	eachText("\",\r\na\xff", 5, check)
	check([]byte(strings.Repeat(`"`, 100000)))
}

func TestP6_2Read(t *testing.T) {
	for _, c := range []struct {
		raw, value string
		kind       int
	}{
		{"", "", scan.Bare}, {"a", "a", scan.Bare}, {"a,b", "a", scan.Bare}, {",b", "", scan.Bare}, {"\nb", "", scan.Bare}, {"a\r\nb", "a", scan.Bare}, {"a\rb", "a", scan.Bare},
		{`"a"`, "a", scan.Quoted}, {`"a",b`, "a", scan.Quoted}, {`"a""b"`, `a"b`, scan.Quoted}, {`""`, "", scan.Quoted}, {"\"a\r\n,\"\nb", "a\r\n,", scan.Quoted},
		{`a"b`, `a"b`, scan.Loose}, {` "a"`, ` "a"`, scan.Loose}, {`a"b,c"`, `a"b`, scan.Loose},
		{`"a"b`, "ab", scan.Torn}, {`"a"""b",c`, `a"b"`, scan.Torn}, {`"a""""b",c`, `a""b`, scan.Quoted}, {`"a" "b",c`, `a "b"`, scan.Torn}, {`""b`, "b", scan.Torn},
		{`"a`, "a", scan.Open}, {`"`, "", scan.Open}, {`"""`, `"`, scan.Open}, {"\"a,b\nc", "a,b\nc", scan.Open},
	} {
		if v, kind := quote.Read([]byte(c.raw)); string(v) != c.value || kind != c.kind {
			t.Errorf("%q: %q %d", c.raw, v, kind)
		}
	}
	if v, kind := quote.Read(nil); len(v) != 0 || kind != scan.Bare {
		t.Errorf("nil: %q %d", v, kind)
	}
	eachText("\",\r\na", 6, func(raw []byte) {
		rows := scan.All(raw)
		if len(rows) == 0 {
			return
		}
		first := rows[0].Fields[0]
		if v, kind := quote.Read(raw); !bytes.Equal(v, scan.Value(raw, first)) || kind != first.Kind {
			t.Fatalf("%q: %q %d", raw, v, kind)
		}
	})
}

// texts tells texts as lists of bytes.
func texts(l ...string) [][]byte {
	var out [][]byte
	for _, s := range l {
		out = append(out, []byte(s))
	}
	return out
}

func TestP6_3Join(t *testing.T) {
	for _, c := range []struct {
		l    [][]byte
		want string
	}{
		{nil, ""}, {[][]byte{}, ""}, {[][]byte{nil}, ""}, {texts(""), ""}, {texts("", ""), ","}, {[][]byte{nil, nil, nil}, ",,"},
		{texts("a"), "a"}, {texts("a", "b"), "a,b"}, {texts("", "a", ""), ",a,"},
		{texts("a,b", `"`, "c", "\r\n"), "\"a,b\",\"\"\"\",c,\"\r\n\""},
	} {
		if got := quote.Join(c.l); string(got) != c.want {
			t.Errorf("%q: %q", c.l, got)
		}
	}
}

// byWords tells by the words, of the fields there are, whether a file is right.
func byWords(file []byte) bool {
	rows := scan.All(file)
	for i, r := range rows {
		if r.End != 2 && (r.End != 0 || i != len(rows)-1) {
			return false
		}
		for _, f := range r.Fields {
			if f.Kind != 0 && f.Kind != 1 {
				return false
			}
		}
	}
	return true
}

// The grammar of RFC 4180, of a file of any bytes.
var grammar = regexp.MustCompile(`^(?:(?:[^",\r\n]*|"(?:[^"]|"")*")(?:,|\r\n))*(?:[^",\r\n]*|"(?:[^"]|"")*")$`)

func TestP6_3Right(t *testing.T) {
	for _, file := range []string{"", "a", "a,b", ",", "\r\n", "a\r\n", "a\r\nb", "a\r\n\r\n", `""`, `"a"`, `"a""b",c`, "\"\r\n\"\r\n", "\",\n\r\",\"\"\r\n,", `""""`, "\xff\x00;'", "\"a\",\"b\"\r\n\"c\"", "a\tb \r\n"} {
		if !quote.Right([]byte(file)) {
			t.Errorf("%q isn't right", file)
		}
	}
	for _, file := range []string{"\n", "\r", "a\n", "a\r", "a\nb", "a\rb", "a\r\n\n", "a\r\r\n", "a\n\r", `"`, `"a`, `"""`, `"a""`, `a"`, `a"b"`, ` "a"`, `"a" `, `"a"b`, `""a`, `a,"b`, "\"a\"\n", "\"a\"\r", "\"a\"\rb", "a,b\r\nc\n", "a\r,", "a\r\"b\"", "a,\nb"} {
		if quote.Right([]byte(file)) {
			t.Errorf("%q is right", file)
		}
	}
	if !quote.Right(nil) {
		t.Error("nil isn't right")
	}
	check := func(file []byte) {
		if got := quote.Right(file); got != byWords(file) || got != grammar.Match(file) {
			t.Fatalf("%q: %v, by the words %v, by the grammar %v", file, got, byWords(file), grammar.Match(file))
		}
	}
	eachText("\",\r\na", 7, check)
	for c := range 256 {
		x := byte(c)
		for _, file := range [][]byte{{x}, {'a', x}, {x, 'a'}, {'"', x, '"'}, {'"', '"', x}, {'"', x}, {',', x}, {'\r', x}, {'\r', '\n', x}} {
			check(file)
		}
	}
}

func TestP6_4PutIsRead(t *testing.T) {
	check := func(b []byte) {
		v, kind := quote.Read(quote.Put(b))
		if !bytes.Equal(v, b) || !scan.Fine(kind) {
			t.Fatalf("%q is read as %q, of the kind %d", b, v, kind)
		}
	}
	eachText("\",\r\na", 6, check)
	for c := range 256 {
		check([]byte{byte(c)})
		check([]byte{byte(c), '"', byte(c)})
	}
}

// eachRow hands over every row of some texts, of one up to a number of them.
func eachRow(some [][]byte, most int, f func(l [][]byte)) {
	var grow func(l [][]byte)
	grow = func(l [][]byte) {
		if len(l) > 0 {
			f(l)
		}
		for i := 0; i < len(some) && len(l) < most; i++ {
			grow(append(slices.Clone(l), some[i]))
		}
	}
	grow(nil)
}

func TestP6_4RowsArePartedAgain(t *testing.T) {
	some := texts("", "a", `"`, ",", "\r\n", "\r", "\n", `a"b`, `"",""`, " ", "\xff")
	eachRow(some, 4, func(l [][]byte) {
		line := quote.Join(l)
		rows := scan.All(line)
		if len(l) == 1 && len(l[0]) == 0 {
			return
		}
		if len(rows) != 1 || len(rows[0].Fields) != len(l) {
			t.Fatalf("%q is parted into %v", line, rows)
		}
		for i, f := range rows[0].Fields {
			if v := scan.Value(line, f); !bytes.Equal(v, l[i]) || !scan.Fine(f.Kind) {
				t.Fatalf("%q: the field %d is %q", line, i, v)
			}
		}
	})
	var file []byte
	n := 0
	eachRow(some, 3, func(l [][]byte) {
		file = append(append(file, quote.Join(l)...), "\r\n"...)
		n++
	})
	if !quote.Right(file) || len(scan.All(file)) != n {
		t.Error("rows that are joined are no right file")
	}
}

func TestP1OwnMemory(t *testing.T) {
	for _, s := range []string{"ab", `a"b`, "a,b", `"ab"`} {
		b := append(make([]byte, 0, 100), s...)
		v, _ := quote.Read(b)
		for _, got := range [][]byte{quote.Put(b), quote.Join([][]byte{b}), quote.Join([][]byte{b, b}), v} {
			for i := range got {
				got[i] = 'X'
			}
			_ = append(got, 'Y')
		}
		quote.Right(b)
		quote.Needs(b)
		quote.Width(b)
		if string(b) != s || b[:len(b)+1][len(b)] != 0 {
			t.Errorf("%q was changed: %q", s, b[:len(b)+1])
		}
	}
	l := texts("a", `"`)
	quote.Join(l)
	if len(l) != 2 || string(l[0]) != "a" || string(l[1]) != `"` {
		t.Errorf("%q", l)
	}
}

func TestP6Example(t *testing.T) {
	if got := quote.Put([]byte(`a"b`)); string(got) != `"a""b"` {
		t.Errorf("%q", got)
	}
}
