package token

import (
	"bytes"
	"encoding/binary"
	"flitting/api"
	"math"
	"math/rand"
	"slices"
	"strings"
	"testing"
)

// xs is n bytes.
func xs(n int) string {
	return strings.Repeat("x", n)
}

// most is a literal token of as many bytes as there may be.
func most() Token {
	return Literal(xs(api.MaxFile))
}

// hidden is a list with room behind it, which holds tokens that nobody may see.
func hidden(l []Token) []Token {
	return append(slices.Clone(l), Literal("no"), Copy(0, 1), Literal("no"))[:len(l)]
}

// untouched tells whether what lies in and behind a list that hidden made is as it was.
func untouched(h, l []Token) bool {
	return slices.Equal(h[:len(h)+3], hidden(l)[:len(l)+3])
}

// wrong is tokens that aren't right.
func wrong() []Token {
	return []Token{
		{}, Literal(""), Literal(xs(api.MaxFile + 1)),
		Copy(0, 0), Copy(1, 0), Copy(4097, 0), Copy(-1, 0), Copy(math.MaxInt, 0),
		Copy(0, -1), Copy(5, -1), Copy(0, math.MinInt), Copy(4098, -1), Copy(math.MinInt, math.MinInt),
		Copy(-1, 1), Copy(-1, 2), Copy(-1, 4098), Copy(math.MinInt, 1), Copy(math.MinInt, math.MaxInt),
		Copy(0, 4098), Copy(1, 4097), Copy(4097, 1), Copy(4096, 2), Copy(4098, 1), Copy(2049, 2049),
		Copy(0, math.MaxInt), Copy(math.MaxInt, 1), Copy(math.MaxInt, math.MaxInt), Copy(1, math.MaxInt), Copy(math.MaxInt-1, 2),
		{Many: 1, Data: "a"}, {From: 3, Many: 2, Data: "a"}, {From: 1, Data: "a"}, {From: -1, Data: "a"}, {From: 4097, Data: "a"}, {Many: -1, Data: "a"}, {Many: 1, Data: xs(api.MaxFile)},
	}
}

// good is tokens that are right.
func good() []Token {
	return []Token{
		Literal("a"), Literal("\x00"), Literal("ab"), Literal("ä"), Literal(xs(127)), Literal(xs(128)), Literal(xs(api.MaxFile - 1)), most(),
		Copy(0, 1), Copy(0, 2), Copy(1, 1), Copy(2, 3), Copy(127, 128), Copy(128, 127), Copy(0, 4096), Copy(0, 4097), Copy(1, 4096), Copy(4096, 1), Copy(4095, 2), Copy(2048, 2049),
	}
}

// TestRight: 16.1, Right at its edges.
func TestRight(t *testing.T) {
	for _, x := range good() {
		if !Right(x) {
			t.Errorf("%.40v isn't right", x)
		}
	}
	for _, x := range wrong() {
		if Right(x) {
			t.Errorf("%.40v is right", x)
		}
	}
}

// TestMade: 16.1, Copy and Literal, of whatever they are made.
func TestMade(t *testing.T) {
	l := []int{math.MinInt, -1, 0, 1, 5, 4097, 4098, math.MaxInt}
	for _, from := range l {
		for _, many := range l {
			if x := Copy(from, many); x.From != from || x.Many != many || x.Data != "" {
				t.Errorf("Copy(%d, %d): %v", from, many, x)
			}
		}
	}
	for _, s := range []string{"", "a", "\x00\xff", xs(api.MaxFile), xs(api.MaxFile + 1)} {
		if x := Literal(s); x.From != 0 || x.Many != 0 || x.Data != s {
			t.Errorf("Literal(%.20q): %.40v", s, x)
		}
	}
}

// TestBytes: 16.1, Bytes counts those of right tokens alone.
func TestBytes(t *testing.T) {
	for _, x := range []struct {
		l    []Token
		want int
	}{
		{nil, 0},
		{[]Token{}, 0},
		{[]Token{Literal("abc")}, 3},
		{[]Token{Literal("abc"), Copy(0, 7), Literal("de")}, 5},
		{[]Token{Copy(0, 7)}, 0},
		{[]Token{most(), most(), most()}, 3 * api.MaxFile},
		{wrong(), 0},
		{slices.Concat(wrong(), []Token{Literal("ab")}, wrong(), []Token{Literal("c")}), 3},
		{[]Token{{Many: 1, Data: "ab"}, {From: 1, Data: "ab"}, Literal(xs(api.MaxFile + 1)), Literal("z")}, 1},
	} {
		l := hidden(x.l)
		if n := Bytes(l); n != x.want || !untouched(l, x.l) {
			t.Errorf("Bytes of %.80v: %d, not %d", x.l, n, x.want)
		}
	}
}

// TestJoin: 16.2, by hand.
func TestJoin(t *testing.T) {
	k := api.MaxFile
	for i, x := range []struct{ l, want []Token }{
		{nil, nil},
		{[]Token{}, nil},
		{wrong(), nil},
		{[]Token{Copy(0, 1), Copy(1, 1), Literal("a"), Literal("b"), Copy(5, 1)}, []Token{Copy(0, 2), Literal("ab"), Copy(5, 1)}},
		{[]Token{Literal("a")}, []Token{Literal("a")}},
		{[]Token{Literal("a"), Literal("b"), Literal("c"), Literal("de")}, []Token{Literal("abcde")}},
		{[]Token{Literal("a"), Copy(0, 1), Literal("b")}, []Token{Literal("a"), Copy(0, 1), Literal("b")}},
		{[]Token{Copy(0, 2), Copy(2, 3), Copy(5, 1)}, []Token{Copy(0, 6)}},
		// Neither a gap, nor what lies over one another, nor the other way round is put together.
		{[]Token{Copy(0, 2), Copy(3, 3)}, []Token{Copy(0, 2), Copy(3, 3)}},
		{[]Token{Copy(0, 2), Copy(1, 1)}, []Token{Copy(0, 2), Copy(1, 1)}},
		{[]Token{Copy(0, 2), Copy(0, 2)}, []Token{Copy(0, 2), Copy(0, 2)}},
		{[]Token{Copy(2, 3), Copy(0, 2)}, []Token{Copy(2, 3), Copy(0, 2)}},
		{[]Token{Copy(0, 2), Copy(3, 1), Copy(2, 1), Copy(3, 1)}, []Token{Copy(0, 2), Copy(3, 1), Copy(2, 2)}},
		{[]Token{Copy(0, 1), Copy(0, 1), Copy(1, 1), Copy(1, 1)}, []Token{Copy(0, 1), Copy(0, 2), Copy(1, 1)}},
		{[]Token{Copy(5, 1), Literal("a"), Copy(6, 1)}, []Token{Copy(5, 1), Literal("a"), Copy(6, 1)}},
		// A literal one has From and Many 0: blocks from 0 on don't begin where it ends.
		{[]Token{Literal("a"), Copy(0, 3)}, []Token{Literal("a"), Copy(0, 3)}},
		{[]Token{Copy(0, 4096), Copy(4096, 1)}, []Token{Copy(0, 4097)}},
		{[]Token{Copy(1, 4096), Copy(4097, 1)}, []Token{Copy(1, 4096)}},
		{[]Token{Copy(0, 4097), Copy(4097, 0), Literal("a")}, []Token{Copy(0, 4097), Literal("a")}},
		// Those that aren't right stand between none.
		{[]Token{Literal("a"), {}, Literal("b")}, []Token{Literal("ab")}},
		{[]Token{Copy(0, 1), Copy(1, -1), Copy(1, 4097), {From: 1, Many: 1, Data: "x"}, Copy(1, 1)}, []Token{Copy(0, 2)}},
		{[]Token{Literal("a"), Literal(xs(k + 1)), Literal("b")}, []Token{Literal("ab")}},
		{slices.Concat(wrong(), []Token{Literal("a")}, wrong(), []Token{Literal("b"), Copy(0, 1)}, wrong(), []Token{Copy(1, 1)}, wrong()), []Token{Literal("ab"), Copy(0, 2)}},
		// As long as both together have at most 2^14 bytes.
		{[]Token{Literal(xs(k - 1)), Literal("y")}, []Token{Literal(xs(k-1) + "y")}},
		{[]Token{Literal("y"), Literal(xs(k - 1))}, []Token{Literal("y" + xs(k-1))}},
		{[]Token{most(), Literal("y")}, []Token{most(), Literal("y")}},
		{[]Token{Literal("y"), most()}, []Token{Literal("y"), most()}},
		{[]Token{Literal("y"), most(), Literal("z")}, []Token{Literal("y"), most(), Literal("z")}},
		{[]Token{most(), Literal("y"), Literal("z")}, []Token{most(), Literal("yz")}},
		{[]Token{most(), most()}, []Token{most(), most()}},
		{[]Token{Literal(xs(k - 1)), Literal("yz"), Literal("1")}, []Token{Literal(xs(k - 1)), Literal("yz1")}},
		{[]Token{Literal("a"), Literal(xs(k - 2)), Literal("y"), Literal("z")}, []Token{Literal("a" + xs(k-2) + "y"), Literal("z")}},
		{[]Token{Literal(xs(10000)), Literal(xs(10000)), Literal(xs(6384)), Literal("y")}, []Token{Literal(xs(10000)), most(), Literal("y")}},
		{[]Token{Literal(xs(10000)), Literal(xs(10000)), Literal(xs(6385)), Literal("y")}, []Token{Literal(xs(10000)), Literal(xs(10000)), Literal(xs(6385) + "y")}},
	} {
		l := hidden(x.l)
		if got := Join(l...); !Same(got, x.want) || !slices.Equal(got, x.want) {
			t.Errorf("case %d: Join(%.80v): %.80v, not %.80v", i, x.l, got, x.want)
		}
		if !untouched(l, x.l) {
			t.Errorf("case %d: the tokens were changed", i)
		}
	}
	if l := Join(); len(l) != 0 {
		t.Errorf("Join of none: %v", l)
	}
}

// joined is tokens put together one by one, as the document says it.
func joined(l []Token) []Token {
	var out []Token
	for _, t := range l {
		if !Right(t) {
			continue
		}
		if len(out) > 0 {
			a := &out[len(out)-1]
			if a.Data != "" && t.Data != "" && len(a.Data)+len(t.Data) <= 1<<14 {
				a.Data += t.Data
				continue
			}
			if a.Data == "" && t.Data == "" && a.From+a.Many == t.From {
				a.Many += t.Many
				continue
			}
		}
		out = append(out, t)
	}
	return out
}

// item is one block, or one byte.
type item struct {
	block int
	b     byte
}

// items is what the right ones of tokens stand for.
func items(l []Token) []item {
	var out []item
	for _, t := range l {
		if !Right(t) {
			continue
		}
		for k := range t.Many {
			out = append(out, item{block: t.From + k})
		}
		for i := range len(t.Data) {
			out = append(out, item{block: -1, b: t.Data[i]})
		}
	}
	return out
}

// drawn is tokens, with some that aren't right among them, if wanted.
func drawn(r *rand.Rand, n int, bad bool) []Token {
	var l []Token
	at := 0
	for range n {
		switch r.Intn(6) {
		case 0:
			at = r.Intn(6)
			fallthrough
		case 1, 2:
			many := 1 + r.Intn(3)
			l = append(l, Copy(at, many))
			at += many
		case 3, 4:
			l = append(l, Literal(strings.Repeat(string(rune('a'+r.Intn(20))), 1+r.Intn(3))))
		default:
			if x := wrong(); bad {
				l = append(l, x[r.Intn(len(x))])
			} else if r.Intn(4) == 0 {
				l = append(l, Literal(xs(1+r.Intn(api.MaxFile))))
			}
		}
	}
	return l
}

// TestJoinDrawn: 16.2 and 16.4, Join is what the document says, stands for the same bytes, has as many literal ones, and is joined.
func TestJoinDrawn(t *testing.T) {
	r := rand.New(rand.NewSource(16))
	for i := range 6000 {
		l := drawn(r, r.Intn(12), i%2 == 0)
		got := Join(l...)
		if want := joined(l); !slices.Equal(got, want) {
			t.Fatalf("Join(%.300v): %.300v, not %.300v", l, got, want)
		}
		if !slices.Equal(items(got), items(l)) || Bytes(got) != Bytes(l) {
			t.Fatalf("Join(%.300v) stands for other bytes: %.300v", l, got)
		}
		for k, x := range got {
			if !Right(x) {
				t.Fatalf("Join(%.300v): %.300v", l, got)
			}
			if k > 0 && x.Many > 0 && got[k-1].Many > 0 && got[k-1].From+got[k-1].Many == x.From {
				t.Fatalf("Join(%.300v) isn't joined: %.300v", l, got)
			}
			if k > 0 && x.Many == 0 && got[k-1].Many == 0 && len(x.Data)+len(got[k-1].Data) <= api.MaxFile {
				t.Fatalf("Join(%.300v) isn't joined: %.300v", l, got)
			}
		}
	}
}

// TestJoinMany: 16.2, many tokens.
func TestJoinMany(t *testing.T) {
	got := Join(slices.Repeat([]Token{Literal("x"), Literal(""), Literal("x")}, 1<<17)...)
	if !slices.Equal(got, slices.Repeat([]Token{most()}, 16)) {
		t.Errorf("2^18 bytes are %d tokens", len(got))
	}
	var l []Token
	for range 40 {
		for k := range 4097 {
			l = append(l, Copy(k, 1))
		}
	}
	if got := Join(l...); !slices.Equal(got, slices.Repeat([]Token{Copy(0, 4097)}, 40)) {
		t.Errorf("40 times all blocks are %d tokens", len(got))
	}
}

// bytesOf is tokens' bytes, as the document says them.
func bytesOf(l []Token) []byte {
	var b []byte
	for _, t := range l {
		b = binary.AppendUvarint(b, uint64(t.Many))
		if t.Many != 0 {
			b = binary.AppendUvarint(b, uint64(t.From))
		} else {
			b = append(binary.AppendUvarint(b, uint64(len(t.Data))), t.Data...)
		}
	}
	return b
}

// TestPut: 16.3, tokens' bytes, and back.
func TestPut(t *testing.T) {
	for _, x := range []struct {
		l    []Token
		want string
	}{
		{nil, ""},
		{[]Token{}, ""},
		{[]Token{Copy(0, 1)}, "\x01\x00"},
		{[]Token{Copy(5, 3)}, "\x03\x05"},
		{[]Token{Copy(300, 128)}, "\x80\x01\xac\x02"},
		{[]Token{Copy(0, 4097)}, "\x81\x20\x00"},
		{[]Token{Copy(4096, 1)}, "\x01\x80\x20"},
		{[]Token{Literal("ab")}, "\x00\x02ab"},
		{[]Token{Literal("\x00")}, "\x00\x01\x00"},
		{[]Token{Copy(0, 2), Literal("ab"), Copy(5, 1)}, "\x02\x00\x00\x02ab\x01\x05"},
		// What isn't joined stays as it is.
		{[]Token{Literal("a"), Literal("b"), Copy(0, 1), Copy(1, 1)}, "\x00\x01a\x00\x01b\x01\x00\x01\x01"},
		{[]Token{Literal(xs(128))}, "\x00\x80\x01" + xs(128)},
		{[]Token{most(), most()}, strings.Repeat("\x00\x80\x80\x01"+xs(api.MaxFile), 2)},
	} {
		l := hidden(x.l)
		if b := Put(l); string(b) != x.want || !untouched(l, x.l) {
			t.Errorf("Put(%.60v): % .60x", x.l, b)
		}
		if l, e := Get([]byte(x.want)); e != api.OK || !slices.Equal(l, x.l) {
			t.Errorf("Get of % .60x: %.60v, %d", x.want, l, e)
		}
	}
}

// TestPutWrong: 16.3, nothing, if one isn't right.
func TestPutWrong(t *testing.T) {
	for _, x := range wrong() {
		for _, l := range [][]Token{{x}, {x, Copy(0, 1)}, {Copy(0, 1), x}, {Literal("a"), x, Literal("b")}} {
			if b := Put(l); len(b) != 0 {
				t.Errorf("Put(%.60v): % .60x", l, b)
			}
		}
	}
}

// number is a number's bytes.
func number(n uint64) string {
	return string(binary.AppendUvarint(nil, n))
}

// wrongBytes is bytes that begin with what is no token, with what is told of them.
func wrongBytes() map[string]api.Errno {
	return map[string]api.Errno{
		"\x80": api.ErrShort, "\x81\x00": api.ErrForm, "\x80\x00": api.ErrForm, strings.Repeat("\xff", 11): api.ErrForm,
		number(4098): api.ErrLong, number(4098) + "\x00": api.ErrLong, number(math.MaxUint64) + "\x00": api.ErrLong,
		"\x01": api.ErrShort, "\x01\x80": api.ErrShort, "\x01\x80\x00": api.ErrForm,
		"\x01" + number(4098): api.ErrLong, "\x01" + number(math.MaxUint64): api.ErrLong,
		number(4097) + number(4098): api.ErrLong,
		"\x01" + number(4097):       api.ErrForm, number(4097) + "\x01": api.ErrForm, number(4097) + number(4097): api.ErrForm, "\x02" + number(4096): api.ErrForm,
		"\x00": api.ErrShort, "\x00\x00": api.ErrForm, "\x00\x01": api.ErrShort, "\x00\x02a": api.ErrShort, "\x00\x80\x00": api.ErrForm, "\x00\x80": api.ErrShort,
		"\x00" + number(api.MaxFile+1): api.ErrLong, "\x00" + number(api.MaxFile+1) + xs(api.MaxFile+1): api.ErrLong, "\x00" + number(math.MaxUint64): api.ErrLong,
		"\x00" + number(api.MaxFile): api.ErrShort, "\x00" + number(api.MaxFile) + xs(api.MaxFile-1): api.ErrShort,
	}
}

// TestGetWrong: 16.3, what is wrong with tokens' bytes; the first one that is wrong is told.
func TestGetWrong(t *testing.T) {
	for s, want := range wrongBytes() {
		for _, ahead := range []string{"", "\x01\x00", "\x00\x02ab", "\x02\x00\x00\x02ab\x01\x05"} {
			b := []byte(ahead + s)
			was := slices.Clone(b)
			if l, e := Get(b); e != want || len(l) != 0 || !bytes.Equal(b, was) {
				t.Errorf("Get of % .40x: %.40v, %d, not %d", b, l, e, want)
			}
		}
	}
	for _, x := range []struct {
		b    string
		want api.Errno
	}{
		{"\x00\x00" + "\x80\x00", api.ErrForm}, {"\x00\x00" + "\x01", api.ErrForm}, {"\x00\x00" + number(4098), api.ErrForm}, {"\x01" + number(4097) + "\x00\x09a", api.ErrForm},
		{number(4098) + "\x00\x00", api.ErrLong}, {"\x01\x00" + number(4098) + "\x00\x00", api.ErrLong},
		{"\x01\x00\x00", api.ErrShort}, {"\x00\x02ab\x02", api.ErrShort}, {"\x01\x00\x00\x01", api.ErrShort},
	} {
		if l, e := Get([]byte(x.b)); e != x.want || len(l) != 0 {
			t.Errorf("Get of % x: %v, %d, not %d", x.b, l, e, x.want)
		}
	}
	// What lies behind the length isn't read.
	b := []byte("\x01\x00\x00\x02ab")
	for n, want := range []api.Errno{api.OK, api.ErrShort, api.OK, api.ErrShort, api.ErrShort, api.ErrShort, api.OK} {
		if l, e := Get(b[:n]); e != want || len(l) != map[int]int{2: 1, 6: 2}[n] {
			t.Errorf("Get of the first %d bytes: %v, %d", n, l, e)
		}
	}
}

// TestSame: 16.3, Same.
func TestSame(t *testing.T) {
	all := good()
	if !Same(all, good()) || !Same(nil, []Token{}) || !Same([]Token{}, nil) || !Same(nil, nil) || Same(nil, all) || Same(all, nil) {
		t.Errorf("Same of the same, or of none")
	}
	for i := range all {
		if Same(all, all[:i]) || Same(all[:i], all) || !Same(all[:i], good()[:i]) || i > 0 && Same(all[i:], all) {
			t.Errorf("Same of the first %d", i)
		}
		for _, x := range []Token{{From: all[i].From + 1, Many: all[i].Many, Data: all[i].Data}, {From: all[i].From, Many: all[i].Many + 1, Data: all[i].Data}, {From: all[i].From, Many: all[i].Many, Data: all[i].Data + "x"}} {
			l := good()
			l[i] = x
			if Same(all, l) || Same(l, all) || !Same(l, slices.Clone(l)) {
				t.Errorf("Same of another token %d", i)
			}
		}
	}
	// Others that stand for the same bytes aren't the same.
	if Same([]Token{Literal("ab")}, []Token{Literal("a"), Literal("b")}) || Same([]Token{Copy(0, 1), Literal("a")}, []Token{Literal("a"), Copy(0, 1)}) {
		t.Errorf("Same of other tokens")
	}
	if !Same(wrong(), wrong()) {
		t.Errorf("Same of what isn't right")
	}
}

// TestFollows: 16.4, Get of Put is the tokens; Put of Get the bytes.
func TestFollows(t *testing.T) {
	r := rand.New(rand.NewSource(17))
	some := []byte{0, 0, 0, 1, 1, 2, 3, 127, 128, 129, 255, 'a', 'b', 'c'}
	read := 0
	for range 6000 {
		l := drawn(r, r.Intn(12), false)
		b := Put(l)
		got, e := Get(b)
		if e != api.OK || !slices.Equal(got, l) || !bytes.Equal(b, bytesOf(l)) {
			t.Fatalf("%.300v: %.300v, %d", l, got, e)
		}
		b = make([]byte, r.Intn(12))
		for i := range b {
			b[i] = some[r.Intn(len(some))]
		}
		got, e = Get(b)
		switch {
		case e != api.OK && len(got) != 0:
			t.Fatalf("% x: %v beside %d", b, got, e)
		case e == api.OK && !bytes.Equal(Put(got), b):
			t.Fatalf("% x is read as %v", b, got)
		case e == api.OK:
			read++
		}
	}
	if read < 1000 {
		t.Errorf("only %d were read", read)
	}
	if got, e := Get(Put(good())); e != api.OK || !slices.Equal(got, good()) {
		t.Errorf("all that are right: %d", e)
	}
}

// TestApart: R5, what is answered is new memory.
func TestApart(t *testing.T) {
	l := []Token{Copy(0, 1), Literal("ab"), Copy(1, 1)}
	x, y := Join(l...), Join(l...)
	p, q := Put(l), Put(l)
	for i := range x {
		x[i] = Literal("no")
	}
	clear(p)
	if !slices.Equal(l, []Token{Copy(0, 1), Literal("ab"), Copy(1, 1)}) || !slices.Equal(y, l) || !bytes.Equal(q, bytesOf(l)) {
		t.Errorf("memory is shared: %v, %v, % x", l, y, q)
	}
	u, _ := Get(q)
	v, _ := Get(q)
	clear(u)
	clear(q)
	if !slices.Equal(v, l) {
		t.Errorf("what was read shares memory: %v", v)
	}
}
