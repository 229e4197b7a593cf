package vint

import (
	"bytes"
	"encoding/binary"
	"flitting/api"
	"math"
	"slices"
	"strings"
	"testing"
)

// nums is numbers about each edge of how many bytes they have.
func nums() []uint64 {
	l := []uint64{0, 1, 2, 300, math.MaxUint64, math.MaxUint64 - 1}
	for i := range 64 {
		x := uint64(1) << i
		l = append(l, x-1, x, x+1)
	}
	return l
}

// TestNum: 4.1, a number's bytes.
func TestNum(t *testing.T) {
	for _, x := range []struct {
		n uint64
		s string
	}{
		{0, "\x00"}, {1, "\x01"}, {127, "\x7f"}, {128, "\x80\x01"}, {129, "\x81\x01"}, {255, "\xff\x01"}, {300, "\xac\x02"}, {1<<14 - 1, "\xff\x7f"}, {1 << 14, "\x80\x80\x01"},
		{1<<32 - 1, "\xff\xff\xff\xff\x0f"}, {1 << 40, "\x80\x80\x80\x80\x80\x20"}, {1<<63 - 1, "\xff\xff\xff\xff\xff\xff\xff\xff\x7f"},
		{1 << 63, "\x80\x80\x80\x80\x80\x80\x80\x80\x80\x01"}, {math.MaxUint64, "\xff\xff\xff\xff\xff\xff\xff\xff\xff\x01"},
	} {
		if b := Num(nil, x.n); string(b) != x.s {
			t.Errorf("Num(nil, %d): % x", x.n, b)
		}
		if b := Num([]byte("ab"), x.n); string(b) != "ab"+x.s {
			t.Errorf("Num(ab, %d): % x", x.n, b)
		}
	}
	for _, n := range nums() {
		if b := Num([]byte{9}, n); !bytes.Equal(b, binary.AppendUvarint([]byte{9}, n)) {
			t.Errorf("Num of %d: % x", n, b)
		}
	}
}

// TestText: 4.1, a text's bytes.
func TestText(t *testing.T) {
	for _, x := range []struct{ s, b string }{
		{"", "\x00"}, {"ab", "\x02ab"}, {"\x00", "\x01\x00"}, {"ä", "\x02\xc3\xa4"},
		{strings.Repeat("x", 127), "\x7f" + strings.Repeat("x", 127)}, {strings.Repeat("x", 128), "\x80\x01" + strings.Repeat("x", 128)},
	} {
		if b := Text(nil, x.s); string(b) != x.b {
			t.Errorf("Text(nil, %q): % x", x.s, b)
		}
		if b := Text([]byte("ab"), x.s); string(b) != "ab"+x.b {
			t.Errorf("Text(ab, %q): % x", x.s, b)
		}
	}
}

// TestSum: 4.1, a sum's bytes.
func TestSum(t *testing.T) {
	for _, x := range []struct {
		s api.Sum
		b string
	}{
		{api.Sum{}, strings.Repeat("\x00", 16)},
		{api.Sum{Hi: 1, Lo: 2}, "\x00\x00\x00\x00\x00\x00\x00\x01\x00\x00\x00\x00\x00\x00\x00\x02"},
		{api.Sum{Hi: 0x0102030405060708, Lo: 0xf1f2f3f4f5f6f7f8}, "\x01\x02\x03\x04\x05\x06\x07\x08\xf1\xf2\xf3\xf4\xf5\xf6\xf7\xf8"},
	} {
		if b := Sum(nil, x.s); string(b) != x.b {
			t.Errorf("Sum(nil, %x): % x", x.s, b)
		}
		if b := Sum([]byte("ab"), x.s); string(b) != "ab"+x.b {
			t.Errorf("Sum(ab, %x): % x", x.s, b)
		}
	}
}

// TestApart: what is put is new memory; what was handed in stays as it is, behind its length, too.
func TestApart(t *testing.T) {
	for _, put := range []func([]byte) []byte{
		func(b []byte) []byte { return Num(b, 300) },
		func(b []byte) []byte { return Text(b, "xyz") },
		func(b []byte) []byte { return Text(b, "") },
		func(b []byte) []byte { return Sum(b, api.Sum{Hi: math.MaxUint64, Lo: math.MaxUint64}) },
	} {
		all := bytes.Repeat([]byte{7}, 64)
		for _, b := range [][]byte{all[:2], all[:0], all[:2:2], all} {
			out := put(b)
			again := put(b)
			for i := range out {
				out[i] = 99
			}
			if !bytes.Equal(all, bytes.Repeat([]byte{7}, 64)) || !bytes.Equal(again[:len(b)], b) {
				t.Errorf("memory is shared: % x, % x", all, again)
			}
		}
	}
}

// wrongNums is bytes at whose begin no number stands, with what is told of them.
func wrongNums() map[string]api.Errno {
	nine := strings.Repeat("\x80", 9)
	return map[string]api.Errno{
		"": api.ErrShort, "\x80": api.ErrShort, "\xff": api.ErrShort, "\x80\x80": api.ErrShort, nine: api.ErrShort, strings.Repeat("\xff", 9): api.ErrShort,
		"\x80\x00": api.ErrForm, "\xff\x00": api.ErrForm, "\x80\x80\x00": api.ErrForm, "\x81\x00\x01": api.ErrForm, nine[:8] + "\x00": api.ErrForm,
		nine + "\x00": api.ErrForm, nine + "\x02": api.ErrForm, nine + "\x7f": api.ErrForm, nine + "\x80": api.ErrForm, nine + "\x81": api.ErrForm, nine + "\xff": api.ErrForm,
		nine + "\x80\x01": api.ErrForm, strings.Repeat("\xff", 1<<16): api.ErrForm,
	}
}

// TestReadNum: 4.2, Num of a reader.
func TestReadNum(t *testing.T) {
	for _, n := range nums() {
		for _, most := range append(nums(), n) {
			r := Read(append(Num(nil, n), 5))
			got, left, e := r.Num(most), r.Left(), r.End()
			if n <= most && (got != n || left != 1 || e != api.ErrLong || r.Num(5) != 5 || r.End() != api.OK) {
				t.Fatalf("Num(%d) of %d: %d, %d left, %d", most, n, got, left, e)
			}
			if n > most && (got != 0 || left != 0 || e != api.ErrLong || r.Num(5) != 0 || r.End() != api.ErrLong) {
				t.Fatalf("Num(%d) of %d: %d, %d left, %d", most, n, got, left, e)
			}
		}
	}
	for s, x := range wrongNums() {
		// What is no number is told ahead of what is above most.
		for _, most := range []uint64{0, 1, math.MaxUint64} {
			r := Read([]byte(s))
			if n := r.Num(most); n != 0 || r.End() != x || r.Left() != 0 {
				t.Errorf("Num(%d) of % .20x: %d, %d left, %d", most, s, n, r.Left(), r.End())
			}
		}
	}
}

// TestReadInt: 4.2, Int.
func TestReadInt(t *testing.T) {
	for _, x := range []struct {
		n    uint64
		most int
		got  int
		e    api.Errno
	}{
		{0, 0, 0, api.OK}, {0, -1, 0, api.OK}, {0, math.MinInt, 0, api.OK}, {1, 0, 0, api.ErrLong}, {1, -1, 0, api.ErrLong}, {1, math.MinInt, 0, api.ErrLong},
		{300, 300, 300, api.OK}, {300, 299, 0, api.ErrLong}, {300, 301, 300, api.OK},
		{math.MaxInt, math.MaxInt, math.MaxInt, api.OK}, {math.MaxInt + 1, math.MaxInt, 0, api.ErrLong}, {math.MaxUint64, math.MaxInt, 0, api.ErrLong}, {math.MaxUint64, -1, 0, api.ErrLong},
	} {
		r := Read(Num(nil, x.n))
		if n := r.Int(x.most); n != x.got || r.End() != x.e {
			t.Errorf("Int(%d) of %d: %d, %d", x.most, x.n, n, r.End())
		}
	}
	for s, x := range wrongNums() {
		for _, most := range []int{-1, 0, math.MaxInt} {
			r := Read([]byte(s))
			if n := r.Int(most); n != 0 || r.End() != x || r.Left() != 0 {
				t.Errorf("Int(%d) of % .20x: %d, %d", most, s, n, r.End())
			}
		}
	}
}

// TestReadText: 4.2, Text.
func TestReadText(t *testing.T) {
	huge := string(Num(nil, math.MaxInt))
	for _, x := range []struct {
		b    string
		most int
		s    string
		left int
		e    api.Errno
	}{
		{"\x00", 0, "", 0, api.OK}, {"\x00", -1, "", 0, api.OK}, {"\x00ab", 5, "", 2, api.ErrLong},
		{"\x02ab", 2, "ab", 0, api.OK}, {"\x02abc", 9, "ab", 1, api.ErrLong}, {"\x02ab", 1, "", 0, api.ErrLong}, {"\x02ab", -1, "", 0, api.ErrLong},
		{"\x02a", 2, "", 0, api.ErrShort}, {"\x01", 2, "", 0, api.ErrShort}, {"\x03ab", 9, "", 0, api.ErrShort}, {"\x02", 1, "", 0, api.ErrLong},
		{huge + "ab", math.MaxInt, "", 0, api.ErrShort}, {huge + "ab", 5, "", 0, api.ErrLong}, {string(Num(nil, math.MaxUint64)), math.MaxInt, "", 0, api.ErrLong},
	} {
		r := Read([]byte(x.b))
		if s := r.Text(x.most); s != x.s || r.Left() != x.left || r.End() != x.e {
			t.Errorf("Text(%d) of %q: %q, %d left, %d", x.most, x.b, s, r.Left(), r.End())
		}
	}
	for s, x := range wrongNums() {
		r := Read([]byte(s))
		if got := r.Text(math.MaxInt); got != "" || r.End() != x || r.Left() != 0 {
			t.Errorf("Text of % .20x: %q, %d", s, got, r.End())
		}
	}
}

// TestReadSum: 4.2, Sum.
func TestReadSum(t *testing.T) {
	want := api.Sum{Hi: 0x0102030405060708, Lo: 0xf1f2f3f4f5f6f7f8}
	b := append(Sum(nil, want), 1)
	for n := range len(b) + 1 {
		r := Read(b[:n])
		s := r.Sum()
		switch {
		case n < 16 && (s != api.Sum{} || r.Left() != 0 || r.End() != api.ErrShort):
			t.Errorf("Sum of %d bytes: %x, %d left, %d", n, s, r.Left(), r.End())
		case n == 16 && (s != want || r.Left() != 0 || r.End() != api.OK):
			t.Errorf("Sum of 16 bytes: %x, %d left, %d", s, r.Left(), r.End())
		case n == 17 && (s != want || r.Left() != 1 || r.End() != api.ErrLong):
			t.Errorf("Sum of 17 bytes: %x, %d left, %d", s, r.Left(), r.End())
		}
	}
}

// TestStays: 4.2 and 4.3, from its first error on a reader reads nothing more, and that error stays.
func TestStays(t *testing.T) {
	for _, x := range []struct {
		b    string
		fail func(r *Reader)
		e    api.Errno
	}{
		{"\x80\x00\x01a", func(r *Reader) { r.Num(9) }, api.ErrForm},
		{"\x09\x01a", func(r *Reader) { r.Num(8) }, api.ErrLong},
		{"\x09\x01a", func(r *Reader) { r.Int(-1) }, api.ErrLong},
		{"\x02\x01a\x80", func(r *Reader) { r.Text(2); r.Num(1) }, api.ErrShort},
		{"\x05\x01a", func(r *Reader) { r.Text(5) }, api.ErrShort},
		{"\x01\x01a", func(r *Reader) { r.Sum() }, api.ErrShort},
	} {
		r := Read([]byte(x.b))
		x.fail(r)
		for range 2 {
			if r.Num(math.MaxUint64) != 0 || r.Int(math.MaxInt) != 0 || r.Text(math.MaxInt) != "" || r.Sum() != (api.Sum{}) || r.Left() != 0 || r.End() != x.e {
				t.Errorf("% x: read on behind an error, or %d isn't %d", x.b, r.End(), x.e)
			}
		}
	}
}

// TestEnd: 4.3, that bytes are left is no error that stays.
func TestEnd(t *testing.T) {
	b := Sum(Text(Num(nil, 300), "ab"), api.Sum{Hi: 1, Lo: 2})
	r := Read(b)
	for i, read := range []func() bool{
		func() bool { return r.Left() == 21 },
		func() bool { return r.Num(300) == 300 && r.Left() == 19 },
		func() bool { return r.Text(2) == "ab" && r.Left() == 16 },
	} {
		if !read() || r.End() != api.ErrLong {
			t.Errorf("step %d: %d left, %d", i, r.Left(), r.End())
		}
	}
	if s := r.Sum(); s != (api.Sum{Hi: 1, Lo: 2}) || r.Left() != 0 || r.End() != api.OK || r.End() != api.OK {
		t.Errorf("at the end: %v, %d left, %d", s, r.Left(), r.End())
	}
	if r.Num(1) != 0 || r.End() != api.ErrShort {
		t.Errorf("behind the end: %d", r.End())
	}
	for _, b := range [][]byte{nil, {}, b[:0]} {
		if r := Read(b); r == nil || r.Left() != 0 || r.End() != api.OK {
			t.Errorf("a reader of no bytes: %d", r.End())
		}
	}
}

// TestNobody: 4.3, a reader that nobody made.
func TestNobody(t *testing.T) {
	for _, r := range []*Reader{nil, {}} {
		for range 2 {
			if r.Num(1) != 0 || r.Int(1) != 0 || r.Text(1) != "" || r.Sum() != (api.Sum{}) || r.Left() != 0 || r.End() != api.ErrArg {
				t.Errorf("a reader that nobody made: %d left, %d", r.Left(), r.End())
			}
		}
	}
}

// TestKept: what is handed in isn't kept, isn't changed, and isn't read behind its length; two readers don't share anything.
func TestKept(t *testing.T) {
	b := Text(Num(nil, 300), "ab")
	was := slices.Clone(b)
	r, q := Read(b), Read(b[:4])
	if r.Num(300); !bytes.Equal(b, was) {
		t.Errorf("the bytes were changed: % x", b)
	}
	clear(b)
	if s := r.Text(2); s != "ab" || r.End() != api.OK {
		t.Errorf("the bytes were kept: %q, %d", s, r.End())
	}
	if q.Left() != 4 || q.Num(300) != 300 || q.Text(2) != "" || q.End() != api.ErrShort {
		t.Errorf("of the front: %d", q.End())
	}
}

// TestThere: 4.4, what was put is read as it was.
func TestThere(t *testing.T) {
	sums := []api.Sum{{}, {Hi: 1}, {Lo: 1}, {Hi: math.MaxUint64, Lo: 1 << 63}}
	words := []string{"", "a", "\x00\xff", strings.Repeat("x", 127), strings.Repeat("y", 128), strings.Repeat("z", 1<<14)}
	var b []byte
	for _, n := range nums() {
		b = Num(b, n)
	}
	for _, s := range words {
		b = Text(b, s)
	}
	for _, s := range sums {
		b = Sum(b, s)
	}
	r := Read(b)
	for _, n := range nums() {
		if x := r.Num(n); x != n {
			t.Errorf("%d is read as %d", n, x)
		}
	}
	for _, s := range words {
		if x := r.Text(len(s)); x != s {
			t.Errorf("%.20q is read as %.20q", s, x)
		}
	}
	for _, s := range sums {
		if x := r.Sum(); x != s {
			t.Errorf("%x is read as %x", s, x)
		}
	}
	if r.End() != api.OK {
		t.Errorf("at the end: %d", r.End())
	}
}

// TestOneForm: 4.4, of bytes that are read without an error no others are read as the same.
func TestOneForm(t *testing.T) {
	some := []byte{0, 1, 2, 126, 127, 128, 129, 255}
	l := [][]byte{nil}
	for i := 0; i < len(l) && len(l[i]) < 4; i++ {
		for _, x := range some {
			l = append(l, append(slices.Clone(l[i]), x))
		}
	}
	nine := bytes.Repeat([]byte{128}, 9)
	for x := range 256 {
		l = append(l, append(slices.Clone(nine), byte(x)), append(slices.Clone(nine[:8]), byte(x)))
	}
	for _, b := range l {
		r := Read(b)
		if n := r.Num(math.MaxUint64); r.End() == api.OK && !bytes.Equal(Num(nil, n), b) {
			t.Errorf("% x is read as %d", b, n)
		}
		r = Read(b)
		if s := r.Text(math.MaxInt); r.End() == api.OK && !bytes.Equal(Text(nil, s), b) {
			t.Errorf("% x is read as %q", b, s)
		}
	}
}
