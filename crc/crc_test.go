package crc

import (
	"bytes"
	"flitting/api"
	"hash/crc32"
	"math"
	"slices"
	"strings"
	"testing"
)

// bitwise is a state, gone on by bytes bit by bit, as the document says it.
func bitwise(state uint32, b []byte) uint32 {
	for _, x := range b {
		state ^= uint32(x)
		for range 8 {
			gone := state & 1
			state >>= 1
			if gone == 1 {
				state ^= 0xedb88320
			}
		}
	}
	return state
}

// some is n bytes, which go up and down.
func some(n int) []byte {
	b := make([]byte, n)
	for i := range b {
		b[i] = byte(i*i*31 + i*7 + 5)
	}
	return b
}

// ints is places about the edges of a list of n bytes, and of ints.
func ints(n int) []int {
	l := []int{math.MinInt, math.MinInt + 1, math.MinInt + 3, math.MinInt + 4, math.MaxInt, math.MaxInt - 1, math.MaxInt - 3, math.MaxInt - 4, math.MinInt32, math.MaxInt32, -1 << 32, 1 << 32}
	for at := -6; at <= n+6; at++ {
		l = append(l, at)
	}
	return l
}

// TestMore: 5.1, a state gone on by bytes.
func TestMore(t *testing.T) {
	states := []uint32{0, 1, 15, 16, 255, 256, 1 << 31, 0xedb88320, math.MaxUint32, math.MaxUint32 - 1, 0x12345678}
	for _, s := range states {
		for x := range 256 {
			b := []byte{byte(x)}
			if got, want := More(s, b), bitwise(s, b); got != want {
				t.Errorf("More(%x, %x): %x, not %x", s, b, got, want)
			}
		}
		for _, n := range []int{0, 1, 2, 3, 4, 5, 63, 64, 65, 1 << 14} {
			b := some(n)
			if got, want := More(s, b), bitwise(s, b); got != want {
				t.Errorf("More(%x) of %d bytes: %x, not %x", s, n, got, want)
			}
			if k := n / 3; More(More(s, b[:k]), b[k:]) != More(s, b) {
				t.Errorf("More(%x) of %d bytes, in two pieces", s, n)
			}
		}
		if More(s, nil) != s || More(s, []byte{}) != s {
			t.Errorf("More(%x) of nothing", s)
		}
	}
}

// TestSum: 5.1, the sum of parts.
func TestSum(t *testing.T) {
	for s, want := range map[string]uint32{"": 0, "123456789": 0xcbf43926, "\x00": 0xd202ef8d, "a": 0xe8b7be43, "\xff\xff\xff\xff": 0xffffffff, "The quick brown fox jumps over the lazy dog": 0x414fa339} {
		if got := Sum([]byte(s)); got != want {
			t.Errorf("Sum of %q: %x, not %x", s, got, want)
		}
	}
	for n := range 70 {
		b := some(n)
		want := crc32.ChecksumIEEE(b)
		if got := ^More(math.MaxUint32, b); got != want || Sum(b) != want {
			t.Errorf("the sum of %d bytes: %x, %x, not %x", n, got, Sum(b), want)
		}
		for k := range n + 1 {
			if Sum(b[:k], b[k:]) != want || Sum(nil, b[:k/2], []byte{}, b[k/2:k], b[k:], nil) != want {
				t.Errorf("the sum of %d bytes in parts, at %d", n, k)
			}
		}
	}
	if Sum() != 0 || Sum(nil) != 0 || Sum([]byte{}, nil) != 0 || Sum(slices.Repeat([][]byte{nil}, 1<<10)...) != 0 {
		t.Errorf("the sum of nothing")
	}
	if Sum([]byte("ab"), []byte("c")) == Sum([]byte("c"), []byte("ab")) {
		t.Errorf("the order of parts is nothing to the sum")
	}
}

// TestSeal: 5.2, bytes and their sum, the lowest byte first.
func TestSeal(t *testing.T) {
	for s, want := range map[string]string{"": "\x00\x00\x00\x00", "123456789": "123456789\x26\x39\xf4\xcb", "a": "a\x43\xbe\xb7\xe8"} {
		if got := Seal([]byte(s)); string(got) != want {
			t.Errorf("Seal of %q: %q", s, got)
		}
	}
	if got := Seal(nil); string(got) != "\x00\x00\x00\x00" {
		t.Errorf("Seal of nil: %q", got)
	}
	for n := range 70 {
		b := some(n)
		sum := crc32.ChecksumIEEE(b)
		if got, want := Seal(b), append(b, byte(sum), byte(sum>>8), byte(sum>>16), byte(sum>>24)); !bytes.Equal(got, want) {
			t.Errorf("Seal of %d bytes: % x, not % x", n, got, want)
		}
	}
}

// TestOpen: 5.2, what was sealed is opened.
func TestOpen(t *testing.T) {
	for _, n := range []int{0, 1, 2, 3, 4, 5, 8, 64, 1 << 14} {
		b := some(n)
		if got, e := Open(Seal(b)); !bytes.Equal(got, b) || e != api.OK {
			t.Errorf("Open of Seal of %d bytes: % x, %d", n, got, e)
		}
		if got, e := Open(Seal(Seal(b))); !bytes.Equal(got, Seal(b)) || e != api.OK {
			t.Errorf("Open of twice Seal of %d bytes: % x, %d", n, got, e)
		}
	}
}

// TestOpenWrong: 5.2, what is too short, or has another sum.
func TestOpenWrong(t *testing.T) {
	for _, x := range []struct {
		s string
		e api.Errno
	}{
		{"", api.ErrShort}, {"\x00", api.ErrShort}, {"\x00\x00", api.ErrShort}, {"\x00\x00\x00", api.ErrShort}, {"\xff\xff\xff", api.ErrShort},
		{"\x01\x00\x00\x00", api.ErrSum}, {"\x00\x00\x00\x01", api.ErrSum}, {"\xff\xff\xff\xff", api.ErrSum}, {"\x00\x00\x00\x00\x00", api.ErrSum},
		{"a\xe8\xb7\xbe\x43", api.ErrSum}, {"b\x43\xbe\xb7\xe8", api.ErrSum}, {"\x43\xbe\xb7\xe8a", api.ErrSum}, {"\x43\xbe\xb7\xe8", api.ErrSum}, {"aa\x43\xbe\xb7\xe8", api.ErrSum},
		{"123456789", api.ErrSum}, {"123456789\x26\x39\xf4", api.ErrSum}, {"123456789\x26\x39\xf4\xcb\x00", api.ErrSum}, {"123456789\xd9\xc6\x0b\x34", api.ErrSum}, {strings.Repeat("x", 1<<16), api.ErrSum},
	} {
		if got, e := Open([]byte(x.s)); len(got) != 0 || e != x.e {
			t.Errorf("Open of %.40q: %q, %d, not %d", x.s, got, e, x.e)
		}
	}
	if got, e := Open(nil); len(got) != 0 || e != api.ErrShort {
		t.Errorf("Open of nil: %q, %d", got, e)
	}
	for n := range 20 {
		b := Seal(some(n))
		for i := range b {
			for bit := range 8 {
				c := slices.Clone(b)
				c[i] ^= 1 << bit
				if got, e := Open(c); len(got) != 0 || e != api.ErrSum {
					t.Errorf("Open of %d bytes, the bit %d of byte %d turned: %d", n, bit, i, e)
				}
			}
		}
		for k := range len(b) {
			if got, e := Open(b[:k]); k < 4 && e != api.ErrShort || k >= 4 && e == api.OK && !bytes.Equal(Seal(got), b[:k]) {
				t.Errorf("Open of the first %d of %d bytes: %d", k, len(b), e)
			}
		}
	}
	// The sum of what is behind the end isn't taken for one that is missing.
	if _, e := Open(Seal([]byte("ab"))[:5]); e != api.ErrSum {
		t.Errorf("Open read behind the end: %d", e)
	}
}

// TestTurn: 5.3, a mask's bytes over those from a place on.
func TestTurn(t *testing.T) {
	for _, x := range []struct {
		s    string
		at   int
		mask uint32
		want string
	}{
		{"\x00\x00\x00\x00\x00\x00", 1, 0x04030201, "\x00\x01\x02\x03\x04\x00"},
		{"\x00\x00\x00\x00\x00\x00", -1, 0x04030201, "\x02\x03\x04\x00\x00\x00"},
		{"\x00\x00\x00\x00\x00\x00", -3, 0x04030201, "\x04\x00\x00\x00\x00\x00"},
		{"\x00\x00\x00\x00\x00\x00", -4, 0x04030201, "\x00\x00\x00\x00\x00\x00"},
		{"\x00\x00\x00\x00\x00\x00", 5, 0x04030201, "\x00\x00\x00\x00\x00\x01"},
		{"\x00\x00\x00\x00\x00\x00", 6, 0x04030201, "\x00\x00\x00\x00\x00\x00"},
		{"\xff\x0f", 0, 0xffff, "\x00\xf0"}, {"\xff\x0f", -2, 0xff000000, "\xff\xf0"}, {"abc", 0, 0, "abc"}, {"a", -1, 0x01020304, "b"}, {"", 0, math.MaxUint32, ""},
	} {
		if got := Turn([]byte(x.s), x.at, x.mask); string(got) != x.want {
			t.Errorf("Turn(%q, %d, %x): %q", x.s, x.at, x.mask, got)
		}
	}
	for _, mask := range []uint32{0, 1, 1 << 31, 0x80, 0x8000, 0x04030201, math.MaxUint32, 0xff00ff00} {
		for _, n := range []int{0, 1, 2, 3, 4, 5, 9} {
			for _, at := range ints(n) {
				b := some(n)
				want := slices.Clone(b)
				for i := range want {
					// That can't go round as at + k could.
					for k := range 4 {
						if at == i-k {
							want[i] ^= byte(mask >> (8 * k))
						}
					}
				}
				if got := Turn(b, at, mask); !bytes.Equal(got, want) {
					t.Errorf("Turn(% x, %d, %x): % x, not % x", b, at, mask, got, want)
				}
			}
		}
	}
	for _, at := range ints(0) {
		if got := Turn(nil, at, math.MaxUint32); len(got) != 0 {
			t.Errorf("Turn(nil, %d): % x", at, got)
		}
	}
}

// TestTurned: 5.4, what was sealed, and turned so that a byte changed, isn't opened.
func TestTurned(t *testing.T) {
	masks := []uint32{1, 0x80, 0xff, 0x100, 0x00ff00ff, 0xedb88320, 0x82608edb, 0x04c11db7, 0xb71dc104, 1 << 31, 0xffffffff, 0x80000001, 0x01000000}
	for i := range 32 {
		masks = append(masks, 1<<i, math.MaxUint32<<i, 0xcbf43926<<i)
	}
	for _, n := range []int{0, 1, 3, 4, 5, 20, 300} {
		b := Seal(some(n))
		for _, at := range ints(len(b)) {
			for _, mask := range masks {
				c := Turn(b, at, mask)
				got, e := Open(c)
				if changed := !bytes.Equal(c, b); changed && (e != api.ErrSum || len(got) != 0) || !changed && (e != api.OK || !bytes.Equal(got, some(n))) {
					t.Errorf("Open of %d bytes turned at %d by %x: changed %t, %d", n, at, mask, changed, e)
				}
			}
		}
	}
}

// TestApart: what is told is new memory; what was handed in stays as it is, behind its length, too.
func TestApart(t *testing.T) {
	for i, f := range []func([]byte) []byte{
		Seal,
		func(b []byte) []byte { return Turn(b, 0, math.MaxUint32) },
		func(b []byte) []byte { return Turn(b, 0, 0) },
		func(b []byte) []byte { return Turn(b, 99, 1) },
		func(b []byte) []byte { out, _ := Open(b); return out },
	} {
		// The sum of four bytes ff and its own bytes are ff, too: all can be opened.
		all := bytes.Repeat([]byte{255}, 64)
		for _, b := range [][]byte{all[:8], all[:8:8], all[:4], all[:0], all} {
			out := f(b)
			again := slices.Clone(f(b))
			out = out[:cap(out)]
			for k := range out {
				out[k] = 7
			}
			if !bytes.Equal(all, bytes.Repeat([]byte{255}, 64)) || !bytes.Equal(f(b), again) {
				t.Errorf("call %d: memory is shared: % x", i, all)
			}
		}
	}
	if out, e := Open(bytes.Repeat([]byte{255}, 8)); len(out) != 4 || e != api.OK {
		t.Errorf("Open of eight bytes ff: % x, %d", out, e)
	}
	parts := [][]byte{some(3), some(5)}
	Sum(parts...)
	if !bytes.Equal(parts[0], some(3)) || !bytes.Equal(parts[1], some(5)) {
		t.Errorf("the parts were changed: % x", parts)
	}
}
