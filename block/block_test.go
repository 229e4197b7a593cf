package block

import (
	"bytes"
	"encoding/binary"
	"flitting/api"
	"flitting/mix"
	"flitting/roll"
	"math"
	"math/rand"
	"slices"
	"strings"
	"testing"
)

// some is n bytes, which go up and down.
func some(n int) []byte {
	b := make([]byte, n)
	for i := range b {
		b[i] = byte(i*i*31 + i*7 + i/256 + 5)
	}
	return b
}

// hidden is bytes with room behind them, which holds bytes that nobody may see.
func hidden(b []byte) []byte {
	return append(slices.Clone(b), bytes.Repeat([]byte{77}, 80)...)[:len(b)]
}

// untouched tells whether what lies in and behind bytes that hidden made is as it was.
func untouched(l, b []byte) bool {
	return bytes.Equal(l[:len(l)+80], hidden(b)[:len(b)+80])
}

// sign1 is a sign, as the document says it.
func sign1(s string) Sign {
	return Sign{Weak: roll.Of([]byte(s)), Strong: mix.Of([]byte(s))}
}

// signs is a sign of each text.
func signs(l ...string) []Sign {
	var out []Sign
	for _, s := range l {
		out = append(out, sign1(s))
	}
	return out
}

// cut is the blocks of bytes, the tail too, taken from the begin one by one.
func cut(b []byte, size int) []string {
	var l []string
	for len(b) > 0 {
		n := min(size, len(b))
		l = append(l, string(b[:n]))
		b = b[n:]
	}
	return l
}

// counted is the size that a size counts as.
func counted(size int) int {
	switch {
	case size < 4:
		return 4
	case size > 64:
		return 64
	}
	return size
}

// sizes is sizes about each edge.
func sizes() []int {
	return []int{math.MinInt, math.MinInt32, -4, -1, 0, 1, 3, 4, 5, 7, 16, 32, 63, 64, 65, 1 << 20, math.MaxInt - 1, math.MaxInt}
}

// TestSignOf: 15.1, the sign of bytes.
func TestSignOf(t *testing.T) {
	for n := range 200 {
		b := hidden(some(n))
		if s := SignOf(b); s != sign1(string(some(n))) || !untouched(b, some(n)) {
			t.Errorf("SignOf %d bytes: %x", n, s)
		}
	}
	if s := SignOf([]byte{1, 2}); s.Weak != 262147 || s.Strong != mix.Of([]byte{1, 2}) {
		t.Errorf("SignOf of 1, 2: %x", s)
	}
	if s := SignOf(nil); s.Weak != 0 || s.Strong != mix.Of(nil) || s == (Sign{}) {
		t.Errorf("SignOf of nothing: %x", s)
	}
}

// TestOf: 15.1, signatures by hand.
func TestOf(t *testing.T) {
	long, tail := strings.Repeat("x", 64), strings.Repeat("y", 63)
	for _, x := range []struct {
		b    string
		size int
		want Signature
	}{
		{"", 4, Signature{Size: 4}},
		{"", 64, Signature{Size: 64}},
		{"a", 4, Signature{Size: 4, Tail: 1, Last: sign1("a")}},
		{"abc", 4, Signature{Size: 4, Tail: 3, Last: sign1("abc")}},
		{"abcd", 4, Signature{Size: 4, Blocks: signs("abcd")}},
		{"abcde", 4, Signature{Size: 4, Blocks: signs("abcd"), Tail: 1, Last: sign1("e")}},
		{"0123456789", 4, Signature{Size: 4, Blocks: signs("0123", "4567"), Tail: 2, Last: sign1("89")}},
		{"0123456789", 5, Signature{Size: 5, Blocks: signs("01234", "56789")}},
		{"0123456789", 10, Signature{Size: 10, Blocks: signs("0123456789")}},
		{"0123456789", 11, Signature{Size: 11, Tail: 10, Last: sign1("0123456789")}},
		{"0123456789", 3, Signature{Size: 4, Blocks: signs("0123", "4567"), Tail: 2, Last: sign1("89")}},
		{"0123456789", 0, Signature{Size: 4, Blocks: signs("0123", "4567"), Tail: 2, Last: sign1("89")}},
		{"0123456789", -5, Signature{Size: 4, Blocks: signs("0123", "4567"), Tail: 2, Last: sign1("89")}},
		{"0123456789", 65, Signature{Size: 64, Tail: 10, Last: sign1("0123456789")}},
		{"\x00\x00\x00\x00\x00", 4, Signature{Size: 4, Blocks: signs("\x00\x00\x00\x00"), Tail: 1, Last: sign1("\x00")}},
		{long + tail, 64, Signature{Size: 64, Blocks: signs(long), Tail: 63, Last: sign1(tail)}},
		{long + tail, math.MaxInt, Signature{Size: 64, Blocks: signs(long), Tail: 63, Last: sign1(tail)}},
	} {
		b := hidden([]byte(x.b))
		got := Of(b, x.size)
		if !Same(got, x.want) || got.Size != x.want.Size || !slices.Equal(got.Blocks, x.want.Blocks) || got.Tail != x.want.Tail || got.Last != x.want.Last {
			t.Errorf("Of(%.12q, %d): %x, not %x", x.b, x.size, got, x.want)
		}
		if !untouched(b, []byte(x.b)) {
			t.Errorf("Of(%.12q, %d): the bytes were changed", x.b, x.size)
		}
	}
}

// TestBlocks: 15.1, Of, Count and At of bytes of all lengths, by all sizes.
func TestBlocks(t *testing.T) {
	for _, size := range append(sizes(), 6, 8, 9, 15, 17, 31, 33) {
		for _, n := range []int{0, 1, 2, 3, 4, 5, 7, 8, 9, 12, 31, 32, 33, 63, 64, 65, 127, 128, 129, 300, 1000} {
			b := hidden(some(n))
			want := cut(some(n), counted(size))
			s := Of(b, size)
			if s.Size != counted(size) || len(s.Blocks) != n/s.Size || s.Tail != n%s.Size {
				t.Fatalf("Of %d bytes by %d: %d, %d blocks, %d", n, size, s.Size, len(s.Blocks), s.Tail)
			}
			if c := Count(n, size); c != len(want) {
				t.Errorf("Count(%d, %d): %d, not %d", n, size, c, len(want))
			}
			all := append(slices.Clone(s.Blocks), s.Last)
			for k, w := range want {
				if x := At(b, size, k); string(x) != w || all[k] != sign1(w) {
					t.Errorf("block %d of %d bytes by %d: %q, not %q", k, n, size, x, w)
				}
			}
			if s.Tail == 0 && s.Last != (Sign{}) {
				t.Errorf("Of %d bytes by %d: a Last without a tail", n, size)
			}
			if !untouched(b, some(n)) {
				t.Errorf("%d bytes by %d were changed", n, size)
			}
		}
	}
}

// TestCount: 15.1, Count at its edges.
func TestCount(t *testing.T) {
	for _, x := range []struct{ n, size, want int }{
		{10, 4, 3}, {0, 4, 0}, {1, 4, 1}, {4, 4, 1}, {5, 4, 2}, {8, 4, 2}, {8, 3, 2}, {8, 0, 2}, {8, -8, 2}, {8, math.MinInt, 2},
		{64, 64, 1}, {65, 64, 2}, {65, 65, 2}, {130, 65, 3}, {130, math.MaxInt, 3}, {64, math.MaxInt, 1},
		{-1, 4, 0}, {-4, 4, 0}, {-5, 4, 0}, {-100, 64, 0}, {math.MinInt, 4, 0}, {math.MinInt, math.MinInt, 0}, {math.MinInt, math.MaxInt, 0},
		{api.MaxFile, 4, 4096}, {api.MaxFile + 1, 4, 4097},
		{math.MaxInt, 4, math.MaxInt/4 + 1}, {math.MaxInt, 64, math.MaxInt/64 + 1}, {math.MaxInt - 3, 4, math.MaxInt / 4}, {math.MaxInt, 7, math.MaxInt / 7},
	} {
		if c := Count(x.n, x.size); c != x.want {
			t.Errorf("Count(%d, %d): %d, not %d", x.n, x.size, c, x.want)
		}
	}
}

// TestAt: 15.1, nothing where there is no block.
func TestAt(t *testing.T) {
	b := hidden([]byte("0123456789"))
	for _, x := range []struct {
		size, k int
		want    string
	}{
		{4, 0, "0123"}, {4, 1, "4567"}, {4, 2, "89"}, {4, 3, ""}, {4, -1, ""}, {5, 1, "56789"}, {5, 2, ""}, {10, 0, "0123456789"}, {10, 1, ""}, {64, 0, "0123456789"}, {64, 1, ""},
		{3, 1, "4567"}, {math.MinInt, 1, "4567"}, {65, 0, "0123456789"}, {65, -1, ""}, {math.MaxInt, 0, "0123456789"}, {math.MaxInt, 1, ""},
		{4, math.MinInt, ""}, {4, math.MaxInt, ""}, {64, math.MinInt, ""}, {64, math.MaxInt, ""},
		// These times the size go round to a place that there is.
		{4, 1 << 62, ""}, {4, 1<<62 + 1, ""}, {4, -1 << 62, ""}, {4, -1<<62 + 1, ""}, {64, 1 << 58, ""}, {64, -1 << 58, ""},
	} {
		if got := At(b, x.size, x.k); string(got) != x.want {
			t.Errorf("At(.., %d, %d): %q, not %q", x.size, x.k, got, x.want)
		}
	}
	for _, size := range sizes() {
		if x, y := At(nil, size, 0), At([]byte{}, size, 0); len(x) != 0 || len(y) != 0 {
			t.Errorf("a block of no bytes by %d: %q, %q", size, x, y)
		}
	}
}

// TestAtApart: R5, a block is new memory.
func TestAtApart(t *testing.T) {
	b := hidden([]byte("0123456789"))
	for k := range 3 {
		x := At(b, 4, k)
		y := At(b, 4, k)
		x = append(x, 9, 9, 9)
		for i := range x {
			x[i] = 'x'
		}
		if !untouched(b, []byte("0123456789")) || strings.Contains(string(y), "x") {
			t.Errorf("block %d shares memory: %q, %q", k, b, y)
		}
	}
}

// TestStop: blocks are told anew from the begin, and no more behind a stop.
func TestStop(t *testing.T) {
	l := blocks([]byte("0123456789"), 4)
	for range 2 {
		for most := 1; most < 5; most++ {
			var got []string
			for x := range l {
				got = append(got, string(x))
				if len(got) == most {
					break
				}
			}
			if want := []string{"0123", "4567", "89"}; !slices.Equal(got, want[:min(most, 3)]) {
				t.Errorf("the first %d: %q", most, got)
			}
		}
	}
}

// full is a signature of so many blocks, and a tail of so many bytes.
func full(size, blocks, tail int) Signature {
	s := Signature{Size: size, Blocks: make([]Sign, blocks), Tail: tail}
	if tail != 0 {
		s.Last = Sign{Weak: 1, Strong: api.Sum{Hi: 2, Lo: 3}}
	}
	return s
}

// TestRight: 15.2, Right and Total.
func TestRight(t *testing.T) {
	last := func(s Signature, x Sign) Signature {
		s.Last = x
		return s
	}
	for _, x := range []struct {
		what  string
		s     Signature
		right bool
		total int
	}{
		{"zero", Signature{}, false, 0},
		{"size 3", full(3, 1, 0), false, 0},
		{"size 0", full(0, 1, 0), false, 0},
		{"size -4", full(-4, 1, 0), false, 0},
		{"size MinInt", full(math.MinInt, 1, 0), false, 0},
		{"size 4", full(4, 1, 0), true, 4},
		{"size 64", full(64, 1, 0), true, 64},
		{"size 65", full(65, 1, 0), false, 0},
		{"size MaxInt", full(math.MaxInt, 1, 0), false, 0},
		{"nothing", full(4, 0, 0), true, 0},
		{"4096 blocks", full(4, 4096, 0), true, 16384},
		{"4096 great blocks", full(64, 4096, 63), true, 262207},
		{"4097 blocks", full(4, 4097, 0), false, 0},
		{"4097 great blocks", full(64, 4097, 1), false, 0},
		{"tail 1", full(4, 2, 1), true, 9},
		{"tail 3", full(4, 2, 3), true, 11},
		{"tail 4 of 4", full(4, 2, 4), false, 0},
		{"tail 5 of 4", full(4, 2, 5), false, 0},
		{"tail 63 of 64", full(64, 0, 63), true, 63},
		{"tail 64 of 64", full(64, 0, 64), false, 0},
		{"tail 4 of 5", full(5, 0, 4), true, 4},
		{"tail -1", full(4, 2, -1), false, 0},
		{"tail -1 with no Last", last(full(4, 2, -1), Sign{}), false, 0},
		{"tail MinInt", full(4, 2, math.MinInt), false, 0},
		{"tail MaxInt", full(4, 2, math.MaxInt), false, 0},
		{"a Last without tail: weak", last(full(4, 2, 0), Sign{Weak: 1}), false, 0},
		{"a Last without tail: high", last(full(4, 2, 0), Sign{Strong: api.Sum{Hi: 1}}), false, 0},
		{"a Last without tail: low", last(full(4, 2, 0), Sign{Strong: api.Sum{Lo: 1}}), false, 0},
		{"a tail with the zero Last", last(full(4, 2, 2), Sign{}), true, 10},
		{"of 10 bytes", Of(some(10), 4), true, 10},
		{"of 2^14 bytes", Of(some(api.MaxFile), 4), true, 16384},
		{"of 2^14 bytes and 3", Of(some(api.MaxFile+3), 4), true, 16387},
		{"of 2^14 bytes and 4", Of(some(api.MaxFile+4), 4), false, 0},
	} {
		if r, n := Right(x.s), Total(x.s); r != x.right || n != x.total {
			t.Errorf("%s: Right %v, Total %d", x.what, r, n)
		}
		// What isn't right has no bytes, what is has.
		if b := Put(x.s); (len(b) != 0) != x.right {
			t.Errorf("%s: Put: % .40x", x.what, b)
		}
	}
}

// TestSame: 15.2, Same tells of each part.
func TestSame(t *testing.T) {
	a := Of([]byte("0123456789"), 4)
	b := Of([]byte("0123456789"), 4)
	if !Same(a, b) || !Same(Signature{}, Signature{}) || !Same(Signature{Blocks: []Sign{}}, Signature{}) || Same(a, Signature{}) {
		t.Errorf("Same of the same, or of none")
	}
	for i, change := range []func(s *Signature){
		func(s *Signature) { s.Size++ },
		func(s *Signature) { s.Tail++ },
		func(s *Signature) { s.Tail = -s.Tail },
		func(s *Signature) { s.Last.Weak++ },
		func(s *Signature) { s.Last.Strong.Hi++ },
		func(s *Signature) { s.Last.Strong.Lo++ },
		func(s *Signature) { s.Last = Sign{} },
		func(s *Signature) { s.Blocks[0].Weak++ },
		func(s *Signature) { s.Blocks[1].Strong.Hi++ },
		func(s *Signature) { s.Blocks[1].Strong.Lo++ },
		func(s *Signature) { slices.Reverse(s.Blocks) },
		func(s *Signature) { s.Blocks = s.Blocks[:1] },
		func(s *Signature) { s.Blocks = s.Blocks[1:] },
		func(s *Signature) { s.Blocks = append(s.Blocks, Sign{}) },
		func(s *Signature) { s.Blocks = nil },
	} {
		c := Of([]byte("0123456789"), 4)
		change(&c)
		if Same(a, c) || Same(c, a) || !Same(c, c) {
			t.Errorf("change %d isn't told", i)
		}
	}
	// What isn't right can be the same, too; what lies behind the length is no part.
	if !Same(full(-1, 5000, -2), full(-1, 5000, -2)) || !Same(Signature{Blocks: a.Blocks[:1]}, Signature{Blocks: slices.Clone(a.Blocks[:1])}) {
		t.Errorf("Same of what isn't right, or of a list with room behind")
	}
}

// bytesOf is a signature's bytes, as the document says them.
func bytesOf(s Signature) []byte {
	sign := func(b []byte, x Sign) []byte {
		b = binary.AppendUvarint(b, uint64(x.Weak))
		return binary.BigEndian.AppendUint64(binary.BigEndian.AppendUint64(b, x.Strong.Hi), x.Strong.Lo)
	}
	b := binary.AppendUvarint(binary.AppendUvarint(nil, uint64(s.Size)), uint64(len(s.Blocks)))
	for _, x := range s.Blocks {
		b = sign(b, x)
	}
	b = binary.AppendUvarint(b, uint64(s.Tail))
	if s.Tail != 0 {
		b = sign(b, s.Last)
	}
	return b
}

// TestPut: 15.2, a signature's bytes.
func TestPut(t *testing.T) {
	x := Sign{Weak: 300, Strong: api.Sum{Hi: 0x0102030405060708, Lo: 0xf1f2f3f4f5f6f7f8}}
	y := Sign{Weak: math.MaxUint32, Strong: api.Sum{Lo: 1}}
	const xs, ys = "\xac\x02\x01\x02\x03\x04\x05\x06\x07\x08\xf1\xf2\xf3\xf4\xf5\xf6\xf7\xf8", "\xff\xff\xff\xff\x0f\x00\x00\x00\x00\x00\x00\x00\x00\x00\x00\x00\x00\x00\x00\x00\x01"
	zero := strings.Repeat("\x00", 17)
	for _, c := range []struct {
		s    Signature
		want string
	}{
		{Signature{Size: 4}, "\x04\x00\x00"},
		{Signature{Size: 64}, "\x40\x00\x00"},
		{Signature{Size: 4, Blocks: []Sign{x}}, "\x04\x01" + xs + "\x00"},
		{Signature{Size: 4, Blocks: []Sign{x, y}}, "\x04\x02" + xs + ys + "\x00"},
		{Signature{Size: 4, Blocks: []Sign{y, x}, Tail: 3, Last: y}, "\x04\x02" + ys + xs + "\x03" + ys},
		{Signature{Size: 64, Tail: 63, Last: x}, "\x40\x00\x3f" + xs},
		{Signature{Size: 5, Blocks: []Sign{{}}, Tail: 1}, "\x05\x01" + zero + "\x01" + zero},
		{full(4, 128, 0), "\x04\x80\x01" + strings.Repeat(zero, 128) + "\x00"},
		{full(4, 4096, 0), "\x04\x80\x20" + strings.Repeat(zero, 4096) + "\x00"},
	} {
		was := slices.Clone(c.s.Blocks)
		if b := Put(c.s); string(b) != c.want || !bytes.Equal(b, bytesOf(c.s)) || !slices.Equal(c.s.Blocks, was) {
			t.Errorf("Put of %.40x: % .60x", c.s, b)
		}
		if s, e := Get([]byte(c.want)); e != api.OK || !Same(s, c.s) {
			t.Errorf("Get of % .60x: %.40x, %d", c.want, s, e)
		}
	}
}

// number is a number's bytes.
func number(n uint64) string {
	return string(binary.AppendUvarint(nil, n))
}

// TestGet: 15.2, what is wrong with a signature's bytes.
func TestGet(t *testing.T) {
	sum := strings.Repeat("\x07", 16)
	good := string(Put(Of([]byte("0123456789"), 4)))
	for _, x := range []struct {
		what, b string
		want    api.Errno
	}{
		{"nothing", "", api.ErrShort},
		{"a Size cut off", "\x80", api.ErrShort},
		{"a Size with a nought ahead", "\x84\x00\x00\x00", api.ErrForm},
		{"Size 65", number(65) + "\x00\x00", api.ErrLong},
		{"Size 2^64-1", number(math.MaxUint64) + "\x00\x00", api.ErrLong},
		{"Size 65, and nothing more", number(65), api.ErrLong},
		{"Size 64", number(64) + "\x00\x00", api.OK},
		{"Size 4", "\x04\x00\x00", api.OK},
		{"Size 3", "\x03\x00\x00", api.ErrForm},
		{"Size 0", "\x00\x00\x00", api.ErrForm},
		{"Size 3, and nothing more", "\x03", api.ErrShort},
		{"Size 3, and more behind", "\x03\x00\x00\x00", api.ErrLong},
		{"Size 3, and Tail 64", "\x03\x00\x40", api.ErrLong},
		{"no Blocks", "\x04", api.ErrShort},
		{"4097 Blocks", "\x04" + number(4097) + strings.Repeat("\x01"+sum, 4097) + "\x00", api.ErrLong},
		{"4097 Blocks, and nothing more", "\x04" + number(4097), api.ErrLong},
		{"2^64-1 Blocks", "\x04" + number(math.MaxUint64), api.ErrLong},
		{"4096 Blocks", "\x04" + number(4096) + strings.Repeat("\x01"+sum, 4096) + "\x00", api.OK},
		{"4096 Blocks, and nothing more", "\x04" + number(4096), api.ErrShort},
		{"4096 Blocks, one too few", "\x04" + number(4096) + strings.Repeat("\x01"+sum, 4095), api.ErrShort},
		{"Blocks with a nought ahead", "\x04\x80\x00\x00", api.ErrForm},
		{"a weak sum 2^32", "\x04\x01" + number(1<<32) + sum + "\x00", api.ErrLong},
		{"a weak sum 2^32, and nothing more", "\x04\x01" + number(1<<32), api.ErrLong},
		{"a weak sum 2^32-1", "\x04\x01" + number(1<<32-1) + sum + "\x00", api.OK},
		{"a weak sum with a nought ahead", "\x04\x01\x81\x00" + sum + "\x00", api.ErrForm},
		{"a sum cut off", "\x04\x01\x01" + sum[1:], api.ErrShort},
		{"a second weak sum 2^32", "\x04\x02\x01" + sum + number(1<<32) + sum + "\x00", api.ErrLong},
		{"no Tail", "\x04\x01\x01" + sum, api.ErrShort},
		{"Tail 64", "\x40\x00\x40\x01" + sum, api.ErrLong},
		{"Tail 63", "\x40\x00\x3f\x01" + sum, api.OK},
		{"Tail 4 of 4", "\x04\x00\x04\x01" + sum, api.ErrForm},
		{"Tail 3 of 4", "\x04\x00\x03\x01" + sum, api.OK},
		{"Tail 5 of 4", "\x04\x00\x05\x01" + sum, api.ErrForm},
		{"Tail with a nought ahead", "\x04\x00\x83\x00\x01" + sum, api.ErrForm},
		{"a Tail without its sign", "\x04\x00\x03", api.ErrShort},
		{"a Tail with half its sign", "\x04\x00\x03\x01" + sum[8:], api.ErrShort},
		{"a Tail's weak sum 2^32", "\x04\x00\x03" + number(1<<32) + sum, api.ErrLong},
		{"a Tail's weak sum 2^32-1", "\x04\x00\x03" + number(1<<32-1) + sum, api.OK},
		{"a Tail with the zero sign", "\x04\x00\x03" + strings.Repeat("\x00", 17), api.OK},
		{"a sign, and no Tail", "\x04\x00\x00\x01" + sum, api.ErrLong},
		{"Tail 4 of 4, and more behind", "\x04\x00\x04\x01" + sum + "\x00", api.ErrLong},
		{"more behind", good + "\x00", api.ErrLong},
		{"a signature behind", good + good, api.ErrLong},
		{"good", good, api.OK},
	} {
		b := hidden([]byte(x.b))
		s, e := Get(b)
		if e != x.want || e == api.OK && string(Put(s)) != x.b || e != api.OK && !Same(s, Signature{}) {
			t.Errorf("%s: %.40x, %d, not %d", x.what, s, e, x.want)
		}
		if !untouched(b, []byte(x.b)) {
			t.Errorf("%s: the bytes were changed", x.what)
		}
	}
	// Whatever is left of it is too short.
	for n := range len(good) {
		if s, e := Get([]byte(good)[:n]); e != api.ErrShort || !Same(s, Signature{}) {
			t.Errorf("Get of the first %d bytes: %x, %d", n, s, e)
		}
	}
}

// TestFollows: 15.3, a signature tells how many bytes there were; Get of Put is the signature.
func TestFollows(t *testing.T) {
	r := rand.New(rand.NewSource(15))
	for range 3000 {
		n := r.Intn(1 + r.Intn(700))
		b := make([]byte, n)
		r.Read(b)
		s := Of(b, r.Intn(80)-5)
		if Total(s) != n || !Right(s) || Count(n, s.Size) != len(s.Blocks)+min(s.Tail, 1) {
			t.Fatalf("of %d bytes by %d: %d", n, s.Size, Total(s))
		}
		p := Put(s)
		got, e := Get(p)
		if e != api.OK || !Same(got, s) || !bytes.Equal(p, bytesOf(s)) {
			t.Fatalf("of %d bytes by %d: %x, %d", n, s.Size, got, e)
		}
	}
	for _, n := range []int{api.MaxFile - 1, api.MaxFile} {
		for _, size := range []int{4, 5, 7, 63, 64} {
			s := Of(some(n), size)
			if got, e := Get(Put(s)); e != api.OK || !Same(got, s) || Total(s) != n {
				t.Errorf("of %d bytes by %d: %d", n, size, e)
			}
		}
	}
}

// TestTurned: 15.2, bytes that were turned, cut off or put behind are of one signature, or of none.
func TestTurned(t *testing.T) {
	r := rand.New(rand.NewSource(16))
	some := []byte{0, 1, 2, 3, 4, 5, 63, 64, 65, 127, 128, 129, 255}
	read := 0
	for range 20000 {
		b := Put(Of(some[:r.Intn(len(some))], 4+r.Intn(5)))
		for range 1 + r.Intn(3) {
			switch at := r.Intn(len(b) + 1); {
			case at == len(b) || r.Intn(3) == 0:
				b = slices.Insert(b, at, some[r.Intn(len(some))])
			case r.Intn(3) == 0:
				b = b[:at]
			default:
				b[at] = some[r.Intn(len(some))]
			}
		}
		s, e := Get(b)
		switch {
		case e == api.OK && !bytes.Equal(Put(s), b):
			t.Fatalf("% x is read as %x", b, s)
		case e != api.OK && !Same(s, Signature{}):
			t.Fatalf("% x: %x beside %d", b, s, e)
		case e == api.OK:
			read++
		}
	}
	if read < 1000 {
		t.Errorf("only %d were read", read)
	}
}

// TestApart: R5, signatures, and their bytes, are new memory.
func TestApart(t *testing.T) {
	b := []byte("0123456789")
	x, y := Of(b, 4), Of(b, 4)
	p, q := Put(x), Put(x)
	clear(b)
	x.Blocks[0] = Sign{}
	for i := range p {
		p[i] = 99
	}
	if y.Blocks[0] != sign1("0123") || !bytes.Equal(q, bytesOf(y)) {
		t.Errorf("two signatures, or their bytes, share memory")
	}
	u, _ := Get(q)
	v, _ := Get(q)
	u.Blocks[0] = Sign{}
	clear(q)
	if !Same(v, y) {
		t.Errorf("two signatures that were read share memory: %x", v)
	}
	// Room behind a list of signs is neither read nor written.
	l := []Sign{sign1("0123"), sign1("4567"), {Weak: 7}}
	s := Signature{Size: 4, Blocks: l[:1]}
	if got := Put(s); !bytes.Equal(got, bytesOf(Signature{Size: 4, Blocks: signs("0123")})) || Total(s) != 4 || l[1] != sign1("4567") || l[2] != (Sign{Weak: 7}) {
		t.Errorf("what lies behind the signs is put: % x", got)
	}
}
