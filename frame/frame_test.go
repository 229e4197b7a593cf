package frame

import (
	"bytes"
	"encoding/binary"
	"flitting/api"
	"flitting/crc"
	"hash/crc32"
	"math"
	"math/rand"
	"slices"
	"strings"
	"testing"
)

// hidden is bytes with room behind them, which holds bytes that nobody may see.
func hidden(b []byte) []byte {
	return append(slices.Clone(b), bytes.Repeat([]byte{77}, 80)...)[:len(b)]
}

// untouched tells whether what lies in and behind bytes that hidden made is as it was.
func untouched(l, b []byte) bool {
	return bytes.Equal(l[:len(l)+80], hidden(b)[:len(b)+80])
}

// num is a number's bytes.
func num(n uint64) string {
	return string(binary.AppendUvarint(nil, n))
}

// sealed is a text, and its sum behind it, the lowest byte first.
func sealed(s string) []byte {
	return binary.LittleEndian.AppendUint32([]byte(s), crc32.ChecksumIEEE([]byte(s)))
}

// bytesOf is a frame's bytes, as the document says them.
func bytesOf(f Frame) []byte {
	return sealed(num(uint64(f.Kind)) + num(f.Boot) + num(f.Num) + num(uint64(len(f.Body))) + f.Body)
}

// full is the longest body.
func full() string {
	return strings.Repeat("0123456789abcdef", MostBody/16)
}

// rights is frames that may be.
func rights() []Frame {
	l := []Frame{{}, {Kind: 255, Boot: math.MaxUint64, Num: math.MaxUint64, Body: full()}, {Kind: 3, Body: full()[:MostBody-1]}}
	for _, k := range []int{0, 1, 127, 128, 254, 255} {
		for _, n := range []uint64{0, 1, 127, 128, 300, 1 << 32, 1 << 63, math.MaxUint64} {
			for _, s := range []string{"", "a", "\x00", "\xff\x80", strings.Repeat("x", 127), strings.Repeat("y", 128)} {
				l = append(l, Frame{Kind: k, Boot: n, Num: n / 3, Body: s}, Frame{Kind: k, Boot: n / 7, Num: n, Body: s})
			}
		}
	}
	return l
}

// wrongs is frames that may not be.
func wrongs() []Frame {
	l := []Frame{{Body: full() + "x"}, {Kind: 255, Body: full() + full()}, {Kind: 256, Body: full() + "x"}}
	for _, k := range []int{-1, 256, 257, 1 << 32, -1 << 32, math.MinInt, math.MaxInt} {
		l = append(l, Frame{Kind: k}, Frame{Kind: k, Boot: 1, Num: 2, Body: "abc"})
	}
	return l
}

// TestRight: 19.1, which frames may be.
func TestRight(t *testing.T) {
	if MostBody != 131072 {
		t.Errorf("MostBody: %d", MostBody)
	}
	for _, f := range rights() {
		if !Right(f) {
			t.Errorf("not right: %d, %d, %d, %d bytes", f.Kind, f.Boot, f.Num, len(f.Body))
		}
	}
	for _, f := range wrongs() {
		if Right(f) {
			t.Errorf("right: %d, %d, %d, %d bytes", f.Kind, f.Boot, f.Num, len(f.Body))
		}
	}
}

// TestPut: 19.1, a frame's bytes.
func TestPut(t *testing.T) {
	for _, x := range []struct {
		f Frame
		s string
	}{
		{Frame{}, "\x00\x00\x00\x00\x1c\xdf\x44\x21"},
		{Frame{Kind: 5, Boot: 1, Num: 2, Body: "ab"}, string(sealed("\x05\x01\x02\x02ab"))},
		{Frame{Kind: 255, Boot: 300, Num: 128, Body: "x"}, string(sealed("\xff\x01\xac\x02\x80\x01\x01x"))},
		{Frame{Num: math.MaxUint64}, string(sealed("\x00\x00\xff\xff\xff\xff\xff\xff\xff\xff\xff\x01\x00"))},
	} {
		if b := Put(x.f); string(b) != x.s {
			t.Errorf("Put(%v): % x, not % x", x.f, b, x.s)
		}
	}
	for _, f := range rights() {
		if b := Put(f); !bytes.Equal(b, bytesOf(f)) {
			t.Errorf("Put of %d, %d, %d, %d bytes: % .40x", f.Kind, f.Boot, f.Num, len(f.Body), b)
		}
	}
	for _, f := range wrongs() {
		if b := Put(f); len(b) != 0 {
			t.Errorf("Put of %d, %d, %d, %d bytes: % .40x", f.Kind, f.Boot, f.Num, len(f.Body), b)
		}
	}
}

// TestThere: 19.3, Get of Put is the frame.
func TestThere(t *testing.T) {
	for _, f := range rights() {
		b := hidden(Put(f))
		if g, e := Get(b); e != api.OK || g != f {
			t.Errorf("%d, %d, %d, %d bytes: read as %d, %d, %d, %d bytes, %d", f.Kind, f.Boot, f.Num, len(f.Body), g.Kind, g.Boot, g.Num, len(g.Body), e)
		}
		if !untouched(b, bytesOf(f)) {
			t.Errorf("%d, %d, %d, %d bytes: the bytes were changed", f.Kind, f.Boot, f.Num, len(f.Body))
		}
	}
}

// TestOpen: 19.1, crc.Open's errors come first.
func TestOpen(t *testing.T) {
	for _, x := range []struct {
		b    string
		want api.Errno
	}{
		{"", api.ErrShort}, {"\x00", api.ErrShort}, {"\x00\x00\x00", api.ErrShort}, {"\xff\xff\xff", api.ErrShort},
		{"\x00\x00\x00\x01", api.ErrSum}, {"\x00\x00\x00\x00\x1c\xdf\x44\x20", api.ErrSum}, {"\x00\x00\x00\x00\x21\x44\xdf\x1c", api.ErrSum},
		// These are of no form, besides.
		{"\x80\x00\x00\x00\x00\x00\x00\x00", api.ErrSum}, {"\xff\xff\xff\xff\xff\xff\xff\xff\xff\xff\xff\xff", api.ErrSum},
		// Nothing at all, sealed: it is opened, but has no Kind.
		{"\x00\x00\x00\x00", api.ErrShort},
	} {
		if f, e := Get([]byte(x.b)); e != x.want || f != (Frame{}) {
			t.Errorf("Get of % x: %v, %d, not %d", x.b, f, e, x.want)
		}
	}
	if f, e := Get(nil); e != api.ErrShort || f != (Frame{}) {
		t.Errorf("Get of nil: %v, %d", f, e)
	}
}

// TestWrong: 19.1, vint's errors, part by part.
func TestWrong(t *testing.T) {
	nine := strings.Repeat("\x80", 9)
	for _, x := range []struct {
		what, s string
		want    api.Errno
	}{
		{"nothing", "", api.ErrShort},
		{"half a Kind", "\x80", api.ErrShort},
		{"Kind 255", "\xff\x01\x00\x00\x00", api.OK},
		{"Kind 256", "\x80\x02\x00\x00\x00", api.ErrLong},
		{"Kind 2^64-1", num(math.MaxUint64) + "\x00\x00\x00", api.ErrLong},
		{"Kind 256 alone", "\x80\x02", api.ErrLong},
		{"a Kind with a nought ahead", "\x80\x00\x00\x00\x00", api.ErrForm},
		{"no Boot", "\x01", api.ErrShort},
		{"half a Boot", "\x01\x80", api.ErrShort},
		{"Boot 2^64-1", "\x01" + num(math.MaxUint64) + "\x00\x00", api.OK},
		{"Boot 2^64", "\x01" + nine + "\x02\x00\x00", api.ErrForm},
		{"a Boot with a nought ahead", "\x01\x81\x00\x00\x00", api.ErrForm},
		{"no Num", "\x01\x01", api.ErrShort},
		{"Num 2^64-1", "\x01\x00" + num(math.MaxUint64) + "\x00", api.OK},
		{"Num 2^64", "\x01\x00" + nine + "\x02\x00", api.ErrForm},
		{"a Num with a nought ahead", "\x01\x00\x81\x00\x00", api.ErrForm},
		{"no Body", "\x01\x00\x00", api.ErrShort},
		{"a Body of 2, 1 there", "\x01\x00\x00\x02a", api.ErrShort},
		{"a Body of 2^17, none there", "\x01\x00\x00" + num(MostBody), api.ErrShort},
		{"a Body of 2^17+1, none there", "\x01\x00\x00" + num(MostBody+1), api.ErrLong},
		{"a Body of 2^17+1", "\x01\x00\x00" + num(MostBody+1) + full() + "x", api.ErrLong},
		{"a Body of 2^17", "\x01\x00\x00" + num(MostBody) + full(), api.OK},
		{"a Body with a nought ahead", "\x01\x00\x00\x81\x00a", api.ErrForm},
		{"more behind", "\x01\x00\x00\x01ab", api.ErrLong},
		{"a frame behind", "\x01\x00\x00\x00\x01\x00\x00\x00", api.ErrLong},
		// The first part that is wrong is told.
		{"Kind 256, and a Boot with a nought ahead", "\x80\x02\x81\x00\x00\x00", api.ErrLong},
		{"a Kind with a nought ahead, and more behind", "\x80\x00\x00\x00\x00\x00", api.ErrForm},
		{"a Num with a nought ahead, and a Body too long", "\x01\x00\x81\x00" + num(MostBody+1), api.ErrForm},
		{"good", "\x01\x02\x03\x01a", api.OK},
	} {
		b := hidden(sealed(x.s))
		f, e := Get(b)
		if e != x.want || e != api.OK && f != (Frame{}) || e == api.OK && !bytes.Equal(bytesOf(f), b) {
			t.Errorf("%s: %d, %d, %d, %d bytes, %d, not %d", x.what, f.Kind, f.Boot, f.Num, len(f.Body), e, x.want)
		}
		if !untouched(b, sealed(x.s)) {
			t.Errorf("%s: the bytes were changed", x.what)
		}
	}
}

// TestCut: 19.1, whatever is left of a frame, and sealed anew, is too short.
func TestCut(t *testing.T) {
	whole, e := crc.Open(Put(Frame{Kind: 200, Boot: 1 << 40, Num: 300, Body: strings.Repeat("z", 200)}))
	if e != api.OK {
		t.Fatalf("not opened: %d", e)
	}
	for n := range len(whole) {
		if f, e := Get(sealed(string(whole[:n]))); e != api.ErrShort || f != (Frame{}) {
			t.Errorf("the first %d bytes: %v, %d", n, f, e)
		}
		if f, e := Get(whole[:n]); e == api.OK || f != (Frame{}) {
			t.Errorf("the first %d bytes, not sealed: %v, %d", n, f, e)
		}
	}
}

// TestOneForm: 19.1 and 19.3, bytes that are read are those of the frame that is told.
func TestOneForm(t *testing.T) {
	r := rand.New(rand.NewSource(19))
	some := []byte{0, 1, 2, 3, 127, 128, 129, 255}
	read := 0
	for range 50000 {
		b := make([]byte, r.Intn(9))
		for i := range b {
			b[i] = some[r.Intn(len(some))]
		}
		b = sealed(string(b))
		switch f, e := Get(b); {
		case e == api.OK && (!Right(f) || !bytes.Equal(bytesOf(f), b)):
			t.Fatalf("% x is read as %v", b, f)
		case e != api.OK && f != (Frame{}):
			t.Fatalf("% x: %v beside %d", b, f, e)
		case e == api.OK:
			read++
		}
	}
	if read < 1000 {
		t.Errorf("only %d were read", read)
	}
}

// TestTurned: 19.3, a frame's bytes that were turned once are no frame's.
func TestTurned(t *testing.T) {
	r := rand.New(rand.NewSource(20))
	for _, f := range []Frame{{}, {Kind: 255, Boot: 300, Num: 7, Body: "abc"}, {Body: strings.Repeat("x", 300)}} {
		b := Put(f)
		masks := []uint32{math.MaxUint32, 1 << 31, 0x80000001}
		for i := range 32 {
			masks = append(masks, 1<<i, r.Uint32(), r.Uint32())
		}
		for at := -5; at < len(b)+5; at++ {
			for _, m := range masks {
				c := crc.Turn(b, at, m)
				if g, e := Get(c); !bytes.Equal(b, c) && (e != api.ErrSum || g != (Frame{})) {
					t.Fatalf("%v, turned at %d by %x: %v, %d", f, at, m, g, e)
				}
			}
		}
	}
}

// TestNewer: 19.2, which of two frames is newer, and which are of one question.
func TestNewer(t *testing.T) {
	for _, x := range []struct {
		f, g         Frame
		newer, alike bool
	}{
		{Frame{}, Frame{}, false, true},
		{Frame{Num: 1}, Frame{}, true, false},
		{Frame{}, Frame{Num: 1}, false, false},
		{Frame{Boot: 1}, Frame{}, true, false},
		{Frame{Boot: 1}, Frame{Num: 9}, true, false},
		{Frame{Num: 9}, Frame{Boot: 1}, false, false},
		{Frame{Boot: 1, Num: 9}, Frame{Boot: 2, Num: 8}, false, false},
		{Frame{Boot: 2, Num: 8}, Frame{Boot: 1, Num: 9}, true, false},
		{Frame{Boot: 2, Num: 1}, Frame{Boot: 1, Num: 2}, true, false},
		{Frame{Boot: 1, Num: 2}, Frame{Boot: 2, Num: 1}, false, false},
		{Frame{Boot: 1, Num: 3}, Frame{Boot: 1, Num: 2}, true, false},
		{Frame{Boot: 1, Num: 2}, Frame{Boot: 1, Num: 3}, false, false},
		{Frame{Boot: 1 << 63}, Frame{Boot: 1<<63 - 1, Num: math.MaxUint64}, true, false},
		{Frame{Num: 1 << 63}, Frame{Num: 1<<63 - 1}, true, false},
		{Frame{Boot: math.MaxUint64, Num: math.MaxUint64}, Frame{Boot: math.MaxUint64, Num: math.MaxUint64}, false, true},
		{Frame{Boot: math.MaxUint64, Num: math.MaxUint64}, Frame{Boot: math.MaxUint64, Num: math.MaxUint64 - 1}, true, false},
		// Kinds and bodies count for nothing, and neither does whether the frames may be.
		{Frame{Kind: 1, Boot: 4, Num: 5, Body: "a"}, Frame{Kind: 2, Boot: 4, Num: 5, Body: "b"}, false, true},
		{Frame{Kind: 9, Body: "zz"}, Frame{Kind: 1, Body: "a"}, false, true},
		{Frame{Kind: 1, Body: "a"}, Frame{Kind: 9, Body: "zz"}, false, true},
		{Frame{Kind: -1, Num: 1}, Frame{Kind: 256}, true, false},
		{Frame{Kind: math.MinInt}, Frame{Kind: math.MaxInt}, false, true},
	} {
		if got := Newer(x.f, x.g); got != x.newer {
			t.Errorf("Newer(%v, %v): %t", x.f, x.g, got)
		}
		if got, back := Alike(x.f, x.g), Alike(x.g, x.f); got != x.alike || back != x.alike {
			t.Errorf("Alike(%v, %v): %t, %t", x.f, x.g, got, back)
		}
	}
	// Of any two just one thing holds.
	nums := []uint64{0, 1, 2, 1 << 63, math.MaxUint64}
	for i := range 625 {
		f := Frame{Kind: i, Boot: nums[i%5], Num: nums[i/5%5], Body: "f"}
		g := Frame{Boot: nums[i/25%5], Num: nums[i/125%5]}
		n := 0
		for _, b := range []bool{Newer(f, g), Newer(g, f), Alike(f, g)} {
			if b {
				n++
			}
		}
		if n != 1 {
			t.Errorf("%v and %v: %d things hold", f, g, n)
		}
	}
}

// TestApart: R5, a frame's bytes are new memory, and a frame keeps nothing of the bytes that it was read from.
func TestApart(t *testing.T) {
	f := Frame{Kind: 1, Boot: 2, Num: 3, Body: "abc"}
	b, c := Put(f), Put(f)
	g, e := Get(b)
	clear(b)
	if e != api.OK || g != f || !bytes.Equal(c, bytesOf(f)) {
		t.Errorf("memory is shared: %v, %d, % x", g, e, c)
	}
}
