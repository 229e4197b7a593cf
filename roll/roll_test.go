package roll

import (
	"bytes"
	"iter"
	"math"
	"slices"
	"testing"
)

// weak is the weak sum of bytes, reckoned as the document says it; the numbers here are small enough not to go round at 2^64.
func weak(l ...[]byte) uint32 {
	all := slices.Concat(l...)
	var a, b uint64
	for i, x := range all {
		a += uint64(x)
		b += uint64(x) * uint64(len(all)-i)
	}
	return uint32(a%65536 + b%65536*65536)
}

// some is n bytes, which go up and down.
func some(n int) []byte {
	b := make([]byte, n)
	for i := range b {
		b[i] = byte(i*i*31 + i*7 + 5)
	}
	return b
}

// full is n bytes of 255.
func full(n int) []byte {
	return bytes.Repeat([]byte{255}, n)
}

// texts is bytes about edges.
func texts() [][]byte {
	l := [][]byte{nil, {0}, {255}, {1, 2}, {2, 1}, {0, 0, 1}, {1, 0, 0}, full(256), full(257), full(258), full(300), full(1 << 9)}
	for n := range 40 {
		l = append(l, some(n))
	}
	return append(l, some(300), some(70000), full(70000))
}

// TestOf: 7.1, the weak sum of bytes.
func TestOf(t *testing.T) {
	for _, x := range []struct {
		b    []byte
		want uint32
	}{
		{nil, 0},
		{[]byte{}, 0},
		{[]byte{0}, 0},
		{[]byte("a"), 0x00610061},
		{[]byte{1, 2}, 262147},
		{[]byte("abc"), 0x024a0126},
		{[]byte("Wikipedia"), 0x11dd0397},
		{[]byte{0, 0, 1}, 0x00010001},
		{[]byte{1, 0, 0}, 0x00030001},
		{[]byte("the quick brown fox jumps over the lazy dog"), 0x61020ff9},
		{full(256), 0xff80ff00},
		{full(257), 0xff7fffff},
		{full(300), 0xada22ad4},
		{full(1 << 16), 0x80000000},
		{bytes.Repeat([]byte{1}, 1<<16+1), 0x80010001},
	} {
		if got := Of(x.b); got != x.want {
			t.Errorf("Of(%.20q), %d bytes: %#x, not %#x", x.b, len(x.b), got, x.want)
		}
	}
	for _, b := range texts() {
		if got, want := Of(b), weak(b); got != want {
			t.Errorf("Of(%.20q), %d bytes: %#x, not %#x", b, len(b), got, want)
		}
	}
}

// TestGrow: 7.1, the sum of bytes, and one behind them.
func TestGrow(t *testing.T) {
	for _, x := range []struct {
		sum  uint32
		in   byte
		want uint32
	}{
		{0, 0, 0},
		{0, 1, 0x00010001},
		{0x00010001, 2, 262147},
		{0x0000ffff, 1, 0},
		{0xffff0000, 0, 0xffff0000},
		{0xffff0001, 0, 0x00000001},
		{math.MaxUint32, 0, 0xfffeffff},
		{math.MaxUint32, 255, 0x00fd00fe},
	} {
		if got := Grow(x.sum, x.in); got != x.want {
			t.Errorf("Grow(%#x, %d): %#x, not %#x", x.sum, x.in, got, x.want)
		}
	}
	for _, b := range texts() {
		for _, in := range []byte{0, 1, 127, 128, 255} {
			if got, want := Grow(weak(b), in), weak(b, []byte{in}); got != want {
				t.Errorf("Grow by %d of %.20q, %d bytes: %#x, not %#x", in, b, len(b), got, want)
			}
		}
	}
}

// TestRoll: 7.1, the sum of the next window.
func TestRoll(t *testing.T) {
	if got := Roll(262147, 2, 1, 3); got != weak([]byte{2, 3}) || got != 0x00070005 {
		t.Errorf("from 1, 2 to 2, 3: %#x", got)
	}
	for _, b := range texts() {
		for _, in := range []byte{0, 1, 127, 128, 255} {
			if len(b) == 0 {
				continue
			}
			if got, want := Roll(weak(b), len(b), b[0], in), weak(b[1:], []byte{in}); got != want {
				t.Errorf("Roll to %d of %.20q, %d bytes: %#x, not %#x", in, b, len(b), got, want)
			}
		}
	}
}

// TestRollNone: 7.1, of no bytes: a number of them below 0 counts as 0.
func TestRollNone(t *testing.T) {
	for _, in := range []byte{0, 1, 255} {
		for _, n := range []int{0, -1, -2, -1 << 16, math.MinInt32, math.MinInt} {
			if got := Roll(0, n, 0, in); got != weak([]byte{in}) {
				t.Errorf("Roll of %d bytes to %d: %#x", n, in, got)
			}
			for _, sum := range []uint32{0, 1, 262147, 1 << 16, math.MaxUint32} {
				if got, want := Roll(sum, n, 7, in), Roll(sum, 0, 7, in); got != want {
					t.Errorf("Roll(%#x, %d, 7, %d): %#x, not %#x", sum, n, in, got, want)
				}
			}
		}
	}
}

// TestRollMany: 7.1, of how many bytes there are, only what is left at 2^16 matters.
func TestRollMany(t *testing.T) {
	for _, n := range []int{1 << 16, 1<<16 + 1, 1<<31 - 1, 1 << 31, 1 << 32, 1<<32 + 5, math.MaxInt} {
		if got, want := Roll(0x12345678, n, 200, 3), Roll(0x12345678, n%(1<<16), 200, 3); got != want {
			t.Errorf("Roll of %d bytes: %#x, not %#x", n, got, want)
		}
		if got, want := Both(0x12345678, 0x9abcdef0, n), Both(0x12345678, 0x9abcdef0, n%(1<<16)); got != want {
			t.Errorf("Both with %d bytes: %#x, not %#x", n, got, want)
		}
	}
}

// TestBoth: 7.1, the sum of two texts, one behind the other.
func TestBoth(t *testing.T) {
	for _, x := range texts() {
		for _, y := range texts() {
			if len(x)+len(y) > 80000 {
				continue
			}
			if got, want := Both(weak(x), weak(y), len(y)), weak(x, y); got != want {
				t.Errorf("Both of %.20q and %.20q, %d and %d bytes: %#x, not %#x", x, y, len(x), len(y), got, want)
			}
		}
	}
	for _, n := range []int{0, -1, -2, -1 << 16, math.MinInt32, math.MinInt} {
		for _, sum := range []uint32{0, 1, 262147, 1 << 16, math.MaxUint32} {
			if got := Both(sum, 0, n); got != sum {
				t.Errorf("Both(%#x, 0, %d): %#x", sum, n, got)
			}
			if got, want := Both(sum, 0x00010001, n), Both(sum, 0x00010001, 0); got != want {
				t.Errorf("Both(%#x, 0x00010001, %d): %#x, not %#x", sum, n, got, want)
			}
		}
	}
}

// window is a place, and the weak sum that is told of it.
type window struct {
	at  int
	sum uint32
}

// told is what is told of windows, till there are most of them.
func told(l iter.Seq2[int, uint32], most int) []window {
	var out []window
	for at, sum := range l {
		out = append(out, window{at, sum})
		if len(out) == most {
			break
		}
	}
	return out
}

// TestWindows: 7.2, and 7.3: each window, in order, with the weak sum of its bytes.
func TestWindows(t *testing.T) {
	if got, want := told(Windows([]byte{1, 2, 3, 4}, 2), -1), []window{{0, 0x00040003}, {1, 0x00070005}, {2, 0x000a0007}}; !slices.Equal(got, want) {
		t.Errorf("of 1, 2, 3, 4: %#x, not %#x", got, want)
	}
	for _, b := range [][]byte{{0}, {255}, []byte("abcabcabc"), some(40), full(40), full(600), some(700)} {
		for n := 1; n <= len(b); n++ {
			var want []window
			if n > 50 && n < len(b)-50 && n%97 != 0 {
				continue
			}
			for at := range len(b) - n + 1 {
				want = append(want, window{at, weak(b[at : at+n])})
			}
			if got := told(Windows(b, n), -1); !slices.Equal(got, want) {
				t.Fatalf("windows of size %d of %.20q, %d bytes: %#x, not %#x", n, b, len(b), got, want)
			}
		}
	}
	b := some(70003)
	for _, w := range told(Windows(b, 70000), -1) {
		if w.sum != weak(b[w.at:w.at+70000]) {
			t.Errorf("window of size 70000 at %d: %#x", w.at, w.sum)
		}
	}
}

// TestNoWindows: 7.2, sizes of which there are none.
func TestNoWindows(t *testing.T) {
	for _, b := range [][]byte{nil, {}, {1}, {1, 2}, some(40)} {
		for _, n := range []int{0, -1, -2, math.MinInt, len(b) + 1, len(b) + 2, 1 << 16, 1 << 32, math.MaxInt} {
			l := Windows(b, n)
			if l == nil {
				t.Fatalf("Windows of %d bytes, %d: nil", len(b), n)
			}
			if got := told(l, -1); len(got) != 0 {
				t.Errorf("windows of size %d of %d bytes: %#x", n, len(b), got)
			}
			for _, sum := range []uint32{0, weak(b)} {
				if at, ok := Find(b, n, sum); at != 0 || ok {
					t.Errorf("Find a window of size %d of %d bytes: %d %v", n, len(b), at, ok)
				}
			}
		}
	}
}

// TestWindowsAgain: R9, windows are told anew from the begin, and no more behind a stop.
func TestWindowsAgain(t *testing.T) {
	b := some(20)
	l := Windows(b, 5)
	all := told(Windows(b, 5), -1)
	if len(all) != 16 {
		t.Fatalf("%d windows", len(all))
	}
	for n := 1; n <= len(all); n++ {
		if got := told(l, n); !slices.Equal(got, all[:n]) {
			t.Errorf("till %d were told: %#x", n, got)
		}
		asked := 0
		l(func(int, uint32) bool {
			asked++
			return asked < n
		})
		if asked != n {
			t.Errorf("stopped at %d: %d were told", n, asked)
		}
	}
	for at, sum := range l {
		if (window{at, sum}) != all[at] || !slices.Equal(told(l, -1), all) {
			t.Fatalf("within another one, at %d", at)
		}
	}
}

// TestWindowsKept: R5, what is handed in is neither kept nor changed, nor read behind its length.
func TestWindowsKept(t *testing.T) {
	b := some(40)
	l := Windows(b[:20], 5)
	all := told(l, -1)
	if len(all) != 16 || !slices.Equal(b, some(40)) {
		t.Errorf("%d windows; the bytes: % x", len(all), b)
	}
	if Of(b[:20]) != weak(some(20)) {
		t.Errorf("Of read behind the list's length")
	}
	for i := range l {
		b[i] = 0
	}
	clear(b)
	if got := told(l, -1); !slices.Equal(got, all) {
		t.Errorf("when the bytes have changed: %#x, not %#x", got, all)
	}
	if at, ok := Find(some(40)[:20], 5, weak(some(40)[16:21])); at != 0 || ok {
		t.Errorf("Find behind the list's length: %d %v", at, ok)
	}
}

// TestFind: 7.2, the least place of a window that has a weak sum.
func TestFind(t *testing.T) {
	for _, x := range []struct {
		b, w []byte
		at   int
		ok   bool
	}{
		{[]byte("abcabcabc"), []byte("abc"), 0, true},
		{[]byte("abcabcabc"), []byte("bca"), 1, true},
		{[]byte("abcabcabc"), []byte("cab"), 1, true}, // bca, which stands ahead, has the same weak sum
		{[]byte("abcabdabc"), []byte("bda"), 4, true},
		{[]byte("abcabcabc"), []byte("c"), 2, true},
		{[]byte("abcabcabc"), []byte("abcabcabc"), 0, true},
		{[]byte("abcabcabd"), []byte("abd"), 6, true},
		{[]byte("abcabcabc"), []byte("abd"), 0, false},
		{[]byte("abc"), []byte("acb"), 0, false},
		{make([]byte, 9), make([]byte, 3), 0, true},
		{[]byte{1, 0, 0, 0}, []byte{0, 0}, 1, true},
		{[]byte{7, 0, 2, 0, 1, 0, 1}, []byte{1, 0, 1}, 1, true},
		{[]byte{7, 1, 0, 1, 0, 2, 0}, []byte{0, 2, 0}, 1, true},
	} {
		if at, ok := Find(x.b, len(x.w), weak(x.w)); at != x.at || ok != x.ok {
			t.Errorf("Find %q in %q: %d %v", x.w, x.b, at, ok)
		}
	}
	b := some(100)
	for n := 1; n <= len(b); n++ {
		first := map[uint32]int{}
		for at := range len(b) - n + 1 {
			s := weak(b[at : at+n])
			if _, ok := first[s]; !ok {
				first[s] = at
			}
			if got, ok := Find(b, n, s); got != first[s] || !ok {
				t.Errorf("Find the window of size %d at %d: %d %v", n, at, got, ok)
			}
		}
		if _, ok := first[1]; ok {
			continue
		}
		if at, ok := Find(b, n, 1); at != 0 || ok {
			t.Errorf("Find what there isn't, of size %d: %d %v", n, at, ok)
		}
	}
}

// TestUnlike: 7.3, two unlike texts may have one weak sum.
func TestUnlike(t *testing.T) {
	if Of([]byte{0, 2, 0}) != Of([]byte{1, 0, 1}) || Of([]byte{0}) != Of(nil) || Of([]byte{1, 2}) == Of([]byte{2, 1}) {
		t.Errorf("%#x, %#x, %#x, %#x", Of([]byte{0, 2, 0}), Of([]byte{1, 0, 1}), Of([]byte{1, 2}), Of([]byte{2, 1}))
	}
}
