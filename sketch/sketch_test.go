package sketch

import (
	"flitting/api"
	"flitting/mix"
	"iter"
	"maps"
	"math"
	"slices"
	"strings"
	"testing"
)

// numbers is a sketch.
type numbers = [api.Slots]uint64

// empty is the sketch of no bytes.
func empty() numbers {
	const most = math.MaxUint64
	return numbers{most, most, most, most, most, most, most, most}
}

// set is the words of the shingles of bytes, each once.
func set(b string) map[uint64]bool {
	words := map[uint64]bool{}
	n := min(4, len(b))
	for i := 0; n > 0 && i+n <= len(b); i++ {
		w := uint64(n)
		for j := 3; j >= 0; j-- {
			w *= 256
			if j < n {
				w += uint64(b[i+j])
			}
		}
		words[w] = true
	}
	return words
}

// sketch is a sketch, slot by slot, as the document says it.
func sketch(b string) numbers {
	s := empty()
	for k := range s {
		for w := range set(b) {
			s[k] = min(s[k], mix.Round(api.Sum{Hi: uint64(k + 1), Lo: uint64(k)}, w).Lo)
		}
	}
	return s
}

// some is n bytes, which go up and down.
func some(n int) string {
	b := make([]byte, n)
	for i := range b {
		b[i] = byte(i*i*31 + i*7 + 5)
	}
	return string(b)
}

// texts is bytes of all sorts.
func texts() []string {
	l := []string{"abcabcabc", "bcabcab", "\x00", "\x00\x00", "\x00\x00\x00", "\x00\x00\x00\x00", "\x00\x00\x00\x00\x00", "\xff\xff\xff\xff", "\x01\x00\x00\x00", "the quick brown fox jumps over the lazy dog", "the quick brown dog jumps over the lazy fox", strings.Repeat("xy", 50)}
	for n := range 20 {
		l = append(l, some(n))
	}
	return append(l, some(300), some(1000))
}

// told is what is told, till there are most of them.
func told(l iter.Seq[uint64], most int) []uint64 {
	var out []uint64
	for w := range l {
		out = append(out, w)
		if len(out) == most {
			break
		}
	}
	return out
}

// TestShingles: 8.1, the words of shingles, in order.
func TestShingles(t *testing.T) {
	for _, x := range []struct {
		b    string
		want []uint64
	}{
		{"", nil},
		{"a", []uint64{0x100000061}},
		{"ab", []uint64{0x200006261}},
		{"abc", []uint64{0x300636261}},
		{"abcd", []uint64{0x464636261}},
		{"abcde", []uint64{0x464636261, 0x465646362}},
		{"abcdef", []uint64{0x464636261, 0x465646362, 0x466656463}},
		{"dcba", []uint64{0x461626364}},
		{"\x00", []uint64{0x100000000}},
		{"\x00\x00\x00", []uint64{0x300000000}},
		{"\x00\x00\x00\x00\x00", []uint64{0x400000000, 0x400000000}},
		{"\xff\xfe", []uint64{0x20000feff}},
		{"\xff\xff\xff\xff", []uint64{0x4ffffffff}},
		{"abababa", []uint64{0x462616261, 0x461626162, 0x462616261, 0x461626162}},
	} {
		if got := told(Shingles([]byte(x.b)), -1); !slices.Equal(got, x.want) {
			t.Errorf("Shingles(%q): %#x, not %#x", x.b, got, x.want)
		}
	}
	for _, b := range texts() {
		words := map[uint64]bool{}
		l := told(Shingles([]byte(b)), -1)
		for _, w := range l {
			words[w] = true
		}
		if !maps.Equal(words, set(b)) || len(b) > 3 && len(l) != len(b)-3 {
			t.Errorf("Shingles(%.20q), %d bytes: %#x", b, len(b), l)
		}
	}
	if l := Shingles(nil); l == nil || len(told(l, -1)) != 0 {
		t.Errorf("Shingles(nil): %#x", told(l, -1))
	}
}

// TestShinglesAgain: R9, shingles are told anew from the begin, and no more behind a stop.
func TestShinglesAgain(t *testing.T) {
	b := []byte(some(20))
	l := Shingles(b)
	all := told(Shingles(b), -1)
	if len(all) != 17 {
		t.Fatalf("%d shingles", len(all))
	}
	for n := 1; n <= len(all); n++ {
		if got := told(l, n); !slices.Equal(got, all[:n]) {
			t.Errorf("till %d were told: %#x", n, got)
		}
		asked := 0
		l(func(uint64) bool {
			asked++
			return asked < n
		})
		if asked != n {
			t.Errorf("stopped at %d: %d were told", n, asked)
		}
	}
	for range l {
		if !slices.Equal(told(l, -1), all) {
			t.Fatalf("within another one")
		}
	}
}

// TestKept: R5, what is handed in is neither kept nor changed, nor read behind its length.
func TestKept(t *testing.T) {
	for n := range 10 {
		b := []byte(some(40))
		l := Shingles(b[:n])
		all := told(l, -1)
		if len(all) != len(set(some(n))) || Of(b[:n]) != sketch(some(n)) || string(b) != some(40) {
			t.Errorf("of %d bytes: %#x, %#x; the bytes: % x", n, all, Of(b[:n]), b)
		}
		for range l {
			clear(b)
		}
		if got := told(l, -1); !slices.Equal(got, all) {
			t.Errorf("when %d bytes have changed: %#x, not %#x", n, got, all)
		}
	}
}

// TestOf: 8.1, sketches of bytes.
func TestOf(t *testing.T) {
	for b, want := range map[string]numbers{
		"":                 empty(),
		"a":                {0xcd2c0f270b63f21b, 0x2311c2e382eaa1a4, 0x5aaf6ae49e89086a, 0xd0d9e6e27c93d555, 0x568f58f62ecc1e7b, 0x4d5c08f8685cd706, 0xe3ac3cf0a3274b88, 0xb981ac137be92370},
		"ab":               {0x05200cc43375673d, 0x3b0dbcbe6ab2cc36, 0x31bb6b43b4ce55ac, 0xf72de641667da207, 0x6dbb474b36e0cc9d, 0x04b00a5d61378854, 0xdab03d534a1dfe4e, 0x108dac4e4becb667},
		"abc":              {0x7bbc6c371d6f15f8, 0x3189dd53811ec1f3, 0xb73f4a54a8267aea, 0x4d5187526e6638c0, 0xe33ea6663dfd4fda, 0xdb2c2b687d4d1792, 0x913c1c60a3b3db0c, 0xd7094d63688804a2},
		"abcd":             {0x113c6c1de3bd6fb6, 0x5b09dd64b88fc639, 0x1dbf4a6de6785c45, 0xe7d1877b34b028aa, 0x09bea671e733c614, 0x30ac2b72b17d719b, 0x3abc1c099802e865, 0x7c894d14123a0d4c},
		"abcde":            {0x113c6c1de3bd6fb6, 0x2c7aceb4c2bd9a6e, 0x1dbf4a6de6785c45, 0xd01de6985ba32554, 0x09bea671e733c614, 0x057a8098f8ae4a40, 0x3abc1c099802e865, 0x48a0207f67491072},
		"\x00":             {0xcfe94fcd0a66a0b9, 0x560400d0584435be, 0x7c16d3dd9fb18fb5, 0xa226e4d546e9008c, 0x28d4f5e80d837ca4, 0xee46cae56237eb5c, 0x146699e27058a1d7, 0xbb942ee0617d3f6e},
		"\x00\x00\x00\x00": {0xafe94ebc14365541, 0x760401c14b85ee36, 0x5c16d2ce88e9672d, 0xc226e5c459af1c04, 0xc8d4f4d91e4b8b1c, 0xce46cbd6746602d4, 0x346698cd6d909d4f, 0x5b942ff1713d67e7},
		"\xff\xff\xff\xff": {0x960402f223d434ae, 0x904410f66508a9e8, 0xc98c5ee636ff40fd, 0x63dc4eebf741ebe3, 0xfd0bf8eed9a276a8, 0x77c4aace43bcfc31, 0xf18494c25aa86a57, 0x8bcb80c6cccbd77e},
		"the quick brown fox jumps over the lazy dog": {0x007268be6453a81e, 0x0558a3e630f7de92, 0x145b526a727a932a, 0x000b96d779d81035, 0x0137d894f66bcbad, 0x02748177077ab7c2, 0x0457ac45655093ed, 0x0cb4d883830a54f3},
	} {
		if got := Of([]byte(b)); got != want {
			t.Errorf("Of(%q): %#x, not %#x", b, got, want)
		}
	}
	for _, b := range texts() {
		if got, want := Of([]byte(b)), sketch(b); got != want {
			t.Errorf("Of(%.20q), %d bytes: %#x, not %#x", b, len(b), got, want)
		}
	}
	if Of(nil) != empty() {
		t.Errorf("Of(nil): %#x", Of(nil))
	}
}

// TestAlike: 8.2, how many numbers of the same place are the same.
func TestAlike(t *testing.T) {
	a := numbers{1, 2, 3, 4, 5, 6, 7, 8}
	for _, x := range []struct {
		a, b numbers
		want int
	}{
		{a, a, 8},
		{numbers{}, numbers{}, 8},
		{empty(), empty(), 8},
		{numbers{}, empty(), 0},
		{a, numbers{8, 7, 6, 5, 4, 3, 2, 1}, 0},
		{a, numbers{2, 3, 4, 5, 6, 7, 8, 1}, 0},
		{a, numbers{1}, 1},
		{a, numbers{7: 8}, 1},
		{a, numbers{8, 2, 3, 4, 5, 6, 7, 1}, 6},
		{a, numbers{1, 2, 3, 4, 5, 6, 7, 1<<63 + 8}, 7},
		{a, numbers{1 << 32, 2, 3, 4, 5, 6, 7, 8}, 7},
	} {
		if got := Alike(x.a, x.b); got != x.want || Alike(x.b, x.a) != x.want {
			t.Errorf("Alike(%x, %x): %d, %d", x.a, x.b, got, Alike(x.b, x.a))
		}
	}
	for mask := range 1 << api.Slots {
		b, want := a, 0
		for k := range b {
			if mask>>k&1 == 0 {
				want++
			} else {
				b[k] += 100
			}
		}
		if got := Alike(a, b); got != want {
			t.Errorf("Alike(%x, %x): %d, not %d", a, b, got, want)
		}
	}
}

// TestMerge: 8.2, at each place the lesser number.
func TestMerge(t *testing.T) {
	for _, x := range []struct{ a, b, want numbers }{
		{numbers{}, numbers{}, numbers{}},
		{numbers{}, empty(), numbers{}},
		{empty(), empty(), empty()},
		{numbers{1, 2, 3, 4, 5, 6, 7, 8}, numbers{8, 7, 6, 5, 4, 3, 2, 1}, numbers{1, 2, 3, 4, 4, 3, 2, 1}},
		{numbers{1 << 63, 1 << 32, 9, math.MaxUint64}, numbers{1, 1 << 31, 9, math.MaxUint64 - 1}, numbers{1, 1 << 31, 9, math.MaxUint64 - 1}},
	} {
		if got := Merge(x.a, x.b); got != x.want || Merge(x.b, x.a) != x.want {
			t.Errorf("Merge(%x, %x): %x, %x", x.a, x.b, got, Merge(x.b, x.a))
		}
	}
	for _, a := range texts() {
		for _, b := range texts() {
			got := Merge(Of([]byte(a)), Of([]byte(b)))
			for k := range got {
				if want := min(sketch(a)[k], sketch(b)[k]); got[k] != want {
					t.Fatalf("Merge of the sketches of %.20q and %.20q at %d: %#x, not %#x", a, b, k, got[k], want)
				}
			}
		}
		if s := Of([]byte(a)); Merge(s, s) != s || Merge(s, empty()) != s {
			t.Errorf("Merge of the sketch of %.20q, and it, or none", a)
		}
	}
}

// TestSets: 8.3, a sketch hangs on which shingles there are, not on how often, nor on their order.
func TestSets(t *testing.T) {
	for _, l := range [][]string{
		{"abcabcabc", "bcabcab", "abcabc", "cabcabcabcabc"},
		{"aaaa", "aaaaa", strings.Repeat("a", 1000)},
		{"abcd1234abcd", "1234abcd1234", "cd1234abcd12"},
		{some(259), some(600), some(1000)[256:]},
	} {
		for _, a := range l {
			for _, b := range l {
				if !maps.Equal(set(a), set(b)) {
					t.Fatalf("%.40q and %.40q have unlike shingles", a, b)
				}
				if Of([]byte(a)) != Of([]byte(b)) || Alike(Of([]byte(a)), Of([]byte(b))) != 8 {
					t.Errorf("%.40q and %.40q: %#x, %#x", a, b, Of([]byte(a)), Of([]byte(b)))
				}
			}
		}
	}
	// As many bytes 0, of other sizes, are other shingles.
	if Alike(Of([]byte{0}), Of([]byte{0, 0})) != 0 || Alike(Of([]byte{0, 0, 0}), Of([]byte{0, 0, 0, 0})) != 0 {
		t.Errorf("bytes 0 of other sizes are alike")
	}
}

// TestMore: 8.3, what has all of another one's shingles has no greater number at any place; a sketch is alike with itself.
func TestMore(t *testing.T) {
	no := func(a, b string) bool {
		x, y := Of([]byte(a)), Of([]byte(b))
		return Merge(x, y) == x
	}
	for _, b := range texts() {
		for i := 0; i <= len(b); i += 1 + len(b)/20 {
			if part := b[i:]; (len(part) > 3 || part == "") && !no(b, part) {
				t.Errorf("%.20q has a greater number than its end from %d on", b, i)
			}
			if part := b[:i]; (len(part) > 3 || part == "") && !no(b, part) {
				t.Errorf("%.20q has a greater number than its begin up to %d", b, i)
			}
		}
		if s := Of([]byte(b)); Alike(s, s) != 8 {
			t.Errorf("Alike of the sketch of %.20q and itself: %d", b, Alike(s, s))
		}
	}
}
