package mix

import (
	"encoding/binary"
	"encoding/hex"
	"flitting/api"
	"math"
	"math/big"
	"slices"
	"strings"
	"testing"
)

// round is a state behind a round, reckoned with numbers of any size, as the document says it.
func round(s api.Sum, w uint64) api.Sum {
	all := new(big.Int).Lsh(big.NewInt(1), 64)
	times := func(x uint64, y uint64) uint64 {
		p := new(big.Int).Mul(new(big.Int).SetUint64(x), new(big.Int).SetUint64(y))
		return p.Mod(p, all).Uint64()
	}
	and := func(x uint64, y uint64) uint64 {
		p := new(big.Int).Add(new(big.Int).SetUint64(x), new(big.Int).SetUint64(y))
		return p.Mod(p, all).Uint64()
	}
	up := func(x uint64, n int) uint64 {
		for range n {
			x = x<<1 | x>>63
		}
		return x
	}
	s.Hi = and(up(times(s.Hi^w, 0x9e3779b97f4a7c15), 29), s.Lo)
	s.Lo = up(times(and(s.Lo, w), 0xc2b2ae3d27d4eb4f), 41) ^ s.Hi
	return s
}

// sum is the sum of bytes, reckoned so.
func sum(b []byte) api.Sum {
	s := api.Sum{Hi: 0x243f6a8885a308d3, Lo: 0x13198a2e03707344}
	n := uint64(len(b))
	for ; len(b) > 0; b = b[min(8, len(b)):] {
		var w [8]byte
		copy(w[:], b)
		s = round(s, binary.LittleEndian.Uint64(w[:]))
	}
	for _, w := range []uint64{n, math.MaxUint64, 0, 0} {
		s = round(s, w)
	}
	return s
}

// some is n bytes, which go up and down.
func some(n int) []byte {
	b := make([]byte, n)
	for i := range b {
		b[i] = byte(i*i*31 + i*7 + 5)
	}
	return b
}

// words is numbers about edges.
func words() []uint64 {
	return []uint64{0, 1, 2, 255, 256, 1 << 31, 1 << 32, 1 << 63, math.MaxUint64, math.MaxUint64 - 1, 0x9e3779b97f4a7c15, 0xc2b2ae3d27d4eb4f, 0x0123456789abcdef}
}

// states is states of such numbers.
func states() []api.Sum {
	l := []api.Sum{Start()}
	for _, hi := range words() {
		for _, lo := range words() {
			l = append(l, api.Sum{Hi: hi, Lo: lo})
		}
	}
	return l
}

// TestStart: 6.1, the state with which a sum begins.
func TestStart(t *testing.T) {
	if s := Start(); s != (api.Sum{Hi: 0x243f6a8885a308d3, Lo: 0x13198a2e03707344}) {
		t.Errorf("Start: %x", s)
	}
}

// TestRound: 6.1, a state behind a round.
func TestRound(t *testing.T) {
	const most = math.MaxUint64
	for _, x := range []struct{ hi, lo, w, wantHi, wantLo uint64 }{
		{0, 0, 0, 0, 0},
		{1, 2, 3, 0x5fd29f05478dde70, 0x0ee3889fbd43bdfe},
		{most, most, most, most, 0x53ad3b0acab8f49f},
		{0, 0, 1, 0x2fe94f82b3c6ef37, 0x863fd007d69a9578},
		{1, 0, 0, 0x2fe94f82b3c6ef37, 0x2fe94f82b3c6ef37},
		{0, 1, 0, 1, 0xa9d69f85655c7a4e},
	} {
		if s := Round(api.Sum{Hi: x.hi, Lo: x.lo}, x.w); s != (api.Sum{Hi: x.wantHi, Lo: x.wantLo}) {
			t.Errorf("Round(%x, %x; %x): %x", x.hi, x.lo, x.w, s)
		}
	}
	for _, s := range states() {
		for _, w := range words() {
			if got, want := Round(s, w), round(s, w); got != want {
				t.Fatalf("Round(%x, %x): %x, not %x", s, w, got, want)
			}
		}
	}
}

// TestBack: 6.1 and 6.5, the state ahead of a round, both ways.
func TestBack(t *testing.T) {
	if Back(api.Sum{Hi: 0x5fd29f05478dde70, Lo: 0x0ee3889fbd43bdfe}, 3) != (api.Sum{Hi: 1, Lo: 2}) {
		t.Errorf("Back")
	}
	for _, s := range states() {
		for _, w := range words() {
			if got := Back(Round(s, w), w); got != s {
				t.Fatalf("Back of Round(%x, %x): %x", s, w, got)
			}
			if got := Round(Back(s, w), w); got != s {
				t.Fatalf("Round of Back(%x, %x): %x", s, w, got)
			}
			if got := round(Back(s, w), w); got != s {
				t.Fatalf("a round of Back(%x, %x): %x", s, w, got)
			}
		}
	}
}

// TestOf: 6.2, the sum of bytes.
func TestOf(t *testing.T) {
	for s, want := range map[string]string{
		"":                                 "1e3f616964ff4864387626138d464aa4",
		"\x00":                             "7427cea5f8ecd7248b3f77478b890b91",
		"\x00\x00":                         "43c7a095ebefd5c7345d5b2af383aea2",
		"a":                                "96de1736dcc65b79cf6744c2c1c03b03",
		"ab":                               "a64f6ac383efe316bca277a56235f366",
		"abcdefg":                          "312f889337630563b614246d4eb22f06",
		"abcdefgh":                         "fe283b45aca88ee7d99362e8812781b5",
		"abcdefghi":                        "b47a2495f27769c60cbd554fa51eb09e",
		"\x00\x00\x00\x00\x00\x00\x00\x00": "c91fab3effabe923f285f19b9d99a1b8",
		strings.Repeat("\xff", 16):         "56b18733d90712eb046bf38e0a2dc4e0",
		"0123456789abcdef01234567":         "c36de1549607ed6821f2279b137a23ca",
		strings.Repeat("x", 1<<14):         "4b66a37e7d5a974bd20906456c243841",
	} {
		if got := Text(Of([]byte(s))); got != want {
			t.Errorf("Of(%.40q): %s, not %s", s, got, want)
		}
	}
	if Of(nil) != Of([]byte{}) || Text(Of(nil)) != "1e3f616964ff4864387626138d464aa4" {
		t.Errorf("Of(nil): %x", Of(nil))
	}
	for n := range 70 {
		b := some(n)
		if got, want := Of(b), sum(b); got != want {
			t.Errorf("Of %d bytes: %x, not %x", n, got, want)
		}
	}
	if all := some(40); Of(all[:5]) != Of(slices.Clone(all[:5])) {
		t.Errorf("Of read behind the list's length")
	}
}

// TestWords: 6.2, the sum of words.
func TestWords(t *testing.T) {
	for _, x := range []struct {
		l    []uint64
		want string
	}{
		{nil, "1e3f616964ff4864387626138d464aa4"},
		{[]uint64{}, "1e3f616964ff4864387626138d464aa4"},
		{[]uint64{0}, "c91fab3effabe923f285f19b9d99a1b8"},
		{[]uint64{1}, "68b5a03ed072b86877fc574ff4110f01"},
		{[]uint64{1, 2}, "1a40523e27e490f935d8fb7af2c93110"},
		{[]uint64{math.MaxUint64, 0x0102030405060708, 1 << 63}, "da2f6c86ee05f3edb6d4c78f6121de63"},
	} {
		if got := Text(Words(x.l...)); got != x.want {
			t.Errorf("Words(%x): %s, not %s", x.l, got, x.want)
		}
	}
	l := words()
	for n := range len(l) + 1 {
		var b []byte
		for _, w := range l[:n] {
			b = binary.LittleEndian.AppendUint64(b, w)
		}
		if Words(l[:n]...) != Of(b) || Words(l[:n]...) != sum(b) {
			t.Errorf("Words of %d words: %x, not %x", n, Words(l[:n]...), sum(b))
		}
	}
	if !slices.Equal(l, words()) {
		t.Errorf("the words were changed: %x", l)
	}
}

// TestHash: 6.3, bytes that are met piece by piece.
func TestHash(t *testing.T) {
	for n := range 27 {
		b := some(n)
		for i := range n + 1 {
			for j := i; j <= n; j++ {
				var h Hash
				for k, p := range [][]byte{b[:i], nil, b[i:j], {}, b[j:]} {
					h.Write(p)
					if met := b[:[]int{i, i, j, j, n}[k]]; h.Len() != len(met) || h.Sum() != sum(met) || h.Sum() != Of(met) {
						t.Fatalf("%d bytes, cut at %d and %d, behind piece %d: %d, %x", n, i, j, k, h.Len(), h.Sum())
					}
				}
			}
		}
	}
	var h Hash
	all := some(1000)
	for i := range all {
		h.Write(all[i : i+1])
		if h.Len() != i+1 || h.Sum() != Of(all[:i+1]) {
			t.Fatalf("byte by byte, at %d: %d, %x", i, h.Len(), h.Sum())
		}
	}
	for piece := 1; piece < 40; piece++ {
		h = Hash{}
		for p := range slices.Chunk(all, piece) {
			h.Write(p)
		}
		if h.Len() != len(all) || h.Sum() != Of(all) {
			t.Errorf("in pieces of %d: %d, %x", piece, h.Len(), h.Sum())
		}
	}
}

// TestNoHash: 6.3, a Hash that has met nothing, and none at all.
func TestNoHash(t *testing.T) {
	var none *Hash
	for _, h := range []*Hash{none, {}, new(Hash)} {
		for range 2 {
			if h.Len() != 0 || h.Sum() != Of(nil) {
				t.Errorf("that has met nothing: %d, %x", h.Len(), h.Sum())
			}
			h.Write(nil)
			h.Write([]byte{})
		}
	}
	none.Write([]byte("abcdefghi"))
	if none.Len() != 0 || none.Sum() != Of(nil) {
		t.Errorf("of nil: %d, %x", none.Len(), none.Sum())
	}
}

// TestKept: what a Hash met isn't kept, isn't changed, and isn't read behind its length; two of them share nothing.
func TestKept(t *testing.T) {
	b := some(21)
	var h Hash
	h.Write(b[:13])
	if !slices.Equal(b, some(21)) {
		t.Errorf("the bytes were changed: % x", b)
	}
	clear(b)
	g := h
	g.Write([]byte("xyz"))
	if h.Len() != 13 || h.Sum() != Of(some(21)[:13]) || g.Len() != 16 || g.Sum() != Of(append(some(21)[:13], "xyz"...)) {
		t.Errorf("the bytes were kept, or shared: %x, %x", h.Sum(), g.Sum())
	}
	h.Write(some(21)[13:])
	if h.Sum() != Of(some(21)) || g.Len() != 16 {
		t.Errorf("at the end: %x, %d", h.Sum(), g.Len())
	}
}

// TestText: 6.4, a sum as text.
func TestText(t *testing.T) {
	for s, want := range map[api.Sum]string{
		{}:                   "00000000000000000000000000000000",
		{Hi: 1, Lo: 2}:       "00000000000000010000000000000002",
		{Lo: 1}:              "00000000000000000000000000000001",
		{Hi: 1}:              "00000000000000010000000000000000",
		{Lo: 1 << 63}:        "00000000000000008000000000000000",
		{Hi: 1 << 60}:        "10000000000000000000000000000000",
		{Hi: math.MaxUint64}: "ffffffffffffffff0000000000000000",
		{Lo: math.MaxUint64}: "0000000000000000ffffffffffffffff",
		{Hi: 0x0123456789abcdef, Lo: 0xfedcba9876543210}: "0123456789abcdeffedcba9876543210",
	} {
		if got := Text(s); got != want {
			t.Errorf("Text(%x): %s", s, got)
		}
		if got, e := Parse(want); got != s || e != api.OK {
			t.Errorf("Parse(%s): %x, %d", want, got, e)
		}
	}
	for _, s := range states() {
		b := binary.BigEndian.AppendUint64(binary.BigEndian.AppendUint64(nil, s.Hi), s.Lo)
		if got, want := Text(s), hex.EncodeToString(b); got != want {
			t.Errorf("Text(%x): %s, not %s", s, got, want)
		}
		if got, e := Parse(Text(s)); got != s || e != api.OK {
			t.Errorf("Parse of Text(%x): %x, %d", s, got, e)
		}
	}
}

// TestParseWrong: 6.4, what is no sum's text.
func TestParseWrong(t *testing.T) {
	right := "0123456789abcdeffedcba9876543210"
	l := []string{"", "0", right[1:], right + "0", "0" + right, right + "\n", " " + right, right + " ", right[:31] + "\n", "0x" + right[2:], "0x" + right, "+" + right[1:], "-" + right[1:],
		strings.ToUpper(right), right[:16] + " " + right[16:], right[:16], right + right, strings.Repeat("0", 33), strings.Repeat("0", 31), strings.Repeat("0", 1<<16), strings.Repeat("ä", 16), strings.Repeat("٠", 16)}
	for at := range len(right) {
		for x := range 256 {
			if s := string([]byte{byte(x)}); !strings.Contains("0123456789abcdef", s) {
				l = append(l, right[:at]+s+right[at+1:])
			}
		}
	}
	for _, s := range l {
		if got, e := Parse(s); got != (api.Sum{}) || e != api.ErrForm {
			t.Errorf("Parse(%.80q): %x, %d", s, got, e)
		}
	}
}

// TestUnlikeWords: 6.5, two unlike words make unlike states of one.
func TestUnlikeWords(t *testing.T) {
	for _, s := range states() {
		seen := map[api.Sum]uint64{}
		l := words()
		for i := range 64 {
			l = append(l, 1<<i+3, 1<<i*5+7)
		}
		slices.Sort(l)
		for _, w := range slices.Compact(l) {
			x := Round(s, w)
			if v, ok := seen[x]; ok {
				t.Fatalf("%x and %x make one state of %x", v, w, s)
			}
			seen[x] = w
		}
	}
}

// TestUnlikeTexts: 6.5, two unlike texts of one length, of 1 to 8 bytes, have unlike sums.
func TestUnlikeTexts(t *testing.T) {
	for n := 1; n <= 8; n++ {
		texts := map[string]bool{}
		for x := range 1 << 14 {
			var b [8]byte
			binary.LittleEndian.PutUint64(b[:], uint64(x))
			texts[string(b[:n])] = true
			texts[string(b[:n])[n/2:]+string(b[:n])[:n/2]] = true
			binary.BigEndian.PutUint64(b[:], uint64(x)*0x0101010101010101)
			texts[string(b[:n])] = true
		}
		seen := map[api.Sum]string{}
		for s := range texts {
			x := Of([]byte(s))
			if v, ok := seen[x]; ok {
				t.Fatalf("%q and %q have one sum", v, s)
			}
			seen[x] = s
		}
	}
}
