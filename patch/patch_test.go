package patch

import (
	"bytes"
	"flitting/api"
	"flitting/block"
	"flitting/mix"
	"flitting/search"
	"flitting/token"
	"math"
	"math/rand"
	"slices"
	"strings"
	"testing"
)

// some is n bytes, which go up and down.
func some(n int) []byte {
	b := make([]byte, n)
	for i := range b {
		b[i] = byte(i*i*31 + i*7 + i/256 + 5)
	}
	return b
}

// hidden is bytes with room behind them, which holds bytes that nobody may see.
func hidden(s string) []byte {
	return append([]byte(s), "no, no, no"...)[:len(s)]
}

// untouched tells whether what lies in and behind bytes that hidden made is as it was.
func untouched(b []byte, s string) bool {
	return string(b) == s && string(b[:len(b)+10]) == s+"no, no, no"
}

// xs is n bytes.
func xs(n int) string {
	return strings.Repeat("x", n)
}

// lit is a literal token.
func lit(s string) token.Token {
	return token.Literal(s)
}

// blocks is a token of blocks.
func blocks(from, many int) token.Token {
	return token.Copy(from, many)
}

// list is a list of tokens.
func list(l ...token.Token) []token.Token {
	return l
}

// wrong is tokens that aren't right.
func wrong() []token.Token {
	return []token.Token{
		{}, lit(xs(api.MaxFile + 1)), blocks(1, 0), blocks(-1, 0), blocks(0, -1), blocks(-1, 1), blocks(-1, 2), blocks(4097, 1), blocks(0, 4098), blocks(1, 4097),
		blocks(math.MaxInt, math.MaxInt), blocks(math.MinInt, math.MinInt), blocks(math.MinInt, math.MaxInt), blocks(1, math.MaxInt), blocks(math.MaxInt, 1), blocks(math.MinInt, 1),
		{Many: 1, Data: "a"}, {From: 1, Data: "a"}, {From: -1, Data: "a"}, {Many: -1, Data: "a"},
	}
}

// TestStep: 18.1, by hand.
func TestStep(t *testing.T) {
	long := string(some(4097 * 64))
	for _, x := range []struct {
		old  string
		size int
		t    token.Token
		want string
		e    api.Errno
	}{
		{"abcdefgh", 4, lit("x"), "x", api.OK},
		{"abcdefgh", 4, lit("\x00\xff"), "\x00\xff", api.OK},
		{"", 4, lit(xs(api.MaxFile)), xs(api.MaxFile), api.OK},
		{"", 4, lit(xs(api.MaxFile + 1)), "", api.ErrArg},
		{"", 4, lit(""), "", api.ErrArg},
		{"abcdefgh", 4, blocks(0, 1), "abcd", api.OK},
		{"abcdefgh", 4, blocks(1, 1), "efgh", api.OK},
		{"abcdefgh", 4, blocks(0, 2), "abcdefgh", api.OK},
		{"abcdefgh", 4, blocks(2, 1), "", api.ErrNone},
		{"abcdefgh", 4, blocks(1, 2), "", api.ErrNone},
		{"abcdefgh", 4, blocks(0, 3), "", api.ErrNone},
		{"abcdefgh", 4, blocks(4096, 1), "", api.ErrNone},
		{"abcdefgh", 4, blocks(0, 4097), "", api.ErrNone},
		{"abcdefghij", 4, blocks(2, 1), "ij", api.OK},
		{"abcdefghij", 4, blocks(1, 2), "efghij", api.OK},
		{"abcdefghij", 4, blocks(0, 3), "abcdefghij", api.OK},
		{"abcdefghij", 4, blocks(3, 1), "", api.ErrNone},
		{"abcdefghij", 4, blocks(2, 2), "", api.ErrNone},
		{"abcdefghij", 4, blocks(0, 4), "", api.ErrNone},
		{"", 4, blocks(0, 1), "", api.ErrNone},
		{"a", 4, blocks(0, 1), "a", api.OK},
		{"a", 4, blocks(1, 1), "", api.ErrNone},
		// Sizes that count as 4, or as 64.
		{"abcdefghij", 3, blocks(1, 1), "efgh", api.OK},
		{"abcdefghij", 0, blocks(2, 1), "ij", api.OK},
		{"abcdefghij", -1, blocks(0, 2), "abcdefgh", api.OK},
		{"abcdefghij", math.MinInt, blocks(3, 1), "", api.ErrNone},
		{"abcdefghij", 5, blocks(1, 1), "fghij", api.OK},
		{"abcdefghij", 64, blocks(0, 1), "abcdefghij", api.OK},
		{"abcdefghij", 64, blocks(1, 1), "", api.ErrNone},
		{long[:130], 64, blocks(1, 2), long[64:130], api.OK},
		{long[:130], 65, blocks(1, 1), long[64:128], api.OK},
		{long[:130], math.MaxInt, blocks(2, 1), long[128:130], api.OK},
		{long[:130], math.MaxInt, blocks(3, 1), "", api.ErrNone},
		// One token alone may stand for more bytes than a file has.
		{long, 64, blocks(0, 4097), long, api.OK},
		{long, 64, blocks(4096, 1), long[4096*64:], api.OK},
		{long, 4, blocks(4096, 1), long[4096*4 : 4097*4], api.OK},
		{long[:4096*64], 64, blocks(0, 4097), "", api.ErrNone},
	} {
		old := hidden(x.old)
		got, e := Step(old, x.size, x.t)
		if string(got) != x.want || e != x.e {
			t.Errorf("Step(%.40q, %d, %.40v): %.40q, %d, not %.40q, %d", x.old, x.size, x.t, got, e, x.want, x.e)
		}
		if !untouched(old, x.old) {
			t.Errorf("Step(%.40q, %d, %.40v): the bytes were changed", x.old, x.size, x.t)
		}
	}
}

// TestWrong: 18.1, tokens that aren't right, whether their blocks are there or not.
func TestWrong(t *testing.T) {
	for _, x := range wrong() {
		for _, old := range [][]byte{nil, {}, some(8), some(10), some(5000 * 4)} {
			for _, size := range []int{math.MinInt, -1, 0, 4, 64, math.MaxInt} {
				if b, e := Step(old, size, x); e != api.ErrArg || len(b) != 0 {
					t.Errorf("Step of %d bytes by %d, %.40v: %.40q, %d", len(old), size, x, b, e)
				}
				for _, l := range [][]token.Token{{x}, {lit("a"), x}, {x, lit("a")}, {x, blocks(4096, 1)}, {lit("a"), x, lit(xs(api.MaxFile))}} {
					if b, e := Apply(old, size, l); e != api.ErrArg || len(b) != 0 {
						t.Errorf("Apply to %d bytes by %d of %.80v: %.40q, %d", len(old), size, l, b, e)
					}
				}
			}
		}
	}
}

// TestApply: 18.1, by hand.
func TestApply(t *testing.T) {
	most := lit(xs(api.MaxFile))
	long := string(some(api.MaxFile + 64))
	for _, x := range []struct {
		old  string
		size int
		l    []token.Token
		want string
		e    api.Errno
	}{
		{"abcdefgh", 4, list(blocks(1, 1), lit("x")), "efghx", api.OK},
		{"abcdefgh", 4, nil, "", api.OK},
		{"", 4, list(), "", api.OK},
		{"", 4, list(lit("ab"), lit("cd")), "abcd", api.OK},
		{"abcdefghij", 4, list(lit("x"), blocks(2, 1), blocks(0, 2), lit("y"), blocks(1, 2)), "xijabcdefghyefghij", api.OK},
		{"abcdefghij", 4, list(blocks(2, 1), blocks(2, 1)), "ijij", api.OK},
		{"abcdefghij", 3, list(blocks(1, 1), blocks(1, 1)), "efghefgh", api.OK},
		{"abcdefghij", 65, list(blocks(0, 1), blocks(0, 1)), "abcdefghijabcdefghij", api.OK},
		{"abcdefgh", 4, list(blocks(0, 3)), "", api.ErrNone},
		{"abcdefgh", 4, list(lit("x"), blocks(2, 1), lit("y")), "", api.ErrNone},
		// The first one that is wrong is told.
		{"abcdefgh", 4, list(blocks(2, 1), lit("")), "", api.ErrNone},
		{"abcdefgh", 4, list(lit(""), blocks(2, 1)), "", api.ErrArg},
		{"abcdefgh", 4, list(blocks(0, 1), lit(""), blocks(2, 1)), "", api.ErrArg},
		{"abcdefgh", 4, list(most, lit("x"), lit("")), "", api.ErrLong},
		{"abcdefgh", 4, list(most, lit("x"), blocks(2, 1)), "", api.ErrLong},
		{"abcdefgh", 4, list(most, blocks(1, 1), blocks(2, 1)), "", api.ErrLong},
		{"abcdefgh", 4, list(most, lit(""), lit("x")), "", api.ErrArg},
		{"abcdefgh", 4, list(most, blocks(2, 1), lit("x")), "", api.ErrNone},
		// What stands for too much is told of as what can't be done, if it can't be.
		{"abcdefgh", 4, list(most, lit(xs(api.MaxFile+1))), "", api.ErrArg},
		{"abcdefgh", 4, list(most, blocks(1, 2)), "", api.ErrNone},
		// 2^14 bytes, and one more.
		{"abcdefgh", 4, list(most), xs(api.MaxFile), api.OK},
		{"abcdefgh", 4, list(lit("y"), most), "", api.ErrLong},
		{"abcdefgh", 4, list(lit(xs(api.MaxFile-1)), lit("y")), xs(api.MaxFile-1) + "y", api.OK},
		{"abcdefgh", 4, list(lit(xs(api.MaxFile-4)), blocks(1, 1)), xs(api.MaxFile-4) + "efgh", api.OK},
		{"abcdefgh", 4, list(lit(xs(api.MaxFile-3)), blocks(1, 1)), "", api.ErrLong},
		{long, 64, list(blocks(0, 256)), long[:api.MaxFile], api.OK},
		{long, 64, list(blocks(0, 257)), "", api.ErrLong},
		{long, 64, list(blocks(0, 258)), "", api.ErrNone},
		{long, 4, list(blocks(1, 4096)), long[4 : api.MaxFile+4], api.OK},
		{long, 4, list(blocks(0, 4097)), "", api.ErrLong},
		{long, 4, list(blocks(4096, 1)), long[api.MaxFile : api.MaxFile+4], api.OK},
	} {
		old := hidden(x.old)
		l := append(slices.Clone(x.l), lit("no"))[:len(x.l)]
		got, e := Apply(old, x.size, l)
		if string(got) != x.want || e != x.e {
			t.Errorf("Apply(%.40q, %d, %.80v): %.40q, %d, not %.40q, %d", x.old, x.size, x.l, got, e, x.want, x.e)
		}
		if !untouched(old, x.old) || !slices.Equal(l[:len(l)+1], append(slices.Clone(x.l), lit("no"))) {
			t.Errorf("Apply(%.40q, %d, %.80v): what was handed in was changed", x.old, x.size, x.l)
		}
	}
}

// TestApplyMany: R1, as many tokens as there may be, and more, take no long time.
func TestApplyMany(t *testing.T) {
	l := slices.Repeat(list(lit("x")), api.MaxFile)
	if b, e := Apply(nil, 4, l); string(b) != xs(api.MaxFile) || e != api.OK {
		t.Errorf("Apply of %d tokens: %d bytes, %d", len(l), len(b), e)
	}
	l = slices.Repeat(list(blocks(0, 1), lit("y")), 1<<20)
	if b, e := Apply([]byte("abc"), 4, l); len(b) != 0 || e != api.ErrLong {
		t.Errorf("Apply of %d tokens: %d bytes, %d", len(l), len(b), e)
	}
}

// TestNeeds: 18.2, Needs of right tokens of blocks alone.
func TestNeeds(t *testing.T) {
	for _, x := range []struct {
		n, size int
		l       []token.Token
		want    bool
	}{
		{8, 4, nil, true},
		{0, 4, nil, true},
		{-1, 4, list(), true},
		{8, 4, list(blocks(0, 2)), true},
		{8, 4, list(blocks(1, 1), blocks(0, 1), blocks(0, 2)), true},
		{8, 4, list(blocks(2, 1)), false},
		{8, 4, list(blocks(1, 2)), false},
		{9, 4, list(blocks(1, 2)), true},
		{9, 4, list(blocks(0, 4)), false},
		{7, 4, list(blocks(0, 2)), true},
		{4, 4, list(blocks(0, 2)), false},
		{8, 4, list(blocks(0, 2), blocks(2, 1)), false},
		{8, 4, list(blocks(2, 1), blocks(0, 2)), false},
		{0, 4, list(blocks(0, 1)), false},
		{1, 64, list(blocks(0, 1)), true},
		{-1, 4, list(blocks(0, 1)), false},
		{-100, 4, list(blocks(0, 1)), false},
		{math.MinInt, math.MinInt, list(blocks(0, 1)), false},
		{math.MinInt, 4, list(lit("a")), true},
		{0, 4, list(lit("a"), lit("b")), true},
		{8, 4, list(lit("a"), blocks(1, 1), lit("b")), true},
		{8, 4, list(lit("a"), blocks(2, 1), lit("b")), false},
		{0, 4, wrong(), true},
		{8, 4, append(wrong(), blocks(1, 1)), true},
		{8, 4, append(wrong(), blocks(2, 1)), false},
		{8, 4, append(list(blocks(2, 1)), wrong()...), false},
		{8, 3, list(blocks(0, 2)), true},
		{8, 3, list(blocks(2, 1)), false},
		{8, math.MinInt, list(blocks(2, 1)), false},
		{64, 65, list(blocks(0, 1)), true},
		{65, math.MaxInt, list(blocks(1, 1)), true},
		{64, math.MaxInt, list(blocks(1, 1)), false},
		{4 * 4096, 4, list(blocks(0, 4096)), true},
		{4 * 4096, 4, list(blocks(0, 4097)), false},
		{4*4096 + 1, 4, list(blocks(0, 4097)), true},
		{math.MaxInt, 4, list(blocks(0, 4097)), true},
		{math.MaxInt, 64, list(blocks(4096, 1)), true},
	} {
		l := slices.Clone(x.l)
		if got := Needs(x.n, x.size, l); got != x.want || !slices.Equal(l, x.l) {
			t.Errorf("Needs(%d, %d, %.80v): %v", x.n, x.size, x.l, got)
		}
	}
}

// TestNeedsStep: 18.1 and 18.2, a step can be done just if there is what it needs.
func TestNeedsStep(t *testing.T) {
	for n := range 70 {
		for _, size := range []int{-1, 4, 5, 7, 16, 63, 64, 65} {
			for from := range 8 {
				for many := 1; many < 5; many++ {
					x := blocks(from, many)
					b, e := Step(some(n), size, x)
					if needs := Needs(n, size, list(x)); needs != (e == api.OK) || !needs && (e != api.ErrNone || len(b) != 0) {
						t.Fatalf("%d bytes by %d, %v: %v, %q, %d", n, size, x, needs, b, e)
					}
				}
			}
		}
	}
}

// TestFits: 18.2, Fits.
func TestFits(t *testing.T) {
	for _, s := range []string{"", "a", "abc", "abcdefghi", string(some(api.MaxFile)), string(some(api.MaxFile + 1))} {
		b := hidden(s)
		sum := mix.Of([]byte(s))
		if !Fits(sum, len(s), b) || !untouched(b, s) {
			t.Errorf("%.40q doesn't fit", s)
		}
		for _, n := range []int{len(s) + 1, len(s) - 1, -1, -len(s) - 1, math.MinInt, math.MaxInt} {
			if Fits(sum, n, b) {
				t.Errorf("%.40q fits %d bytes", s, n)
			}
		}
		for _, other := range []api.Sum{{}, {Hi: sum.Hi}, {Lo: sum.Lo}, {Hi: sum.Hi, Lo: sum.Lo + 1}, {Hi: sum.Hi ^ 1<<63, Lo: sum.Lo}, {Hi: sum.Lo, Lo: sum.Hi}, mix.Of([]byte(s + "x"))} {
			if Fits(other, len(s), b) {
				t.Errorf("%.40q fits %x", s, other)
			}
		}
	}
	if !Fits(mix.Of(nil), 0, nil) || Fits(api.Sum{}, 0, nil) || Fits(mix.Of([]byte("abd")), 3, []byte("abc")) {
		t.Errorf("Fits of no bytes, or of others")
	}
}

// drawn is n bytes of few kinds.
func drawn(r *rand.Rand, n, kinds int) []byte {
	b := make([]byte, n)
	for i := range b {
		b[i] = byte('a' + r.Intn(kinds))
	}
	return b
}

// TestDrawn: 18.3, what blocks were found in is put together again.
func TestDrawn(t *testing.T) {
	r := rand.New(rand.NewSource(18))
	for i := range 4000 {
		size, kinds := 2+r.Intn(12), 1+r.Intn(4)
		if i%10 == 0 {
			size = 60 + r.Intn(8)
		}
		old := drawn(r, r.Intn(6*size+2), kinds)
		if i%500 == 0 {
			old = drawn(r, r.Intn(3*api.MaxFile), kinds)
		}
		var b []byte
		for range r.Intn(6) {
			from := r.Intn(len(old) + 1)
			b = append(b, old[from:from+r.Intn(len(old)-from+1)]...)
			b = append(b, drawn(r, r.Intn(4), kinds)...)
		}
		b = b[:min(len(b), api.MaxFile)]
		l := search.Delta(old, size, b)
		got, e := Apply(old, size, l)
		if e != api.OK || !bytes.Equal(got, b) || !Needs(len(old), size, l) || !Fits(mix.Of(b), len(b), got) {
			t.Fatalf("%.80q by %d to %.80q: %.80v, %.80q, %d", old, size, b, l, got, e)
		}
		if n := len(block.Of(old, size).Blocks); n <= 4096 {
			itself, e := Apply(old, size, search.Delta(old, size, old))
			if want := map[bool]api.Errno{true: api.ErrLong}[len(old) > api.MaxFile]; e != want || e == api.OK && !bytes.Equal(itself, old) {
				t.Fatalf("%.80q by %d to itself: %.80q, %d", old, size, itself, e)
			}
		}
	}
}

// TestApart: R5, what is answered is new memory.
func TestApart(t *testing.T) {
	old := []byte("abcdefghij")
	for _, x := range []token.Token{lit("xyz"), blocks(0, 1), blocks(0, 3), blocks(2, 1)} {
		p, _ := Step(old, 4, x)
		q, _ := Step(old, 4, x)
		u, _ := Apply(old, 4, list(x))
		v, _ := Apply(old, 4, list(x))
		want := slices.Clone(q)
		for _, b := range [][]byte{p, u} {
			b = append(b, 9, 9, 9)
			clear(b)
		}
		clear(p)
		clear(u)
		if string(old) != "abcdefghij" || !bytes.Equal(q, want) || !bytes.Equal(v, want) {
			t.Errorf("%v shares memory: %q, %q, %q", x, old, q, v)
		}
	}
}
