package search

import (
	"bytes"
	"flitting/api"
	"flitting/block"
	"flitting/mix"
	"flitting/roll"
	"flitting/token"
	"math"
	"math/rand"
	"slices"
	"strings"
	"testing"
)

// some is n bytes, which go up and down.
func some(n int) []byte {
	b := make([]byte, n)
	for i := range b {
		b[i] = byte(i*i*31 + i*7 + i/256 + 5)
	}
	return b
}

// hidden is bytes with room behind them, which holds bytes that nobody may see.
func hidden(b []byte, behind string) []byte {
	return append(slices.Clone(b), behind...)[:len(b)]
}

// sign is the sign of a text, as the document says it.
func sign(s string) block.Sign {
	return block.Sign{Weak: roll.Of([]byte(s)), Strong: mix.Of([]byte(s))}
}

// lit is a literal token.
func lit(s string) token.Token {
	return token.Literal(s)
}

// blocks is a token of blocks.
func blocks(from, many int) token.Token {
	return token.Copy(from, many)
}

// list is a list of tokens.
func list(l ...token.Token) []token.Token {
	return l
}

// searched is what is told of bytes, byte by byte, as the document says it.
func searched(s block.Signature, b []byte) []token.Token {
	var l []token.Token
	at, last := 0, -2
	for at < len(b) {
		k := -1
		if s.Size <= len(b)-at {
			has := sign(string(b[at : at+s.Size]))
			k = slices.Index(s.Blocks, has)
			if last >= 0 && last+1 < len(s.Blocks) && s.Blocks[last+1] == has {
				k = last + 1
			}
		}
		switch {
		case k >= 0:
			l = append(l, blocks(k, 1))
			at += s.Size
			last = k
		case len(b)-at == s.Tail && sign(string(b[at:])) == s.Last:
			l = append(l, blocks(len(s.Blocks), 1))
			at = len(b)
		default:
			l = append(l, lit(string(b[at:at+1])))
			at++
			last = -2
		}
	}
	return token.Join(l...)
}

// stand is of how many bytes tokens are.
func stand(s block.Signature, l []token.Token) int {
	n := 0
	for _, t := range l {
		n += len(t.Data)
		for k := t.From; k < t.From+t.Many; k++ {
			if k < len(s.Blocks) {
				n += s.Size
			} else {
				n += s.Tail
			}
		}
	}
	return n
}

// holds holds what is told of a signature and bytes against what is wanted.
func holds(t *testing.T, s block.Signature, b []byte, want []token.Token) {
	t.Helper()
	got := Of(s, b)
	if !token.Same(got, want) || !slices.Equal(got, want) {
		t.Errorf("Of %d blocks by %d, and %d, in %.60q: %.200v, not %.200v", len(s.Blocks), s.Size, s.Tail, b, got, want)
	}
	if n := Cost(s, b); n != token.Bytes(want) {
		t.Errorf("Cost of %d blocks by %d, and %d, in %.60q: %d, not %d", len(s.Blocks), s.Size, s.Tail, b, n, token.Bytes(want))
	}
}

// TestDelta: 17.1, by hand.
func TestDelta(t *testing.T) {
	for _, x := range []struct {
		old  string
		size int
		b    string
		want []token.Token
	}{
		{"abcdefgh", 4, "xefghabcd", list(lit("x"), blocks(1, 1), blocks(0, 1))},
		{"", 4, "", nil},
		{"", 4, "abc", list(lit("abc"))},
		{"abcdefgh", 4, "", nil},
		{"abcdefgh", 4, "abcdefgh", list(blocks(0, 2))},
		{"abcdefgh", 4, "abcdxefgh", list(blocks(0, 1), lit("x"), blocks(1, 1))},
		{"abcdefgh", 4, "xabcdefghy", list(lit("x"), blocks(0, 2), lit("y"))},
		{"abcdefgh", 4, "abc", list(lit("abc"))},
		{"abcdefgh", 4, "bcde", list(lit("bcde"))},
		{"abcdefgh", 4, "bcdefgh", list(lit("bcd"), blocks(1, 1))},
		{"abcdefgh", 4, "abcabcd", list(lit("abc"), blocks(0, 1))},
		{"abcdefgh", 4, "abcdabcdabcd", list(blocks(0, 1), blocks(0, 1), blocks(0, 1))},
		// The tail, which is found at the end alone, and where so many bytes are left.
		{"abcdefghij", 4, "abcdefghij", list(blocks(0, 3))},
		{"abcdefghij", 4, "ij", list(blocks(2, 1))},
		{"abcdefghij", 4, "i", list(lit("i"))},
		{"abcdefghij", 4, "j", list(lit("j"))},
		{"abcdefghij", 4, "xij", list(lit("x"), blocks(2, 1))},
		{"abcdefghij", 4, "xxxxxij", list(lit("xxxxx"), blocks(2, 1))},
		{"abcdefghij", 4, "ijx", list(lit("ijx"))},
		{"abcdefghij", 4, "ijabcd", list(lit("ij"), blocks(0, 1))},
		{"abcdefghij", 4, "ijij", list(lit("ij"), blocks(2, 1))},
		{"abcdefghij", 4, "abcdij", list(blocks(0, 1), blocks(2, 1))},
		{"abcdefghij", 4, "efghij", list(blocks(1, 2))},
		{"abcdefghij", 4, "efghxij", list(blocks(1, 1), lit("x"), blocks(2, 1))},
		{"abcdefghij", 4, "ji", list(lit("ji"))},
		{"abc", 4, "abc", list(blocks(0, 1))},
		{"abc", 4, "abcabc", list(lit("abc"), blocks(0, 1))},
		{"abc", 4, "ababc", list(lit("ab"), blocks(0, 1))},
		{"abc", 4, "abcd", list(lit("abcd"))},
		{"abcdabc", 4, "abcabcd", list(lit("abc"), blocks(0, 1))},
		// A block is copied, though the tail would have stood at the end.
		{"abcdcd", 4, "abcd", list(blocks(0, 1))},
		{"abcdcd", 4, "xbcd", list(lit("xb"), blocks(1, 1))},
		{"abcdefghh", 4, "xefgh", list(lit("x"), blocks(1, 1))},
		// Of blocks with one sign the one behind that which was copied right ahead, else the least one.
		{"aaaaaaaa", 4, "aaaa", list(blocks(0, 1))},
		{"aaaaaaaa", 4, "aaaaaaaa", list(blocks(0, 2))},
		{"aaaaaaaa", 4, "aaaaaaaaaaaa", list(blocks(0, 2), blocks(0, 1))},
		{"aaaaaaaa", 4, "aaaaaaaaa", list(blocks(0, 2), lit("a"))},
		{"aaaaaaaaa", 4, "aaaaaaaaa", list(blocks(0, 3))},
		{"aaaaaaaaa", 4, "aaaaa", list(blocks(0, 1), blocks(2, 1))},
		{"aaaabbbbccccbbbb", 4, "ccccbbbb", list(blocks(2, 2))},
		{"aaaabbbbccccbbbb", 4, "ccccxbbbb", list(blocks(2, 1), lit("x"), blocks(1, 1))},
		{"aaaabbbbccccbbbb", 4, "bbbb", list(blocks(1, 1))},
		{"aaaabbbbccccbbbb", 4, "bbbbbbbb", list(blocks(1, 1), blocks(1, 1))},
		{"aaaabbbbccccbbbb", 4, "ccccbbbbbbbb", list(blocks(2, 2), blocks(1, 1))},
		{"aaaabbbbccccbbbb", 4, "ccccbbbbcccc", list(blocks(2, 2), blocks(2, 1))},
		{"aaaabbbbaaaacccc", 4, "aaaacccc", list(blocks(0, 1), blocks(3, 1))},
		{"aaaabbbbaaaacccc", 4, "bbbbaaaacccc", list(blocks(1, 3))},
		{"aaaabbbbaaaacccc", 4, "ccccaaaabbbb", list(blocks(3, 1), blocks(0, 2))},
		{"xxxxbbbbaaaabbbb", 4, "aaaabbbb?bbbb", list(blocks(2, 2), lit("?"), blocks(1, 1))},
		// Those of one weak sum, but another strong one, aren't the same.
		{"abba", 4, "baab", list(lit("baab"))},
		{"abbabaab", 4, "baab", list(blocks(1, 1))},
		{"abbabaab", 4, "baababba", list(blocks(1, 1), blocks(0, 1))},
		{"\x00\x00\x00\x00", 4, "\x00\x00\x00", list(lit("\x00\x00\x00"))},
		{"\x00\x00\x00\x00\x00", 4, "\x00\x00", list(lit("\x00"), blocks(1, 1))},
		{"aaaaabba", 5, "baab", list(lit("baab"))},
		// Sizes that count as 4, or as 64.
		{"abcdefgh", 3, "xefghabcd", list(lit("x"), blocks(1, 1), blocks(0, 1))},
		{"abcdefgh", 0, "xefghabcd", list(lit("x"), blocks(1, 1), blocks(0, 1))},
		{"abcdefgh", math.MinInt, "xefghabcd", list(lit("x"), blocks(1, 1), blocks(0, 1))},
		{"abcdefgh", 5, "fghabcde", list(lit("fgh"), blocks(0, 1))},
		{"abcdefgh", 8, "xabcdefgh", list(lit("x"), blocks(0, 1))},
		{"abcdefgh", 9, "xabcdefgh", list(lit("x"), blocks(0, 1))},
		{"abcdefgh", 9, "abcdefghx", list(lit("abcdefghx"))},
		{strings.Repeat("a", 64) + "b", 64, "xb", list(lit("x"), blocks(1, 1))},
		{strings.Repeat("a", 64) + "b", 65, "b" + strings.Repeat("a", 66), list(lit("b"), blocks(0, 1), lit("aa"))},
		{strings.Repeat("a", 64) + "b", math.MaxInt, strings.Repeat("a", 64) + "b", list(blocks(0, 2))},
	} {
		old, b := hidden([]byte(x.old), "efgh"), hidden([]byte(x.b), "abcdefgh")
		if got := Delta(old, x.size, b); !token.Same(got, x.want) || !slices.Equal(got, x.want) {
			t.Errorf("Delta(%.40q, %d, %.40q): %v, not %v", x.old, x.size, x.b, got, x.want)
		}
		holds(t, block.Of(old, x.size), b, x.want)
		if string(old) != x.old || string(old[:len(old)+4]) != x.old+"efgh" || string(b[:len(b)+8]) != x.b+"abcdefgh" {
			t.Errorf("Delta(%.40q, %d, %.40q): the bytes were changed", x.old, x.size, x.b)
		}
	}
}

// TestSigns: 17.1, of signatures that no bytes have.
func TestSigns(t *testing.T) {
	turned := sign("abcd")
	turned.Weak++
	other := sign("abcd")
	other.Strong.Lo++
	for _, x := range []struct {
		s    block.Signature
		b    string
		want []token.Token
	}{
		// Either sum must be the same.
		{block.Signature{Size: 4, Blocks: []block.Sign{turned}}, "abcd", list(lit("abcd"))},
		{block.Signature{Size: 4, Blocks: []block.Sign{other}}, "abcd", list(lit("abcd"))},
		{block.Signature{Size: 4, Blocks: []block.Sign{other, turned, sign("abcd")}}, "abcd", list(blocks(2, 1))},
		{block.Signature{Size: 4, Blocks: []block.Sign{{Weak: turned.Weak, Strong: other.Strong}, {}}}, "abcd", list(lit("abcd"))},
		{block.Signature{Size: 4, Blocks: []block.Sign{sign("abcd"), sign("xxxx"), turned}}, "xxxxabcd", list(blocks(1, 1), blocks(0, 1))},
		{block.Signature{Size: 4, Blocks: []block.Sign{sign("abcd"), sign("xxxx"), other}}, "xxxxabcd", list(blocks(1, 1), blocks(0, 1))},
		{block.Signature{Size: 4, Tail: 2, Last: block.Sign{Weak: sign("ab").Weak}}, "ab", list(lit("ab"))},
		{block.Signature{Size: 4, Tail: 2, Last: block.Sign{Strong: sign("ab").Strong}}, "ab", list(lit("ab"))},
		// The sign of a block of another length than Size, or Tail, is nowhere.
		{block.Signature{Size: 5, Blocks: []block.Sign{sign("abcd")}}, "abcdabcd", list(lit("abcdabcd"))},
		{block.Signature{Size: 4, Tail: 2, Last: sign("abcd")}, "abcd", list(lit("abcd"))},
		{block.Signature{Size: 4, Tail: 2, Last: sign("cd")}, "abcd", list(lit("ab"), blocks(0, 1))},
		{block.Signature{Size: 4, Tail: 2, Last: sign("cd")}, "cdcdcd", list(lit("cdcd"), blocks(0, 1))},
		{block.Signature{Size: 4, Tail: 3, Last: sign("cd")}, "abcd", list(lit("abcd"))},
		{block.Signature{Size: 4, Tail: 1, Last: sign("")}, "abcd", list(lit("abcd"))},
		{block.Signature{Size: 4, Blocks: []block.Sign{sign("")}}, "abcd", list(lit("abcd"))},
		// The tail isn't the block behind the last one.
		{block.Signature{Size: 4, Blocks: []block.Sign{sign("abcd")}, Tail: 2, Last: sign("abcd")}, "abcdabcd", list(blocks(0, 1), blocks(0, 1))},
		{block.Signature{Size: 64}, strings.Repeat("a", 70), list(lit(strings.Repeat("a", 70)))},
	} {
		if !block.Right(x.s) {
			t.Fatalf("%v isn't right", x.s)
		}
		holds(t, x.s, []byte(x.b), x.want)
	}
}

// wrong is signatures that aren't right, most of which have the sign of abcd.
func wrong() []block.Signature {
	l := []block.Sign{sign("abcd")}
	many := slices.Repeat(l, 4097)
	return []block.Signature{
		{}, {Blocks: l}, {Size: 3, Blocks: l}, {Size: 65, Blocks: l}, {Size: -4, Blocks: l}, {Size: math.MinInt, Blocks: l}, {Size: math.MaxInt, Blocks: l},
		{Size: 4, Blocks: many}, {Size: 4, Blocks: l, Tail: -1}, {Size: 4, Blocks: l, Tail: 4, Last: sign("abcd")}, {Size: 4, Blocks: l, Tail: 5}, {Size: 4, Tail: math.MaxInt}, {Size: 4, Tail: math.MinInt},
		{Size: 4, Blocks: l, Last: sign("")}, {Size: 4, Blocks: l, Last: block.Sign{Weak: 1}}, {Size: 1, Blocks: []block.Sign{sign("a")}}, {Size: 0, Tail: 1, Last: sign("a")}, {Size: 64, Tail: 64, Last: sign("abcd")},
	}
}

// TestWrong: 17.1, of a signature that isn't right all is literal, so many bytes a token.
func TestWrong(t *testing.T) {
	long := strings.Repeat("abcd", api.MaxFile/4)
	for _, s := range wrong() {
		if block.Right(s) {
			t.Fatalf("%.80v is right", s)
		}
		for _, x := range []struct {
			b    string
			want []token.Token
		}{
			{"", nil}, {"a", list(lit("a"))}, {"abcd", list(lit("abcd"))}, {"xabcdabcd", list(lit("xabcdabcd"))},
			{long, list(lit(long))}, {long + "y", list(lit(long), lit("y"))}, {"y" + long, list(lit("y"+long[:api.MaxFile-1]), lit("d"))},
			{long + long, list(lit(long), lit(long))}, {long + long + "yz", list(lit(long), lit(long), lit("yz"))},
		} {
			holds(t, s, []byte(x.b), x.want)
		}
	}
}

// TestLong: 17.1, of more literal bytes than one token may have.
func TestLong(t *testing.T) {
	k := api.MaxFile
	x := func(n int) string { return strings.Repeat("x", n) }
	s := block.Of([]byte("abcdefghij"), 4)
	for _, c := range []struct {
		b    string
		want []token.Token
	}{
		{x(k - 1), list(lit(x(k - 1)))},
		{x(k), list(lit(x(k)))},
		{x(k + 1), list(lit(x(k)), lit("x"))},
		{x(k) + "abcd", list(lit(x(k)), blocks(0, 1))},
		{x(k+1) + "abcd", list(lit(x(k)), lit("x"), blocks(0, 1))},
		{"abcd" + x(k+1) + "efgh" + x(2*k+3) + "abcdij", list(blocks(0, 1), lit(x(k)), lit("x"), blocks(1, 1), lit(x(k)), lit(x(k)), lit("xxx"), blocks(0, 1), blocks(2, 1))},
		{"abcdefgh" + x(k+1) + "ij", list(blocks(0, 2), lit(x(k)), lit("x"), blocks(2, 1))},
		{x(k-1) + "ij", list(lit(x(k-1)), blocks(2, 1))},
		{x(k) + "ij", list(lit(x(k)), blocks(2, 1))},
		{x(k-3) + "yabc" + "ij" + "z", list(lit(x(k-3)+"yab"), lit("cijz"))},
	} {
		holds(t, s, []byte(c.b), c.want)
	}
}

// TestMost: 17.1 and 17.2, of as many blocks as there may be.
func TestMost(t *testing.T) {
	b := some(api.MaxFile)
	for i := range b {
		b[i] = byte(i / 4 >> (8 * (i % 4)))
	}
	holds(t, block.Of(b, 4), b, list(blocks(0, 4096)))
	turned := slices.Concat(b[4:], b[:4])
	holds(t, block.Of(b, 4), turned, list(blocks(1, 4095), blocks(0, 1)))
	s := block.Of(b, 4)
	s.Tail, s.Last = 2, sign("zz")
	holds(t, s, append(slices.Clone(b), "zz"...), list(blocks(0, 4097)))
	holds(t, s, []byte("zz"), list(blocks(4096, 1)))
	// One block more is too many.
	more := append(slices.Clone(b), "zzzz"...)
	if got := Delta(more, 4, more); !slices.Equal(got, list(lit(string(more[:api.MaxFile])), lit("zzzz"))) {
		t.Errorf("Delta of 4097 blocks: %.80v", got)
	}
	if got := Delta(more, 5, more); !slices.Equal(got, list(blocks(0, 3278))) {
		t.Errorf("Delta of 3277 blocks, and 3 bytes: %.80v", got)
	}
}

// drawn is n bytes of few kinds.
func drawn(r *rand.Rand, n, kinds int) []byte {
	b := make([]byte, n)
	for i := range b {
		b[i] = byte('a' + r.Intn(kinds))
	}
	return b
}

// changed is bytes that are put together of pieces of others, and of new ones.
func changed(r *rand.Rand, old []byte, kinds int) []byte {
	var b []byte
	for range r.Intn(6) {
		from := r.Intn(len(old) + 1)
		b = append(b, old[from:from+r.Intn(len(old)-from+1)]...)
		b = append(b, drawn(r, r.Intn(4), kinds)...)
	}
	return b
}

// TestDrawn: 17.1 and 17.2, what is found is what the document says, and stands for as many bytes.
func TestDrawn(t *testing.T) {
	r := rand.New(rand.NewSource(17))
	for range 6000 {
		size, kinds := 2+r.Intn(12), 1+r.Intn(4)
		if r.Intn(10) == 0 {
			size = 60 + r.Intn(8)
		}
		old := drawn(r, r.Intn(5*size+2), kinds)
		b := changed(r, old, kinds)
		s := block.Of(old, size)
		if r.Intn(3) == 0 {
			r.Shuffle(len(s.Blocks), func(i, k int) { s.Blocks[i], s.Blocks[k] = s.Blocks[k], s.Blocks[i] })
		} else if got := Delta(old, size, b); !slices.Equal(got, searched(s, b)) {
			t.Fatalf("Delta(%q, %d, %q): %v", old, size, b, got)
		}
		holds(t, s, b, searched(s, b))
		if got := Of(s, b); stand(s, got) != len(b) || Cost(s, b) != token.Bytes(got) {
			t.Fatalf("Of %q by %d in %q: %v, which stand for %d bytes", old, size, b, got, stand(s, got))
		}
		if t.Failed() {
			return
		}
	}
}

// TestItself: 17.2, what is searched for in itself costs nothing.
func TestItself(t *testing.T) {
	r := rand.New(rand.NewSource(172))
	for _, size := range []int{math.MinInt, 0, 4, 5, 7, 16, 63, 64, 65, math.MaxInt} {
		for _, n := range []int{0, 1, 3, 4, 5, 63, 64, 65, 127, 128, 129, 1000, api.MaxFile - 1, api.MaxFile} {
			for _, b := range [][]byte{some(n), drawn(r, n, 1), drawn(r, n, 2), drawn(r, n, 200)} {
				if c := Cost(block.Of(b, size), b); c != 0 {
					t.Errorf("Cost of %d bytes by %d in themselves: %d", n, size, c)
				}
			}
		}
	}
}

// TestMany: R1, much that has the weak sum of a block, or none at all, takes no long time.
func TestMany(t *testing.T) {
	var s block.Signature
	s.Size = 64
	b := bytes.Repeat([]byte("a"), 1<<18)
	for k := range 4096 {
		s.Blocks = append(s.Blocks, block.Sign{Weak: roll.Of(b[:64]), Strong: api.Sum{Hi: uint64(k)}})
	}
	if n := Cost(s, b); n != len(b) {
		t.Errorf("Cost of blocks of one weak sum: %d", n)
	}
	if n := Cost(block.Of([]byte("aaaa"), 4), b); n != 0 {
		t.Errorf("Cost of one block, over and over: %d", n)
	}
}

// TestApart: R5, a signature isn't changed, and what is told is new memory.
func TestApart(t *testing.T) {
	all := []block.Sign{sign("abcd"), sign("efgh"), sign("xxxx"), sign("yyyy")}
	s := block.Signature{Size: 4, Blocks: all[:2], Tail: 2, Last: sign("ij")}
	b := []byte("xxxxefghyyyyij")
	want := list(lit("xxxx"), blocks(1, 1), lit("yyyy"), blocks(2, 1))
	x, y := Of(s, b), Of(s, b)
	clear(b)
	if !slices.Equal(x, want) {
		t.Errorf("what was told went with the bytes: %v", x)
	}
	for i := range x {
		x[i] = lit("no")
	}
	if !slices.Equal(y, want) {
		t.Errorf("what was told shares memory: %v", y)
	}
	if !slices.Equal(all, []block.Sign{sign("abcd"), sign("efgh"), sign("xxxx"), sign("yyyy")}) {
		t.Errorf("the signature was changed: %v", all)
	}
	z := Of(block.Signature{}, []byte("ab"))
	z[0] = lit("no")
	if got := Of(block.Signature{}, []byte("ab")); !slices.Equal(got, list(lit("ab"))) {
		t.Errorf("of one that isn't right: %v", got)
	}
}
