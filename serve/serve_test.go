package serve

import (
	"flitting/api"
	"flitting/block"
	"flitting/choice"
	"flitting/index"
	"flitting/msg"
	"flitting/search"
	"flitting/token"
	"flitting/tree"
	"math"
	"math/rand"
	"slices"
	"strconv"
	"strings"
	"testing"
)

func dir(p string) api.Node { return api.Node{Path: p, Kind: api.Dir, Mode: 493, Time: 7} }
func file(p, s string) api.Node {
	return api.Node{Path: p, Kind: api.File, Mode: 420, Time: 300, Data: s}
}
func link(p, s string) api.Node { return api.Node{Path: p, Kind: api.Link, Time: 1, Data: s} }

// The places of what is sent of some.
const (
	ofDir = iota
	ofAlphabet
	ofLink
	ofLong
	ofEmpty
	ofXyz
	sent
)

// alphabet is the bytes of a file.
const alphabet = "abcdefghijklmnopqrstuvwxyz0123456789"

// long is the bytes of the longest file there is.
func long() string {
	r := rand.New(rand.NewSource(7))
	b := make([]byte, api.MaxFile)
	for i := range b {
		b[i] = byte(r.Intn(256))
	}
	return string(b)
}

// some is a well-formed tree, of which not all is sent.
func some() []api.Node {
	return []api.Node{dir(".flit"), file(".flit/x", "1"), dir("a"), file("a/b", alphabet), file("a/c.o", "no"), link("a/l", "b"), file("long", long()), file("none", ""), dir("o"), file("o/x", "no"), file("x", "xyz")}
}

// options are right ones, by which some of some is shut out.
func options(piece int) api.Options {
	return api.Options{Del: true, Rules: []api.Rule{{Pattern: "*.o"}, {Pattern: "o/"}}, Block: 4, Piece: piece}
}

// source makes a source of a tree.
func source(t *testing.T, l []api.Node, o api.Options) *Source {
	t.Helper()
	s, e := New(l, o)
	if e != api.OK || s == nil {
		t.Fatalf("New: %d", e)
	}
	return s
}

// fails is what tells an error.
func fails(e api.Errno) msg.Msg { return msg.Msg{Kind: msg.TellError, Code: e} }

// data, delta, shown and list are questions.
func data(n, at int) msg.Msg { return msg.Msg{Kind: msg.AskData, N: n, At: at} }
func delta(n, at int, sig block.Signature) msg.Msg {
	return msg.Msg{Kind: msg.AskDelta, N: n, At: at, Sig: sig}
}
func shown(n, at int, s string, yes bool) msg.Msg {
	return msg.Msg{Kind: msg.AskSame, N: n, At: at, Data: s, Yes: yes}
}
func list(n int) msg.Msg { return msg.Msg{Kind: msg.AskIndex, N: n} }

// replies holds a reply against what is wanted.
func replies(t *testing.T, s *Source, q, want msg.Msg) {
	t.Helper()
	if got := s.Reply(q); !msg.Same(got, want) {
		t.Errorf("to %v: %v, want %v", q, got, want)
	}
}

// deep is n directories, each beneath the one ahead.
func deep(n int) []api.Node {
	var t []api.Node
	for i := range n {
		t = append(t, dir(strings.TrimSuffix(strings.Repeat("a/", i+1), "/")))
	}
	return t
}

// many is n empty files.
func many(n int) []api.Node {
	var t []api.Node
	for i := range n {
		t = append(t, file("f"+strconv.Itoa(1000+i), ""))
	}
	return t
}

// hidden is a list with room behind it, which holds what nobody may see.
func hidden[T any](l []T, no T) []T {
	return append(slices.Clone(l), no, no, no)[:len(l)]
}

// untouched tells whether what lies in and behind a list that hidden made is as it was.
func untouched[T comparable](in, l []T, no T) bool {
	return slices.Equal(in[:len(in)+3], append(slices.Clone(l), no, no, no))
}

// TestNew: 24.1, what is made, and what isn't.
func TestNew(t *testing.T) {
	with := func(change func(o *api.Options)) api.Options {
		o := options(16)
		change(&o)
		return o
	}
	good := options(16)
	wrongRule := with(func(o *api.Options) { o.Rules = append(o.Rules, api.Rule{Pattern: "["}) })
	for _, c := range []struct {
		what string
		t    []api.Node
		o    api.Options
		want api.Errno
	}{
		{"nothing", nil, good, api.OK},
		{"some", some(), good, api.OK},
		{"512 nodes", many(512), good, api.OK},
		{"8 names", deep(8), good, api.OK},
		{"the least piece", nil, with(func(o *api.Options) { o.Piece = 16 }), api.OK},
		{"the greatest piece", nil, with(func(o *api.Options) { o.Piece = 512 }), api.OK},
		{"too small a piece", nil, with(func(o *api.Options) { o.Piece = 15 }), api.ErrArg},
		{"too great a piece", nil, with(func(o *api.Options) { o.Piece = 513 }), api.ErrArg},
		{"too small a block", nil, with(func(o *api.Options) { o.Block = 3 }), api.ErrArg},
		{"too great a block", nil, with(func(o *api.Options) { o.Block = 65 }), api.ErrArg},
		{"no options", nil, api.Options{}, api.ErrArg},
		{"the least numbers", nil, api.Options{Block: math.MinInt, Piece: math.MinInt}, api.ErrArg},
		{"a wrong rule", nil, wrongRule, choice.Check(wrongRule)},
		{"too many rules", nil, with(func(o *api.Options) { o.Rules = make([]api.Rule, 17) }), choice.Check(api.Options{Rules: make([]api.Rule, 17), Block: 4, Piece: 16})},
		{"9 names", deep(9), good, api.ErrLong},
		{"513 nodes", many(513), good, api.ErrLong},
		{"out of order", []api.Node{dir("b"), dir("a")}, good, api.ErrOrder},
		{"no parent", []api.Node{file("a/b", "")}, good, api.ErrNone},
		{"no parent, shut out", []api.Node{file("p/b.o", "")}, good, api.ErrNone},
		{"a parent that is a file", []api.Node{file("a", ""), file("a/b", "")}, good, api.ErrKind},
		{"no path", []api.Node{{Kind: api.Dir}}, good, api.ErrPath},
		{"a wrong mode", []api.Node{{Path: "a", Kind: api.Dir, Mode: -1}}, good, api.ErrArg},
		{"wrong options and a wrong tree", deep(9), with(func(o *api.Options) { o.Piece = 0 }), api.ErrArg},
	} {
		inT, inR := hidden(c.t, file("zz", "no")), hidden(c.o.Rules, api.Rule{Pattern: "**"})
		o := c.o
		o.Rules = inR
		s, e := New(inT, o)
		if e != c.want || (s != nil) != (e == api.OK) {
			t.Errorf("%s: %v, %d, want %d", c.what, s != nil, e, c.want)
		}
		if !untouched(inT, c.t, file("zz", "no")) || !untouched(inR, c.o.Rules, api.Rule{Pattern: "**"}) {
			t.Errorf("%s: what was handed in is changed", c.what)
		}
	}
	if choice.Check(wrongRule) == api.OK {
		t.Error("the wrong rule is right")
	}
}

// TestIndex: 24.1, the index of what is sent, and of that alone.
func TestIndex(t *testing.T) {
	l, o := some(), options(64)
	s := source(t, l, o)
	want := index.Of(choice.Sent(some(), o.Rules))
	if got := s.Index(); !slices.Equal(got, want) || len(got) != sent {
		t.Fatalf("%v, want %v", got, want)
	}
	// The print of a is that of a without what is shut out.
	if all := index.Of(some()); all[2].Path != "a" || all[2].Sum == s.Index()[ofDir].Sum {
		t.Error("the print of a has what is shut out")
	}
	got := s.Index()
	for i := range got {
		got[i] = api.Entry{}
	}
	_ = append(got, api.Entry{Path: "no"})
	for i := range l {
		l[i] = file("zz", "no")
	}
	o.Rules[0], o.Rules[1] = api.Rule{Pattern: "**"}, api.Rule{Pattern: "**"}
	if !slices.Equal(s.Index(), want) {
		t.Error("what is handed in is kept, or what is told is")
	}
	replies(t, s, data(ofXyz, 0), msg.Msg{Kind: msg.TellData, Data: "xyz"})
	page := s.Reply(list(0))
	for i := range page.Entries {
		page.Entries[i] = api.Entry{}
	}
	if !slices.Equal(s.Index(), want) {
		t.Error("a reply shares the index")
	}
	if s := source(t, nil, options(16)); len(s.Index()) != 0 {
		t.Error("the index of nothing")
	}
}

// wrongs is messages that aren't right, or don't ask.
func wrongs() []msg.Msg {
	return []msg.Msg{
		{}, {Kind: -1}, {Kind: 12}, {Kind: 255}, {Kind: math.MinInt}, {Kind: math.MaxInt},
		{Kind: msg.AskIndex, N: 513}, {Kind: msg.AskIndex, N: -1}, {Kind: msg.AskIndex, At: 1}, {Kind: msg.AskIndex, N: math.MinInt},
		{Kind: msg.AskDelta}, {Kind: msg.AskDelta, N: ofXyz, Sig: block.Signature{Size: 3}}, {Kind: msg.AskDelta, N: ofXyz, At: -1, Sig: block.Of(nil, 4)}, {Kind: msg.AskDelta, N: 513, Sig: block.Of(nil, 4)},
		{Kind: msg.AskData, N: ofXyz, At: msg.MostAt + 1}, {Kind: msg.AskData, N: ofXyz, At: -1}, {Kind: msg.AskData, N: -1}, {Kind: msg.AskData, N: 513}, {Kind: msg.AskData, N: ofXyz, At: math.MaxInt}, {Kind: msg.AskData, N: ofXyz, Data: "x"}, {Kind: msg.AskData, N: math.MaxInt},
		{Kind: msg.AskSame, N: ofXyz, Data: strings.Repeat("x", api.MaxPiece+1)}, {Kind: msg.AskSame, N: -1, Data: "xyz"}, {Kind: msg.AskSame, N: ofXyz, At: -1}, {Kind: msg.AskSame, N: ofXyz, At: msg.MostAt + 1},
		{Kind: msg.AskDone, Code: 16}, {Kind: msg.AskDone, Code: -1}, {Kind: msg.AskDone, N: 1},
		{Kind: msg.TellIndex}, {Kind: msg.TellDelta, Data: "x"}, {Kind: msg.TellData, Data: "x"}, {Kind: msg.TellSame, Yes: true}, {Kind: msg.TellDone}, {Kind: msg.TellError, Code: api.ErrIO}, {Kind: msg.TellError},
	}
}

// questions is right ones, of each kind.
func questions() []msg.Msg {
	return []msg.Msg{list(0), list(512), data(0, 0), data(ofXyz, 0), delta(ofXyz, 0, block.Of(nil, 4)), shown(ofXyz, 0, "xyz", true), {Kind: msg.AskDone}, {Kind: msg.AskDone, Code: api.ErrIO}}
}

// TestWrong: 24.2, what isn't right, or doesn't ask.
func TestWrong(t *testing.T) {
	for _, s := range []*Source{source(t, some(), options(16)), source(t, nil, options(512))} {
		for _, q := range wrongs() {
			replies(t, s, q, fails(api.ErrFrame))
		}
	}
}

// TestAskIndex: 24.2, pages of the index.
func TestAskIndex(t *testing.T) {
	for _, piece := range []int{16, 100, 250, 512} {
		s := source(t, some(), options(piece))
		x := s.Index()
		sizes := map[int]bool{}
		for n := range x {
			want := msg.Msg{Kind: msg.TellIndex, Total: sent, Entries: index.Page(x, n, piece)}
			replies(t, s, list(n), want)
			sizes[len(want.Entries)] = true
		}
		if sizes[0] || piece == 512 && !sizes[3] || piece == 16 && len(sizes) != 1 {
			t.Errorf("pages of %d bytes have %v entries", piece, sizes)
		}
		replies(t, s, list(sent), msg.Msg{Kind: msg.TellIndex, Total: sent})
		replies(t, s, list(sent+1), fails(api.ErrArg))
		replies(t, s, list(512), fails(api.ErrArg))
	}
	s := source(t, nil, options(16))
	replies(t, s, list(0), msg.Msg{Kind: msg.TellIndex})
	replies(t, s, list(1), fails(api.ErrArg))
	s = source(t, many(512), options(16))
	replies(t, s, list(511), msg.Msg{Kind: msg.TellIndex, Total: 512, Entries: s.Index()[511:]})
	replies(t, s, list(512), msg.Msg{Kind: msg.TellIndex, Total: 512})
}

// TestNoFile: 24.2, what is asked of no file.
func TestNoFile(t *testing.T) {
	s := source(t, some(), options(16))
	for n := range 513 {
		want, ok := api.OK, false
		switch {
		case n >= sent:
			want = api.ErrNone
		case n == ofDir || n == ofLink:
			want = api.ErrKind
		default:
			ok = true
		}
		for _, at := range []int{0, msg.MostAt} {
			for _, q := range []msg.Msg{data(n, at), delta(n, at, block.Of([]byte("abcdefgh"), 4)), shown(n, at, "", false), shown(n, at, "x", true)} {
				got := s.Reply(q)
				if !ok && !msg.Same(got, fails(want)) {
					t.Fatalf("to %v: %v, want %d", q, got, want)
				}
				if ok && (got.Code == api.ErrNone || got.Code == api.ErrKind) {
					t.Fatalf("to %v: %v", q, got)
				}
			}
		}
	}
	replies(t, source(t, nil, options(16)), data(0, 0), fails(api.ErrNone))
	replies(t, source(t, many(512), options(16)), data(511, 0), msg.Msg{Kind: msg.TellData})
	replies(t, source(t, many(512), options(16)), data(512, 0), fails(api.ErrNone))
}

// TestAskData: 24.2, pieces of a file's bytes.
func TestAskData(t *testing.T) {
	for _, piece := range []int{16, 17, 36, 512} {
		s := source(t, some(), options(piece))
		for n, b := range map[int]string{ofAlphabet: alphabet, ofXyz: "xyz", ofEmpty: "", ofLong: long()} {
			for _, at := range []int{0, 1, 2, 16, 19, 20, 21, len(b) - piece - 1, len(b) - piece, len(b) - piece + 1, len(b) - 1, len(b)} {
				if at >= 0 && at <= len(b) {
					replies(t, s, data(n, at), msg.Msg{Kind: msg.TellData, Data: b[at:min(at+piece, len(b))]})
				}
			}
			for _, at := range []int{len(b) + 1, len(b) + piece, msg.MostAt} {
				replies(t, s, data(n, at), fails(api.ErrArg))
			}
		}
	}
	replies(t, source(t, []api.Node{file("a", "xyz")}, options(16)), data(0, 0), msg.Msg{Kind: msg.TellData, Data: "xyz"})
}

// TestAskDelta: 24.2, pieces of tokens' bytes.
func TestAskDelta(t *testing.T) {
	s := source(t, some(), options(16))
	// The block 1, the literal mnop, the block 3 and the tail; then all of it, and nothing of it.
	old := []byte("0000efghijkl----qrstuvwxyz0123456789")
	want := "\x00\x04abcd" + "\x02\x01" + "\x00\x04mnop" + "\x05\x04"
	replies(t, s, delta(ofAlphabet, 0, block.Of(old, 4)), msg.Msg{Kind: msg.TellDelta, Total: 16, Data: want})
	replies(t, s, delta(ofAlphabet, 6, block.Of(old, 4)), msg.Msg{Kind: msg.TellDelta, Total: 16, Data: want[6:]})
	replies(t, s, delta(ofAlphabet, 15, block.Of(old, 4)), msg.Msg{Kind: msg.TellDelta, Total: 16, Data: want[15:]})
	replies(t, s, delta(ofAlphabet, 16, block.Of(old, 4)), msg.Msg{Kind: msg.TellDelta, Total: 16})
	replies(t, s, delta(ofAlphabet, 17, block.Of(old, 4)), fails(api.ErrArg))
	replies(t, s, delta(ofAlphabet, msg.MostAt, block.Of(old, 4)), fails(api.ErrArg))
	replies(t, s, delta(ofAlphabet, 0, block.Of([]byte(alphabet), 10)), msg.Msg{Kind: msg.TellDelta, Total: 2, Data: "\x04\x00"})
	replies(t, s, delta(ofAlphabet, 0, block.Of(nil, 64)), msg.Msg{Kind: msg.TellDelta, Total: 38, Data: "\x00\x24" + alphabet[:14]})
	replies(t, s, delta(ofAlphabet, 20, block.Of(nil, 64)), msg.Msg{Kind: msg.TellDelta, Total: 38, Data: alphabet[18:34]})
	replies(t, s, delta(ofEmpty, 0, block.Of(old, 4)), msg.Msg{Kind: msg.TellDelta})
	replies(t, s, delta(ofEmpty, 1, block.Of(old, 4)), fails(api.ErrArg))
	// By the signature's size, not by the options' Block.
	replies(t, s, delta(ofXyz, 0, block.Of([]byte("xyz"), 64)), msg.Msg{Kind: msg.TellDelta, Total: 2, Data: "\x01\x00"})
}

// TestAskSame: 24.2, whether the file has bytes.
func TestAskSame(t *testing.T) {
	s := source(t, some(), options(16))
	for _, c := range []struct {
		q    msg.Msg
		want bool
	}{
		{shown(ofXyz, 0, "xyz", true), true}, {shown(ofXyz, 0, "xyz", false), true}, {shown(ofXyz, 0, "xy", false), true}, {shown(ofXyz, 0, "xy", true), false},
		{shown(ofXyz, 1, "yz", true), true}, {shown(ofXyz, 1, "y", false), true}, {shown(ofXyz, 1, "y", true), false}, {shown(ofXyz, 2, "z", true), true},
		{shown(ofXyz, 0, "xyzz", false), false}, {shown(ofXyz, 0, "xyzz", true), false}, {shown(ofXyz, 0, "xyy", true), false}, {shown(ofXyz, 0, "yz", true), false}, {shown(ofXyz, 0, "yz", false), false},
		{shown(ofXyz, 1, "xy", false), false}, {shown(ofXyz, 2, "zx", false), false}, {shown(ofXyz, 3, "x", false), false}, {shown(ofXyz, 3, "x", true), false},
		{shown(ofXyz, 0, "", false), true}, {shown(ofXyz, 0, "", true), false}, {shown(ofXyz, 2, "", false), true}, {shown(ofXyz, 3, "", false), true}, {shown(ofXyz, 3, "", true), true},
		{shown(ofXyz, 4, "", true), false}, {shown(ofXyz, 4, "", false), false}, {shown(ofXyz, 4, "x", false), false}, {shown(ofXyz, msg.MostAt, "", true), false}, {shown(ofXyz, msg.MostAt, "xyz", false), false},
		{shown(ofEmpty, 0, "", true), true}, {shown(ofEmpty, 0, "", false), true}, {shown(ofEmpty, 0, "x", true), false}, {shown(ofEmpty, 0, "\x00", false), false}, {shown(ofEmpty, 1, "", true), false},
		// More at once than a piece, as Data may be.
		{shown(ofAlphabet, 0, alphabet, true), true}, {shown(ofLong, 5, long()[5:517], false), true}, {shown(ofLong, 5, long()[5:517], true), false},
		{shown(ofLong, api.MaxFile-512, long()[api.MaxFile-512:], true), true}, {shown(ofLong, api.MaxFile-511, long()[api.MaxFile-512:], true), false}, {shown(ofLong, api.MaxFile, "", true), true},
	} {
		replies(t, s, c.q, msg.Msg{Kind: msg.TellSame, Yes: c.want})
	}
}

// TestAskDone: 24.2, whatever the Code.
func TestAskDone(t *testing.T) {
	for _, s := range []*Source{source(t, some(), options(16)), source(t, nil, options(512))} {
		for code := api.OK; code <= api.ErrState; code++ {
			replies(t, s, msg.Msg{Kind: msg.AskDone, Code: code}, msg.Msg{Kind: msg.TellDone})
		}
	}
}

// TestNotMade: 24.3, of nil, and of what New didn't make.
func TestNotMade(t *testing.T) {
	for what, s := range map[string]*Source{"nil": nil, "zero": {}, "new": new(Source)} {
		if len(s.Index()) != 0 {
			t.Errorf("%s: an index", what)
		}
		for _, q := range slices.Concat(questions(), wrongs()) {
			if got := s.Reply(q); !msg.Same(got, fails(api.ErrState)) {
				t.Errorf("%s: to %v: %v", what, q, got)
			}
		}
	}
}

// drawn is a tree of some nodes.
func drawn(r *rand.Rand) []api.Node {
	var l []api.Node
	for range r.Intn(25) {
		var p []string
		for range 1 + r.Intn(3) {
			p = append(p, []string{"a", "b", "cccccccccccc", "a-", ".flit"}[r.Intn(5)])
		}
		n := api.Node{Path: strings.Join(p, "/"), Kind: api.Dir, Mode: r.Intn(api.MaxMode + 1)}
		switch r.Intn(5) {
		case 0, 1, 2:
			n.Kind, n.Data = api.File, drawnBytes(r)
		case 3:
			n.Kind, n.Mode, n.Data = api.Link, 0, "x"
		}
		l = append(l, n)
	}
	return tree.Of(l)
}

// drawnBytes is some bytes, of few kinds.
func drawnBytes(r *rand.Rand) string {
	b := make([]byte, r.Intn(1+r.Intn(600)))
	kinds := 1 + r.Intn(4)
	for i := range b {
		b[i] = byte('a' + r.Intn(kinds))
	}
	return string(b)
}

// right is a reply that was looked at: it is right, tells, and tells the same again.
func right(t *testing.T, s *Source, q msg.Msg) msg.Msg {
	t.Helper()
	m := s.Reply(q)
	if !msg.Right(m) || msg.Asks(m.Kind) {
		t.Fatalf("to %v: %v", q, m)
	}
	if !msg.Same(m, s.Reply(q)) {
		t.Fatalf("to %v another time something else", q)
	}
	return m
}

// pieces is all pieces, each asked for from behind the last one's end on.
func pieces(t *testing.T, s *Source, piece int, ask func(at int) msg.Msg) string {
	t.Helper()
	all := ""
	for {
		m := right(t, s, ask(len(all)))
		if m.Kind == msg.TellError || len(m.Data) > piece {
			t.Fatalf("to %v: %v", ask(len(all)), m)
		}
		if m.Data == "" {
			return all
		}
		all += m.Data
	}
}

// TestFollows: 24.4, and 24.2 of drawn trees.
func TestFollows(t *testing.T) {
	r := rand.New(rand.NewSource(1))
	files := 0
	for i := range 900 {
		l, o := drawn(r), api.Options{Block: 4 + r.Intn(61), Piece: 16 + r.Intn(497)}
		if r.Intn(2) == 0 {
			o.Rules = []api.Rule{{Pattern: "a/"}, {Pattern: "b/*"}}
		}
		if i == 0 {
			l, o = some(), options(512)
		}
		s := source(t, l, o)
		nodes := choice.Sent(l, o.Rules)
		var all []api.Entry
		for len(all) < len(nodes) {
			m := right(t, s, list(len(all)))
			if m.Kind != msg.TellIndex || m.Total != len(nodes) || len(m.Entries) == 0 {
				t.Fatalf("from %d on: %v", len(all), m)
			}
			all = append(all, m.Entries...)
		}
		if !slices.Equal(all, index.Of(nodes)) {
			t.Fatalf("the pages: %v", all)
		}
		for n, x := range nodes {
			if x.Kind != api.File {
				continue
			}
			files++
			if got := pieces(t, s, o.Piece, func(at int) msg.Msg { return data(n, at) }); got != x.Data {
				t.Fatalf("%d bytes of %d", len(got), len(x.Data))
			}
			sig := block.Of([]byte(drawnBytes(r)), o.Block)
			want := string(token.Put(search.Of(sig, []byte(x.Data))))
			if got := pieces(t, s, o.Piece, func(at int) msg.Msg { return delta(n, at, sig) }); got != want {
				t.Fatalf("%d bytes of tokens, want %d", len(got), len(want))
			}
			if m := right(t, s, delta(n, r.Intn(len(want)+1), sig)); m.Kind != msg.TellDelta || m.Total != len(want) {
				t.Fatalf("%v, of %d", m, len(want))
			}
			at := r.Intn(len(x.Data) + 1)
			end := at + r.Intn(min(len(x.Data)-at, api.MaxPiece)+1)
			if m := right(t, s, shown(n, at, x.Data[at:end], end == len(x.Data))); !m.Yes {
				t.Fatalf("from %d to %d: %v", at, end, m)
			}
		}
		for _, q := range slices.Concat(questions(), wrongs()) {
			right(t, s, q)
		}
	}
	if files < 1000 {
		t.Errorf("%d files", files)
	}
}

// TestWorst: 24.4, the tokens that have the most bytes: still a right Total.
func TestWorst(t *testing.T) {
	b := []byte(long())
	var turned []byte
	for k := block.Count(len(b), 4) - 1; k >= 0; k-- {
		turned = append(turned, block.At(b, 4, k)...)
	}
	s := source(t, []api.Node{file("a", string(turned)), file("b", long())}, options(512))
	for n, old := range [][]byte{b, []byte("none of it")} {
		m := right(t, s, delta(n, 0, block.Of(old, 4)))
		if m.Kind != msg.TellDelta || len(m.Data) != 512 || m.Total < 1<<13 || !msg.Right(m) {
			t.Errorf("%d: kind %d, %d bytes of %d", n, m.Kind, len(m.Data), m.Total)
		}
	}
}
