package plan

import (
	"flitting/api"
	"flitting/check"
	"flitting/choice"
	"flitting/edit"
	"flitting/index"
	"flitting/match"
	"flitting/mirror"
	"flitting/mix"
	"flitting/order"
	"flitting/sample"
	"flitting/stock"
	"flitting/tree"
	"math"
	"math/rand"
	"slices"
	"strconv"
	"strings"
	"testing"
)

// example is what is wanted and what there is, in words, and the edits of a plan's three parts, each in a line, with ; between them.
type example struct {
	what, want, have, rules string
	keep                    bool   // nothing is deleted
	block                   int    // 4, where it is 0
	unlike                  string // pairs: the path of what is wanted, = and that of what there is
	log                     string // .flit/n0, where it is empty
	gather, put, dress      string
}

// made makes a stock of an example, the pairs that are told to be unlike, and the options.
func (c example) made(t *testing.T) (*stock.Stock, []match.Pair, api.Options) {
	t.Helper()
	want, have := sample.Nodes(c.want), sample.Nodes(c.have)
	o := api.Options{Rules: sample.Rules(c.rules), Del: !c.keep, Block: max(c.block, api.MinBlock), Piece: 16}
	s, e := stock.New(index.Of(want), have, o)
	if e != api.OK {
		t.Fatalf("%s: no trees, %d", c.what, e)
	}
	var unlike []match.Pair
	for word := range strings.FieldsSeq(c.unlike) {
		w, h, _ := strings.Cut(word, "=")
		i, ok := index.Find(s.Want, w)
		k, there := index.Find(s.Have, h)
		if !ok || !there {
			t.Fatalf("%s: no pair %s", c.what, word)
		}
		unlike = append(unlike, match.Pair{Want: i, Have: k})
	}
	return s, unlike, o
}

// told is edits in words.
func told(l []api.Edit) string {
	var words []string
	for _, e := range l {
		words = append(words, edit.Line(e))
	}
	return strings.Join(words, "; ")
}

// parts is a plan's edits in words, part by part.
func parts(t *testing.T, p Plan) (gather, put, dress string) {
	t.Helper()
	from, to := p.Gather, len(p.Edits)-p.Dress
	if p.Gather < 0 || p.Dress < 0 || from > to {
		t.Fatalf("%d to gather and %d to dress of %d edits", p.Gather, p.Dress, len(p.Edits))
	}
	return told(p.Edits[:from]), told(p.Edits[from:to]), told(p.Edits[to:])
}

// hold holds the plans of some examples against what is wanted.
func hold(t *testing.T, l []example) {
	t.Helper()
	for _, c := range l {
		s, unlike, o := c.made(t)
		p, e := Make(s, unlike, o)
		gather, put, dress := parts(t, p)
		if gather != c.gather || put != c.put || dress != c.dress || e != api.OK {
			t.Errorf("%s: %q, %q, %q, %d, want %q, %q, %q", c.what, gather, put, dress, e, c.gather, c.put, c.dress)
		}
		if c.log == "" {
			c.log = ".flit/n0"
		}
		if p.Log != c.log || !slices.Equal(p.Ways, match.Ways(s, unlike)) {
			t.Errorf("%s: the log is %s, the ways are %v", c.what, p.Log, p.Ways)
		}
	}
}

// TestMake: 31.1, what is gathered, put in place and dressed. (Of these nodes files have a time, and directories a mode.)
func TestMake(t *testing.T) {
	hold(t, []example{
		{what: "nothing"},
		{what: "all is here", want: "a/ a/b=1 l>x", have: "a/ a/b=1 l>x"},
		{what: "a file is renamed", want: "b=1", have: "a=1", put: "move a b"},
		{what: "a directory is renamed", want: "b/ b/l>1 b/x=1", have: "a/ a/l>1 a/x=1", put: "move a b"},
		{what: "a file is copied", want: "a=1 b=1", have: "a=1", gather: "copy a .flit/n1", put: "move .flit/n1 b", dress: "meta b 1"},
		{what: "a file is nowhere", want: "a=1", gather: "fetch .flit/n1 0", put: "move .flit/n1 a", dress: "meta a 0"},
		{what: "a link", want: "l>x", gather: "link .flit/n1 0", put: "move .flit/n1 l"},
		{what: "a link that is elsewhere", want: "m>x", have: "l>x", gather: "link .flit/n1 0", put: "remove l; move .flit/n1 m"},
		{what: "a directory", want: "d/", put: "mkdir d", dress: "meta d 0"},
		{what: "what is deleted", have: "a/ a/b=1 l>x", put: "remove l; remove a/b; remove a"},
		{what: "what isn't", have: "a/ a/b=1 l>x", keep: true},
		{what: "a file that grew", want: "a=somethingold,andnew", have: "a=somethingold", gather: "delta a .flit/n1 0", put: "move .flit/n1 a", dress: "meta a 0"},
		{what: "and was renamed", want: "b=somethingold,andnew", have: "a=somethingold c=other", gather: "delta a .flit/n1 0", put: "remove c; remove a; move .flit/n1 b", dress: "meta b 0"},
		{
			what: "all kinds", want: "a=1 b=1 d/ d/e/ d/e/f=new d/l>x g=somethingold,andnew k>y", have: "a=1 g=somethingold",
			gather: "copy a .flit/n1; fetch .flit/n2 4; link .flit/n3 5; delta g .flit/n4 6; link .flit/n5 7",
			put:    "move .flit/n1 b; mkdir d; mkdir d/e; move .flit/n2 d/e/f; move .flit/n3 d/l; move .flit/n4 g; move .flit/n5 k",
			dress:  "meta b 1; meta d 2; meta d/e 3; meta d/e/f 4; meta g 6",
		},
		{what: "what is blocked is neither gathered nor dressed", want: "a=1 b=1", have: "a/ a/k=1", rules: "-k", gather: "copy a/k .flit/n1", put: "move .flit/n1 b", dress: "meta b 1"},
		{what: "what is blocked and all else", want: "a=1 b=2 c>x d>x", have: "a/ a/k=9 c/ c/k", rules: "-k", gather: "fetch .flit/n1 1; link .flit/n2 3", put: "move .flit/n1 b; move .flit/n2 d", dress: "meta b 1"},
		{what: "an unlike file in its place", want: "a=1", have: "a=1", unlike: "a=a", gather: "fetch .flit/n1 0", put: "move .flit/n1 a", dress: "meta a 0"},
		{what: "an unlike file elsewhere", want: "b=1 c=1", have: "a=1", unlike: "b=a", gather: "fetch .flit/n1 0", put: "move .flit/n1 b; move a c", dress: "meta b 0"},
		{what: "an unlike file is a basis", want: "b=12345", have: "a=12345", unlike: "b=a", gather: "delta a .flit/n1 0", put: "remove a; move .flit/n1 b", dress: "meta b 0"},
		{what: "an unlike file within a directory", want: "b/ b/x=1 b/y=2", have: "a/ a/x=1 a/y=2", unlike: "b/x=a/x", gather: "fetch .flit/n1 1", put: "remove a/x; mkdir b; move .flit/n1 b/x; move a/y b/y; remove a", dress: "meta b 0; meta b/x 1"},
	})
}

// TestBasis: 31.1, of what is made by a basis the best one is told, by blocks of the options' size.
func TestBasis(t *testing.T) {
	delta, fetch := "delta a .flit/n1 0", "fetch .flit/n1 0"
	for _, c := range []struct {
		block  int
		gather string
	}{{math.MinInt, delta}, {-1, delta}, {0, delta}, {4, delta}, {12, delta}, {13, fetch}, {64, fetch}, {math.MaxInt, fetch}} {
		s, _, _ := example{want: "a=somethingold,andnew", have: "a=somethingold"}.made(t)
		p, e := Make(s, nil, api.Options{Block: c.block})
		gather, _, _ := parts(t, p)
		if c.block > len("somethingold") {
			c.gather = fetch
		}
		if gather != c.gather || e != api.OK {
			t.Errorf("blocks of %d bytes: %s, %d, want %s", c.block, gather, e, c.gather)
		}
	}
	hold(t, []example{
		{what: "the best one", want: "d=abcdefghijklmnopqrstuvwxyz", have: "a=abcdefgh b=abcdefghijklmnopqrstu c=xyz", gather: "delta b .flit/n1 0", put: "remove c; remove b; remove a; move .flit/n1 d", dress: "meta d 0"},
		{what: "a copy of what is there is none", want: "d=abcdefgh e=abcdefgh", have: "d=abcdefgh", gather: "copy d .flit/n1", put: "move .flit/n1 e", dress: "meta e 1"},
		{what: "one basis of two", want: "b=abcdefgh1 c=abcdefgh2", have: "a=abcdefgh", gather: "delta a .flit/n1 0; delta a .flit/n2 1", put: "remove a; move .flit/n1 b; move .flit/n2 c", dress: "meta b 0; meta c 1"},
		{what: "one that is moved", want: "b=abcdefgh c=abcdefgh2", have: "a=abcdefgh", gather: "delta a .flit/n1 1", put: "move a b; move .flit/n1 c", dress: "meta c 1"},
		{what: "one that is reserved", want: "b=abcdefgh2", have: ".flit/ .flit/n0=abcdefgh", log: ".flit/n1", gather: "delta .flit/n0 .flit/n2 0", put: "move .flit/n2 b", dress: "meta b 0"},
		{what: "no file at .flit", want: "b=abcdefgh2", have: ".flit=abcdefgh", gather: "fetch .flit/n1 0", put: "move .flit/n1 b", dress: "meta b 0"},
		{what: "one that stays", want: "b=abcdefgh2", have: "k=abcdefgh", rules: "-k", gather: "delta k .flit/n1 0", put: "move .flit/n1 b", dress: "meta b 0"},
	})
}

// TestNames: 31.1, the log has the first fresh name, what is staged the next ones, and what is stowed those behind.
func TestNames(t *testing.T) {
	hold(t, []example{
		{what: "names that there are", want: "a=1 b>x", have: ".flit/ .flit/n0=3 .flit/n1/ .flit/n3>x .flit/n5x", log: ".flit/n2", gather: "fetch .flit/n4 0; link .flit/n5 1", put: "move .flit/n4 a; move .flit/n5 b", dress: "meta a 0"},
		{what: "what stands at a name", want: "a=1 b=1", have: ".flit/ .flit/n0=1", log: ".flit/n1", gather: "copy .flit/n0 .flit/n2", put: "move .flit/n0 a; move .flit/n2 b", dress: "meta b 1"},
		{what: "all names are fresh", want: "a=1", have: ".flit/ .flit/n/ .flit/n00=1", gather: "", put: "move .flit/n00 a"},
		{what: "nothing is staged", want: "a=1 b=2", have: "a=2 b=1", put: "stow b .flit/n1; move a b; move .flit/n1 a"},
		{what: "something is", want: "a=1 b=2 c=3", have: "a=2 b=1", gather: "fetch .flit/n1 2", put: "move .flit/n1 c; stow b .flit/n2; move a b; move .flit/n2 a", dress: "meta c 2"},
		{
			what: "two rounds", want: "a=1 b=2 c=3 d=4 e=1 f>x", have: ".flit/ .flit/n1 a=2 b=1 c=4 d=3",
			gather: "copy b .flit/n2; link .flit/n3 5",
			put:    "move .flit/n2 e; move .flit/n3 f; stow b .flit/n4; move a b; move .flit/n4 a; stow d .flit/n5; move c d; move .flit/n5 c",
			dress:  "meta e 4",
		},
	})
}

// with gives a node another mode and time; links have no mode.
func with(l []api.Node, p string, mode, time int) []api.Node {
	for i := range l {
		if l[i].Path == p {
			l[i].Mode, l[i].Time = mode, time
		}
		if l[i].Kind == api.Link {
			l[i].Mode = 0
		}
	}
	return l
}

// meta is the mode and the time of what is at a path, or none.
func meta(l []api.Node, p string) [2]int {
	n, _ := tree.Find(l, p)
	return [2]int{n.Mode, n.Time}
}

// TestDress: 31.1, what stands there has another mode, or time.
func TestDress(t *testing.T) {
	pairs := [][2]int{{0, 0}, {0, 1}, {1, 0}, {1, 1}, {0, 1 << 40}, {4095, 0}}
	for _, c := range []struct{ what, want, have, rules, at, from string }{
		{what: "a file in place", want: "a=1", have: "a=1", at: "a", from: "a"},
		{what: "a link in place", want: "a>1", have: "a>1", at: "a", from: "a"},
		{what: "a directory in place", want: "a/ a/x=1", have: "a/ a/y=1", at: "a", from: "a"},
		{what: "a file that is moved", want: "b=1", have: "a=1", at: "b", from: "a"},
		{what: "one that is stowed", want: "a=1 b=2", have: "a=2 b=1", at: "a", from: "b"},
		{what: "one out of the reserved directory", want: "b=1", have: ".flit/ .flit/n9=1", at: "b", from: ".flit/n9"},
		{what: "one that is moved over another one", want: "a=1", have: "a=2 b=1", at: "a", from: "b"},
		{what: "a directory that is moved", want: "b/ b/x=1", have: "a/ a/x=1", at: "b", from: "a"},
		{what: "a file within it", want: "b/ b/x=1", have: "a/ a/x=1", at: "b/x", from: "a/x"},
		{what: "a link within it", want: "b/ b/l>2 b/x=1", have: "a/ a/l>2 a/x=1", at: "b/l", from: "a/l"},
		{what: "a directory within it", want: "b/ b/d/ b/x=1", have: "a/ a/d/ a/x=1", at: "b/d", from: "a/d"},
		{what: "a file that is copied", want: "a=1 b=1", have: "a=1", at: "b"},
		{what: "one that is copied over another one", want: "a=1 b=1", have: "a=1 b=2", at: "b"},
		{what: "a file that is fetched", want: "b=1", have: "a=2", at: "b"},
		{what: "one in place of another one", want: "a=1", have: "a=2", at: "a"},
		{what: "a link in place of a file", want: "a>1", have: "a=2", at: "a"},
		{what: "a link that is elsewhere", want: "b>1", have: "a>1", at: "b"},
		{what: "a directory", want: "b/", have: "a/", at: "b"},
		{what: "a directory in place of a file", want: "a/", have: "a=1", at: "a"},
		{what: "what is blocked", want: "a=1", have: "a/ a/k=1", rules: "-k"},
	} {
		for _, w := range pairs {
			for _, h := range pairs {
				want, have := with(sample.Nodes(c.want), c.at, w[0], w[1]), with(sample.Nodes(c.have), c.from, h[0], h[1])
				if c.from == "" {
					// What stands there now, or somewhere, says nothing.
					have = with(with(have, "a", h[0], h[1]), "b", h[0], h[1])
				}
				s, _ := stock.New(index.Of(want), have, api.Options{Del: true, Rules: sample.Rules(c.rules), Block: 4})
				p, e := Make(s, nil, api.Options{Block: 4})
				i, wanted := index.Find(s.Want, c.at)
				has := slices.Contains(p.Edits[len(p.Edits)-p.Dress:], api.Edit{Kind: api.EdMeta, To: c.at, N: i})
				if e != api.OK || has != (wanted && meta(want, c.at) != meta(have, c.from)) || c.at == "" && p.Dress > 0 {
					t.Errorf("%s, %v where %v is: %s, %d", c.what, w, h, told(p.Edits), e)
				}
			}
		}
	}
}

// TestWrong: 31.1, ErrArg of nil, and layer 29's error, with nothing beside it.
func TestWrong(t *testing.T) {
	for _, o := range []api.Options{{}, {Del: true, Block: 4, Piece: 16}, {Block: -1}} {
		if p, e := Make(nil, nil, o); !Same(p, Plan{}) || e != api.ErrArg {
			t.Errorf("of nil: %v, %d", p, e)
		}
		if p, e := Make(nil, []match.Pair{{}}, o); !Same(p, Plan{}) || e != api.ErrArg {
			t.Errorf("of nil, with a pair: %v, %d", p, e)
		}
	}
	// What New never tells: an entry that would have to come ahead of itself.
	s := &stock.Stock{Want: []api.Entry{{Kind: api.File}, {Path: "a", Kind: api.Dir, Mode: 1}}, Wanted: []bool{true, true}}
	if p, e := Make(s, nil, api.Options{}); !Same(p, Plan{}) || e != api.ErrOrder {
		t.Errorf("without an order: %v, %d", p, e)
	}
	// A new stock without anything is none that is missing.
	if p, e := Make(&stock.Stock{}, nil, api.Options{}); !Same(p, Plan{Log: ".flit/n0"}) || e != api.OK {
		t.Errorf("of nothing: %v, %d", p, e)
	}
}

// TestBytes: 31.1, of how many bytes the entries are that are asked for.
func TestBytes(t *testing.T) {
	for _, c := range []struct {
		what, want, have string
		bytes            int
	}{
		{"nothing", "", "", 0},
		{"what is here, moved, and copied", "a=123 b/ b/x=1234 c=123", "a=123 d/ d/x=1234", 0},
		{"what is fetched", "a=123 b/ b/x=1234", "", 7},
		{"what is made by a basis", "a=somethingold,andnew", "a=somethingold", 19},
		{"both, and links", "a=somethingold,andnew b=12 l>12345", "a=somethingold", 21},
		{"a file without bytes", "a b=1", "", 1},
	} {
		s, unlike, o := example{what: c.what, want: c.want, have: c.have}.made(t)
		p, _ := Make(s, unlike, o)
		if n := Bytes(p, s); n != c.bytes {
			t.Errorf("%s: %d, want %d", c.what, n, c.bytes)
		}
		if n := Bytes(p, nil); n != 0 {
			t.Errorf("%s: %d of nil", c.what, n)
		}
	}
}

// TestBytesOther: 31.1, of plans that Make didn't tell.
func TestBytesOther(t *testing.T) {
	s, _, _ := example{want: "a=1 b=22 c=4444 d=88888888"}.made(t)
	for _, c := range []struct {
		what  string
		edits []api.Edit
		bytes int
	}{
		{"none", nil, 0},
		{"each kind", []api.Edit{{Kind: 0}, {Kind: 1}, {Kind: 2}, {Kind: 4}, {Kind: 5}, {Kind: 6}, {Kind: 7}, {Kind: 8}, {Kind: 9}, {Kind: 10}, {Kind: -3}}, 1},
		{"a delta and fetches", []api.Edit{{Kind: api.EdDelta, N: 1}, {Kind: api.EdFetch, N: 3}, {Kind: api.EdFetch, N: 0}}, 11},
		{"no such entries", []api.Edit{{Kind: api.EdFetch, N: 4}, {Kind: api.EdDelta, N: -1}, {Kind: api.EdFetch, N: math.MaxInt}, {Kind: api.EdDelta, N: math.MinInt}}, 0},
		{"some such entries", []api.Edit{{Kind: api.EdFetch, N: 4}, {Kind: api.EdDelta, N: 3}, {Kind: api.EdFetch, N: -1}, {Kind: api.EdFetch, N: 2}}, 12},
	} {
		if n := Bytes(Plan{Edits: c.edits, Ways: make([]match.Way, 2), Gather: 1}, s); n != c.bytes {
			t.Errorf("%s: %d, want %d", c.what, n, c.bytes)
		}
		if n := Bytes(Plan{Edits: c.edits}, nil); n != 0 {
			t.Errorf("%s: %d of nil", c.what, n)
		}
		if n := Bytes(Plan{Edits: c.edits}, &stock.Stock{}); n != 0 {
			t.Errorf("%s: %d without entries", c.what, n)
		}
	}
}

// TestSame: 31.1, all parts.
func TestSame(t *testing.T) {
	full := func() Plan {
		return Plan{Edits: []api.Edit{{Kind: api.EdMove, From: "a", To: "b"}, {Kind: api.EdMeta, To: "b", N: 1}}, Gather: 1, Dress: 2, Ways: []match.Way{{Kind: match.Moved, From: 2}, {}}, Log: "l"}
	}
	if !Same(full(), full()) || !Same(Plan{}, Plan{}) || Same(full(), Plan{}) || Same(Plan{}, full()) {
		t.Errorf("whole plans")
	}
	if !Same(Plan{Edits: []api.Edit{}, Ways: []match.Way{}}, Plan{}) {
		t.Errorf("a list without elements is none")
	}
	for i, change := range []func(p *Plan){
		func(p *Plan) { p.Edits[0].Kind = 0 },
		func(p *Plan) { p.Edits[0].From = "" },
		func(p *Plan) { p.Edits[0].To = "" },
		func(p *Plan) { p.Edits[1].N = 0 },
		func(p *Plan) { p.Edits = p.Edits[:1] },
		func(p *Plan) { p.Edits = nil },
		func(p *Plan) { slices.Reverse(p.Edits) },
		func(p *Plan) { p.Gather = 0 },
		func(p *Plan) { p.Dress = -2 },
		func(p *Plan) { p.Ways[0].Kind = 0 },
		func(p *Plan) { p.Ways[0].From = 0 },
		func(p *Plan) { p.Ways = p.Ways[:1] },
		func(p *Plan) { p.Ways = nil },
		func(p *Plan) { slices.Reverse(p.Ways) },
		func(p *Plan) { p.Log = "" },
	} {
		p := full()
		change(&p)
		if Same(p, full()) || Same(full(), p) || !Same(p, p) {
			t.Errorf("the change %d isn't seen", i)
		}
	}
}

// TestMemory: R5, what is handed in isn't changed, and what is told is new.
func TestMemory(t *testing.T) {
	s, _, o := example{want: "a=1 b=2 d/ e=3 f=2 g>x", have: "a=2 b=1 e=3"}.made(t)
	want, have := slices.Clone(s.Want), slices.Clone(s.Have)
	wanted, stays, loose := slices.Clone(s.Wanted), slices.Clone(s.Stays), slices.Clone(s.Loose)
	e3 := match.Pair{Want: 3, Have: 2}
	unlike := sample.Hidden([]match.Pair{e3}, match.Pair{Want: 0, Have: 1})
	p, e := Make(s, unlike, o)
	again, _ := Make(s, unlike, o)
	if gather, put, dress := parts(t, p); e != api.OK || gather != "fetch .flit/n1 3; copy a .flit/n2; link .flit/n3 5" || put != "mkdir d; move .flit/n1 e; move .flit/n2 f; move .flit/n3 g; stow b .flit/n4; move a b; move .flit/n4 a" || dress != "meta d 2; meta e 3; meta f 4" {
		t.Errorf("%q, %q, %q, %d", gather, put, dress, e)
	}
	whole := Plan{Edits: slices.Clone(p.Edits), Gather: p.Gather, Dress: p.Dress, Ways: slices.Clone(p.Ways), Log: p.Log}
	clear(p.Edits)
	clear(p.Ways)
	if !Same(again, whole) {
		t.Errorf("asked twice: %v", again)
	}
	if !sample.Untouched(unlike, []match.Pair{e3}, match.Pair{Want: 0, Have: 1}) {
		t.Errorf("the pairs are changed")
	}
	if !slices.Equal(s.Want, want) || !slices.Equal(s.Have, have) || !slices.Equal(s.Wanted, wanted) || !slices.Equal(s.Stays, stays) || !slices.Equal(s.Loose, loose) {
		t.Errorf("the stock is changed")
	}
	in := again
	in.Edits = sample.Hidden(again.Edits, api.Edit{Kind: api.EdFetch})
	in.Ways = sample.Hidden(again.Ways, match.Way{})
	if n := Bytes(in, s); n != 1 || !Same(in, again) || !sample.Untouched(in.Edits, again.Edits, api.Edit{Kind: api.EdFetch}) || !sample.Untouched(in.Ways, again.Ways, match.Way{}) {
		t.Errorf("%d bytes", n)
	}
}

// TestOdd: R1, no panic, and an end, at whatever.
func TestOdd(t *testing.T) {
	entries := []api.Entry{{}, {Kind: api.Dir}, {Path: "a", Kind: api.File, Size: -9}, {Path: "a/b", Kind: api.File, Size: math.MaxInt}, {Path: "a", Kind: api.Dir}, {Path: "c", Kind: api.Dir}, {Path: "c/a", Kind: api.File}, {Path: "a/b", Kind: api.Link}, {Path: strings.Repeat("a/", 20), Kind: api.Dir}, {Path: "//", Kind: 9, Mode: -1}, {Path: ".flit", Kind: api.File}, {Path: ".flit/a", Kind: api.Dir, Time: -1}}
	all := slices.Repeat([]bool{true}, 20)
	var great []api.Entry
	for i := range 3000 {
		great = append(great, api.Entry{Path: strconv.Itoa(i), Kind: api.Link})
	}
	unlike := []match.Pair{{Want: -1, Have: 4}, {Want: math.MaxInt, Have: math.MinInt}, {Want: 2, Have: 2}, {}}
	for i, s := range []*stock.Stock{
		nil,
		{},
		{Want: entries},
		{Have: entries},
		{Want: entries, Have: entries},
		{Want: entries[2:], Wanted: all},
		{Want: entries[2:], Have: entries, Wanted: all, Stays: make([]bool, 99), Loose: make([]bool, 1)},
		{Want: entries, Have: entries, Wanted: all, Stays: make([]bool, 99), Loose: make([]bool, 1)},
		{Want: entries, Have: entries[3:], Wanted: all[:2], Stays: all[:3], Loose: all},
		{Wanted: all, Stays: all, Loose: all},
		// More is to be made ready than there are names.
		{Want: great, Wanted: slices.Repeat([]bool{true}, len(great))},
	} {
		for _, block := range []int{math.MinInt, -1, 0, 1, 64, math.MaxInt} {
			p, e := Make(s, unlike, api.Options{Block: block, Del: true, Rules: []api.Rule{{}}})
			if e != api.OK && !Same(p, Plan{}) || e == api.OK && p.Log != ".flit/n0" {
				t.Errorf("%d: %v, %d", i, p, e)
			}
			Bytes(p, s)
		}
	}
}

// slow makes a plan as the document's words tell it, each part by going over all entries of one kind.
func slow(t *testing.T, s *stock.Stock, unlike []match.Pair, size int) Plan {
	t.Helper()
	p := Plan{Ways: match.Ways(s, unlike)}
	fresh := func() string {
		for i := 0; ; i++ {
			name := ".flit/n" + strconv.Itoa(i)
			if _, ok := s.At(name); !ok && !strings.Contains(p.Log, " "+name+" ") {
				p.Log += " " + name + " "
				return name
			}
		}
	}
	log := fresh()
	staged, spare := make([]string, len(s.Want)), []string(nil)
	for i, w := range p.Ways {
		if w.Kind == match.Copied || w.Kind >= match.Lacks && w.Kind != match.Made {
			staged[i] = fresh()
		}
	}
	for _, w := range p.Ways {
		if w.Kind == match.Moved {
			spare = append(spare, fresh())
		}
	}
	for i, to := range staged {
		switch k := best(s, i, size); {
		case to == "":
			continue
		case s.Want[i].Kind == api.Link:
			p.Edits = append(p.Edits, api.Edit{Kind: api.EdLink, To: to, N: i})
		case p.Ways[i].Kind == match.Copied:
			p.Edits = append(p.Edits, api.Edit{Kind: api.EdCopy, From: s.Have[p.Ways[i].From].Path, To: to})
		case k < 0:
			p.Edits = append(p.Edits, api.Edit{Kind: api.EdFetch, To: to, N: i})
		default:
			p.Edits = append(p.Edits, api.Edit{Kind: api.EdDelta, From: s.Have[k].Path, To: to, N: i})
		}
	}
	p.Gather, p.Log = len(p.Edits), log
	put, e := order.Of(s, p.Ways, staged, spare)
	if e != api.OK {
		t.Fatalf("no order: %d", e)
	}
	p.Edits = append(p.Edits, put...)
	return p
}

// best is the place of the best basis of an entry, or -1.
func best(s *stock.Stock, i, size int) int {
	best, most := -1, 0
	for k, h := range s.Have {
		w, n := s.Want[i], 0
		for slot := range w.Sketch {
			if w.Sketch[slot] == h.Sketch[slot] {
				n++
			}
		}
		if w.Kind != api.File || h.Kind != api.File || w.Size < size || h.Size < size || h.Path == ".flit" {
			continue
		}
		if n > most || n == most && n > 0 && h.Path == w.Path {
			best, most = k, n
		}
	}
	return best
}

// worded gives files longer bytes, out of few words: which are alike stay so, and of the others many are so in part.
func worded(l []api.Node) []api.Node {
	words := []string{"one.", "two,two,", "threethree", "4", "five-five-five", "six6"}
	l = slices.Clone(l)
	for i := range l {
		if l[i].Kind != api.File {
			continue
		}
		n, _ := strconv.Atoi(l[i].Data)
		l[i].Data += words[n%6] + words[n/6%6] + words[n*5/7%6]
	}
	return l
}

// drawn draws both trees, and how they are made one; what takes part of the sender's is drawn.
func drawn(r *rand.Rand, n int) (sent, have []api.Node, o api.Options) {
	want, have, o := sample.DrawTrees(r.Intn, n)
	if n%2 == 0 {
		want, have = worded(want), worded(have)
	}
	for i := range want {
		if r.Intn(4) == 0 {
			want = with(want, want[i].Path, r.Intn(2), r.Intn(2))
		}
	}
	o.Block, o.Piece = api.MinBlock+r.Intn(20), api.MinPiece
	return choice.Sent(want, o.Rules), have, o
}

// dressing is the edits that a tree still needs, if all that is wanted is in place.
func dressing(s *stock.Stock, at, sent []api.Node) []api.Edit {
	var l []api.Edit
	for i, n := range sent {
		if there, ok := tree.Find(at, n.Path); s.Wanted[i] && (!ok || there.Mode != n.Mode || there.Time != n.Time) {
			l = append(l, api.Edit{Kind: api.EdMeta, To: n.Path, N: i})
		}
	}
	return l
}

// TestDrawn: 31.1 and 31.2, of drawn trees: all edits can be done, and make the mirror; of that there is nothing more to do.
func TestDrawn(t *testing.T) {
	r := rand.New(rand.NewSource(31))
	counts := map[int]int{}
	for n := range 1500 {
		sent, have, o := drawn(r, n)
		s, e := stock.New(index.Of(sent), have, o)
		if e != api.OK {
			t.Fatalf("%s, %s: %d", sample.Words(sent), sample.Words(have), e)
		}
		var unlike []match.Pair
		for range 3 {
			p, e := Make(s, unlike, o)
			want := slow(t, s, unlike, o.Block)
			at, i, err := check.Run(sample.Prepared(have), want.Edits, sent)
			l := dressing(s, at, sent)
			want.Edits, want.Dress = append(want.Edits, l...), len(l)
			if e != api.OK || err != api.OK || !Same(p, want) {
				t.Fatalf("%s out of %s: %v, %d, want %v (%d at %d)", sample.Words(sent), sample.Words(have), p, e, want, err, i)
			}
			reaches(t, sent, have, o, p)
			for _, e := range p.Edits {
				counts[e.Kind]++
			}
			asked := 0
			for i, w := range p.Ways {
				if w.Kind == match.Lacks {
					asked += len(sent[i].Data)
				}
			}
			if b := Bytes(p, s); b != asked {
				t.Fatalf("%d bytes, want %d", b, asked)
			}
			if l := match.Pairs(s, p.Ways); len(l) > 0 {
				unlike = append(unlike, l[r.Intn(len(l))])
			}
		}
	}
	for kind := api.EdCopy; kind <= api.EdMeta; kind++ {
		if counts[kind] < 400 {
			t.Errorf("too few are of the kind %d: %v", kind, counts)
		}
	}
}

// reaches: 31.2, a plan's edits make the mirror, and the plan of what is then has none.
func reaches(t *testing.T, sent, have []api.Node, o api.Options, p Plan) {
	t.Helper()
	whole := mirror.Of(sent, have, o.Rules, o.Del)
	if !check.Reaches(sample.Prepared(have), p.Edits, sent, whole) {
		t.Fatalf("%v: %s out of %s: %s don't make the mirror", o, sample.Words(sent), sample.Words(have), told(p.Edits))
	}
	end, _, _ := check.Run(sample.Prepared(have), p.Edits, sent)
	for _, have := range [][]api.Node{whole, end} {
		s, e := stock.New(index.Of(sent), have, o)
		if p, err := Make(s, nil, o); e != api.OK || err != api.OK || len(p.Edits) != 0 || p.Gather != 0 || p.Dress != 0 {
			t.Fatalf("%v: %s out of the mirror %s: %v, %d", o, sample.Words(sent), sample.Words(have), p, err)
		}
	}
}

// TestUnlike: 31.2, sums that are one of unlike files change nothing of what is made, if each such pair is told.
func TestUnlike(t *testing.T) {
	r := rand.New(rand.NewSource(32))
	misled, told := 0, 0
	for n := range 1500 {
		sent, have, o := drawn(r, 2*n+1)
		want := index.Of(sent)
		for i := range want {
			k := r.Intn(len(have) + 1)
			if k < len(have) && have[k].Kind == want[i].Kind && len(have[k].Data) == want[i].Size {
				switch want[i].Kind {
				case api.File:
					want[i].Sum = mix.Of([]byte(have[k].Data))
				case api.Dir:
					want[i].Sum = index.Of(have)[k].Sum
				}
			}
		}
		s, e := stock.New(want, have, o)
		if e != api.OK {
			t.Fatal(e)
		}
		var unlike []match.Pair
		for i := range sent {
			for k := range have {
				if sent[i].Kind == api.File && s.Alike(i, k) && sent[i].Data != have[k].Data {
					unlike = append(unlike, match.Pair{Want: i, Have: k})
				}
			}
		}
		p, e := Make(s, unlike, o)
		whole := mirror.Of(sent, have, o.Rules, o.Del)
		if e != api.OK || !check.Reaches(sample.Prepared(have), p.Edits, sent, whole) {
			t.Fatalf("%v: %s out of %s: %v, %d", o, sample.Words(sent), sample.Words(have), p, e)
		}
		told += len(unlike)
		if p, _ := Make(s, nil, o); !check.Reaches(sample.Prepared(have), p.Edits, sent, whole) {
			misled++
		}
	}
	if misled < 500 || told < 1000 {
		t.Errorf("too few sums misled: %d, of %d pairs", misled, told)
	}
}

// TestMoved: 31.2 and P5, where things were moved elsewhere nothing is to copy, to make by a basis, or to fetch.
func TestMoved(t *testing.T) {
	r := rand.New(rand.NewSource(33))
	moved := 0
	for range 2000 {
		have := worded(sample.DrawTree(r.Intn, 150))
		want := sample.DrawMoved(r.Intn, tree.Shown(have))
		o := api.Options{Del: true, Block: api.MinBlock}
		s, _ := stock.New(index.Of(want), have, o)
		p, e := Make(s, nil, o)
		if n := edit.Count(p.Edits, api.EdCopy, api.EdDelta, api.EdFetch); n != 0 || Bytes(p, s) != 0 || e != api.OK {
			t.Fatalf("%s out of %s: %s, %d", sample.Words(want), sample.Words(have), told(p.Edits), e)
		}
		if !check.Reaches(sample.Prepared(have), p.Edits, want, want) {
			t.Fatalf("%s out of %s: %s", sample.Words(want), sample.Words(have), told(p.Edits))
		}
		moved += edit.Count(p.Edits, api.EdMove)
	}
	if moved < 1000 {
		t.Errorf("too few were moved: %d", moved)
	}
}

// TestMany: R1, great stocks end soon: all there may be, in files that are alike in part, is made by a basis, or changes places.
func TestMany(t *testing.T) {
	var want, have []api.Node
	for i := range 512 {
		p := strconv.Itoa(1000 + i)
		want = append(want, api.Node{Path: p, Kind: api.File, Mode: 1, Data: strings.Repeat("new", 99) + p})
		have = append(have, api.Node{Path: p, Kind: api.File, Data: strings.Repeat("new", 99) + "x"})
	}
	o := api.Options{Del: true, Block: 64}
	s, e := stock.New(index.Of(want), have, o)
	p, err := Make(s, nil, o)
	if e != api.OK || err != api.OK || p.Gather != 512 || p.Dress != 512 || len(p.Edits) != 1536 || edit.Count(p.Edits, api.EdDelta) != 512 || Bytes(p, s) != 512*301 {
		t.Errorf("by a basis: %d, %d, %d edits, %d", p.Gather, p.Dress, len(p.Edits), err)
	}
	if want := (api.Edit{Kind: api.EdDelta, From: "1511", To: ".flit/n512", N: 511}); p.Edits[511] != want {
		t.Errorf("%v", p.Edits[511])
	}
	for i := range 512 {
		have[i].Data = want[i^1].Data
	}
	s, e = stock.New(index.Of(want), have, o)
	p, err = Make(s, nil, o)
	if e != api.OK || err != api.OK || p.Gather != 0 || p.Dress != 512 || len(p.Edits) != 256+512+512 || edit.Count(p.Edits, api.EdStow) != 256 {
		t.Errorf("changed places: %d, %d, %d edits, %d", p.Gather, p.Dress, len(p.Edits), err)
	}
}
