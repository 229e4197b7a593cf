package order

import (
	"flitting/api"
	"flitting/check"
	"flitting/choice"
	"flitting/edit"
	"flitting/index"
	"flitting/match"
	"flitting/mirror"
	"flitting/paths"
	"flitting/sample"
	"flitting/stock"
	"flitting/tree"
	"math"
	"math/rand"
	"slices"
	"strconv"
	"strings"
	"testing"
)

// example is what is wanted and what there is, in words, and the edits, each in a line, with ; between them.
type example struct {
	what, want, have, rules string
	keep                    bool   // nothing is deleted
	unlike                  string // pairs: the path of what is wanted, = and that of what there is
	edits                   string
}

// made makes a stock of an example, and its ways.
func (c example) made(t *testing.T) (*stock.Stock, []match.Way) {
	t.Helper()
	want, have := sample.Nodes(c.want), sample.Nodes(c.have)
	s, e := stock.New(index.Of(want), have, api.Options{Rules: sample.Rules(c.rules), Del: !c.keep})
	if e != api.OK {
		t.Fatalf("%s: no trees, %d", c.what, e)
	}
	var unlike []match.Pair
	for word := range strings.FieldsSeq(c.unlike) {
		w, h, _ := strings.Cut(word, "=")
		i, ok := index.Find(s.Want, w)
		k, there := index.Find(s.Have, h)
		if !ok || !there {
			t.Fatalf("%s: no pair %s", c.what, word)
		}
		unlike = append(unlike, match.Pair{Want: i, Have: k})
	}
	return s, match.Ways(s, unlike)
}

// names is where things are made ready, and where they may be stowed: s and p, each with a number.
func names(s *stock.Stock) (staged, spare []string) {
	for i := range s.Want {
		staged = append(staged, ".flit/s"+strconv.Itoa(i))
		spare = append(spare, ".flit/p"+strconv.Itoa(i))
	}
	return staged, spare
}

// told is edits in words.
func told(l []api.Edit) string {
	var words []string
	for _, e := range l {
		words = append(words, edit.Line(e))
	}
	return strings.Join(words, "; ")
}

// hold holds the edits of some examples against what is wanted.
func hold(t *testing.T, l []example) {
	t.Helper()
	for _, c := range l {
		s, ways := c.made(t)
		staged, spare := names(s)
		got, e := Of(s, ways, staged, spare)
		if told(got) != c.edits || e != api.OK {
			t.Errorf("%s: %q, %d, want %q", c.what, told(got), e, c.edits)
		}
	}
}

// TestNames: 29.1, the first fresh names.
func TestNames(t *testing.T) {
	have := index.Of(sample.Nodes(".flit/ .flit/n/ .flit/n0/ .flit/n0/n2 .flit/n01 .flit/n3=x .flit/n4>x .flit/n7x a/ a/n1 n5"))
	for n, want := range []string{"", "1", "1 2", "1 2 5", "1 2 5 6", "1 2 5 6 7", "1 2 5 6 7 8", "1 2 5 6 7 8 9", "1 2 5 6 7 8 9 10", "1 2 5 6 7 8 9 10 11"} {
		var l []string
		for number := range strings.FieldsSeq(want) {
			l = append(l, ".flit/n"+number)
		}
		if got := Names(have, n); !slices.Equal(got, l) {
			t.Errorf("%d: %v, want %v", n, got, l)
		}
	}
	if got := Names(nil, 3); !slices.Equal(got, []string{".flit/n0", ".flit/n1", ".flit/n2"}) {
		t.Errorf("of nothing: %v", got)
	}
}

// TestNamesMany: 29.1, as many as there may be, the nearest.
func TestNamesMany(t *testing.T) {
	for n, want := range map[int]int{math.MinInt: 0, -1: 0, 0: 0, 1: 1, 2047: 2047, 2048: 2048, 2049: 2048, math.MaxInt: 2048} {
		l := Names(nil, n)
		if len(l) != want || want > 0 && l[want-1] != ".flit/n"+strconv.Itoa(want-1) {
			t.Errorf("%d: %d names", n, len(l))
		}
	}
	// Fresh ones are behind all that there are.
	var have []api.Entry
	for i := range 5000 {
		have = append(have, api.Entry{Path: ".flit/n" + strconv.Itoa(4999-i), Kind: api.Link}, api.Entry{})
	}
	l := Names(have, 2048)
	for i, p := range l {
		if p != ".flit/n"+strconv.Itoa(5000+i) {
			t.Fatalf("%d: %s", i, p)
		}
	}
	if len(l) != 2048 {
		t.Errorf("%d names", len(l))
	}
}

// TestPlain: 29.2, what is removed and put where nothing goes round.
func TestPlain(t *testing.T) {
	hold(t, []example{
		{what: "nothing"},
		{what: "all is here", want: "a/ a/b=1 l>x", have: "a/ a/b=1 l>x"},
		{what: "all is new", want: "a/ a/b/ a/b/x=1 c=1 l>x", edits: "mkdir a; mkdir a/b; move .flit/s2 a/b/x; move .flit/s3 c; move .flit/s4 l"},
		{what: "all goes, the last one first", have: "a/ a/b/ a/b/x a-b c l>x", edits: "remove l; remove c; remove a-b; remove a/b/x; remove a/b; remove a"},
		{what: "nothing is deleted", have: "a/ a/b c l>x", keep: true},
		{what: "a file is renamed", want: "b=1", have: "a=1", edits: "move a b"},
		{what: "a directory is renamed", want: "b/ b/l>1 b/x=1", have: "a/ a/l>1 a/x=1", edits: "move a b"},
		{what: "a file is copied", want: "a=1 b=1", have: "a=1", edits: "move .flit/s1 b"},
		{what: "a copy of one that goes", want: "b=1 c=1", have: "a=1", edits: "move a b; move .flit/s1 c"},
		{what: "out of a directory that goes", want: "b=1", have: "a/ a/x=1", edits: "move a/x b; remove a"},
		{what: "a directory goes as soon as it is empty", want: "b=1 c=2 d=3", have: "a/ a/x=1 a/y/ a/y/z=2 a/z=4", edits: "remove a/z; move a/x b; move a/y/z c; remove a/y; remove a; move .flit/s2 d"},
		{what: "into a directory that is made", want: "b/ b/c/ b/c/x=1", have: "a=1", edits: "mkdir b; mkdir b/c; move a b/c/x"},
		{what: "into a directory that is there", want: "b/ b/x=1", have: "a=1 b/", edits: "move a b/x"},
		{what: "a directory into one that is made", want: "b/ b/a/ b/a/x=1 b/y", have: "a/ a/x=1", edits: "mkdir b; move a b/a; move .flit/s3 b/y"},
		{what: "a part of a directory", want: "b/ b/x=1", have: "a/ a/b/ a/b/x=1 a/y", edits: "remove a/y; move a/b b; remove a"},
		{what: "out of the reserved directory", want: "a=1 d/ d/x=2 d/y=3", have: ".flit/ .flit/n0=1 .flit/n1 .flit/s/ .flit/s/x=2 .flit/s/y=3", edits: "move .flit/n0 a; move .flit/s d"},
		{what: "what is reserved is not removed", have: ".flit/ .flit/s/ .flit/s/x .flit/y>1 a", edits: "remove a"},
		{what: "nor a file in its place", want: "b=1", have: ".flit=1 a=1", edits: "move a b"},
		{what: "what is shut out stays", want: "c=1", have: "a/ a/k=2 a/x=1 k/ k/x=1", rules: "-k", edits: "move a/x c"},
		{what: "a blocked entry", want: "a=1 b=1", have: "a/ a/k=1", rules: "-k", edits: "move .flit/s1 b"},
		{what: "what isn't wanted beneath what is moved", want: "d/ d/k/ d/k/x=1 d/x=1", have: "a/ a/k/ a/k/x=1 a/x=1", rules: "-/d/k", edits: "remove a/k/x; remove a/k; move a d"},
		{what: "what isn't wanted, nor there, beneath", want: "d/ d/k=1 d/x=1", have: "a/ a/x=1", rules: "-k", edits: "mkdir d; move a/x d/x; remove a"},
	})
}

// TestPlace: 29.2, what is put where something is.
func TestPlace(t *testing.T) {
	hold(t, []example{
		{what: "a file over a file", want: "a=1", have: "a=2", edits: "move .flit/s0 a"},
		{what: "a file over a link", want: "a=1", have: "a>2", edits: "move .flit/s0 a"},
		{what: "a link over a file", want: "a>1", have: "a=2", edits: "move .flit/s0 a"},
		{what: "a link over a link", want: "a>1", have: "a>2", edits: "move .flit/s0 a"},
		{what: "a file that is moved over a file", want: "a=1", have: "a=2 b=1", edits: "move b a"},
		{what: "a file that is moved over a link", want: "a=1", have: "a>2 b=1", edits: "move b a"},
		{what: "a file that is copied over a file", want: "a=1 b=1", have: "a=2 b=1", edits: "move .flit/s0 a"},
		{what: "a file over one that is copied elsewhere", want: "a=2 b=1 c=1", have: "a=1", edits: "move a b; move .flit/s0 a; move .flit/s2 c"},
		{what: "an unlike file in its place", want: "a=1", have: "a=1", unlike: "a=a", edits: "move .flit/s0 a"},
		{what: "a directory in place of a file", want: "a/ a/x=2", have: "a=1", edits: "remove a; mkdir a; move .flit/s1 a/x"},
		{what: "a directory in place of a link", want: "a/", have: "a>1", edits: "remove a; mkdir a"},
		{what: "a file in place of a directory", want: "a=1", have: "a/ a/b/ a/b/y>1 a/x=2", edits: "remove a/x; remove a/b/y; remove a/b; remove a; move .flit/s0 a"},
		{what: "a link in place of a directory", want: "a>1", have: "a/", edits: "remove a; move .flit/s0 a"},
		{what: "a directory that is moved in place of a file", want: "b/ b/x=1", have: "a/ a/x=1 b=2", edits: "remove b; move a b"},
		{what: "a directory that is moved in place of a link", want: "b/ b/x=1", have: "a/ a/x=1 b>2", edits: "remove b; move a b"},
		{what: "a directory in place of a file that is moved", want: "a/ a/y=2 b=1", have: "a=1", edits: "move a b; mkdir a; move .flit/s1 a/y"},
		{what: "a file in place of a directory that is moved", want: "a=2 b/ b/x=1", have: "a/ a/x=1", edits: "move a b; move .flit/s0 a"},
		{what: "a file in place of a directory of which a part is moved", want: "a=2 b=1", have: "a/ a/x=1 a/y", edits: "remove a/y; move a/x b; remove a; move .flit/s0 a"},
		{what: "one behind the other", want: "b=1 c=2 d=3", have: "a=1 b=2 c=3", edits: "move c d; move b c; move a b"},
		{what: "one behind the other, the other way round", want: "a=2 b=3 c=4", have: "a=1 b=2 c=3 d=4", edits: "move b a; move c b; move d c"},
		{what: "over a file that is copied", want: "a=1 b=2 c=2", have: "a=1 b=1 c=2", edits: "move .flit/s1 b"},
		{what: "out of the reserved directory over a file", want: "a=1", have: ".flit/ .flit/n0=1 a=2", edits: "move .flit/n0 a"},
		{what: "over a file without deletion", want: "a=1 b=2", have: "a=2 c=1", keep: true, edits: "move a b; move .flit/s0 a"},
		{what: "over a file that stands in for one shut out", want: "a=1 k=1", have: "a=2 k=3", rules: "-k", edits: "move .flit/s0 a"},
	})
}

// TestRound: 29.2, where steps go round some are stowed.
func TestRound(t *testing.T) {
	hold(t, []example{
		{what: "two files change places", want: "a=1 b=2", have: "a=2 b=1", edits: "stow b .flit/p0; move a b; move .flit/p0 a"},
		{what: "three files", want: "a=1 b=2 c=3", have: "a=2 b=3 c=1", edits: "stow c .flit/p0; move b c; move a b; move .flit/p0 a"},
		{what: "three files, the other way round", want: "a=1 b=2 c=3", have: "a=3 b=1 c=2", edits: "stow b .flit/p0; move c b; move a c; move .flit/p0 a"},
		{what: "two pairs", want: "a=1 b=2 c=3 d=4", have: "a=2 b=1 c=4 d=3", edits: "stow b .flit/p0; move a b; move .flit/p0 a; stow d .flit/p1; move c d; move .flit/p1 c"},
		{what: "two pairs, one within the other", want: "a=1 b=2 c=3 d=4", have: "a=4 b=3 c=2 d=1", edits: "stow d .flit/p0; move a d; move .flit/p0 a; stow c .flit/p1; move b c; move .flit/p1 b"},
		{what: "a file in place of the directory that it is in", want: "a=1", have: "a/ a/x=1", edits: "stow a/x .flit/p0; remove a; move .flit/p0 a"},
		{what: "a file deep in the directory", want: "a=1", have: "a/ a/b/ a/b/x=1 a/y", edits: "remove a/y; stow a/b/x .flit/p0; remove a/b; remove a; move .flit/p0 a"},
		{what: "a file in the directory in its place", want: "a/ a/x=1", have: "a=1", edits: "stow a .flit/p0; mkdir a; move .flit/p0 a/x"},
		{what: "a file deep in the directory in its place", want: "a/ a/b/ a/b/x=1 a/y", have: "a=1", edits: "stow a .flit/p0; mkdir a; mkdir a/b; move .flit/p0 a/b/x; move .flit/s3 a/y"},
		{what: "a directory and a file", want: "d=2 f/ f/x=1", have: "d/ d/x=1 f=2", edits: "stow f .flit/p0; move d f; move .flit/p0 d"},
		{what: "a file and a directory", want: "d/ d/x=1 f=2", have: "d=2 f/ f/x=1", edits: "stow f .flit/p0; move d f; move .flit/p0 d"},
		{what: "two that need each other's directories", want: "a=2 b=1", have: "a/ a/x=1 b/ b/x=2", edits: "stow b/x .flit/p0; remove b; move a/x b; remove a; move .flit/p0 a"},
		{what: "two in each other's directories", want: "a/ a/x=2 b/ b/x=1", have: "a=1 b=2", edits: "stow b .flit/p0; mkdir b; move a b/x; mkdir a; move .flit/p0 a/x"},
		{what: "the first one for which another waits, though it isn't in the round", want: "a/ a/w=5 a/x=1 e=6", have: "a=1 e=5", edits: "stow e .flit/p0; move .flit/s3 e; stow a .flit/p1; mkdir a; move .flit/p0 a/w; move .flit/p1 a/x"},
		{what: "not one that waits for a round, and for which none waits", want: "a/ a/w=5 a/x=1", have: "a=1 e=5", edits: "stow a .flit/p0; mkdir a; move e a/w; move .flit/p0 a/x"},
		{what: "nor a loose one", want: "a/ a/w=5 a/x=1", have: ".flit/ .flit/n0=5 a=1", edits: "stow a .flit/p0; mkdir a; move .flit/n0 a/w; move .flit/p0 a/x"},
		{what: "one ahead of a round", want: "a/ a/x=3 b=1 c=2", have: "a=1 b=2 c=3", edits: "stow c .flit/p0; move b c; move a b; mkdir a; move .flit/p0 a/x"},
		{what: "one of one sum with the one in its place", want: "a=1 b=1", have: "a=1 b=1", unlike: "a=a b=b", edits: "stow b .flit/p0; move a b; move .flit/p0 a"},
		{what: "what was stowed waits on", want: "a=1 b/ b/x=2", have: "a=2 b=1", edits: "stow b .flit/p0; mkdir b; move a b/x; move .flit/p0 a"},
		{what: "beneath a directory that is here", want: "d/ d/a=1 d/b=2", have: "d/ d/a=2 d/b=1", edits: "stow d/b .flit/p0; move d/a d/b; move .flit/p0 d/a"},
		{what: "two directories' files", want: "a/ a/x=1 b/ b/x=2", have: "a/ a/x=2 b/ b/x=1", edits: "stow b/x .flit/p0; move a/x b/x; move .flit/p0 a/x"},
	})
}

// TestWrong: 29.2, what can't be ordered.
func TestWrong(t *testing.T) {
	s, ways := example{want: "a=1 b=2 c=3 d=4", have: "a=2 b=1 c=4 d=3"}.made(t)
	staged, spare := names(s)
	if l, e := Of(nil, nil, nil, spare); len(l) != 0 || e != api.ErrArg {
		t.Errorf("nil: %v, %d", l, e)
	}
	if l, e := Of(nil, ways, staged, spare); len(l) != 0 || e != api.ErrArg {
		t.Errorf("nil with ways: %v, %d", l, e)
	}
	for n := range 6 {
		for m := range 6 {
			want := api.ErrArg
			if n == 4 && m == 4 {
				want = api.OK
			}
			l, e := Of(s, append(slices.Clone(ways), match.Way{Kind: match.Lacks})[:min(n, 5)], append(slices.Clone(staged), "x")[:min(m, 5)], spare)
			if e != want || (len(l) != 0) != (want == api.OK) {
				t.Errorf("%d ways, %d staged: %v, %d", n, m, l, e)
			}
		}
	}
	for n, want := range []api.Errno{api.ErrOrder, api.ErrOrder, api.OK, api.OK, api.OK} {
		l, e := Of(s, ways, staged, spare[:n])
		if e != want || (len(l) == 6) != (want == api.OK) || (len(l) == 0) != (want != api.OK) {
			t.Errorf("%d spare names: %v, %d", n, l, e)
		}
		// Too few are told behind what may not be.
		if l, e := Of(s, ways, nil, spare[:n]); len(l) != 0 || e != api.ErrArg {
			t.Errorf("%d spare names, nothing staged: %v, %d", n, l, e)
		}
	}
	s, ways = example{want: "a=1 b=2", have: "c=1"}.made(t)
	if l, e := Of(s, ways, []string{"", "x"}, nil); told(l) != "move c a; move x b" || e != api.OK {
		t.Errorf("without spare names: %s, %d", told(l), e)
	}
}

// TestOdd: R1, no panic, and an end, at whatever.
func TestOdd(t *testing.T) {
	entries := []api.Entry{{}, {Kind: api.Dir}, {Path: "a", Kind: api.File}, {Path: "a/b", Kind: api.File}, {Path: "a", Kind: api.Dir}, {Path: "c", Kind: api.Dir}, {Path: "c/a", Kind: api.File}, {Path: "a/b", Kind: api.File}, {Path: strings.Repeat("a/", 20), Kind: api.Dir}, {Path: "//", Kind: 9}, {Path: ".flit", Kind: api.File}, {Path: ".flit/a", Kind: api.Dir}}
	all := slices.Repeat([]bool{true}, 20)
	good, _ := example{want: "a/ a/b=1 c=2 l>1", have: "a=2 b/ b/b=1 c/ c/x l>1"}.made(t)
	numbers := []int{math.MinInt, -1, 0, 1, 2, 3, 5, 7, math.MaxInt}
	r := rand.New(rand.NewSource(3))
	for _, s := range []*stock.Stock{
		{},
		{Want: entries},
		{Have: entries},
		{Want: entries, Have: entries},
		{Want: entries, Have: entries, Wanted: all, Stays: make([]bool, 99), Loose: make([]bool, 1)},
		{Want: entries, Have: entries[3:], Wanted: all[:2], Stays: all[:3], Loose: all},
		{Wanted: all, Stays: all, Loose: all},
		good,
	} {
		for range 300 {
			ways, staged := make([]match.Way, len(s.Want)), make([]string, len(s.Want))
			for i := range ways {
				ways[i] = match.Way{Kind: r.Intn(9), From: numbers[r.Intn(len(numbers))]}
				if r.Intn(3) == 0 {
					ways[i].Kind = numbers[r.Intn(len(numbers))]
				}
			}
			l, e := Of(s, ways, staged, make([]string, r.Intn(4)))
			if e != api.OK && (e != api.ErrOrder || len(l) != 0) {
				t.Fatalf("%v, %v: %v, %d", s, ways, l, e)
			}
		}
	}
}

// TestMemory: R5, what is handed in isn't changed, and what is told is new.
func TestMemory(t *testing.T) {
	s, ways := example{want: "a=1 b=2 d/ e=3", have: "a=2 b=1 f"}.made(t)
	staged, spare := names(s)
	want, have := slices.Clone(s.Want), slices.Clone(s.Have)
	wanted, stays, loose := slices.Clone(s.Wanted), slices.Clone(s.Stays), slices.Clone(s.Loose)
	inWays, inStaged, inSpare := sample.Hidden(ways, match.Way{Kind: match.Made}), sample.Hidden(staged, "no"), sample.Hidden(spare[:1], "no")
	l, e := Of(s, inWays, inStaged, inSpare)
	again, _ := Of(s, inWays, inStaged, inSpare)
	if e != api.OK || told(l) != "remove f; mkdir d; move .flit/s3 e; stow b .flit/p0; move a b; move .flit/p0 a" {
		t.Errorf("%s, %d", told(l), e)
	}
	clear(l)
	if told(again) != "remove f; mkdir d; move .flit/s3 e; stow b .flit/p0; move a b; move .flit/p0 a" {
		t.Errorf("asked twice: %s", told(again))
	}
	if !sample.Untouched(inWays, ways, match.Way{Kind: match.Made}) || !sample.Untouched(inStaged, staged, "no") || !sample.Untouched(inSpare, spare[:1], "no") {
		t.Errorf("a list that was handed in is changed")
	}
	if !slices.Equal(s.Want, want) || !slices.Equal(s.Have, have) || !slices.Equal(s.Wanted, wanted) || !slices.Equal(s.Stays, stays) || !slices.Equal(s.Loose, loose) {
		t.Errorf("the stock is changed")
	}
	// Names behind the end of the list are none.
	if l, e := Of(s, inWays, inStaged, inSpare[:0]); len(l) != 0 || e != api.ErrOrder {
		t.Errorf("%v, %d", l, e)
	}
	entries := sample.Hidden(s.Have, api.Entry{Path: ".flit/n0"})
	p := Names(entries, 2)
	clear(p)
	if got := Names(entries, 2); !slices.Equal(got, []string{".flit/n0", ".flit/n1"}) || !sample.Untouched(entries, s.Have, api.Entry{Path: ".flit/n0"}) {
		t.Errorf("%v", got)
	}
}

// slow orders steps as the document's words tell it, each time by going over all.
type slow struct {
	s             *stock.Stock
	ways          []match.Way
	goes          []bool
	staged, spare []string
	steps         []job
	done          map[int]bool
	stowed        map[int]string // the names of those steps' entries
	edits         []api.Edit
}

// job is a step: a Remove of the entry at a place of Have, or a Put of that at a place of Want.
type job struct {
	remove bool
	at     int
}

// comesFrom tells whether an entry there is comes to be one that is wanted, by one of some kinds.
func (o *slow) comesFrom(k int, kinds ...int) bool {
	return slices.ContainsFunc(o.ways, func(w match.Way) bool { return w.From == k && slices.Contains(kinds, w.Kind) })
}

// taken tells whether an entry's place is taken.
func (o *slow) taken(k int) bool {
	h := o.s.Have[k]
	if !o.goes[k] || o.s.Loose[k] || h.Kind != api.File && h.Kind != api.Link {
		return false
	}
	i, ok := index.Find(o.s.Want, h.Path)
	return ok && o.s.Wanted[i] && (o.s.Want[i].Kind == api.File || o.s.Want[i].Kind == api.Link) && o.ways[i].Kind != match.Here
}

// list lists the steps.
func (o *slow) list() {
	for k := len(o.s.Have) - 1; k >= 0; k-- {
		if o.goes[k] && !o.s.Loose[k] && !o.comesFrom(k, match.Moved, match.Inside) && !o.taken(k) {
			o.steps = append(o.steps, job{true, k})
		}
	}
	for i, w := range o.ways {
		if slices.Contains([]int{match.Made, match.Moved, match.Copied, match.Lacks, match.Linked}, w.Kind) {
			o.steps = append(o.steps, job{false, i})
		}
	}
}

// leaves is the step by which an entry leaves, or -1.
func (o *slow) leaves(k int) int {
	if n := slices.Index(o.steps, job{true, k}); n >= 0 {
		return n
	}
	return slices.IndexFunc(o.steps, func(j job) bool { return !j.remove && o.ways[j.at] == match.Way{Kind: match.Moved, From: k} })
}

// waits tells whether a step waits for another one, be that done or not.
func (o *slow) waits(n, m int) bool {
	if n == m {
		return false
	}
	// held tells whether the step m is the one by which an entry leaves, and wasn't taken out of the way.
	held := func(k int) bool { return o.leaves(k) == m && o.stowed[m] == "" }
	if j := o.steps[n]; j.remove {
		for k, e := range o.s.Have {
			if up, ok := paths.Parent(e.Path); ok && up == o.s.Have[j.at].Path && held(k) {
				return true
			}
		}
		return false
	}
	p := o.s.Want[o.steps[n].at].Path
	up, _ := paths.Parent(p)
	if i, ok := index.Find(o.s.Want, up); ok && o.steps[m] == (job{false, i}) {
		return true
	}
	k, ok := o.s.At(p)
	return ok && o.goes[k] && !o.s.Loose[k] && held(k)
}

// waiting tells whether a step waits for one that isn't done.
func (o *slow) waiting(n int) bool {
	for m := range o.steps {
		if !o.done[m] && o.waits(n, m) {
			return true
		}
	}
	return false
}

// do does the next step, or stows, or tells that neither can be done.
func (o *slow) next() bool {
	for n, j := range o.steps {
		if o.done[n] || o.waiting(n) {
			continue
		}
		o.done[n] = true
		o.edits = append(o.edits, o.edit(n, j))
		return true
	}
	for n, j := range o.steps {
		if o.done[n] || j.remove || o.ways[j.at].Kind != match.Moved || o.s.Loose[o.ways[j.at].From] || o.stowed[n] != "" {
			continue
		}
		for m := range o.steps {
			if !o.done[m] && o.waits(m, n) {
				o.stowed[n] = o.spare[len(o.stowed)]
				o.edits = append(o.edits, api.Edit{Kind: api.EdStow, From: o.s.Have[o.ways[j.at].From].Path, To: o.stowed[n]})
				return true
			}
		}
	}
	return false
}

// edit is that of a step.
func (o *slow) edit(n int, j job) api.Edit {
	if j.remove {
		return api.Edit{Kind: api.EdRemove, From: o.s.Have[j.at].Path}
	}
	e := api.Edit{Kind: api.EdMove, From: o.staged[j.at], To: o.s.Want[j.at].Path}
	switch {
	case o.ways[j.at].Kind == match.Made:
		e = api.Edit{Kind: api.EdMkdir, To: e.To}
	case o.stowed[n] != "":
		e.From = o.stowed[n]
	case o.ways[j.at].Kind == match.Moved:
		e.From = o.s.Have[o.ways[j.at].From].Path
	}
	return e
}

// all is the edits of all steps, and how many steps there are.
func (o *slow) all() ([]api.Edit, int) {
	o.goes, o.done, o.stowed = match.Goes(o.s, o.ways), map[int]bool{}, map[int]string{}
	o.list()
	for len(o.done) < len(o.steps) && o.next() {
	}
	return o.edits, len(o.steps)
}

// TestDrawn: 29.2 and 29.3, of drawn stocks, with pairs told to be unlike.
func TestDrawn(t *testing.T) {
	r := rand.New(rand.NewSource(29))
	counts := map[int]int{}
	for n := range 2000 {
		want, have, o := sample.DrawTrees(r.Intn, n)
		s, e := stock.New(index.Of(want), have, o)
		if e != api.OK {
			t.Fatalf("%s, %s: %d", sample.Words(want), sample.Words(have), e)
		}
		var unlike []match.Pair
		for range 3 {
			ways := match.Ways(s, unlike)
			staged, spare := names(s)
			got, e := Of(s, ways, staged, spare)
			l, steps := (&slow{s: s, ways: ways, staged: staged, spare: spare}).all()
			if e != api.OK || !slices.Equal(got, l) {
				t.Fatalf("%v, %v: %s out of %s: %s, %d, want %s", o, unlike, sample.Words(want), sample.Words(have), told(got), e, told(l))
			}
			stowed(t, ways, got, steps, spare)
			if _, e := Of(s, ways, staged, spare[:edit.Count(got, api.EdStow)]); e != api.OK {
				t.Fatalf("just as many spare names as stowings: %d", e)
			}
			for _, e := range got {
				counts[e.Kind]++
			}
			if l := match.Pairs(s, ways); len(l) > 0 {
				unlike = append(unlike, l[r.Intn(len(l))])
			}
		}
	}
	for _, kind := range []int{api.EdStow, api.EdMove, api.EdMkdir, api.EdRemove} {
		if counts[kind] < 500 {
			t.Errorf("too few are of the kind %d: %v", kind, counts)
		}
	}
}

// stowed: 29.3, all steps are done, no more are stowed than are moved, and each to the next name.
func stowed(t *testing.T, ways []match.Way, l []api.Edit, steps int, spare []string) {
	t.Helper()
	n, moved := 0, 0
	for _, e := range l {
		if e.Kind == api.EdStow {
			if e.To != spare[n] {
				t.Fatalf("%s is stowed at %s", e.From, e.To)
			}
			n++
		}
	}
	for _, w := range ways {
		if w.Kind == match.Moved {
			moved++
		}
	}
	if n > moved || len(l) != steps+n {
		t.Fatalf("%d of %d are stowed, %d edits of %d steps", n, moved, len(l), steps)
	}
}

// gathered is the edits ahead of those that are ordered, by which all is made ready, and the names at which it is.
func gathered(s *stock.Stock, ways []match.Way, fresh []string) ([]api.Edit, []string) {
	var l []api.Edit
	staged := make([]string, len(ways))
	for i, w := range ways {
		e := api.Edit{To: fresh[i]}
		switch w.Kind {
		case match.Copied:
			e.Kind, e.From = api.EdCopy, s.Have[w.From].Path
		case match.Lacks:
			e.Kind, e.N = api.EdFetch, i
		case match.Linked:
			e.Kind, e.N = api.EdLink, i
		default:
			continue
		}
		l, staged[i] = append(l, e), e.To
	}
	return l, staged
}

// bare is nodes without modes and times.
func bare(l []api.Node) []api.Node {
	l = slices.Clone(l)
	for i := range l {
		l[i].Mode, l[i].Time = 0, 0
	}
	return l
}

// TestDone: 29.2 and 29.3, each edit can be done where it stands; what comes of all is the mirror; and at each time each file has the bytes of the one, or of the other.
func TestDone(t *testing.T) {
	r := rand.New(rand.NewSource(30))
	done := 0
	for n := range 3000 {
		want, have, o := sample.DrawTrees(r.Intn, n)
		sent := choice.Sent(want, o.Rules)
		s, e := stock.New(index.Of(sent), have, o)
		if e != api.OK {
			t.Fatalf("%s, %s: %d", sample.Words(sent), sample.Words(have), e)
		}
		ways := match.Ways(s, nil)
		fresh := Names(s.Have, 2*len(s.Want))
		l, staged := gathered(s, ways, fresh)
		placed, e := Of(s, ways, staged, fresh[len(s.Want):])
		whole := bare(mirror.Of(sent, have, o.Rules, o.Del))
		at, _, err := check.Run(bare(sample.Prepared(have)), l, bare(sent))
		for i, one := range placed {
			if at, err = check.Step(at, one, nil); err != api.OK {
				t.Fatalf("%s out of %s: %s, at %d: %d", sample.Words(sent), sample.Words(have), told(placed), i, err)
			}
			for _, x := range tree.Shown(at) {
				if x.Kind != api.Dir && !slices.Contains(whole, x) && !slices.Contains(bare(have), x) {
					t.Fatalf("%s out of %s: %s, at %d: %s", sample.Words(sent), sample.Words(have), told(placed), i, x.Path)
				}
			}
			done++
		}
		if e != api.OK || !tree.Same(tree.Shown(at), whole) {
			t.Fatalf("%s out of %s: %d, %s makes %s", sample.Words(sent), sample.Words(have), e, told(placed), sample.Words(at))
		}
	}
	if done < 10000 {
		t.Errorf("too few edits: %d", done)
	}
}

// TestMany: R1, great stocks end soon.
func TestMany(t *testing.T) {
	// Each file is where the next one is wanted: one great round.
	var want, have []api.Node
	for i := range 512 {
		p := strconv.Itoa(1000 + i)
		want = append(want, api.Node{Path: p, Kind: api.File, Data: strconv.Itoa(i)})
		have = append(have, api.Node{Path: p, Kind: api.File, Data: strconv.Itoa((i + 1) % 512)})
	}
	s, _ := stock.New(index.Of(want), have, api.Options{Del: true})
	staged, spare := names(s)
	l, e := Of(s, match.Ways(s, nil), staged, spare)
	if e != api.OK || len(l) != 513 || l[0] != (api.Edit{Kind: api.EdStow, From: "1511", To: ".flit/p0"}) || l[512] != (api.Edit{Kind: api.EdMove, From: ".flit/p0", To: "1000"}) {
		t.Errorf("a round: %d edits, %d", len(l), e)
	}
	// Each one changes places with a neighbour: many small rounds.
	for i := range 512 {
		have[i].Data = strconv.Itoa(i ^ 1)
	}
	s, _ = stock.New(index.Of(want), have, api.Options{Del: true})
	l, e = Of(s, match.Ways(s, nil), staged, spare)
	if e != api.OK || len(l) != 768 || edit.Count(l, api.EdStow) != 256 {
		t.Errorf("many rounds: %d edits, %d", len(l), e)
	}
	// All that there is goes, and all that is wanted is new.
	for i := range 512 {
		have[i] = api.Node{Path: "x" + have[i].Path, Kind: api.Link, Data: "x"}
	}
	s, _ = stock.New(index.Of(want), have, api.Options{Del: true})
	l, e = Of(s, match.Ways(s, nil), staged, nil)
	if e != api.OK || len(l) != 1024 || l[0].From != "x1511" || l[1023].To != "1511" {
		t.Errorf("all new: %d edits, %d", len(l), e)
	}
}
