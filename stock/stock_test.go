package stock

import (
	"flitting/api"
	"flitting/index"
	"flitting/mirror"
	"flitting/paths"
	"flitting/sample"
	"flitting/tree"
	"math"
	"math/rand"
	"slices"
	"strconv"
	"strings"
	"testing"
)

// listed is the index of the nodes of words.
func listed(text string) []api.Entry { return index.Of(sample.Nodes(text)) }

// held makes a stock of words.
func held(t *testing.T, want, have, rules string, del bool) *Stock {
	t.Helper()
	s, e := New(listed(want), sample.Nodes(have), api.Options{Rules: sample.Rules(rules), Del: del})
	if e != api.OK || s == nil {
		t.Fatalf("New of %s and %s: %d", want, have, e)
	}
	return s
}

// those is the paths of the entries for which a list tells true.
func those(l []api.Entry, is []bool) string {
	var out []string
	for i, e := range l {
		if is[i] {
			out = append(out, e.Path)
		}
	}
	return strings.Join(out, " ")
}

// at is the paths of the entries at some places.
func at(l []api.Entry, places []int) string {
	var out []string
	for _, i := range places {
		out = append(out, l[i].Path)
	}
	return strings.Join(out, " ")
}

// many is n empty files.
func many(n int) []api.Node {
	var l []api.Node
	for i := range n {
		l = append(l, api.Node{Path: "f" + strconv.Itoa(1000+i), Kind: api.File})
	}
	return l
}

// TestErrors: 25.1, the errors of New, and which one is told first.
func TestErrors(t *testing.T) {
	good := sample.Nodes("a/ a/b=1 l>a")
	long := append(index.Of(good), api.Entry{Path: "z", Kind: api.File, Size: api.MaxFile + 1})
	for _, c := range []struct {
		what string
		want []api.Entry
		have []api.Node
		e    api.Errno
	}{
		{"nothing", nil, nil, api.OK},
		{"some", index.Of(good), good, api.OK},
		{"512", index.Of(many(512)), many(512), api.OK},
		{"have of 513", nil, many(513), api.ErrLong},
		{"have out of order", nil, sample.Nodes("b a"), api.ErrOrder},
		{"have without a parent", nil, sample.Nodes("a/b"), api.ErrNone},
		{"have in a file", nil, sample.Nodes("a a/b"), api.ErrKind},
		{"have without a path", nil, sample.Nodes("/"), tree.Check(sample.Nodes("/"))},
		{"have of no kind", nil, []api.Node{{Path: "a"}}, tree.Check([]api.Node{{Path: "a"}})},
		{"want of 513", index.Of(many(513)), nil, api.ErrLong},
		{"want out of order", listed("b a"), nil, api.ErrOrder},
		{"want without a parent", listed("a/b"), nil, api.ErrNone},
		{"want in a file", listed("a a/b"), nil, api.ErrKind},
		{"want of a long file", long, nil, api.ErrForm},
		{"want of a long file, out of order", append(slices.Clone(long), long[0]), nil, api.ErrForm},
		{"want that has no kind", []api.Entry{{Path: "a"}}, nil, api.ErrForm},
		{"both: have is told", long, sample.Nodes("b a"), api.ErrOrder},
	} {
		for _, o := range []api.Options{{}, {Del: true, Rules: sample.Rules("-[ - -a"), Block: -1, Piece: math.MaxInt}} {
			s, e := New(c.want, c.have, o)
			if e != c.e || (s != nil) != (e == api.OK) {
				t.Errorf("%s: %v, %d, want %d", c.what, s, e, c.e)
			}
		}
	}
}

// TestNew: 25.1, what is wanted, what stays, and what is loose.
func TestNew(t *testing.T) {
	for _, c := range []struct {
		what, want, have, rules string
		del                     bool
		wanted, stays, loose    string
	}{
		{what: "nothing"},
		{what: "a new tree", want: "a/ a/b=1 l>a", wanted: "a a/b l"},
		{what: "what is deleted", have: "a/ a/b=1 l>a", del: true},
		{what: "what isn't", have: "a/ a/b=1 l>a", stays: "a a/b l"},
		{what: "both", want: "a/ a/x=1 b", have: "a/ a/y=1 b=2 c", wanted: "a a/x b", stays: "a/y c"},
		{what: "both, with deletion", want: "a/ a/x=1 b", have: "a/ a/y=1 b=2 c", del: true, wanted: "a a/x b"},
		{what: "a file in place of a directory", want: "a", have: "a/ a/x", stays: "a a/x"},
		{what: "a file in place of a directory, with deletion", want: "a", have: "a/ a/x", del: true, wanted: "a"},
		{what: "a file in place of a directory in which one is shut out", want: "a b", have: "a/ a/k a/x", rules: "-k", del: true, wanted: "b", stays: "a a/k"},
		{what: "what is shut out of both", want: "a/ a/k=1 a/x", have: "a/ a/k=2 a/y", rules: "-k", del: true, wanted: "a a/x", stays: "a/k"},
		{what: "a directory that is shut out, but no file", want: "a b", have: "a/ a/x", rules: "-a/", del: true, wanted: "b", stays: "a a/x"},
		{what: "below what stays", want: "a/ a/b/ a/b/x a/c", have: "a/ a/b", rules: "+a/ +b/ -b", del: true, wanted: "a a/c", stays: "a/b"},
		{what: "what is reserved", want: ".flit/ .flit/x a", have: ".flit/ .flit/x .flit/y/ .flit/y/z a b", wanted: "a", stays: "b", loose: ".flit/x .flit/y .flit/y/z"},
		{what: "what is reserved, with deletion", want: ".flit/ .flit/x a", have: ".flit/ .flit/x a b", del: true, wanted: "a", loose: ".flit/x"},
		{what: "what is reserved, of another kind", want: ".flit/ .flit/x", have: ".flit", rules: "-.flit"},
		{what: "what is named like that", want: "a/ a/.flit/ a/.flit/x .flit-/", have: "a/ a/.flit/ a/.flit/y .flitx", wanted: ".flit- a a/.flit a/.flit/x", stays: ".flitx a/.flit/y"},
	} {
		want := index.Of(tree.Of(sample.Nodes(c.want)))
		have := tree.Of(sample.Nodes(c.have))
		s, e := New(want, have, api.Options{Rules: sample.Rules(c.rules), Del: c.del})
		if e != api.OK {
			t.Errorf("%s: %d", c.what, e)
			continue
		}
		if !slices.Equal(s.Want, want) || !slices.Equal(s.Have, index.Of(have)) || len(s.Wanted) != len(want) || len(s.Stays) != len(have) || len(s.Loose) != len(have) {
			t.Errorf("%s: %v", c.what, s)
			continue
		}
		if got := those(s.Want, s.Wanted); got != c.wanted {
			t.Errorf("%s: wanted %s, want %s", c.what, got, c.wanted)
		}
		if got := those(s.Have, s.Stays); got != c.stays {
			t.Errorf("%s: %s stays, want %s", c.what, got, c.stays)
		}
		if got := those(s.Have, s.Loose); got != c.loose {
			t.Errorf("%s: %s is loose, want %s", c.what, got, c.loose)
		}
	}
}

// TestNewMemory: R5, a stock shares nothing with what it was made of.
func TestNewMemory(t *testing.T) {
	noEntry, noNode := listed("zz")[0], sample.Nodes("zz")[0]
	want, have := listed("a b=1 l>a"), sample.Nodes("a c=1")
	inWant, inHave := sample.Hidden(want, noEntry), sample.Hidden(have, noNode)
	o := api.Options{Rules: sample.Rules("-c")}
	s, _ := New(inWant, inHave, o)
	if !sample.Untouched(inWant, want, noEntry) || !sample.Untouched(inHave, have, noNode) || !slices.Equal(o.Rules, sample.Rules("-c")) {
		t.Errorf("what was handed in is changed")
	}
	for i := range inWant {
		inWant[i] = noEntry
	}
	for i := range inHave {
		inHave[i] = noNode
	}
	o.Rules[0].Keep = true
	if !slices.Equal(s.Want, want) || !slices.Equal(s.Have, index.Of(have)) {
		t.Errorf("a stock keeps what was handed in: %v", s)
	}
	twice, _ := New(want, have, o)
	twice.Want[0] = noEntry
	if want[0] == noEntry {
		t.Errorf("a stock's list is that which was handed in")
	}
}

// TestAlike: 25.2, which entries are alike.
func TestAlike(t *testing.T) {
	want := "d/ e l>1 m>x n=1 o=x p=1"
	have := ".flit/ .flit/y=1 a/ b c=1 d>1 e=x f>x g/ g/h=1 i=y"
	s := held(t, want, have, "", true)
	for i, alike := range []string{"a g", "b", "d", "f", ".flit/y c g/h", "e", ".flit/y c g/h"} {
		for k, e := range s.Have {
			if got := s.Alike(i, k); got != slices.Contains(strings.Fields(alike), e.Path) {
				t.Errorf("%s and %s: %v", s.Want[i].Path, e.Path, got)
			}
		}
	}
	for _, p := range [][2]int{{-1, 0}, {0, -1}, {len(s.Want), 2}, {0, len(s.Have)}, {math.MinInt, math.MinInt}, {math.MaxInt, math.MaxInt}, {0, math.MaxInt}} {
		if s.Alike(p[0], p[1]) {
			t.Errorf("%v: alike", p)
		}
	}
}

// TestAlikeParts: 25.2, by which parts entries are held against each other.
func TestAlikeParts(t *testing.T) {
	with := func(e api.Entry, change func(e *api.Entry)) api.Entry {
		change(&e)
		return e
	}
	d := api.Entry{Path: "a", Kind: api.Dir, Sum: api.Sum{Hi: 1}}
	f := api.Entry{Path: "a", Kind: api.File, Size: 1, Sum: api.Sum{Hi: 1, Lo: 2}}
	l := api.Entry{Path: "a", Kind: api.Link, Size: 1, Target: "x"}
	for i, c := range []struct {
		a, b api.Entry
		want bool
	}{
		{d, with(d, func(e *api.Entry) { *e = api.Entry{Path: "b", Kind: api.Dir, Mode: 9, Time: 9} }), true},
		{f, with(f, func(e *api.Entry) { e.Path, e.Mode, e.Time, e.Sketch[0], e.Target = "b", 9, 9, 9, "x" }), true},
		{l, with(l, func(e *api.Entry) { e.Path, e.Mode, e.Time, e.Size, e.Sum.Hi = "b", 9, 9, 9, 9 }), true},
		{f, with(f, func(e *api.Entry) { e.Size++ }), false},
		{f, with(f, func(e *api.Entry) { e.Sum.Hi++ }), false},
		{f, with(f, func(e *api.Entry) { e.Sum.Lo++ }), false},
		{l, with(l, func(e *api.Entry) { e.Target = "y" }), false},
		{f, with(f, func(e *api.Entry) { e.Kind = api.Link }), false},
		{f, with(f, func(e *api.Entry) { e.Kind = api.Dir }), false},
		{l, with(l, func(e *api.Entry) { e.Kind = api.File }), false},
		{with(f, func(e *api.Entry) { e.Kind = 0 }), with(f, func(e *api.Entry) { e.Kind = 0 }), false},
		{with(f, func(e *api.Entry) { e.Kind = -1 }), with(f, func(e *api.Entry) { e.Kind = -1 }), false},
		{d, with(d, func(e *api.Entry) { e.Path = ".flit" }), false},
		{f, with(f, func(e *api.Entry) { e.Path = ".flit" }), false},
		{l, with(l, func(e *api.Entry) { e.Path = ".flit" }), false},
		{with(d, func(e *api.Entry) { e.Path = ".flit" }), d, true},
		{f, with(f, func(e *api.Entry) { e.Path = ".flit/x" }), true},
	} {
		s := &Stock{Want: []api.Entry{c.a}, Have: []api.Entry{c.b}}
		if got := s.Alike(0, 0); got != c.want {
			t.Errorf("case %d: %v and %v: %v", i, c.a, c.b, got)
		}
	}
}

// TestAt: 25.2, where there is what.
func TestAt(t *testing.T) {
	s := held(t, "w", ".flit/ .flit/x a/ a/b c", "", false)
	for p, want := range map[string]int{".flit": 0, ".flit/x": 1, "a": 2, "a/b": 3, "c": 4} {
		if i, ok := s.At(p); i != want || !ok {
			t.Errorf("%s: %d, %v", p, i, ok)
		}
	}
	for _, p := range []string{"", "w", "a/", "a/b/c", "b", "/", "A", strings.Repeat("a", 100)} {
		if i, ok := s.At(p); i != 0 || ok {
			t.Errorf("%q: %d, %v", p, i, ok)
		}
	}
}

// TestWithin: 25.2, what is within a path, of whatever list.
func TestWithin(t *testing.T) {
	s := held(t, "a", "b", "", false)
	l := listed("a/ a/b a/c/ a/c/d a-b b/ b/a b/a/c ba")
	for p, want := range map[string]string{"": "a a/b a/c a/c/d a-b b b/a b/a/c ba", "a": "a a/b a/c a/c/d", "a/c": "a/c a/c/d", "a/c/d": "a/c/d", "b": "b b/a b/a/c", "ba": "ba", "c": "", "a/": "", "..": "", "a/c/d/e": ""} {
		if got := at(l, s.Within(l, p)); got != want {
			t.Errorf("%q: %s, want %s", p, got, want)
		}
	}
	odd := []api.Entry{{Path: "b"}, {Path: "a/x"}, {Path: "a//"}, {Path: "a"}, {}, {Path: "a/x"}}
	in := sample.Hidden(odd, api.Entry{Path: "a"})
	if got := s.Within(in, "a"); !slices.Equal(got, []int{1, 3, 5}) || !sample.Untouched(in, odd, api.Entry{Path: "a"}) {
		t.Errorf("an odd list: %v", got)
	}
	if got := s.Within(nil, ""); len(got) != 0 {
		t.Errorf("no list: %v", got)
	}
	if got := s.Within(s.Want, "a"); !slices.Equal(got, []int{0}) {
		t.Errorf("what is wanted: %v", got)
	}
}

// TestBlocked: 25.2, what is not wanted.
func TestBlocked(t *testing.T) {
	for _, c := range []struct {
		want, have, rules string
		del               bool
		blocked           string
	}{
		{want: "a b", have: "a", blocked: ""},
		{want: "a b c", have: "a/ a/x c/", blocked: "a c"},
		{want: "a b c", have: "a/ a/x c/", del: true, blocked: ""},
		{want: "a/ a/b/ a/b/c a/d", have: "a/ a/b", rules: "+b/ -b", del: true, blocked: "a/b a/b/c"},
		{want: ".flit/ .flit/x a", blocked: ".flit .flit/x"},
	} {
		s := held(t, c.want, c.have, c.rules, c.del)
		got := s.Blocked()
		if at(s.Want, got) != c.blocked {
			t.Errorf("%s, %s: %v, want %s", c.want, c.have, got, c.blocked)
		}
		for i := range got {
			got[i] = -1
		}
		if at(s.Want, s.Blocked()) != c.blocked {
			t.Errorf("%s, %s: what was told is kept", c.want, c.have)
		}
	}
	s := &Stock{Want: make([]api.Entry, 3), Wanted: []bool{false, true}}
	if got := s.Blocked(); !slices.Equal(got, []int{0, 2}) {
		t.Errorf("made by hand: %v", got)
	}
	s = &Stock{Want: make([]api.Entry, 1), Wanted: make([]bool, 3)}
	if got := s.Blocked(); !slices.Equal(got, []int{0}) {
		t.Errorf("made by hand, told of more: %v", got)
	}
}

// TestNil: 25.2, a stock that nobody made.
func TestNil(t *testing.T) {
	var s *Stock
	i, ok := s.At("a")
	if s.Alike(0, 0) || i != 0 || ok || len(s.Within(listed("a b"), "")) != 0 || len(s.Blocked()) != 0 {
		t.Errorf("nil tells something")
	}
	s = &Stock{}
	i, ok = s.At("")
	if s.Alike(0, 0) || i != 0 || ok || len(s.Blocked()) != 0 {
		t.Errorf("an empty one tells something")
	}
	if got := s.Within(listed("a b"), "b"); !slices.Equal(got, []int{1}) {
		t.Errorf("an empty one: Within %v", got)
	}
}

// TestFollows: 25.3, and with it 25.1, of drawn trees: each node of the mirror is wanted, or stays, and nothing else.
func TestFollows(t *testing.T) {
	r := rand.New(rand.NewSource(3))
	wanted, stays, blocked := 0, 0, 0
	for range 2000 {
		a, b := sample.DrawTree(r.Intn, 30), sample.DrawTree(r.Intn, 30)
		o := api.Options{Rules: sample.DrawRules(r.Intn), Del: r.Intn(2) == 0}
		s, e := New(index.Of(a), b, o)
		if e != api.OK {
			t.Fatalf("%s, %s: %d", sample.Words(a), sample.Words(b), e)
		}
		outline := index.Outline(s.Want)
		var all []api.Node
		for i, n := range outline {
			if s.Wanted[i] {
				all = append(all, n)
				wanted++
			}
		}
		for k, n := range b {
			if s.Stays[k] {
				all = append(all, n)
				stays++
			}
			if s.Loose[k] != (paths.Reserved(n.Path) && n.Path != ".flit") {
				t.Fatalf("%s: loose %v", n.Path, s.Loose[k])
			}
		}
		slices.SortFunc(all, func(x, y api.Node) int { return paths.Cmp(x.Path, y.Path) })
		if m := mirror.Of(outline, b, o.Rules, o.Del); !tree.Same(all, m) {
			t.Fatalf("%v: of %s and %s: %s, want the mirror %s", o, sample.Words(a), sample.Words(b), sample.Words(all), sample.Words(m))
		}
		blocked += len(s.Blocked())
	}
	if wanted < 4000 || stays < 2000 || blocked < 500 {
		t.Errorf("too few were looked at: %d, %d, %d", wanted, stays, blocked)
	}
}
