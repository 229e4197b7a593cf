package choice

import (
	"flitting/api"
	"flitting/paths"
	"flitting/rule"
	"flitting/tree"
	"math/rand"
	"slices"
	"strings"
	"testing"
)

func dir(p string) api.Node     { return api.Node{Path: p, Kind: api.Dir, Mode: 5} }
func file(p, s string) api.Node { return api.Node{Path: p, Kind: api.File, Time: 3, Data: s} }
func link(p, s string) api.Node { return api.Node{Path: p, Kind: api.Link, Data: s} }

// some is a well-formed tree.
func some() []api.Node {
	return []api.Node{dir(".flit"), dir(".flit/a"), file(".flit/a/x", "1"), dir("a"), dir("a/.flit"), dir("a/b"), file("a/b/c", "45"), link("a/l", "b"), file("a-b", "6"), dir("b"), file("b/x", ""), file("x", "9")}
}

// deep is n directories, each beneath the one ahead.
func deep(n int) []api.Node {
	var t []api.Node
	for i := range n {
		t = append(t, dir(strings.TrimSuffix(strings.Repeat("a/", i+1), "/")))
	}
	return t
}

// names is the paths of nodes.
func names(t []api.Node) string {
	var l []string
	for _, n := range t {
		l = append(l, n.Path)
	}
	return strings.Join(l, " ")
}

// rules makes rules of texts: a pattern behind its sign.
func rules(l ...string) []api.Rule {
	var out []api.Rule
	for _, s := range l {
		out = append(out, api.Rule{Keep: s[0] == '+', Pattern: s[1:]})
	}
	return out
}

// many is n rules of one pattern.
func many(n int, pattern string) []api.Rule {
	return slices.Repeat([]api.Rule{{Pattern: pattern}}, n)
}

// hidden is a list with room behind it, which holds nodes that nobody may see.
func hidden(t []api.Node) []api.Node {
	l := append(slices.Clone(t), file("zz/hidden", "no"), file("a", "no"), dir("zz"))
	return l[:len(t)]
}

// untouched tells whether what lies in and behind a list that hidden made is as it was.
func untouched(l, t []api.Node) bool {
	return slices.Equal(l[:len(l)+3], hidden(t)[:len(t)+3])
}

// TestFits: 13.1, Fits.
func TestFits(t *testing.T) {
	for _, c := range []struct {
		what string
		t    []api.Node
		want api.Errno
	}{
		{"nil", nil, api.OK},
		{"empty", []api.Node{}, api.OK},
		{"some", some(), api.OK},
		{"8 names", deep(8), api.OK},
		{"9 names", deep(9), api.ErrLong},
		{"16 names", deep(16), api.ErrLong},
		{"17 names", deep(17), api.ErrPath},
		{"a file of 8 names", append(deep(7), file("a/a/a/a/a/a/a/b", "")), api.OK},
		{"a file of 9 names", append(deep(8), file("a/a/a/a/a/a/a/a/b", "")), api.ErrLong},
		{"9 names that are reserved", []api.Node{dir(".flit"), dir(".flit/1"), dir(".flit/1/1"), dir(".flit/1/1/1"), dir(".flit/1/1/1/1"), dir(".flit/1/1/1/1/1"), dir(".flit/1/1/1/1/1/1"), dir(".flit/1/1/1/1/1/1/1"), file(".flit/1/1/1/1/1/1/1/1", "")}, api.ErrLong},
		{"513 nodes", make([]api.Node, 513), api.ErrLong},
		{"a wrong path", []api.Node{dir("a//b")}, api.ErrPath},
		{"a wrong kind", []api.Node{{Path: "a", Kind: 4}}, api.ErrKind},
		{"a wrong mode", []api.Node{{Path: "a", Kind: api.Dir, Mode: 4096}}, api.ErrArg},
		{"twice", []api.Node{dir("a"), dir("a")}, api.ErrOrder},
		{"no parent", []api.Node{file("a/b", "")}, api.ErrNone},
		{"a file above", []api.Node{file("a", ""), file("a/b", "")}, api.ErrKind},
		{"no tree behind what is too deep", append(deep(9), dir("a")), api.ErrOrder},
		{"no parent, and too deep", []api.Node{deep(9)[8]}, api.ErrNone},
	} {
		l := hidden(c.t)
		if got := Fits(l); got != c.want || !untouched(l, c.t) {
			t.Errorf("%s: Fits %d, want %d", c.what, got, c.want)
		}
	}
}

// TestOptions: 13.1, Check.
func TestOptions(t *testing.T) {
	long := strings.Repeat("a", 65)
	for _, c := range []struct {
		what string
		o    api.Options
		want api.Errno
	}{
		{"nothing", api.Options{}, api.ErrArg},
		{"the least", api.Options{Block: 4, Piece: 16}, api.OK},
		{"the most", api.Options{Block: 64, Piece: 512}, api.OK},
		{"all", api.Options{Del: true, Dry: true, Trust: true, Rules: rules("+a", "-*/"), Block: 8, Piece: 100}, api.OK},
		{"Block 3", api.Options{Block: 3, Piece: 16}, api.ErrArg},
		{"Block 65", api.Options{Block: 65, Piece: 16}, api.ErrArg},
		{"Block below 0", api.Options{Block: -8, Piece: 16}, api.ErrArg},
		{"Block 2^62", api.Options{Block: 1 << 62, Piece: 16}, api.ErrArg},
		{"Piece 15", api.Options{Block: 4, Piece: 15}, api.ErrArg},
		{"Piece 513", api.Options{Block: 4, Piece: 513}, api.ErrArg},
		{"Piece below 0", api.Options{Block: 4, Piece: -1 << 63}, api.ErrArg},
		{"no Piece", api.Options{Block: 4}, api.ErrArg},
		{"16 rules", api.Options{Rules: many(16, "a"), Block: 4, Piece: 16}, api.OK},
		{"17 rules", api.Options{Rules: many(17, "a"), Block: 4, Piece: 16}, api.ErrLong},
		{"17 wrong rules", api.Options{Rules: many(17, "["), Block: 4, Piece: 16}, api.ErrLong},
		{"a wrong rule", api.Options{Rules: rules("-a", "-["), Block: 4, Piece: 16}, api.ErrForm},
		{"a long rule", api.Options{Rules: rules("-a", "-"+long, "-["), Block: 4, Piece: 16}, api.ErrLong},
		{"an empty rule", api.Options{Rules: rules("-"), Block: 4, Piece: 16}, api.ErrForm},
		{"a wrong rule ahead of a wrong Block", api.Options{Rules: rules("-/")}, api.ErrForm},
		{"too many rules ahead of a wrong Piece", api.Options{Rules: many(17, "a"), Block: 4}, api.ErrLong},
	} {
		was := slices.Clone(c.o.Rules)
		if got := Check(c.o); got != c.want || !slices.Equal(was, c.o.Rules) {
			t.Errorf("%s: Check %d, want %d", c.what, got, c.want)
		}
	}
}

// TestShut: 13.2, Shut.
func TestShut(t *testing.T) {
	for _, c := range []struct {
		rules []api.Rule
		n     api.Node
		want  bool
	}{
		{nil, file("a", ""), false},
		{rules("-a"), file("a", ""), true},
		{rules("-a"), link("a", "b"), true},
		{rules("-a"), dir("a"), true},
		{rules("-a"), file("b", ""), false},
		{rules("-a/"), dir("a"), true},
		{rules("-a/"), file("a", ""), false},
		{rules("-a/"), link("a", "b"), false},
		{rules("-a/"), file("a/b", ""), true},
		{rules("-a/"), file("b/a", ""), false},
		{rules("-a/"), dir("b/a"), true},
		{rules("-/a"), file("b/a", ""), false},
		{rules("-a/", "+a/b"), file("a/b", ""), true},
		{rules("+a/", "-a"), dir("a"), false},
		{rules("+a/", "-a"), file("a", ""), true},
		{rules("+a/", "-a"), file("a/b", ""), false},
		{rules("-*"), file(".flit/a", ""), true},
		{rules("-**"), dir(""), false},
		{rules("-**"), file("a/", ""), false},
		{rules("-**"), file("..", ""), false},
		{rules("-**"), api.Node{Path: "a", Kind: -1}, true},
		{rules("-**/"), api.Node{Path: "a", Kind: -1}, false},
		{rules("-[", "-"), file("a", ""), false},
		{append(many(20, "b"), rules("-a")...), file("a", ""), true},
	} {
		was := slices.Clone(c.rules)
		if got := Shut(c.rules, c.n); got != c.want || !slices.Equal(was, c.rules) {
			t.Errorf("Shut %v, %v: %v", c.rules, c.n, got)
		}
	}
}

// TestPicked: 13.2, Sent and Guarded.
func TestPicked(t *testing.T) {
	for _, c := range []struct {
		t             []api.Node
		rules         []api.Rule
		sent, guarded string
	}{
		{nil, rules("-a"), "", ""},
		{[]api.Node{dir("a"), file("a/x", ""), file("b", "")}, rules("-a/"), "b", "a a/x"},
		{some(), nil, "a a/.flit a/b a/b/c a/l a-b b b/x x", ""},
		{some(), rules("-**"), "", "a a/.flit a/b a/b/c a/l a-b b b/x x"},
		{some(), rules("-.flit"), "a a/b a/b/c a/l a-b b b/x x", "a/.flit"},
		{some(), rules("+.flit", "-x"), "a a/.flit a/b a/b/c a/l a-b b", "b/x x"},
		{some(), rules("-/x"), "a a/.flit a/b a/b/c a/l a-b b b/x", "x"},
		{some(), rules("-b/"), "a a/.flit a/l a-b x", "a/b a/b/c b b/x"},
		{some(), rules("-/b/"), "a a/.flit a/b a/b/c a/l a-b x", "b b/x"},
		{some(), rules("+c", "-b"), "a a/.flit a/l a-b x", "a/b a/b/c b b/x"},
		{some(), rules("-x/", "-l/"), "a a/.flit a/b a/b/c a/l a-b b b/x x", ""},
		{some(), rules("+*/", "-**"), "a a/.flit a/b b", "a/b/c a/l a-b b/x x"},
		{some(), rules("-["), "a a/.flit a/b a/b/c a/l a-b b b/x x", ""},
		{[]api.Node{file(".flit", "1"), file(".flit.", "2")}, nil, ".flit.", ""},
		{[]api.Node{file(".flit", "1"), file(".flit.", "2")}, rules("-**"), "", ".flit."},
	} {
		l := hidden(c.t)
		was := slices.Clone(c.rules)
		sent, guarded := Sent(l, c.rules), Guarded(l, c.rules)
		if names(sent) != c.sent || names(guarded) != c.guarded {
			t.Errorf("%v: Sent %s, Guarded %s, want %s, %s", c.rules, names(sent), names(guarded), c.sent, c.guarded)
		}
		for _, n := range append(slices.Clone(sent), guarded...) {
			if m, _ := tree.Find(c.t, n.Path); n != m {
				t.Errorf("%v: %v is told as %v", c.rules, m, n)
			}
		}
		for i := range sent {
			sent[i] = api.Node{}
		}
		for i := range guarded {
			guarded[i] = api.Node{}
		}
		if !untouched(l, c.t) || !slices.Equal(was, c.rules) {
			t.Errorf("%v: what was handed in is changed, or shared", c.rules)
		}
	}
}

// drawnRules is some rules, of which some match much.
func drawnRules(r *rand.Rand) []api.Rule {
	l := []string{"a", "/a", "a/", "/b/", "b", "*/", "a/*", "?", "**b", "[!a]", "/a/b", "c/**", ".flit", "[", "*-*"}
	var out []api.Rule
	for range r.Intn(4) {
		out = append(out, api.Rule{Keep: r.Intn(2) == 0, Pattern: l[r.Intn(len(l))]})
	}
	return out
}

// drawnTree is a well-formed tree out of few names.
func drawnTree(r *rand.Rand) []api.Node {
	var l []api.Node
	for range r.Intn(40) {
		var p []string
		for range 1 + r.Intn(4) {
			p = append(p, []string{"a", "b", "c", "a-", ".flit"}[r.Intn(5)])
		}
		n := dir(strings.Join(p, "/"))
		switch r.Intn(5) {
		case 0:
			n = file(n.Path, "x")
		case 1:
			n = link(n.Path, "x")
		}
		l = append(l, n)
	}
	return tree.Of(l)
}

// shut is what the document says of a node: it isn't kept, or one of the paths that it is under isn't, as a directory's.
func shut(rules []api.Rule, n api.Node) bool {
	out := !rule.Keeps(rules, n.Path, n.Kind == api.Dir)
	for up := range paths.Ups(n.Path) {
		out = out || !rule.Keeps(rules, up, true)
	}
	return out
}

// TestDrawn: 13.2 and 13.3.
func TestDrawn(t *testing.T) {
	r := rand.New(rand.NewSource(1))
	counts := map[string]int{}
	for range 3000 {
		s, d, rules := drawnTree(r), drawnTree(r), drawnRules(r)
		var sent, guarded []api.Node
		for _, n := range s {
			if Shut(rules, n) != shut(rules, n) {
				t.Fatalf("Shut %v, %v", rules, n)
			}
			if !paths.Reserved(n.Path) && !shut(rules, n) {
				sent = append(sent, n)
			}
			if !paths.Reserved(n.Path) && shut(rules, n) {
				guarded = append(guarded, n)
			}
		}
		if !tree.Same(Sent(s, rules), sent) || !tree.Same(Guarded(s, rules), guarded) {
			t.Fatalf("%v, %v: Sent %s, Guarded %s", rules, s, names(Sent(s, rules)), names(Guarded(s, rules)))
		}
		if e := tree.Check(sent); e != api.OK {
			t.Fatalf("what is sent is no tree: %d", e)
		}
		counts["sent"] += len(sent)
		counts["guarded"] += len(guarded)
		for _, n := range tree.Shown(s) {
			m, ok := tree.Find(d, n.Path)
			if !ok || m.Kind != n.Kind {
				continue
			}
			_, isSent := tree.Find(Sent(s, rules), n.Path)
			_, isGuarded := tree.Find(Guarded(d, rules), n.Path)
			if isSent == isGuarded {
				t.Fatalf("%v: %s is sent: %v, guarded: %v", rules, n.Path, isSent, isGuarded)
			}
			counts["both"]++
		}
	}
	if counts["sent"] < 1000 || counts["guarded"] < 1000 || counts["both"] < 1000 {
		t.Errorf("too few were looked at: %v", counts)
	}
}

// TestNotWellFormed: of what isn't a tree nothing is promised but an end, and that it isn't changed.
func TestNotWellFormed(t *testing.T) {
	odd := []api.Node{dir(""), dir("/"), dir("a/"), {Path: "a", Kind: -9, Data: "x"}, file("a/b", ""), file("f", ""), dir("f/g"), file(".flit//x", ""), {Path: strings.Repeat("a/", 1<<12), Kind: 1 << 62}, file("b", ""), file("b", "")}
	for _, l := range [][]api.Node{odd, deep(40), make([]api.Node, 2000)} {
		for _, rules := range [][]api.Rule{nil, rules("-**"), rules("-a/", "-["), many(100, "x")} {
			in := hidden(l)
			Fits(in)
			Sent(in, rules)
			Guarded(in, rules)
			if !untouched(in, l) {
				t.Error("a list was changed")
			}
		}
	}
}
