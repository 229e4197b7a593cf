package mirror

import (
	"flitting/api"
	"flitting/choice"
	"flitting/paths"
	"flitting/sample"
	"flitting/tree"
	"math/rand"
	"slices"
	"strconv"
	"strings"
	"testing"
)

func dir(p string) api.Node     { return api.Node{Path: p, Kind: api.Dir, Mode: 5} }
func file(p, s string) api.Node { return api.Node{Path: p, Kind: api.File, Time: 3, Data: s} }
func link(p, s string) api.Node { return api.Node{Path: p, Kind: api.Link, Data: s} }

// hidden is a list with room behind it, which holds nodes that nobody may see.
func hidden(t []api.Node) []api.Node {
	l := append(slices.Clone(t), file("zz/hidden", "no"), file("a", "no"), dir("zz"))
	return l[:len(t)]
}

// untouched tells whether what lies in and behind a list that hidden made is as it was.
func untouched(l, t []api.Node) bool {
	return slices.Equal(l[:len(l)+3], hidden(t)[:len(t)+3])
}

// starred is the mirror in words, with a * behind each node that is the sender's.
func starred(s, d []api.Node, rules []api.Rule, del bool) string {
	t, ours := Of(s, d, rules, del), Ours(s, d, rules, del)
	if len(t) != len(ours) {
		return "as many of Ours as of Of are not told"
	}
	var l []string
	for i := range t {
		star := ""
		if ours[i] {
			star = "*"
		}
		l = append(l, sample.Words(t[i:i+1])+star)
	}
	return strings.Join(l, " ")
}

// TestByHand: 14.1, Of, Ours and Blocked.
func TestByHand(t *testing.T) {
	for _, c := range []struct {
		what, s, d, rules string
		keep, del         string // the mirrors without deletion, and with it
		blockedKeep       string
		blockedDel        string
	}{
		{what: "nothing"},
		{what: "no receiver's", s: "a/ a/b=1 l>a", keep: "a/* a/b=1* l>a*", del: "a/* a/b=1* l>a*"},
		{what: "no sender's", d: "a/ a/b=1 l>a", keep: "a/ a/b=1 l>a"},
		{what: "both", s: "a=1 b/ b/x=1", d: "a=2 b/ b/y=2 c=3", keep: "a=1* b/* b/x=1* b/y=2 c=3", del: "a=1* b/* b/x=1*"},
		{what: "the order of paths", s: "a/ a/b/ a/z", d: "a/ a/c a-b", keep: "a/* a/b/* a/c a/z* a-b", del: "a/* a/b/* a/z*"},
		{what: "a file in place of a directory", s: "a=1", d: "a/ a/x=2", keep: "a/ a/x=2", del: "a=1*", blockedKeep: "a=1"},
		{what: "a link in place of an empty directory", s: "a>b", d: "a/", keep: "a/", del: "a>b*", blockedKeep: "a>b"},
		{what: "a directory in place of a file", s: "a/ a/x", d: "a=1", keep: "a/* a/x*", del: "a/* a/x*"},
		{what: "a directory in place of a link", s: "a/ a/x", d: "a>1", keep: "a/* a/x*", del: "a/* a/x*"},
		{what: "a file in place of a link", s: "a=1", d: "a>1", keep: "a=1*", del: "a=1*"},
		{what: "a link in place of a file", s: "a>1", d: "a=1", keep: "a>1*", del: "a>1*"},
		{what: "a file in place of a directory in which one is shut out", s: "a=1", d: "a/ a/b/ a/b/k=2 a/c/ a/d=3", rules: "-k", keep: "a/ a/b/ a/b/k=2 a/c/ a/d=3", del: "a/ a/b/ a/b/k=2", blockedKeep: "a=1", blockedDel: "a=1"},
		{what: "what is shut out in the sender's", s: "a=1 b/ b/k=3 k=2", d: "c", rules: "-k", keep: "a=1* b/* c", del: "a=1* b/*"},
		{what: "what is shut out in the receiver's", s: "a=1", d: "a=2 b/ b/k=3 b/x=4 k=2", rules: "-k", keep: "a=1* b/ b/k=3 b/x=4 k=2", del: "a=1* b/ b/k=3 k=2"},
		{what: "what is shut out in both", s: "a/ a/k=1 k/ k/y", d: "a/ a/k=2 k/ k/x=3", rules: "-k", keep: "a/* a/k=2 k/ k/x=3", del: "a/* a/k=2 k/ k/x=3"},
		{what: "a directory that is shut out where a file is sent", s: "a=1 b", d: "a/ a/x", rules: "-a/", keep: "a/ a/x b*", del: "a/ a/x b*", blockedKeep: "a=1", blockedDel: "a=1"},
		{what: "a file that is shut out where a directory is sent", s: "a/ a/b/ a/b/x b", d: "a=1", rules: "+a/ -a", keep: "a=1 b*", del: "a=1 b*", blockedKeep: "a/ a/b/ a/b/x", blockedDel: "a/ a/b/ a/b/x"},
		{what: "a link that is shut out where a directory is sent", s: "a/ a/x", d: "a>1", rules: "+a/ -a", keep: "a>1", del: "a>1", blockedKeep: "a/ a/x", blockedDel: "a/ a/x"},
		{what: "a file that isn't sent where there is a directory", s: "a=1", d: "a/ a/x", rules: "+a/ -/a", keep: "a/ a/x"},
		{what: "a directory that isn't sent where there is a file", s: "a/ a/x", d: "a=1", rules: "-a/", keep: "a=1"},
		{what: "a file shut out beneath one that the sender has", s: "a/ a/b=1", d: "a/ a/b/ a/b/k a/c/ a/c/k a/c/x", rules: "-k", keep: "a/* a/b/ a/b/k a/c/ a/c/k a/c/x", del: "a/* a/b/ a/b/k a/c/ a/c/k", blockedKeep: "a/b=1", blockedDel: "a/b=1"},
		{what: "all that is under what is shut out", s: "a=1", d: "a/ a/k/ a/k/x a/k/y/ a/k/y/z", rules: "-k/", keep: "a/ a/k/ a/k/x a/k/y/ a/k/y/z", del: "a/ a/k/ a/k/x a/k/y/ a/k/y/z", blockedKeep: "a=1", blockedDel: "a=1"},
		{what: "reserved ones", s: ".flit/ .flit/x=1 a/ a/.flit=2", d: ".flit/ .flit/y=3 b/ b/.flit/", keep: "a/* a/.flit=2* b/ b/.flit/", del: "a/* a/.flit=2*"},
		{what: "reserved ones that are shut out", s: ".flit/ .flit/k", d: ".flit/ .flit/k=3 k", rules: "-k", keep: "k", del: "k"},
		{what: "reserved ones of other kinds", s: ".flit=1", d: ".flit/ .flit/x", keep: "", del: ""},
		{what: "reserved ones of other kinds, turned", s: ".flit/ .flit/x", d: ".flit=1", keep: "", del: ""},
		{what: "rules that aren't right", s: "a", d: "b", rules: "-[ -", keep: "a* b", del: "a*"},
	} {
		s, d, r := sample.Nodes(c.s), sample.Nodes(c.d), sample.Rules(c.rules)
		if tree.Check(s) != api.OK || tree.Check(d) != api.OK {
			t.Fatalf("%s: no trees", c.what)
		}
		if got := starred(s, d, r, false); got != c.keep {
			t.Errorf("%s, without deletion: %s, want %s", c.what, got, c.keep)
		}
		if got := starred(s, d, r, true); got != c.del {
			t.Errorf("%s, with deletion: %s, want %s", c.what, got, c.del)
		}
		if got := sample.Words(Blocked(s, d, r, false)); got != c.blockedKeep {
			t.Errorf("%s, blocked without deletion: %s, want %s", c.what, got, c.blockedKeep)
		}
		if got := sample.Words(Blocked(s, d, r, true)); got != c.blockedDel {
			t.Errorf("%s, blocked with deletion: %s, want %s", c.what, got, c.blockedDel)
		}
	}
}

// TestModes: each node is told with the mode and the time of the one whose it is.
func TestModes(t *testing.T) {
	s := []api.Node{{Path: "a", Kind: api.Dir, Mode: 1, Time: 2}, {Path: "a/x", Kind: api.File, Mode: 3, Time: 4, Data: "1"}}
	d := []api.Node{{Path: "a", Kind: api.Dir, Mode: 5, Time: 6}, {Path: "a/x", Kind: api.File, Mode: 7, Time: 8, Data: "1"}, {Path: "a/y", Kind: api.File, Mode: 9, Time: 10}}
	if got := Of(s, d, nil, false); !slices.Equal(got, []api.Node{s[0], s[1], d[2]}) {
		t.Errorf("%v", got)
	}
	if got := Of(s, d, sample.Rules("-x"), true); !slices.Equal(got, []api.Node{s[0], d[1]}) {
		t.Errorf("%v", got)
	}
	if got := Of(nil, d, sample.Rules("-x"), true); !slices.Equal(got, d[:2]) {
		t.Errorf("%v", got)
	}
}

// TestLeft: 14.1, Left.
func TestLeft(t *testing.T) {
	d := "a/ a/b/ a/b/k=1 a/b/x a/c/ a/l>b a-b/ k/ k/y/ k/y/z x"
	for _, c := range []struct{ d, rules, p, keep, del string }{
		{d, "-k", "", "", ""},
		{d, "-**", "", "", ""},
		{d, "-k", "q", "", ""},
		{d, "-k", "a/q", "", ""},
		{d, "-k", "x/q", "", ""},
		{d, "-k", "a/", "", ""},
		{d, "-k", "/a", "", ""},
		{d, "-k", "zz", "", ""},
		{d, "-k", "a", "a/ a/b/ a/b/k=1 a/b/x a/c/ a/l>b", "a/ a/b/ a/b/k=1"},
		{d, "-k", "a/b", "a/b/ a/b/k=1 a/b/x", "a/b/ a/b/k=1"},
		{d, "-k", "a/b/k", "a/b/k=1", "a/b/k=1"},
		{d, "-k", "a/b/x", "a/b/x", ""},
		{d, "-k", "a/c", "a/c/", ""},
		{d, "-k", "a-b", "a-b/", ""},
		{d, "-k", "k", "k/ k/y/ k/y/z", "k/ k/y/ k/y/z"},
		{d, "-k/", "k/y", "k/y/ k/y/z", "k/y/ k/y/z"},
		{d, "-k/", "k/y/z", "k/y/z", "k/y/z"},
		{d, "-k/", "a", "a/ a/b/ a/b/k=1 a/b/x a/c/ a/l>b", ""},
		{d, "-c", "a", "a/ a/b/ a/b/k=1 a/b/x a/c/ a/l>b", "a/ a/c/"},
		{d, "-l -k", "a", "a/ a/b/ a/b/k=1 a/b/x a/c/ a/l>b", "a/ a/b/ a/b/k=1 a/l>b"},
		{d, "", "a", "a/ a/b/ a/b/k=1 a/b/x a/c/ a/l>b", ""},
		{d, "-**", "a", "a/ a/b/ a/b/k=1 a/b/x a/c/ a/l>b", "a/ a/b/ a/b/k=1 a/b/x a/c/ a/l>b"},
		{".flit/ .flit/k a/ a/.flit/", "-**", ".flit", "", ""},
		{".flit/ .flit/k a/ a/.flit/", "-**", ".flit/k", "", ""},
		{".flit/ .flit/k a/ a/.flit/", "-.flit", "a", "a/ a/.flit/", "a/ a/.flit/"},
		{"", "-**", "a", "", ""},
	} {
		in := hidden(sample.Nodes(c.d))
		l := sample.Rules(c.rules)
		if got := sample.Words(Left(in, l, false, c.p)); got != c.keep {
			t.Errorf("%s, Left of %q without deletion: %s, want %s", c.rules, c.p, got, c.keep)
		}
		if got := sample.Words(Left(in, l, true, c.p)); got != c.del {
			t.Errorf("%s, Left of %q with deletion: %s, want %s", c.rules, c.p, got, c.del)
		}
		if !untouched(in, sample.Nodes(c.d)) || !slices.Equal(l, sample.Rules(c.rules)) {
			t.Errorf("%s, Left of %q: what was handed in is changed", c.rules, c.p)
		}
	}
}

// left is what is left of what is at a path, as the document says it, node by node.
func left(d []api.Node, rules []api.Rule, del bool, p string) []api.Node {
	within := tree.Sub(tree.Shown(d), p)
	var out []api.Node
	for _, n := range within {
		stays := !del || choice.Shut(rules, n)
		for _, m := range within {
			stays = stays || paths.Under(m.Path, n.Path) && choice.Shut(rules, m)
		}
		if stays {
			out = append(out, n)
		}
	}
	return out
}

// told is what the mirror has beneath a directory, as the document says it, path by path, and which nodes are the sender's.
func told(s, d []api.Node, rules []api.Rule, del bool, up string) (out []api.Node, ours []bool) {
	l := map[string]int{}
	for n := range tree.Kids(s, up) {
		l[n.Path] = 1
	}
	for n := range tree.Kids(d, up) {
		l[n.Path] = 1
	}
	for p := range l {
		x, sent := tree.Find(choice.Sent(s, rules), p)
		y, there := tree.Find(tree.Shown(d), p)
		rest := left(d, rules, del, p)
		switch {
		case there && choice.Shut(rules, y):
			rest = tree.Sub(d, p)
		case sent && x.Kind == api.Dir:
			more, whose := told(s, d, rules, del, p)
			out = append(append(out, x), more...)
			ours = append(append(ours, true), whose...)
			continue
		case sent && there && y.Kind == api.Dir && (!del || len(rest) > 0):
		case sent:
			out, ours = append(out, x), append(ours, true)
			continue
		}
		out, ours = append(out, rest...), append(ours, make([]bool, len(rest))...)
	}
	return out, ours
}

// expected is the whole of it, in the order of paths.
func expected(s, d []api.Node, rules []api.Rule, del bool) ([]api.Node, []bool) {
	all, whose := told(s, d, rules, del, "")
	out := slices.Clone(all)
	slices.SortFunc(out, func(a, b api.Node) int { return paths.Cmp(a.Path, b.Path) })
	ours := make([]bool, len(all))
	for i, n := range out {
		ours[i] = whose[slices.Index(all, n)]
	}
	return out, ours
}

// drawn is a well-formed tree out of few names, each node of which has a time of its own.
func drawn(r *rand.Rand, from int) []api.Node {
	var l []api.Node
	for i := range r.Intn(30) {
		var p []string
		for range 1 + r.Intn(4) {
			p = append(p, []string{"a", "b", "c", "a-", ".flit"}[r.Intn(5)])
		}
		n := api.Node{Path: strings.Join(p, "/"), Kind: api.Dir, Time: from + i}
		switch r.Intn(5) {
		case 0:
			n.Kind, n.Data = api.File, strconv.Itoa(r.Intn(3))
		case 1:
			n.Kind, n.Data = api.Link, "x"
		}
		l = append(l, n)
	}
	return tree.Of(l)
}

// TestDrawn: 14.1 and 14.2.
func TestDrawn(t *testing.T) {
	r := rand.New(rand.NewSource(1))
	counts := map[string]int{}
	for range 3000 {
		s, d, rules, del := drawn(r, 1), drawn(r, 100), sample.DrawRules(r.Intn), r.Intn(2) == 0
		inS, inD, wasRules := hidden(s), hidden(d), slices.Clone(rules)
		want, whose := expected(s, d, rules, del)
		got, ours, blocked := Of(inS, inD, rules, del), Ours(inS, inD, rules, del), Blocked(inS, inD, rules, del)
		if !tree.Same(got, want) || !slices.Equal(ours, whose) {
			t.Fatalf("%v, %v: the mirror of %s and %s: %s, %v, want %s, %v", rules, del, sample.Words(s), sample.Words(d), sample.Words(got), ours, sample.Words(want), whose)
		}
		var no []api.Node
		for _, n := range choice.Sent(s, rules) {
			if i := slices.Index(want, n); i < 0 || !whose[i] {
				no = append(no, n)
			}
		}
		if !tree.Same(blocked, no) {
			t.Fatalf("%v, %v: blocked of %s and %s: %s, want %s", rules, del, sample.Words(s), sample.Words(d), sample.Words(blocked), sample.Words(no))
		}
		for _, n := range d {
			if !tree.Same(Left(inD, rules, del, n.Path), left(d, rules, del, n.Path)) {
				t.Fatalf("%v, %v: Left of %s of %s: %s", rules, del, n.Path, sample.Words(d), sample.Words(Left(inD, rules, del, n.Path)))
			}
		}
		follows(t, s, d, rules, del)
		counts["nodes"] += len(got)
		counts["blocked"] += len(blocked)
		for i := range got {
			got[i], ours[i] = api.Node{}, true
		}
		for i := range blocked {
			blocked[i] = api.Node{}
		}
		if !untouched(inS, s) || !untouched(inD, d) || !slices.Equal(rules, wasRules) {
			t.Fatal("what was handed in is changed, or shared")
		}
	}
	if counts["nodes"] < 10000 || counts["blocked"] < 200 {
		t.Errorf("too few were looked at: %v", counts)
	}
}

// follows: 14.2.
func follows(t *testing.T, s, d []api.Node, rules []api.Rule, del bool) {
	t.Helper()
	m := Of(s, d, rules, del)
	if e := tree.Check(m); e != api.OK {
		t.Fatalf("the mirror %s is no tree: %d", sample.Words(m), e)
	}
	if again := Of(s, m, rules, del); !tree.Same(again, m) {
		t.Fatalf("%v, %v: the mirror of %s and of the mirror %s is %s", rules, del, sample.Words(s), sample.Words(m), sample.Words(again))
	}
	for _, n := range choice.Guarded(d, rules) {
		if x, _ := tree.Find(m, n.Path); x != n {
			t.Fatalf("%v, %v: %s is guarded, but %v is there", rules, del, n.Path, x)
		}
	}
	if all := Of(s, d, nil, true); !tree.Same(all, tree.Shown(s)) || len(Blocked(s, d, nil, true)) != 0 {
		t.Fatalf("all deleted: %s, of %s", sample.Words(all), sample.Words(s))
	}
}

// wide is n files, in order.
func wide(from, n int) []api.Node {
	var t []api.Node
	for i := range n {
		t = append(t, file("f"+strconv.Itoa(from+i), ""))
	}
	return t
}

// TestMany: the mirror may have more nodes than a tree.
func TestMany(t *testing.T) {
	s, d := wide(1000, 512), wide(1500, 512)
	all := wide(1000, 1012)
	if got := Of(s, d, nil, false); !tree.Same(got, all) || tree.Check(got) != api.ErrLong {
		t.Errorf("%d nodes", len(got))
	}
	ours := Ours(s, d, nil, false)
	for i := range all {
		if len(ours) != len(all) || ours[i] != (i < 512) {
			t.Fatalf("Ours of %d", i)
		}
	}
	if got := Of(s, d, nil, true); !tree.Same(got, s) || len(Blocked(s, d, nil, false)) != 0 {
		t.Errorf("%d nodes", len(got))
	}
}

// TestDeep: a tree as deep as one can be.
func TestDeep(t *testing.T) {
	var s, d []api.Node
	p := ""
	for range 15 {
		p = strings.TrimPrefix(p+"/abcdefghijkl", "/")
		s, d = append(s, dir(p)), append(d, dir(p))
	}
	s, d = append(s, file(p+"/x", "1")), append(d, file(p+"/k", "2"))
	if got := Of(s, d, sample.Rules("-k"), true); len(got) != 17 || got[15] != d[15] || got[16] != s[15] {
		t.Errorf("%s", sample.Words(got))
	}
	if got := Of(s[:1], d, sample.Rules("-k"), true); len(got) != 16 || got[0] != s[0] || got[15] != d[15] {
		t.Errorf("%s", sample.Words(got))
	}
	if got := Left(d, sample.Rules("-k"), true, d[0].Path); !tree.Same(got, d) {
		t.Errorf("%s", sample.Words(got))
	}
}

// TestNotWellFormed: of what isn't a tree nothing is promised but an end, and that it isn't changed.
func TestNotWellFormed(t *testing.T) {
	odd := []api.Node{dir(""), dir(""), dir("/"), dir("a/"), {Path: "a", Kind: -9, Data: "x"}, file("a/b", ""), file("f", ""), dir("f/g"), file("f/g/h", ""), file("q/r", ""), file("b", ""), dir("b"), {Path: strings.Repeat("a/", 1<<12), Kind: 1 << 62}, {Path: "c"}, file("c/d", "")}
	var deep []api.Node
	for i := range 40 {
		deep = append(deep, dir(strings.TrimSuffix(strings.Repeat("a/", i+1), "/")), file("f", ""), dir(""))
	}
	lists := [][]api.Node{nil, odd, deep, make([]api.Node, 2000)}
	for _, s := range lists {
		for _, d := range lists {
			for _, rules := range [][]api.Rule{nil, sample.Rules("-**"), sample.Rules("-f -[ -a/b"), slices.Repeat(sample.Rules("-x"), 100)} {
				for _, del := range []bool{false, true} {
					inS, inD := hidden(s), hidden(d)
					first := Of(inS, inD, rules, del)
					if len(Ours(inS, inD, rules, del)) != len(first) || !slices.Equal(first, Of(inS, inD, rules, del)) {
						t.Error("one call tells otherwise than another one")
					}
					Blocked(inS, inD, rules, del)
					for _, p := range []string{"", "/", "a", "a/b", "f", "b", strings.Repeat("a/", 1<<12)} {
						Left(inD, rules, del, p)
					}
					if !untouched(inS, s) || !untouched(inD, d) {
						t.Error("a list was changed")
					}
				}
			}
		}
	}
}
