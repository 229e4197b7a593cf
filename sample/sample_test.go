package sample

import (
	"flitting/api"
	"flitting/tree"
	"math/rand"
	"slices"
	"testing"
)

// TestNodes: words are made nodes, and these the same words.
func TestNodes(t *testing.T) {
	text := "a/ a/b=1 a/c l>a/b"
	want := []api.Node{
		{Path: "a", Kind: api.Dir, Mode: 5},
		{Path: "a/b", Kind: api.File, Time: 3, Data: "1"},
		{Path: "a/c", Kind: api.File, Time: 3},
		{Path: "l", Kind: api.Link, Data: "a/b"},
	}
	if got := Nodes(text); !slices.Equal(got, want) {
		t.Errorf("%v", got)
	}
	if got := Words(want); got != text {
		t.Errorf("%s", got)
	}
}

// TestRules: signs and patterns.
func TestRules(t *testing.T) {
	want := []api.Rule{{Keep: true, Pattern: "a"}, {Pattern: "b/"}, {}}
	if got := Rules("+a -b/ -"); !slices.Equal(got, want) {
		t.Errorf("%v", got)
	}
}

// TestHidden: what lies behind a list is seen to be touched.
func TestHidden(t *testing.T) {
	l := []int{1, 2}
	in := Hidden(l, 9)
	if !slices.Equal(in, l) || !Untouched(in, l, 9) {
		t.Fatalf("%v", in)
	}
	if _ = append(in, 3); Untouched(in, l, 9) {
		t.Errorf("behind the list")
	}
	in = Hidden(l, 9)
	if in[0] = 3; Untouched(in, l, 9) {
		t.Errorf("in the list")
	}
}

// TestTree: drawn trees are well-formed, and of all kinds; of the rules some are right.
func TestTree(t *testing.T) {
	r := rand.New(rand.NewSource(1))
	kinds, rules := map[int]int{}, 0
	for range 100 {
		l := DrawTree(r.Intn, 20)
		if tree.Check(l) != api.OK || len(l) > 20 {
			t.Fatalf("%s", Words(l))
		}
		for _, n := range l {
			kinds[n.Kind]++
		}
		rules += len(DrawRules(r.Intn))
	}
	if len(kinds) != 3 || rules == 0 {
		t.Errorf("kinds %v, %d rules", kinds, rules)
	}
}

// TestDrawn: what is drawn out of a tree is well-formed; some of it is as it was, and some isn't.
func TestDrawn(t *testing.T) {
	r := rand.New(rand.NewSource(2))
	moved, shuffled, ruled := 0, 0, 0
	for n := range 300 {
		want, have, o := DrawTrees(r.Intn, n)
		l := DrawMoved(r.Intn, have)
		for _, x := range [][]api.Node{want, have, l} {
			if tree.Check(x) != api.OK {
				t.Fatalf("%s", Words(x))
			}
		}
		for _, x := range l {
			// Each node has a time of its own.
			if !slices.ContainsFunc(have, func(y api.Node) bool { return x.Time == y.Time && x.Data == y.Data }) {
				t.Fatalf("%s is new: %s out of %s", x.Path, Words(l), Words(have))
			}
		}
		if !tree.Same(l, have) {
			moved++
		}
		if n%4 > 0 && !tree.Same(want, have) {
			shuffled++
		}
		ruled += len(o.Rules)
	}
	if moved < 150 || shuffled < 150 || ruled == 0 {
		t.Errorf("too few: %d, %d, %d", moved, shuffled, ruled)
	}
}

// TestPrepared: what stands in place of the reserved directory goes, all else stays.
func TestPrepared(t *testing.T) {
	for have, want := range map[string]string{
		"":                      ".flit/",
		"a/ a/.flit=1":          ".flit/ a/ a/.flit=1",
		".flit/ .flit/n0=1 a=1": ".flit/ .flit/n0=1 a=1",
		".flit=1 a=1":           ".flit/ a=1",
		".flit>x a=1":           ".flit/ a=1",
	} {
		if got := Words(Prepared(Nodes(have))); got != want {
			t.Errorf("%s: %s, want %s", have, got, want)
		}
	}
}
