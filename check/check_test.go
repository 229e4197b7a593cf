package check

import (
	"flitting/api"
	"flitting/edit"
	"flitting/node"
	"flitting/paths"
	"flitting/sample"
	"flitting/tree"
	"maps"
	"math"
	"math/rand"
	"slices"
	"strconv"
	"strings"
	"testing"
)

// read reads lines of edits, with ; between them.
func read(t *testing.T, text string) []api.Edit {
	t.Helper()
	var l []api.Edit
	for line := range strings.SplitSeq(text, "; ") {
		if line == "" {
			continue
		}
		e, err := edit.Read(line)
		if err != api.OK {
			t.Fatalf("no edit: %s", line)
		}
		l = append(l, e)
	}
	return l
}

// There is this, and this is sent: 0 to 4.
const (
	there = ".flit/ .flit/n0=old a/ a/b/ a/b/y=2 a/x=1 a-=5 f=3 l>f"
	sent  = "d/ d/x=new g l>target m=5"
)

// long is a path of n names beneath a, which has no slash.
func long(n int) string {
	return "a" + strings.Repeat("/x", n-1)
}

// deep is directories, one in the other, of which the last one has a path of n names.
func deep(n int) []api.Node {
	var l []api.Node
	for i := range n {
		l = append(l, api.Node{Path: long(i + 1), Kind: api.Dir})
	}
	return l
}

// TestStep: 30.1, what each edit does, and each error.
func TestStep(t *testing.T) {
	for _, c := range []struct{ line, out string }{
		{"copy f .flit/n1", ".flit/ .flit/n0=old .flit/n1=3 a/ a/b/ a/b/y=2 a/x=1 a-=5 f=3 l>f"},
		{"copy .flit/n0 .flit/n1", ".flit/ .flit/n0=old .flit/n1=old a/ a/b/ a/b/y=2 a/x=1 a-=5 f=3 l>f"},
		{"delta f .flit/n1 1", ".flit/ .flit/n0=old .flit/n1=new a/ a/b/ a/b/y=2 a/x=1 a-=5 f=3 l>f"},
		{"fetch .flit/n1 1", ".flit/ .flit/n0=old .flit/n1=new a/ a/b/ a/b/y=2 a/x=1 a-=5 f=3 l>f"},
		{"fetch .flit/-0 2", ".flit/ .flit/-0 .flit/n0=old a/ a/b/ a/b/y=2 a/x=1 a-=5 f=3 l>f"},
		{"link .flit/n1 3", ".flit/ .flit/n0=old .flit/n1>target a/ a/b/ a/b/y=2 a/x=1 a-=5 f=3 l>f"},
		{"stow f .flit/n1", ".flit/ .flit/n0=old .flit/n1=3 a/ a/b/ a/b/y=2 a/x=1 a-=5 l>f"},
		{"stow a .flit/n1", ".flit/ .flit/n0=old .flit/n1/ .flit/n1/b/ .flit/n1/b/y=2 .flit/n1/x=1 a-=5 f=3 l>f"},
		{"stow f .flit/n0", ".flit/ .flit/n0=3 a/ a/b/ a/b/y=2 a/x=1 a-=5 l>f"},
		{"move .flit/n0 f", ".flit/ a/ a/b/ a/b/y=2 a/x=1 a-=5 f=old l>f"},
		{"move f a/f", ".flit/ .flit/n0=old a/ a/b/ a/b/y=2 a/f=3 a/x=1 a-=5 l>f"},
		{"move a/b b", ".flit/ .flit/n0=old a/ a/x=1 a-=5 b/ b/y=2 f=3 l>f"},
		{"move l f", ".flit/ .flit/n0=old a/ a/b/ a/b/y=2 a/x=1 a-=5 f>f"},
		{"move f l", ".flit/ .flit/n0=old a/ a/b/ a/b/y=2 a/x=1 a-=5 l=3"},
		{"mkdir a/a", ".flit/ .flit/n0=old a/ a/a/ a/b/ a/b/y=2 a/x=1 a-=5 f=3 l>f"},
		{"mkdir .flit/a", ".flit/ .flit/a/ .flit/n0=old a/ a/b/ a/b/y=2 a/x=1 a-=5 f=3 l>f"},
		{"remove a/b/y", ".flit/ .flit/n0=old a/ a/b/ a/x=1 a-=5 f=3 l>f"},
		{"remove a-", ".flit/ .flit/n0=old a/ a/b/ a/b/y=2 a/x=1 f=3 l>f"},
		{"remove l", ".flit/ .flit/n0=old a/ a/b/ a/b/y=2 a/x=1 a-=5 f=3"},
		{"meta f 1", there},
		{"meta a 0", there},
	} {
		got, e := Step(sample.Nodes(there), read(t, c.line)[0], sample.Nodes(sent))
		if sample.Words(got) != c.out || e != api.OK {
			t.Errorf("%s: %s, %d, want %s", c.line, sample.Words(got), e, c.out)
		}
	}
}

// TestMade: 30.1, what is made has no mode and no time; what is moved keeps its own.
func TestMade(t *testing.T) {
	old := []api.Node{{Path: ".flit", Kind: api.Dir, Mode: 1, Time: 2}, {Path: "d", Kind: api.Dir, Mode: 3, Time: 4}, {Path: "d/x", Kind: api.File, Mode: 5, Time: 6, Data: "x"}, {Path: "l", Kind: api.Link, Time: 7, Data: "l"}}
	from := []api.Node{{Path: "a", Kind: api.File, Mode: 9, Time: 9, Data: "a"}, {Path: "b", Kind: api.Link, Time: 9, Data: "b"}}
	for line, want := range map[string]api.Node{
		"copy d/x .flit/n":    {Path: ".flit/n", Kind: api.File, Data: "x"},
		"delta d/x .flit/n 0": {Path: ".flit/n", Kind: api.File, Data: "a"},
		"fetch .flit/n 0":     {Path: ".flit/n", Kind: api.File, Data: "a"},
		"link .flit/n 1":      {Path: ".flit/n", Kind: api.Link, Data: "b"},
		"mkdir n":             {Path: "n", Kind: api.Dir},
		"stow l .flit/n":      {Path: ".flit/n", Kind: api.Link, Time: 7, Data: "l"},
		"move d n":            {Path: "n", Kind: api.Dir, Mode: 3, Time: 4},
		"meta d 0":            {Path: "d", Kind: api.Dir, Mode: 9, Time: 9},
		"meta d/x 1":          {Path: "d/x", Kind: api.File, Mode: 0, Time: 9, Data: "x"},
		"meta l 1":            {Path: "l", Kind: api.Link, Time: 9, Data: "l"},
	} {
		e := read(t, line)[0]
		got, err := Step(old, e, from)
		n, ok := tree.Find(got, e.To)
		if n != want || !ok || err != api.OK {
			t.Errorf("%s: %v, %d, want %v", line, n, err, want)
		}
		// All else is as it was.
		for _, n := range tree.Drop(got, e.To) {
			if !slices.Contains(old, n) {
				t.Errorf("%s: %v", line, n)
			}
		}
	}
	moved, _ := Step(old, read(t, "move d n")[0], nil)
	if n, _ := tree.Find(moved, "n/x"); n != (api.Node{Path: "n/x", Kind: api.File, Mode: 5, Time: 6, Data: "x"}) || len(moved) != 4 {
		t.Errorf("%v", moved)
	}
}

// TestErrors: 30.1, the first error that an edit has.
func TestErrors(t *testing.T) {
	for line, want := range map[string]api.Errno{
		"copy b .flit/n1":        api.ErrNone,
		"copy a .flit/n1":        api.ErrKind,
		"copy l .flit/n1":        api.ErrKind,
		"copy f .flit/n0":        api.ErrExists,
		"copy f .flit/n1/x":      api.ErrNone,
		"copy f .flit/n0/x":      api.ErrKind,
		"copy b .flit/n0":        api.ErrNone,
		"copy a .flit/n1/x":      api.ErrKind,
		"delta b .flit/n1 1":     api.ErrNone,
		"delta a .flit/n1 1":     api.ErrKind,
		"delta l .flit/n1 1":     api.ErrKind,
		"delta f .flit/n1 5":     api.ErrNone,
		"delta f .flit/n1 511":   api.ErrNone,
		"delta f .flit/n1 0":     api.ErrKind,
		"delta f .flit/n1 3":     api.ErrKind,
		"delta f .flit/n0 1":     api.ErrExists,
		"delta f .flit/n1/x 1":   api.ErrNone,
		"delta f .flit/n0/x 1":   api.ErrKind,
		"delta b .flit/n0 0":     api.ErrNone,
		"delta a .flit/n0 5":     api.ErrKind,
		"delta f .flit/n0 0":     api.ErrKind,
		"delta f .flit/n0/x 5":   api.ErrNone,
		"fetch .flit/n1 5":       api.ErrNone,
		"fetch .flit/n1 0":       api.ErrKind,
		"fetch .flit/n1 3":       api.ErrKind,
		"fetch .flit/n0 1":       api.ErrExists,
		"fetch .flit/n1/x 1":     api.ErrNone,
		"fetch .flit/n0/x 1":     api.ErrKind,
		"fetch .flit/n0 5":       api.ErrNone,
		"fetch .flit/n1/x 0":     api.ErrKind,
		"link .flit/n1 5":        api.ErrNone,
		"link .flit/n1 0":        api.ErrKind,
		"link .flit/n1 1":        api.ErrKind,
		"link .flit/n0 3":        api.ErrExists,
		"link .flit/n1/x 3":      api.ErrNone,
		"link .flit/n0/x 3":      api.ErrKind,
		"link .flit/n0/x 5":      api.ErrNone,
		"stow b .flit/n1":        api.ErrNone,
		"stow f .flit/n1/x":      api.ErrNone,
		"stow f .flit/n0/x":      api.ErrKind,
		"stow a .flit/n0":        api.ErrExists,
		"stow .flit .flit/n1":    api.ErrPath,
		"stow .flit/n0 .flit/n0": api.ErrPath,
		"move b c":               api.ErrNone,
		"move f f":               api.ErrPath,
		"move a a/c":             api.ErrPath,
		"move b b/x":             api.ErrPath,
		"move f b/x":             api.ErrNone,
		"move f l/x":             api.ErrKind,
		"move f a":               api.ErrExists,
		"move a f":               api.ErrExists,
		"move a/b a":             api.ErrExists,
		"mkdir a":                api.ErrExists,
		"mkdir f":                api.ErrExists,
		"mkdir b/c":              api.ErrNone,
		"mkdir f/c":              api.ErrKind,
		"mkdir l/c":              api.ErrKind,
		"remove b":               api.ErrNone,
		"remove a/c":             api.ErrNone,
		"remove a":               api.ErrBusy,
		"remove a/b":             api.ErrBusy,
		"remove .flit":           api.ErrBusy,
		"meta b 1":               api.ErrNone,
		"meta f 5":               api.ErrNone,
		"meta f 511":             api.ErrNone,
		"meta b 5":               api.ErrNone,
		"meta l 0":               api.ErrArg,
	} {
		got, e := Step(sample.Nodes(there), read(t, line)[0], sample.Nodes(sent))
		if len(got) != 0 || e != want {
			t.Errorf("%s: %s, %d, want %d", line, sample.Words(got), e, want)
		}
	}
}

// TestWrong: 30.1, what isn't right, whatever else is wrong with it.
func TestWrong(t *testing.T) {
	for _, e := range []api.Edit{
		{},
		{Kind: 10, From: "f", To: "b"},
		{Kind: -1, From: "f", To: "b"},
		{Kind: math.MaxInt},
		{Kind: api.EdCopy, From: "f", To: "b"},
		{Kind: api.EdCopy, From: "f", To: ".flit"},
		{Kind: api.EdCopy, From: "f", To: ".flit/n1", N: 1},
		{Kind: api.EdCopy, From: "b//", To: ".flit/n1"},
		{Kind: api.EdCopy, To: ".flit/n1"},
		{Kind: api.EdDelta, From: "f", To: ".flit/n1", N: 512},
		{Kind: api.EdDelta, To: ".flit/n1", N: 1},
		{Kind: api.EdDelta, From: "f", To: ".flit/n1", N: -1},
		{Kind: api.EdFetch, From: "f", To: ".flit/n1", N: 1},
		{Kind: api.EdFetch, To: ".flit/n1", N: -1},
		{Kind: api.EdFetch, To: ".flit/n1", N: math.MinInt},
		{Kind: api.EdFetch, To: "n1", N: 1},
		{Kind: api.EdLink, To: ".flit/n1", N: 1 << 40},
		{Kind: api.EdLink, To: "n1", N: 3},
		{Kind: api.EdStow, From: "f", To: "b"},
		{Kind: api.EdStow, From: "f", To: ".flit"},
		{Kind: api.EdMove, From: "f"},
		{Kind: api.EdMove, To: "b"},
		{Kind: api.EdMove, From: "f", To: "b", N: 1},
		{Kind: api.EdMove, From: "f", To: long(17)},
		{Kind: api.EdMkdir},
		{Kind: api.EdMkdir, To: "b/"},
		{Kind: api.EdMkdir, From: "f", To: "b"},
		{Kind: api.EdRemove},
		{Kind: api.EdRemove, From: "f", To: "f"},
		{Kind: api.EdRemove, From: "f", N: 1},
		{Kind: api.EdMeta, To: "f", N: -1},
		{Kind: api.EdMeta, To: "f", N: 512},
		{Kind: api.EdMeta, From: "f", To: "f", N: 1},
	} {
		if got, err := Step(sample.Nodes(there), e, sample.Nodes(sent)); len(got) != 0 || err != api.ErrArg {
			t.Errorf("%v: %s, %d", e, sample.Words(got), err)
		}
		if got, at, err := Run(sample.Nodes(there), []api.Edit{{Kind: api.EdMkdir, To: "b"}, e}, sample.Nodes(sent)); len(got) != 0 || at != 1 || err != api.ErrArg {
			t.Errorf("%v behind another: %s, %d, %d", e, sample.Words(got), at, err)
		}
	}
}

// full is a tree with as many nodes as there may be, one of them the reserved directory.
func full() []api.Node {
	l := sample.Nodes(".flit/ f=1")
	for i := len(l); i < api.MaxNodes; i++ {
		l = append(l, api.Node{Path: "x" + strconv.Itoa(1000+i), Kind: api.File})
	}
	return l
}

// TestLimits: 30.1, trees that are full, paths that are long, and what is sent that isn't right.
func TestLimits(t *testing.T) {
	sent := []api.Node{{Path: "f", Kind: api.File, Data: strings.Repeat("x", api.MaxFile)}, {Path: "g", Kind: api.File, Data: strings.Repeat("x", api.MaxFile+1)}, {Path: "l", Kind: api.Link}, {Path: "m", Kind: api.Link, Data: " "}, {Path: "n", Kind: api.File, Mode: 4096}, {Path: "o", Kind: api.Dir, Time: -1}, {Path: "p", Kind: api.File, Mode: 4095, Time: api.MaxTime}}
	for _, c := range []struct {
		t    []api.Node
		line string
		want api.Errno
	}{
		{full(), "copy f .flit/n1", api.ErrLong},
		{full(), "delta f .flit/n1 0", api.ErrLong},
		{full(), "fetch .flit/n1 0", api.ErrLong},
		{full(), "mkdir a", api.ErrLong},
		{full(), "mkdir f", api.ErrExists},
		{full(), "move f a", api.OK},
		{full()[:511], "mkdir a", api.OK},
		{full()[:511], "fetch .flit/n1 0", api.OK},
		{full()[:511], "fetch .flit/n1 1", api.ErrLong},
		{full()[:511], "link .flit/n1 2", api.ErrArg},
		{full()[:511], "link .flit/n1 3", api.ErrArg},
		{full(), "meta f 4", api.ErrArg},
		{full(), "meta f 5", api.ErrArg},
		{full(), "meta f 6", api.OK},
		{deep(16), "mkdir " + long(16), api.ErrExists},
		{deep(15), "mkdir " + long(16), api.OK},
		{deep(15), "move a b", api.OK},
		{append(sample.Nodes(".flit/"), deep(15)...), "stow a .flit/n1", api.OK},
		{append(sample.Nodes(".flit/"), deep(16)...), "stow a .flit/n1", api.ErrLong},
		{append(sample.Nodes(".flit/"), deep(16)...), "move " + long(2) + " .flit/n1", api.OK},
	} {
		got, e := Step(c.t, read(t, c.line)[0], sent)
		if e != c.want || (len(got) == 0) != (c.want != api.OK) {
			t.Errorf("%d nodes, %.80s: %d nodes, %d, want %d", len(c.t), c.line, len(got), e, c.want)
		}
	}
}

// TestRun: 30.1, edits one by one, and the place of the first one that can't be done.
func TestRun(t *testing.T) {
	for _, c := range []struct {
		t, lines, out string
		at            int
		e             api.Errno
	}{
		{"", "", "", 0, api.OK},
		{there, "", there, 0, api.OK},
		{"", "mkdir a; mkdir a/b; mkdir c; move c a/b/c", "a/ a/b/ a/b/c/", 0, api.OK},
		{".flit/ a=1 b=2", "stow b .flit/n1; move a b; move .flit/n1 a", ".flit/ a=2 b=1", 0, api.OK},
		{".flit/ a=1", "fetch .flit/n 1; move .flit/n a; meta a 1; remove .flit", "a=new", 0, api.OK},
		{"a/ a/x", "remove a", "", 0, api.ErrBusy},
		{"a/ a/x", "remove a/x; remove a", "", 0, api.OK},
		{"a/ a/x", "remove a/x; remove a; remove a", "", 2, api.ErrNone},
		{"a/ a/x", "remove a/x; remove b; remove a; remove c", "", 1, api.ErrNone},
		{"", "fetch .flit/n 1", "", 0, api.ErrNone},
		{"", "mkdir .flit; fetch .flit/n 1; link .flit/n 3", "", 2, api.ErrExists},
		{"", "mkdir .flit; fetch .flit/n 1; link .flit/m 3; move .flit/n .flit/m", ".flit/ .flit/m=new", 0, api.OK},
		{"a=1", "mkdir a", "", 0, api.ErrExists},
		{"a=1", "remove a; mkdir a; mkdir a/a; mkdir a", "", 3, api.ErrExists},
	} {
		l := read(t, c.lines)
		got, at, e := Run(sample.Nodes(c.t), l, sample.Nodes(sent))
		if sample.Words(got) != c.out || at != c.at || e != c.e {
			t.Errorf("%s: %s: %s, %d, %d, want %s, %d, %d", c.t, c.lines, sample.Words(got), at, e, c.out, c.at, c.e)
		}
		want := tree.Shown(got)
		if Reaches(sample.Nodes(c.t), l, sample.Nodes(sent), want) != (c.e == api.OK) {
			t.Errorf("%s: %s: reaches %s", c.t, c.lines, sample.Words(want))
		}
	}
}

// TestReaches: 30.2, whether edits make a tree, without what is reserved.
func TestReaches(t *testing.T) {
	for _, c := range []struct {
		t, lines, want string
		reaches        bool
	}{
		{"", "", "", true},
		{"a=1", "", "a=1", true},
		{"a=1", "", "a=2", false},
		{"a=1", "", "b=1", false},
		{"a=1", "", "", false},
		{"", "", "a=1", false},
		{"a=1", "move a b", "b=1", true},
		{"a=1", "move a b", "a=1", false},
		{"a=1", "move a b; move a c", "b=1", false},
		{"a=1", "move b c; move a b", "b=1", false},
		{"a=1 b=2", "remove c", "", false},
		{"a=1 b=2", "remove b", "a=1", true},
		{".flit/ .flit/n0=1 a=1", "", "a=1", true},
		{".flit=1 a=1", "", "a=1", true},
		{".flit>1 a=1", "", "a=1", true},
		{".flit/ .flit/n0=1 a=1", "", ".flit/ .flit/n0=1 a=1", false},
		{".flit/ .flit/n0=1 a=2", "move .flit/n0 a", "a=1", true},
		{".flit/ .flit/n0=1", "move .flit/n0 a; move a .flit/n0", "", true},
		{".flit-/ a=1", "", "a=1", false},
	} {
		if got := Reaches(sample.Nodes(c.t), read(t, c.lines), nil, sample.Nodes(c.want)); got != c.reaches {
			t.Errorf("%s: %s: %s is %v", c.t, c.lines, c.want, got)
		}
	}
	// Modes and times count.
	old, from := sample.Nodes("a/ b=1"), []api.Node{{Path: "a", Kind: api.Dir, Mode: 7, Time: 8}}
	want := []api.Node{{Path: "a", Kind: api.Dir, Mode: 7, Time: 8}, {Path: "b", Kind: api.File, Mode: 7, Time: 8, Data: "1"}}
	if Reaches(old, read(t, "meta a 0"), from, want) || !Reaches(old, read(t, "meta a 0; meta b 0"), from, want) || Reaches(old, read(t, "meta a 0; meta b 0"), nil, want) {
		t.Errorf("by modes and times")
	}
}

// TestMemory: R5, what is handed in isn't changed, and what is told is new.
func TestMemory(t *testing.T) {
	no := api.Node{Path: "no", Kind: api.File}
	old, from, l := sample.Nodes(there), sample.Nodes(sent), read(t, "copy f .flit/n1; delta f .flit/n2 1; fetch .flit/n3 1; link .flit/n4 3; stow a/x .flit/n5; move .flit/n5 b; mkdir a/c; remove f; meta a 1; meta b 0")
	inOld, inFrom, inL := sample.Hidden(old, no), sample.Hidden(from, no), sample.Hidden(l, api.Edit{})
	want, _, e := Run(inOld, inL, inFrom)
	if e != api.OK {
		t.Fatalf("%d", e)
	}
	again, _, _ := Run(inOld, inL, inFrom)
	clear(again)
	if !Reaches(inOld, inL, inFrom, tree.Shown(want)) {
		t.Errorf("another tree when asked again")
	}
	for _, e := range l {
		if got, err := Step(inOld, e, inFrom); err == api.OK {
			clear(got[:cap(got)])
		}
	}
	if got, _, e := Run(inOld, nil, inFrom); e == api.OK {
		clear(got[:cap(got)])
	}
	if !sample.Untouched(inOld, old, no) || !sample.Untouched(inFrom, from, no) || !sample.Untouched(inL, l, api.Edit{}) {
		t.Errorf("a list that was handed in is changed")
	}
	// What lies behind a list's end isn't there.
	if _, e := Step(inOld, read(t, "meta a 5")[0], inFrom); e != api.ErrNone {
		t.Errorf("a node behind what is sent: %d", e)
	}
	if _, e := Step(inOld, read(t, "remove no")[0], inFrom); e != api.ErrNone {
		t.Errorf("a node behind the tree: %d", e)
	}
}

// TestOdd: R1, no panic at whatever.
func TestOdd(t *testing.T) {
	odd := []api.Node{{}, {Path: "a", Kind: api.File}, {Path: "a", Kind: api.Dir}, {Path: "a/b", Kind: 9, Mode: -1}, {Path: "//", Kind: api.Link}, {Path: strings.Repeat("a/", 20), Kind: api.Dir}, {Path: "b", Kind: api.Dir, Data: "x"}, {Path: ".flit", Kind: api.Dir}}
	slices.Reverse(odd)
	var l []api.Edit
	for kind := -1; kind <= 10; kind++ {
		for _, from := range []string{"", "a", "a/b", ".flit", "//"} {
			for _, to := range []string{"", "a", "a/b", ".flit/a", ".flit", "//"} {
				for _, n := range []int{math.MinInt, -1, 0, 1, 7, 8, 511, math.MaxInt} {
					l = append(l, api.Edit{Kind: kind, From: from, To: to, N: n})
				}
			}
		}
	}
	lists := [][]api.Node{nil, {}, odd, slices.Repeat(odd, 100), sample.Nodes(there)}
	for _, old := range lists {
		for _, from := range lists {
			for _, e := range l {
				if got, err := Step(old, e, from); err != api.OK && len(got) != 0 {
					t.Fatalf("%v: %v, %d", e, got, err)
				}
			}
			Run(old, l, from)
			Reaches(old, l, from, old)
		}
	}
}

// slow is a tree as a map, in which edits are done as the document's words tell it.
type slow map[string]api.Node

// mapped is a tree as a map.
func mapped(l []api.Node) slow {
	t := slow{}
	for _, n := range l {
		t[n.Path] = n
	}
	return t
}

// nodes is the tree of a map.
func (t slow) nodes() []api.Node {
	return slices.SortedFunc(maps.Values(t), func(a, b api.Node) int { return paths.Cmp(a.Path, b.Path) })
}

// above tells what is wrong with what is to be above a path.
func (t slow) above(p string) api.Errno {
	i := strings.LastIndexByte(p, '/')
	if i < 0 {
		return api.OK
	}
	if up, ok := t[p[:i]]; !ok {
		return api.ErrNone
	} else if up.Kind != api.Dir {
		return api.ErrKind
	}
	return api.OK
}

// put puts a node.
func (t slow) put(n api.Node) api.Errno {
	if e := node.Check(n); e != api.OK {
		return e
	}
	if e := t.above(n.Path); e != api.OK {
		return e
	}
	if _, ok := t[n.Path]; ok {
		return api.ErrExists
	}
	if len(t) >= 512 {
		return api.ErrLong
	}
	t[n.Path] = n
	return api.OK
}

// move moves what is at a path.
func (t slow) move(from, to string) api.Errno {
	a, there := t[from]
	b, over := t[to]
	switch {
	case to == from || strings.HasPrefix(to, from+"/"):
		return api.ErrPath
	case !there:
		return api.ErrNone
	case t.above(to) != api.OK:
		return t.above(to)
	case over && (a.Kind == api.Dir || b.Kind == api.Dir):
		return api.ErrExists
	}
	for p, n := range maps.Clone(t) {
		if p == from || strings.HasPrefix(p, from+"/") {
			n.Path = to + strings.TrimPrefix(p, from)
			delete(t, p)
			t[n.Path] = n
		}
	}
	return api.OK
}

// needed tells whether there is a node of a kind, and what is wrong else.
func needed(n api.Node, ok bool, kind int) api.Errno {
	if !ok {
		return api.ErrNone
	}
	if n.Kind != kind {
		return api.ErrKind
	}
	return api.OK
}

// step does an edit, or tells its error, of paths that stay short.
func (t slow) step(e api.Edit, sent []api.Node) api.Errno {
	if !edit.Right(e) {
		return api.ErrArg
	}
	is := func(kinds ...int) bool { return slices.Contains(kinds, e.Kind) }
	old, isOld := t[e.From]
	var new api.Node
	isNew := e.N < len(sent)
	if isNew {
		new = sent[e.N]
	}
	if is(api.EdCopy, api.EdDelta) {
		if err := needed(old, isOld, api.File); err != api.OK {
			return err
		}
	}
	if is(api.EdDelta, api.EdFetch, api.EdLink, api.EdMeta) {
		kind := map[int]int{api.EdDelta: api.File, api.EdFetch: api.File, api.EdLink: api.Link, api.EdMeta: new.Kind}[e.Kind]
		if err := needed(new, isNew, kind); err != api.OK {
			return err
		}
	}
	switch {
	case is(api.EdCopy):
		return t.put(api.Node{Path: e.To, Kind: api.File, Data: old.Data})
	case is(api.EdDelta, api.EdFetch):
		return t.put(api.Node{Path: e.To, Kind: api.File, Data: new.Data})
	case is(api.EdLink):
		return t.put(api.Node{Path: e.To, Kind: api.Link, Data: new.Data})
	case is(api.EdMkdir):
		return t.put(api.Node{Path: e.To, Kind: api.Dir})
	case is(api.EdStow, api.EdMove):
		return t.move(e.From, e.To)
	case is(api.EdRemove):
		return t.remove(e.From)
	}
	return t.meta(e.To, new)
}

// remove removes a node, beneath which there is none.
func (t slow) remove(p string) api.Errno {
	if _, ok := t[p]; !ok {
		return api.ErrNone
	}
	for q := range t {
		if strings.HasPrefix(q, p+"/") {
			return api.ErrBusy
		}
	}
	delete(t, p)
	return api.OK
}

// meta gives a node the mode and the time of another one.
func (t slow) meta(p string, like api.Node) api.Errno {
	n, ok := t[p]
	if !ok {
		return api.ErrNone
	}
	n.Mode, n.Time = like.Mode, like.Time
	if e := node.Check(n); e != api.OK {
		return e
	}
	t[p] = n
	return api.OK
}

// drawn is an edit of what there is, or isn't.
func drawn(r *rand.Rand, l []api.Node) api.Edit {
	path := func() string {
		names := []string{"a", "b", "c", "a-", ".flit", ".flit/a", ".flit/b", ".flit/c", ".flit/a/b", "a/b", "b/a", "c/c/c"}
		if len(l) > 0 && r.Intn(3) > 0 {
			p := l[r.Intn(len(l))].Path
			if r.Intn(3) == 0 && paths.Depth(p) < 7 {
				p += "/" + names[r.Intn(3)]
			}
			return p
		}
		return names[r.Intn(len(names))]
	}
	e := api.Edit{Kind: r.Intn(11), N: r.Intn(12), From: path(), To: path()}
	if e.Kind == api.EdRemove && r.Intn(3) > 0 {
		e.Kind = api.EdCopy + r.Intn(4)
	}
	if e.Kind >= api.EdCopy && e.Kind <= api.EdStow && r.Intn(4) > 0 {
		e.To = ".flit/" + string(rune('a'+r.Intn(6)))
	}
	// What its kind hasn't is mostly empty.
	if r.Intn(20) > 0 {
		switch e.Kind {
		case api.EdCopy, api.EdStow, api.EdMove:
			e.N = 0
		case api.EdFetch, api.EdLink, api.EdMeta:
			e.From = ""
		case api.EdMkdir:
			e.From, e.N = "", 0
		case api.EdRemove:
			e.To, e.N = "", 0
		}
	}
	return e
}

// TestDrawn: 30.1 to 30.3, of drawn trees and edits.
func TestDrawn(t *testing.T) {
	r := rand.New(rand.NewSource(30))
	done, failed := map[int]int{}, map[api.Errno]int{}
	for range 800 {
		old, sent := sample.DrawTree(r.Intn, 100), sample.DrawTree(r.Intn, 100)
		if r.Intn(4) > 0 {
			old = tree.Of(append(old, api.Node{Path: ".flit", Kind: api.Dir}))
		}
		now, want := old, mapped(old)
		var l []api.Edit
		for range 100 {
			e := drawn(r, now)
			next, err := Step(now, e, sent)
			if wanted := want.step(e, sent); err != wanted {
				t.Fatalf("%s: %v: %d, want %d", sample.Words(now), e, err, wanted)
			}
			if err != api.OK {
				failed[err]++
				got, at, again := Run(old, append(slices.Clone(l), e, e), sent)
				if len(next) != 0 || len(got) != 0 || at != len(l) || again != err || Reaches(old, append(slices.Clone(l), e), sent, tree.Shown(now)) {
					t.Fatalf("%s: %v: %v, %v at %d, %d", sample.Words(now), e, next, got, at, again)
				}
				continue
			}
			if !slices.Equal(next, want.nodes()) || tree.Check(next) != api.OK {
				t.Fatalf("%s: %v: %s, want %s", sample.Words(now), e, sample.Words(next), sample.Words(want.nodes()))
			}
			done[e.Kind]++
			now, l = next, append(l, e)
		}
		got, at, e := Run(old, l, sent)
		if !slices.Equal(got, now) || at != 0 || e != api.OK || !Reaches(old, l, sent, tree.Shown(now)) {
			t.Fatalf("%s: %s: %s, %d, %d", sample.Words(old), edit.Text(l), sample.Words(got), at, e)
		}
	}
	for kind := api.EdCopy; kind <= api.EdMeta; kind++ {
		if done[kind] < 50 {
			t.Errorf("too few of the kind %d: %v", kind, done)
		}
	}
	for _, e := range []api.Errno{api.ErrArg, api.ErrNone, api.ErrKind, api.ErrBusy, api.ErrExists, api.ErrPath} {
		if failed[e] < 50 {
			t.Errorf("too few tell %d: %v", e, failed)
		}
	}
}
