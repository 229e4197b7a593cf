package tree

import (
	"flitting/api"
	"flitting/node"
	"flitting/paths"
	"iter"
	"math/rand"
	"slices"
	"strconv"
	"strings"
	"testing"
)

func dir(p string) api.Node     { return api.Node{Path: p, Kind: api.Dir, Mode: 5} }
func file(p, s string) api.Node { return api.Node{Path: p, Kind: api.File, Time: 3, Data: s} }
func link(p, s string) api.Node { return api.Node{Path: p, Kind: api.Link, Data: s} }

// some is a well-formed tree.
func some() []api.Node {
	return []api.Node{dir(".flit"), file(".flit/x", "123"), dir("a"), dir("a/b"), file("a/b/c", "45"), link("a/l", "b"), file("a-b", "6"), dir("d"), file("f", "")}
}

// deep is n directories, each beneath the one ahead.
func deep(n int) []api.Node {
	var t []api.Node
	for i := range n {
		t = append(t, dir(strings.TrimSuffix(strings.Repeat("a/", i+1), "/")))
	}
	return t
}

// wide is n files, in order.
func wide(n int) []api.Node {
	var t []api.Node
	for i := range n {
		t = append(t, file("f"+strconv.Itoa(1000+i), ""))
	}
	return t
}

// names is the paths of nodes.
func names(t []api.Node) string {
	var l []string
	for _, n := range t {
		l = append(l, n.Path)
	}
	return strings.Join(l, " ")
}

// told is what is told, till there are most of them.
func told(l iter.Seq[api.Node], most int) []api.Node {
	var out []api.Node
	for n := range l {
		out = append(out, n)
		if len(out) == most {
			break
		}
	}
	return out
}

// hidden is a list with room behind it, which holds nodes that nobody may see.
func hidden(t []api.Node) []api.Node {
	l := append(slices.Clone(t), file("zz/hidden", "no"), file("a", "no"), dir("zz"))
	return l[:len(t)]
}

// untouched tells whether what lies in and behind a list that hidden made is as it was.
func untouched(l, t []api.Node) bool {
	return slices.Equal(l, t) && slices.Equal(l[:len(l)+3], hidden(t)[:len(t)+3])
}

func TestCheck(t *testing.T) {
	for _, c := range []struct {
		what string
		t    []api.Node
		want api.Errno
	}{
		{"nil", nil, api.OK},
		{"empty", []api.Node{}, api.OK},
		{"some", some(), api.OK},
		{"16 deep", deep(16), api.OK},
		{"17 deep", deep(17), api.ErrPath},
		{"512 nodes", wide(512), api.OK},
		{"513 nodes", wide(513), api.ErrLong},
		{"513 wrong nodes", make([]api.Node, 513), api.ErrLong},
		{"the root", []api.Node{dir("")}, api.ErrPath},
		{"a wrong kind", []api.Node{{Path: "a"}}, api.ErrKind},
		{"a directory with bytes", []api.Node{{Path: "a", Kind: api.Dir, Data: "x"}}, api.ErrLong},
		{"a wrong mode", []api.Node{{Path: "a", Kind: api.Dir, Mode: -1}}, api.ErrArg},
		{"a second one that is wrong", []api.Node{dir("a"), dir("b/")}, api.ErrPath},
		{"twice", []api.Node{dir("a"), dir("a")}, api.ErrOrder},
		{"twice, unlike", []api.Node{dir("a"), file("a", "")}, api.ErrOrder},
		{"a turned pair", []api.Node{dir("b"), dir("a")}, api.ErrOrder},
		{"bytes' order", []api.Node{dir("a"), file("a-b", ""), file("a/b", "")}, api.ErrOrder},
		{"names' order", []api.Node{dir("a"), file("a/b", ""), file("a-b", "")}, api.OK},
		{"no parent", []api.Node{file("a/b", "")}, api.ErrNone},
		{"no parent's parent", []api.Node{dir("a"), file("a/b/c", "")}, api.ErrNone},
		{"a file above", []api.Node{file("a", ""), file("a/b", "")}, api.ErrKind},
		{"a link above", []api.Node{link("a", "b"), file("a/b", ""), dir("b")}, api.ErrKind},
		{"a parent that comes behind", []api.Node{file("a/b", ""), dir("a")}, api.ErrOrder},
		{"a parent that comes behind, and is none", []api.Node{file("a/b", ""), file("a", "")}, api.ErrKind},
		{"a parent that is there twice, a directory first", []api.Node{file("a/b", ""), dir("a"), file("a", "")}, api.ErrOrder},
		{"a parent that is there twice, a file first", []api.Node{file("a/b", ""), file("a", ""), dir("a")}, api.ErrKind},
		{"the node's error first", []api.Node{dir("b"), {Path: "a/x", Kind: 9}}, api.ErrKind},
		{"the order ahead of the parent", []api.Node{dir("b"), file("a/x", "")}, api.ErrOrder},
		{"the first one that is wrong", []api.Node{file("a/x", ""), {}}, api.ErrNone},
	} {
		l := hidden(c.t)
		if got := Check(l); got != c.want || !untouched(l, c.t) {
			t.Errorf("%s: Check %d, want %d", c.what, got, c.want)
		}
	}
}

func TestOf(t *testing.T) {
	for _, c := range []struct {
		what string
		l    []api.Node
		want []api.Node
	}{
		{"nil", nil, nil},
		{"a tree", some(), some()},
		{"turned", []api.Node{file("b", "1"), file("a-b", "2"), file("a/b", "3"), dir("a")}, []api.Node{dir("a"), file("a/b", "3"), file("a-b", "2"), file("b", "1")}},
		{"of one path the first", []api.Node{file("b", "1"), file("a", "2"), file("a", "3"), dir("a"), file("a/x", ""), file("b", "4")}, []api.Node{file("a", "2"), file("b", "1")}},
		{"of one path the first right one", []api.Node{{Path: "a", Kind: 7}, {Path: "a", Kind: api.Dir, Data: "x"}, dir("a"), file("a", "2"), file("a/x", "")}, []api.Node{dir("a"), file("a/x", "")}},
		{"without a parent", []api.Node{file("a/b", ""), dir("b/c"), file("b/c/d", ""), file("e", "")}, []api.Node{file("e", "")}},
		{"beneath a link", []api.Node{link("a", "b"), file("a/b", ""), file("b", "")}, []api.Node{link("a", "b"), file("b", "")}},
		{"wrong ones", []api.Node{dir(""), dir("a/"), {}, {Path: "c", Kind: api.Link}, file("a", "")}, []api.Node{file("a", "")}},
		{"512", wide(512), wide(512)},
		{"more", wide(900), wide(512)},
		{"more, turned", append(wide(900)[450:], wide(450)...), wide(512)},
		{"ones that aren't taken don't count", append(append(wide(512), file("0/x", "")), wide(512)...), wide(512)},
		{"17 deep", deep(20), deep(16)},
	} {
		l := hidden(c.l)
		got := Of(l)
		if !Same(got, c.want) || !untouched(l, c.l) {
			t.Errorf("%s: Of %s, want %s", c.what, names(got), names(c.want))
		}
		if e := Check(got); e != api.OK || !Same(Of(got), got) {
			t.Errorf("%s: what Of tells isn't well-formed: %d", c.what, e)
		}
	}
}

func TestFind(t *testing.T) {
	l := hidden(append(some(), file("a", "later"), api.Node{Path: "//", Kind: 9}))
	for _, n := range some() {
		if got, ok := Find(l, n.Path); got != n || !ok {
			t.Errorf("Find %s: %v, %v", n.Path, got, ok)
		}
		if got, want := IsDir(l, n.Path), n.Kind == api.Dir; got != want {
			t.Errorf("IsDir %s: %v", n.Path, got)
		}
	}
	for _, p := range []string{"", "b", "a/", "zz", "zz/hidden", "A"} {
		if got, ok := Find(l, p); got != (api.Node{}) || ok || IsDir(l, p) != (p == "") {
			t.Errorf("Find %q: %v, %v", p, got, ok)
		}
	}
	if got, ok := Find(l, "//"); got != (api.Node{Path: "//", Kind: 9}) || !ok || IsDir(l, "//") {
		t.Errorf("Find of a wrong path: %v, %v", got, ok)
	}
	if _, ok := Find(nil, "a"); ok || !IsDir(nil, "") {
		t.Error("Find in nothing")
	}
	if n, ok := Find([]api.Node{file("", "x")}, ""); !ok || n.Data != "x" || !IsDir([]api.Node{file("", "x")}, "") {
		t.Error("Find of a node at the empty text")
	}
	if IsDir([]api.Node{file("a", ""), dir("a")}, "a") || !IsDir([]api.Node{dir("a"), file("a", "")}, "a") {
		t.Error("IsDir takes another node than the first one")
	}
}

func TestKids(t *testing.T) {
	odd := []api.Node{file("z", "1"), dir(""), file("a/", ""), file("z", "2"), {Path: "a"}, file("/", ""), file("z/y", ""), file("a//b", "")}
	for _, c := range []struct {
		t       []api.Node
		p, want string
	}{
		{some(), "", ".flit a a-b d f"}, {some(), "a", "a/b a/l"}, {some(), "a/b", "a/b/c"}, {some(), "d", ""}, {some(), "f", ""},
		{some(), ".flit", ".flit/x"}, {some(), "b", ""}, {some(), "a/", ""}, {some(), "/", ""}, {some(), "zz", ""}, {nil, "", ""},
		{odd, "", "z z a"}, {odd, "z", "z/y"}, {odd, "a", ""}, {odd, "a/", ""},
		{deep(17), deep(16)[15].Path, ""}, {deep(17), deep(15)[14].Path, deep(16)[15].Path},
	} {
		l := hidden(c.t)
		kids := Kids(l, c.p)
		if !untouched(l, c.t) {
			t.Errorf("Kids %q changed what it was given", c.p)
		}
		for i := range l {
			l[i] = file("gone", "")
		}
		all := told(kids, -1)
		if names(all) != c.want || !slices.Equal(told(kids, -1), all) {
			t.Errorf("Kids %q: %s, want %s", c.p, names(all), c.want)
		}
		for _, n := range all {
			if at, _ := Find(c.t, n.Path); at.Kind != n.Kind {
				t.Errorf("Kids %q: %v", c.p, n)
			}
		}
		if one := told(kids, 1); len(one) != min(1, len(all)) || !slices.Equal(one, all[:len(one)]) {
			t.Errorf("Kids %q, stopped: %s", c.p, names(one))
		}
	}
}

func TestSub(t *testing.T) {
	odd := []api.Node{file("b", ""), file("a/", ""), dir(""), file("a/b", ""), file("b", "2"), file("a", ""), file("a//b", ""), file("ab", "")}
	for _, c := range []struct {
		t               []api.Node
		p, within, rest string
	}{
		{some(), "", names(some()), ""},
		{some(), "a", "a a/b a/b/c a/l", ".flit .flit/x a-b d f"},
		{some(), "a/b", "a/b a/b/c", ".flit .flit/x a a/l a-b d f"},
		{some(), "f", "f", ".flit .flit/x a a/b a/b/c a/l a-b d"},
		{some(), "b", "", names(some())}, {some(), "a/", "", names(some())}, {some(), "a//b", "", names(some())},
		{nil, "a", "", ""},
		{odd, "a", "a/b a", "b a/  b a//b ab"},
		{odd, "a/", "", names(odd)},
		{odd, "", "b  a/b b a ab", "a/ a//b"},
	} {
		l := hidden(c.t)
		sub, rest := Sub(l, c.p), Drop(l, c.p)
		if names(sub) != c.within || names(rest) != c.rest || !untouched(l, c.t) {
			t.Errorf("%q: Sub %s, Drop %s, want %s, %s", c.p, names(sub), names(rest), c.within, c.rest)
		}
		for i := range sub {
			sub[i] = api.Node{}
		}
		for i := range rest {
			rest[i] = api.Node{}
		}
		if !untouched(l, c.t) {
			t.Errorf("%q: Sub or Drop shares what it tells", c.p)
		}
	}
}

func TestShown(t *testing.T) {
	l := hidden(some())
	got := Shown(l)
	if names(got) != "a a/b a/b/c a/l a-b d f" || !untouched(l, some()) {
		t.Errorf("Shown %s", names(got))
	}
	got[0].Path = "changed"
	if !untouched(l, some()) {
		t.Error("Shown shares what it tells")
	}
	odd := []api.Node{dir(".flit."), file("x/.flit", ""), file(".flit", ""), file(".flit/", ""), dir(""), file(".flit/a/b", ""), file(".fli", "")}
	if names(Shown(odd)) != ".flit. x/.flit .flit/  .fli" {
		t.Errorf("Shown %q", names(Shown(odd)))
	}
	if len(Shown(nil)) != 0 {
		t.Error("Shown of nothing")
	}
}

func TestSame(t *testing.T) {
	if !Same(nil, []api.Node{}) || !Same(some(), some()) || Same(some(), nil) || Same(nil, some()) {
		t.Error("Same")
	}
	for i := range some() {
		for _, change := range []func(n *api.Node){
			func(n *api.Node) { n.Path += "x" },
			func(n *api.Node) { n.Kind++ },
			func(n *api.Node) { n.Mode++ },
			func(n *api.Node) { n.Time++ },
			func(n *api.Node) { n.Data += "x" },
		} {
			l := some()
			change(&l[i])
			if Same(l, some()) || Same(some(), l) {
				t.Errorf("Same, though the node %d differs", i)
			}
		}
		if Same(slices.Delete(some(), i, i+1), some()) || Same(some(), some()[:i]) || Same(some()[:i], some()) {
			t.Errorf("Same without the node %d", i)
		}
	}
	if Same(hidden(some()), hidden(some())[:len(some())+1]) {
		t.Error("Same with one more")
	}
}

func TestBytes(t *testing.T) {
	if got := Bytes(some()); got != 7 {
		t.Errorf("Bytes %d", got)
	}
	if got := Bytes(nil); got != 0 {
		t.Errorf("Bytes of nothing %d", got)
	}
	if got := Bytes([]api.Node{{Path: "/", Kind: api.Dir, Data: "123"}, {Kind: 8, Data: "12"}, file("a", "1"), file("a", "1234")}); got != 7 {
		t.Errorf("Bytes of wrong ones %d", got)
	}
}

func TestPut(t *testing.T) {
	full := wide(511)
	for _, c := range []struct {
		what string
		t    []api.Node
		n    api.Node
		want api.Errno
		all  string
	}{
		{"into nothing", nil, file("a", ""), api.OK, "a"},
		{"at the begin", some(), dir("-"), api.OK, "- " + names(some())},
		{"at the end", some(), dir("g"), api.OK, names(some()) + " g"},
		{"between", some(), file("a/b.", ""), api.OK, ".flit .flit/x a a/b a/b/c a/b. a/l a-b d f"},
		{"beneath", some(), link("a/b/d", "x"), api.OK, ".flit .flit/x a a/b a/b/c a/b/d a/l a-b d f"},
		{"reserved", some(), file(".flit/y", ""), api.OK, ".flit .flit/x .flit/y a a/b a/b/c a/l a-b d f"},
		{"the root", some(), dir(""), api.ErrPath, ""},
		{"a wrong path", some(), dir("a/"), api.ErrPath, ""},
		{"a wrong kind", some(), api.Node{Path: "x/y", Kind: 5}, api.ErrKind, ""},
		{"too long", some(), api.Node{Path: "x/y", Kind: api.Dir, Data: "1"}, api.ErrLong, ""},
		{"a wrong time", some(), api.Node{Path: "x/y", Kind: api.Dir, Time: -1}, api.ErrArg, ""},
		{"no parent", some(), file("x/y", ""), api.ErrNone, ""},
		{"no parent's parent", some(), file("a/x/y", ""), api.ErrNone, ""},
		{"a file above", some(), file("f/y", ""), api.ErrKind, ""},
		{"a link above", some(), file("a/l/y", ""), api.ErrKind, ""},
		{"there already", some(), file("a/b/c", "45"), api.ErrExists, ""},
		{"of another kind", some(), file("a", ""), api.ErrExists, ""},
		{"beneath what is beneath a file", some(), file("f/x/y", ""), api.ErrNone, ""},
		{"the last one", full, file("g", ""), api.OK, names(full) + " g"},
		{"one too many", wide(512), file("g", ""), api.ErrLong, ""},
		{"there already, and full", wide(512), file("f1000", ""), api.ErrExists, ""},
		{"no parent, and full", wide(512), file("a/b", ""), api.ErrNone, ""},
		{"17 names", deep(16), file(deep(17)[16].Path, ""), api.ErrPath, ""},
		{"16 names", deep(15), file(deep(16)[15].Path, ""), api.OK, names(deep(16))},
	} {
		l := hidden(c.t)
		got, e := Put(l, c.n)
		if e != c.want || names(got) != c.all || !untouched(l, c.t) {
			t.Errorf("%s: Put %s, %d, want %s, %d", c.what, names(got), e, c.all, c.want)
		}
		if e != api.OK {
			continue
		}
		if n, _ := Find(got, c.n.Path); n != c.n || Check(got) != api.OK || !Same(Drop(got, c.n.Path), c.t) {
			t.Errorf("%s: Put %v", c.what, got)
		}
		got[0].Path = "changed"
		if !untouched(l, c.t) {
			t.Errorf("%s: Put shares what it tells", c.what)
		}
	}
}

func TestMove(t *testing.T) {
	long := append(deep(10), dir("b"), dir("b/a"), dir("b/a/a"), dir("b/a/a/a"), dir("b/a/a/a/a"), dir("b/a/a/a/a/a"), dir("b/a/a/a/a/a/a"))
	for _, c := range []struct {
		what     string
		t        []api.Node
		from, to string
		want     api.Errno
		all      string
	}{
		{"a directory", []api.Node{dir("a"), file("a/x", "")}, "a", "b", api.OK, "b b/x"},
		{"a file", some(), "f", "a/b/d", api.OK, ".flit .flit/x a a/b a/b/c a/b/d a/l a-b d"},
		{"ahead", some(), "f", "-", api.OK, "- .flit .flit/x a a/b a/b/c a/l a-b d"},
		{"to the reserved directory", some(), "a", ".flit/a", api.OK, ".flit .flit/a .flit/a/b .flit/a/b/c .flit/a/l .flit/x a-b d f"},
		{"upwards", some(), "a/b", "b", api.OK, ".flit .flit/x a a/l a-b b b/c d f"},
		{"a file over a file", some(), "f", "a-b", api.OK, ".flit .flit/x a a/b a/b/c a/l a-b d"},
		{"a file over a link", some(), "f", "a/l", api.OK, ".flit .flit/x a a/b a/b/c a/l a-b d"},
		{"a link over a file", some(), "a/l", "f", api.OK, ".flit .flit/x a a/b a/b/c a-b d f"},
		{"the root from", some(), "", "b", api.ErrPath, ""},
		{"the root to", some(), "a", "", api.ErrPath, ""},
		{"a wrong from", some(), "x/", "y/y", api.ErrPath, ""},
		{"a wrong to", some(), "x", "y//y", api.ErrPath, ""},
		{"to itself", some(), "a", "a", api.ErrPath, ""},
		{"a file to itself", some(), "f", "f", api.ErrPath, ""},
		{"into itself", some(), "a", "a/b/c/d", api.ErrPath, ""},
		{"into itself, which isn't there", some(), "x", "x/y", api.ErrPath, ""},
		{"nothing", some(), "x", "y", api.ErrNone, ""},
		{"nothing, over something", some(), "x", "d", api.ErrNone, ""},
		{"nothing, beneath a file", some(), "x", "f/x", api.ErrNone, ""},
		{"no parent", some(), "f", "x/y", api.ErrNone, ""},
		{"beneath a file", some(), "a", "f/x", api.ErrKind, ""},
		{"beneath a link", some(), "f", "a/l/x", api.ErrKind, ""},
		{"a directory over a file", some(), "d", "f", api.ErrExists, ""},
		{"a directory over a link", some(), "d", "a/l", api.ErrExists, ""},
		{"a file over a directory", some(), "f", "d", api.ErrExists, ""},
		{"a directory over a directory", some(), "a", "d", api.ErrExists, ""},
		{"over what it is under", some(), "a/b", "a", api.ErrExists, ""},
		{"a file over what it is under", some(), "a/b/c", "a", api.ErrExists, ""},
		{"16 names", long, "a", "b/a/a/a/a/c", api.OK, ""},
		{"17 names", long, "a", "b/a/a/a/a/a/a/c", api.ErrLong, ""},
		{"the same depth", deep(16), "a/a/a/a/a/a/a/a/a", "a/a/a/a/a/a/a/a/b", api.OK, ""},
		{"one deeper than may be", append(deep(16), dir("b"), dir("b/b")), "a/a", "b/b/b", api.ErrLong, ""},
	} {
		if e := Check(c.t); e != api.OK {
			t.Fatalf("%s: no tree: %d", c.what, e)
		}
		l := hidden(c.t)
		got, e := Move(l, c.from, c.to)
		if e != c.want || c.all != "" && names(got) != c.all || e != api.OK && len(got) != 0 || !untouched(l, c.t) {
			t.Errorf("%s: Move %s, %d, want %s, %d", c.what, names(got), e, c.all, c.want)
		}
		if e != api.OK {
			continue
		}
		moved(t, c.t, got, c.from, c.to)
		got[0].Path = "changed"
		if !untouched(l, c.t) {
			t.Errorf("%s: Move shares what it tells", c.what)
		}
	}
}

// moved holds a tree against the one out of which it was made by a move.
func moved(t *testing.T, was, got []api.Node, from, to string) {
	t.Helper()
	if e := Check(got); e != api.OK {
		t.Errorf("Move %s %s: %s isn't well-formed: %d", from, to, names(got), e)
	}
	count := len(was)
	if _, ok := Find(was, to); ok {
		count--
	}
	for _, n := range was {
		p := n.Path
		switch {
		case paths.Within(p, from):
			p = to + p[len(from):]
		case p == to:
			continue
		}
		if m, ok := Find(got, p); !ok || m != node.At(n, p) {
			t.Errorf("Move %s %s: %s is %v", from, to, p, m)
		}
	}
	if len(got) != count {
		t.Errorf("Move %s %s: %d nodes, want %d", from, to, len(got), count)
	}
	if count == len(was) {
		if back, e := Move(got, to, from); e != api.OK || !Same(back, was) {
			t.Errorf("Move %s %s, and back: %s, %d", from, to, names(back), e)
		}
	}
}

// drawn is a path out of few, a wrong one now and then.
func drawn(r *rand.Rand) string {
	l := []string{"a", "b", "a-", "c"}
	var p []string
	for range 1 + r.Intn(3) {
		p = append(p, l[r.Intn(len(l))])
	}
	if r.Intn(20) == 0 {
		return []string{"", "/", "a/", "..", "a//b"}[r.Intn(5)]
	}
	return strings.Join(p, "/")
}

// drawnNode is a node at such a path.
func drawnNode(r *rand.Rand) api.Node {
	n := api.Node{Path: drawn(r), Kind: api.Dir, Time: r.Intn(3)}
	switch r.Intn(5) {
	case 0:
		n.Kind, n.Data = api.File, strconv.Itoa(r.Intn(200))
	case 1:
		n.Kind, n.Data = api.Link, "x"[:min(1, r.Intn(9))]
	case 2:
		n.Mode = 4094 + r.Intn(3)
	}
	return n
}

// taken is Of, as the document says it, one node after the other.
func taken(l []api.Node) []api.Node {
	var all, out []api.Node
	for _, n := range l {
		_, twice := Find(all, n.Path)
		if node.Check(n) == api.OK && !twice {
			all = append(all, n)
		}
	}
	for len(all) > 0 {
		first := 0
		for i := range all {
			if paths.Cmp(all[i].Path, all[first].Path) < 0 {
				first = i
			}
		}
		n := all[first]
		all = slices.Delete(all, first, first+1)
		up, _ := paths.Parent(n.Path)
		if IsDir(out, up) && len(out) < 512 {
			out = append(out, n)
		}
	}
	return out
}

func TestDrawn(t *testing.T) {
	r := rand.New(rand.NewSource(1))
	done := map[api.Errno]int{}
	for range 2000 {
		var l []api.Node
		for range r.Intn(20) {
			l = append(l, drawnNode(r))
		}
		tree := Of(l)
		if !Same(tree, taken(l)) {
			t.Fatalf("Of %v: %v", l, tree)
		}
		for range 20 {
			from, to, n := drawn(r), drawn(r), drawnNode(r)
			next, e := Put(tree, n)
			if r.Intn(2) == 0 {
				next, e = Move(tree, from, to)
				if e == api.OK {
					moved(t, tree, next, from, to)
				}
			} else if e == api.OK && !Same(next, Of(append([]api.Node{n}, tree...))) {
				t.Fatalf("Put %v: %s", n, names(next))
			}
			done[e]++
			if e == api.OK {
				tree = next
			}
			if r.Intn(8) == 0 {
				tree = Drop(tree, to)
			}
			if e := Check(tree); e != api.OK {
				t.Fatalf("%s isn't well-formed: %d", names(tree), e)
			}
		}
	}
	for _, e := range []api.Errno{api.OK, api.ErrPath, api.ErrNone, api.ErrKind, api.ErrExists, api.ErrArg} {
		if done[e] == 0 {
			t.Errorf("the error %d didn't come up", e)
		}
	}
}

func TestNotWellFormed(t *testing.T) {
	r := rand.New(rand.NewSource(2))
	for range 3000 {
		var l []api.Node
		for range r.Intn(12) {
			l = append(l, drawnNode(r))
		}
		was := hidden(l)
		in := hidden(l)
		Put(in, drawnNode(r))
		Move(in, drawn(r), drawn(r))
		if !untouched(in, was) {
			t.Fatal("a list was changed")
		}
	}
	Put(make([]api.Node, 2000), file("a", ""))
	Move(make([]api.Node, 2000), "a", "b")
}
