package merkle

import (
	"flitting/api"
	"flitting/mix"
	"flitting/paths"
	"flitting/tree"
	"math/rand"
	"slices"
	"strconv"
	"strings"
	"testing"
)

func dir(p string) api.Node     { return api.Node{Path: p, Kind: api.Dir, Mode: 5} }
func file(p, s string) api.Node { return api.Node{Path: p, Kind: api.File, Time: 3, Data: s} }
func link(p, s string) api.Node { return api.Node{Path: p, Kind: api.Link, Data: s} }

// some is a well-formed tree.
func some() []api.Node {
	return []api.Node{dir(".flit"), dir("a"), dir("a/b"), file("a/b/c", "45"), link("a/l", "b"), file("a-b", "6"), dir("d"), dir("e"), dir("e/b"), file("e/b/c", "45"), link("e/l", "b"), file("f", ""), file("g", "")}
}

// deep is n directories, each beneath the one ahead.
func deep(n int) []api.Node {
	var t []api.Node
	for i := range n {
		t = append(t, dir(strings.TrimSuffix(strings.Repeat("a/", i+1), "/")))
	}
	return t
}

// summed is the bytes that a directory's print is the sum of, put together by hand, of the prints of what hangs on it.
func summed(kids ...any) []byte {
	var b []byte
	for i := 0; i < len(kids); i += 3 {
		name, kind, s := kids[i].(string), kids[i+1].(int), kids[i+2].(api.Sum)
		b = append(append(append(b, byte(len(name))), name...), byte(kind))
		for j := range 8 {
			b = append(b, byte(s.Hi>>(56-8*j)))
		}
		for j := range 8 {
			b = append(b, byte(s.Lo>>(56-8*j)))
		}
	}
	return b
}

// told is the print of what is at a path, as the document says it, node by node.
func told(t []api.Node, p string) api.Sum {
	if n, ok := tree.Find(t, p); ok && n.Kind != api.Dir {
		return mix.Of([]byte(n.Data))
	}
	var l []any
	for n := range tree.Kids(t, p) {
		l = append(l, paths.Base(n.Path), n.Kind, told(t, n.Path))
	}
	return mix.Of(summed(l...))
}

// alike tells whether what is at two paths is alike, as the document says it, node by node.
func alike(a []api.Node, p string, b []api.Node, q string) bool {
	x, okX := tree.Find(a, p)
	y, okY := tree.Find(b, q)
	switch {
	case p != "" && !okX || q != "" && !okY:
		return false
	case tree.IsDir(a, p) != tree.IsDir(b, q) || !tree.IsDir(a, p):
		return x.Kind == y.Kind && x.Data == y.Data
	}
	k, l := slices.Collect(tree.Kids(a, p)), slices.Collect(tree.Kids(b, q))
	return slices.EqualFunc(k, l, func(x, y api.Node) bool {
		return paths.Base(x.Path) == paths.Base(y.Path) && alike(a, x.Path, b, y.Path)
	})
}

// hidden is a list with room behind it, which holds nodes that nobody may see.
func hidden(t []api.Node) []api.Node {
	l := append(slices.Clone(t), file("zz", "no"), file("a/no", "no"), dir("zz"))
	return l[:len(t)]
}

// untouched tells whether what lies in and behind a list that hidden made is as it was.
func untouched(l, t []api.Node) bool {
	return slices.Equal(l[:len(l)+3], hidden(t)[:len(t)+3])
}

func TestData(t *testing.T) {
	for _, n := range []api.Node{file("a", "xyz"), file("b", ""), link("a", "xyz"), dir("a"), {Data: "xyz"}, {Path: "//", Kind: -1, Data: strings.Repeat("x", 1<<16)}, {Kind: api.Dir, Data: "q"}} {
		if got, want := Data(n), mix.Of([]byte(n.Data)); got != want {
			t.Errorf("Data %v: %v, want %v", n, got, want)
		}
	}
}

func TestByHand(t *testing.T) {
	none := mix.Of(nil)
	six, target := mix.Of([]byte("6")), mix.Of([]byte("b"))
	c := mix.Of([]byte("45"))
	b := mix.Of(summed("c", 2, c))
	a := mix.Of(summed("b", 1, b, "l", 3, target))
	root := mix.Of(summed(".flit", 1, none, "a", 1, a, "a-b", 2, six, "d", 1, none, "e", 1, a, "f", 2, none, "g", 2, none))
	for p, want := range map[string]api.Sum{".flit": none, "a": a, "a/b": b, "a/b/c": c, "a/l": target, "a-b": six, "d": none, "e": a, "e/b": b, "f": none, "": root} {
		if got, ok := Of(some(), p); !ok || got != want {
			t.Errorf("Of %q: %s, %v, want %s", p, mix.Text(got), ok, mix.Text(want))
		}
	}
	for p, want := range map[string]string{"": "be48dc7eca58a73d788d5756ebc0a308", "a": "9871c5aed40cff81293b60092f127923", "e/b": "75deab1209a6b45cf416bec306eb24f4", "d": "1e3f616964ff4864387626138d464aa4"} {
		if got, _ := Of(some(), p); mix.Text(got) != want {
			t.Errorf("Of %q: %s, want %s", p, mix.Text(got), want)
		}
	}
}

func TestOf(t *testing.T) {
	for _, l := range [][]api.Node{nil, some(), deep(16), {file("a", "")}} {
		in := hidden(l)
		all := All(in)
		if len(all) != len(l) {
			t.Fatalf("All: %d prints of %d", len(all), len(l))
		}
		for i, n := range l {
			got, ok := Of(in, n.Path)
			if want := told(l, n.Path); !ok || got != want || all[i] != want {
				t.Errorf("Of %s: %v, %v, All %v, want %v", n.Path, got, ok, all[i], want)
			}
		}
		if got, ok := Of(in, ""); !ok || got != told(l, "") {
			t.Errorf("Of the root: %v, %v", got, ok)
		}
		for _, p := range []string{"x", "a/x", "a/b/c/d", "f/x", "/", "a/", "//", "zz", "a/no", "..", strings.Repeat("a/", 16) + "a"} {
			if got, ok := Of(in, p); ok || got != (api.Sum{}) {
				t.Errorf("Of %q: %v, %v", p, got, ok)
			}
		}
		if !untouched(in, l) {
			t.Error("a list was changed")
		}
	}
}

func TestLike(t *testing.T) {
	for _, c := range []struct {
		a    []api.Node
		p    string
		b    []api.Node
		q    string
		want bool
	}{
		{some(), "", some(), "", true}, {nil, "", nil, "", true}, {some(), "a", some(), "e", true}, {some(), "a/b", some(), "e/b", true}, {some(), "f", some(), "g", true}, {some(), "a/b/c", some(), "e/b/c", true},
		{some(), "d", nil, "", true}, {nil, "", some(), ".flit", true}, {some(), "d", some(), ".flit", true},
		{[]api.Node{dir("b"), file("b/c", "45"), link("l", "b")}, "", some(), "a", true}, {some(), "e", []api.Node{dir("b"), file("b/c", "45"), link("l", "b")}, "", true},
		{some(), "a", some(), "a/b", false}, {some(), "a", some(), "", false}, {some(), "", some(), "a", false}, {some(), "a", some(), "d", false}, {some(), "d", some(), "a", false}, {some(), "f", some(), "d", false}, {some(), "d", some(), "g", false}, {some(), "", nil, "", false},
		{[]api.Node{file("a", "x")}, "a", []api.Node{link("a", "x")}, "a", false}, {[]api.Node{file("a", "x")}, "a", []api.Node{file("a", "y")}, "a", false}, {[]api.Node{link("a", "x")}, "a", []api.Node{link("a", "y")}, "a", false},
		{[]api.Node{file("a", "x")}, "", []api.Node{file("b", "x")}, "", false}, {[]api.Node{file("a", "x")}, "a", []api.Node{file("b", "x")}, "b", true},
		{[]api.Node{file("a", "x")}, "", []api.Node{link("a", "x")}, "", false}, {[]api.Node{dir("a")}, "", []api.Node{file("a", "")}, "", false},
		{[]api.Node{file("a", "x"), file("b", "y")}, "", []api.Node{file("a", "y"), file("b", "x")}, "", false},
		{[]api.Node{dir("a"), dir("a/b")}, "", []api.Node{dir("a"), dir("b")}, "", false}, {[]api.Node{dir("a"), dir("a/b")}, "a", []api.Node{dir("a"), dir("b")}, "", false},
		{some(), "x", some(), "x", false}, {some(), "x", some(), "a", false}, {some(), "a", some(), "x", false}, {some(), "a/", some(), "a/", false}, {some(), "zz", some(), "zz", false}, {nil, "a", nil, "a", false}, {nil, "x", nil, "", false},
	} {
		a, b := hidden(c.a), hidden(c.b)
		if got := Like(a, c.p, b, c.q); got != c.want {
			t.Errorf("Like of %q and %q in %v and %v: %v", c.p, c.q, c.a, c.b, got)
		}
		if alike(c.a, c.p, c.b, c.q) != c.want {
			t.Errorf("this test doesn't hold of %q and %q", c.p, c.q)
		}
		if !untouched(a, c.a) || !untouched(b, c.b) {
			t.Error("a list was changed")
		}
	}
}

// TestMetas: modes and times, and where a directory stands, change neither prints nor likeness.
func TestMetas(t *testing.T) {
	l := some()
	for i := range l {
		l[i].Mode, l[i].Time = 0, 1<<40-i
	}
	if !slices.Equal(All(l), All(some())) || !Like(l, "", some(), "") {
		t.Error("a mode or a time counts")
	}
	was, _ := Of(l, "a")
	m, e := tree.Move(l, "a", "d/longer")
	if got, ok := Of(m, "d/longer"); e != api.OK || !ok || got != was || !Like(m, "d/longer", l, "a") {
		t.Errorf("Move changed the print: %v, %v", got, was)
	}
	l[3].Data = "46"
	if got, _ := Of(l, "a"); got == was || Like(l, "a", some(), "a") || !Like(l, "a/l", some(), "a/l") {
		t.Error("a file's bytes don't count")
	}
}

// drawn is a tree out of few names and bytes, so that much in it is alike.
func drawn(r *rand.Rand) []api.Node {
	var l []api.Node
	for range r.Intn(25) {
		var p []string
		for range 1 + r.Intn(3) {
			p = append(p, []string{"x", "y", "xx"}[r.Intn(3)])
		}
		n := api.Node{Path: strings.Join(p, "/"), Kind: api.Dir, Time: r.Intn(9)}
		switch r.Intn(5) {
		case 0:
			n.Kind, n.Data = api.File, strconv.Itoa(r.Intn(2))
		case 1:
			n.Kind, n.Data = api.Link, "0"
		}
		l = append(l, n)
	}
	return tree.Of(l)
}

func TestDrawn(t *testing.T) {
	r := rand.New(rand.NewSource(1))
	files, dirs, no := 0, 0, 0
	for range 2000 {
		a, b := drawn(r), drawn(r)
		printsA, printsB := All(a), All(b)
		for i, x := range a {
			if printsA[i] != told(a, x.Path) {
				t.Fatalf("the print of %s in %v", x.Path, a)
			}
			for j, y := range b {
				like := Like(a, x.Path, b, y.Path)
				if like != alike(a, x.Path, b, y.Path) || like != (printsA[i] == printsB[j] && x.Kind == y.Kind) {
					t.Fatalf("%s and %s of %v and %v: %v", x.Path, y.Path, a, b, like)
				}
				switch {
				case like && x.Kind == api.Dir && len(tree.Sub(a, x.Path)) > 1:
					dirs++
				case like:
					files++
				default:
					no++
				}
			}
		}
		if Like(a, "", b, "") != alike(a, "", b, "") || !Like(a, "", a, "") {
			t.Fatalf("the roots of %v and %v", a, b)
		}
	}
	if files < 100 || dirs < 100 || no < 100 {
		t.Errorf("%d directories and %d others are alike, %d aren't", dirs, files, no)
	}
}

// TestNotWellFormed: of what isn't a tree nothing is promised but an end.
func TestNotWellFormed(t *testing.T) {
	var twice []api.Node
	for _, n := range deep(20) {
		for range 30 {
			twice = append(twice, n)
		}
	}
	turned := slices.Clone(twice)
	slices.Reverse(turned)
	var many []api.Node
	for i := range 20000 {
		many = append(many, dir("d"+strconv.Itoa(i%3000)), dir("d"+strconv.Itoa(i)+"/x"))
	}
	odd := []api.Node{dir(""), dir(""), file("", "x"), dir("/"), dir("a/"), {Path: "a", Kind: -9, Data: "x"}, file("a/b", ""), file("f", ""), dir("f/g"), {Path: "f/g/h", Kind: 1 << 62}}
	for _, l := range [][]api.Node{twice, turned, many, odd, make([]api.Node, 2000)} {
		in := hidden(l)
		if len(All(in)) != len(l) {
			t.Error("All tells another number of prints")
		}
		for _, p := range []string{"", "a", "a/a", "/", "d1", "f", "f/g"} {
			Of(in, p)
			for _, q := range []string{"", "a", "f"} {
				Like(in, p, in, q)
			}
		}
		if !untouched(in, l) {
			t.Error("a list was changed")
		}
	}
}
