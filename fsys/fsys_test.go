package fsys

import (
	"flitting/api"
	"flitting/node"
	"flitting/paths"
	"flitting/tree"
	"math"
	"math/rand"
	"slices"
	"strconv"
	"strings"
	"testing"
)

func dir(p string) api.Node     { return api.Node{Path: p, Kind: api.Dir} }
func file(p, s string) api.Node { return api.Node{Path: p, Kind: api.File, Data: s} }
func link(p, s string) api.Node { return api.Node{Path: p, Kind: api.Link, Data: s} }

// some is a well-formed tree, of 8 nodes and 9 bytes.
func some() []api.Node {
	return []api.Node{
		{Path: ".flit", Kind: api.Dir, Mode: 7}, {Path: "a", Kind: api.Dir, Mode: 5, Time: 6}, dir("a/b"), {Path: "a/b/c", Kind: api.File, Mode: 4095, Time: 1 << 40, Data: "12345"},
		{Path: "a/l", Kind: api.Link, Time: 9, Data: "b"}, file("a-b", "678"), dir("d"), file("f", ""),
	}
}

// wide is n files without bytes, in order.
func wide(n int) []api.Node {
	var t []api.Node
	for i := range n {
		t = append(t, file("f"+strconv.Itoa(1000+i), ""))
	}
	return t
}

// deep is the path of n names a.
func deep(n int) string {
	return strings.TrimSuffix(strings.Repeat("a/", n), "/")
}

// ladder is n directories, each beneath the one ahead.
func ladder(n int) []api.Node {
	var t []api.Node
	for i := range n {
		t = append(t, dir(deep(i+1)))
	}
	return t
}

// much is a quota that nothing comes up to.
func much() api.Quota { return api.Quota{Nodes: 1000, Bytes: 1 << 30} }

// made is a file system with a tree, and room.
func made(t *testing.T, l []api.Node) *FS {
	t.Helper()
	f, e := New(l, much())
	if f == nil || e != api.OK {
		t.Fatalf("New: %d", e)
	}
	return f
}

// names is the paths of nodes.
func names(t []api.Node) string {
	var l []string
	for _, n := range t {
		l = append(l, n.Path)
	}
	return strings.Join(l, " ")
}

// op is an operation, with its words.
type op struct {
	what, p, s string
	a, b       int
}

// String is the words, of long ones the begin.
func (o op) String() string {
	return strings.Join([]string{o.what, o.p, o.s[:min(len(o.s), 20)], strconv.Itoa(o.a), strconv.Itoa(o.b)}, " ")
}

// do calls an operation.
func (o op) do(f *FS) api.Errno {
	switch o.what {
	case "mkdir":
		return f.Mkdir(o.p)
	case "create":
		return f.Create(o.p)
	case "append":
		return f.Append(o.p, o.s)
	case "symlink":
		return f.Symlink(o.p, o.s)
	case "rename":
		return f.Rename(o.p, o.s)
	case "remove":
		return f.Remove(o.p)
	}
	return f.Meta(o.p, o.a, o.b)
}

// kinds is an operation of each sort that can be done in some.
func kinds() []op {
	return []op{{what: "mkdir", p: "x"}, {what: "create", p: "x"}, {what: "append", p: "f", s: "1"}, {what: "symlink", p: "x", s: "y"}, {what: "rename", p: "a", s: "x"}, {what: "remove", p: "f"}, {what: "meta", p: "f", a: 1, b: 2}}
}

// looked is all that the calls tell which change nothing, but the counts.
func looked(f *FS) string {
	var s strings.Builder
	for _, n := range f.Tree() {
		s.WriteString(n.Path + " " + strconv.Itoa(n.Kind) + " " + strconv.Itoa(n.Mode) + " " + strconv.Itoa(n.Time) + " " + n.Data + "\n")
	}
	return s.String() + strconv.Itoa(f.Used().Nodes) + " " + strconv.Itoa(f.Used().Bytes)
}

// held holds what the calls tell of a file system against the tree that it is to have.
func held(t *testing.T, f *FS, want []api.Node) {
	t.Helper()
	got := f.Tree()
	if !tree.Same(got, want) || tree.Check(got) != api.OK {
		t.Fatalf("Tree %v, want %v", got, want)
	}
	if u := f.Used(); u != (api.Quota{Nodes: len(want), Bytes: tree.Bytes(want)}) {
		t.Errorf("Used %v", u)
	}
	for _, n := range append(slices.Clone(want), dir("")) {
		if m, ok := f.Stat(n.Path); !ok || m != n {
			t.Errorf("Stat %q: %v, %v, want %v", n.Path, m, ok, n)
		}
		var kids []string
		for k := range tree.Kids(want, n.Path) {
			kids = append(kids, paths.Base(k.Path))
		}
		l, e := f.List(n.Path)
		if n.Kind != api.Dir && (e != api.ErrKind || l != nil) || n.Kind == api.Dir && (e != api.OK || !slices.Equal(l, kids)) {
			t.Errorf("List %q: %v, %d, want %v", n.Path, l, e, kids)
		}
		s, e := f.Read(n.Path, 0, math.MaxInt)
		if n.Path != "" && n.Kind != api.File && (e != api.ErrKind || s != "") || n.Kind == api.File && (e != api.OK || s != n.Data) {
			t.Errorf("Read %q: %q, %d", n.Path, s, e)
		}
	}
}

func TestNew(t *testing.T) {
	for _, c := range []struct {
		what string
		t    []api.Node
		q    api.Quota
		want api.Errno
	}{
		{"nothing", nil, api.Quota{}, api.OK},
		{"some", some(), much(), api.OK},
		{"just enough", some(), api.Quota{Nodes: 8, Bytes: 9}, api.OK},
		{"a node too many", some(), api.Quota{Nodes: 7, Bytes: 9}, api.ErrQuota},
		{"a byte too many", some(), api.Quota{Nodes: 8, Bytes: 8}, api.ErrQuota},
		{"a link's bytes", []api.Node{link("a", "bc")}, api.Quota{Nodes: 1, Bytes: 1}, api.ErrQuota},
		{"nothing is more than -1 nodes", nil, api.Quota{Nodes: -1}, api.ErrQuota},
		{"nothing is more than -1 bytes", nil, api.Quota{Bytes: math.MinInt}, api.ErrQuota},
		{"512 nodes", wide(512), much(), api.OK},
		{"513 nodes", wide(513), api.Quota{}, api.ErrLong},
		{"turned", []api.Node{dir("b"), dir("a")}, api.Quota{}, api.ErrOrder},
		{"no parent", []api.Node{dir("b/a")}, much(), api.ErrNone},
		{"beneath a file", []api.Node{file("a", ""), dir("a/b")}, much(), api.ErrKind},
		{"a wrong path", []api.Node{dir("/")}, much(), api.ErrPath},
		{"a wrong node", []api.Node{link("a", "")}, api.Quota{}, api.ErrArg},
	} {
		in := append(slices.Clone(c.t), dir("zz"), file("a", "no"))[:len(c.t)]
		f, e := New(in, c.q)
		if e != c.want || (f != nil) != (e == api.OK) {
			t.Errorf("%s: New %v, %d, want %d", c.what, f, e, c.want)
			continue
		}
		if !slices.Equal(in[:len(in)+2], append(slices.Clone(c.t), dir("zz"), file("a", "no"))) {
			t.Errorf("%s: New changed what it was given", c.what)
		}
		if f == nil {
			continue
		}
		clear(in)
		held(t, f, c.t)
		clear(f.Tree())
		held(t, f, c.t)
		if f.Calls() != 0 || f.Done() != 0 {
			t.Errorf("%s: %d calls, %d done", c.what, f.Calls(), f.Done())
		}
	}
}

func TestStat(t *testing.T) {
	f := made(t, some())
	for _, p := range []string{"b", "a/x", "a/b/c/d", "a/l/c", "f/x", "/", "a/", "/a", "a//b", "A", "..", deep(17), "\xff", strings.Repeat("a", 13)} {
		if n, ok := f.Stat(p); ok || n != (api.Node{}) {
			t.Errorf("Stat %q: %v, %v", p, n, ok)
		}
		if l, e := f.List(p); e != api.ErrNone || l != nil {
			t.Errorf("List %q: %v, %d", p, l, e)
		}
		if s, e := f.Read(p, 0, 1); e != api.ErrNone || s != "" {
			t.Errorf("Read %q: %q, %d", p, s, e)
		}
	}
	if n, ok := f.Stat(""); !ok || n != (api.Node{Kind: api.Dir}) {
		t.Errorf("Stat of the root: %v, %v", n, ok)
	}
	held(t, made(t, ladder(16)), ladder(16))
}

func TestRead(t *testing.T) {
	f := made(t, some())
	for _, c := range []struct {
		p     string
		at, n int
		s     string
		e     api.Errno
	}{
		{"a/b/c", 0, 5, "12345", api.OK}, {"a/b/c", 0, 2, "12", api.OK}, {"a/b/c", 1, 3, "234", api.OK}, {"a/b/c", 4, 1, "5", api.OK},
		{"a/b/c", 4, 2, "5", api.OK}, {"a/b/c", 5, 1, "", api.OK}, {"a/b/c", 6, 1, "", api.OK}, {"a/b/c", 2, 0, "", api.OK}, {"a/b/c", 0, 0, "", api.OK},
		{"a/b/c", math.MaxInt, math.MaxInt, "", api.OK}, {"a/b/c", 3, math.MaxInt, "45", api.OK}, {"f", 0, 9, "", api.OK}, {"f", 9, 0, "", api.OK},
		{"a/b/c", -1, 1, "", api.ErrArg}, {"a/b/c", 1, -1, "", api.ErrArg}, {"a/b/c", math.MinInt, math.MaxInt, "", api.ErrArg}, {"f", 0, math.MinInt, "", api.ErrArg},
		{"x", -1, 1, "", api.ErrArg}, {"a", 0, -1, "", api.ErrArg}, {"", -1, 0, "", api.ErrArg}, {"//", -1, 0, "", api.ErrArg},
		{"x", 0, 1, "", api.ErrNone}, {"//", 0, 1, "", api.ErrNone}, {"", 0, 1, "", api.ErrNone}, {"f/x", 0, 1, "", api.ErrNone},
		{"a", 0, 1, "", api.ErrKind}, {"a/l", 0, 1, "", api.ErrKind}, {"a/l", 0, 0, "", api.ErrKind},
	} {
		if s, e := f.Read(c.p, c.at, c.n); s != c.s || e != c.e {
			t.Errorf("Read %q %d %d: %q, %d, want %q, %d", c.p, c.at, c.n, s, e, c.s, c.e)
		}
	}
	held(t, f, some())
	if f.Calls() != 0 {
		t.Error("Read counts as an operation")
	}
}

func TestList(t *testing.T) {
	f := made(t, []api.Node{dir("a"), dir("a/b"), file("a/b/x", ""), file("a/b-", ""), file("a/b.", ""), file("a/b0", ""), file("a/bB", ""), link("a/b_", "x"), file("a-b", "")})
	if l, e := f.List("a"); e != api.OK || strings.Join(l, " ") != "b b- b. b0 bB b_" {
		t.Errorf("List a: %v, %d", l, e)
	}
	l, e := f.List("")
	if e != api.OK || strings.Join(l, " ") != "a a-b" {
		t.Errorf("List of the root: %v, %d", l, e)
	}
	clear(l)
	if l, _ := f.List(""); strings.Join(l, " ") != "a a-b" {
		t.Errorf("List of the root, again: %v", l)
	}
	for p, want := range map[string]api.Errno{"a/b_": api.ErrKind, "a-b": api.ErrKind, "c": api.ErrNone, "a/b_/x": api.ErrNone} {
		if l, e := f.List(p); e != want || l != nil {
			t.Errorf("List %s: %v, %d, want %d", p, l, e, want)
		}
	}
}

// tried calls an operation, and holds what becomes of the file system against what is to become of it.
func tried(t *testing.T, f *FS, o op, want api.Errno) {
	t.Helper()
	was, calls, done := looked(f), f.Calls(), f.Done()
	if e := o.do(f); e != want {
		t.Errorf("%v: %d, want %d", o, e, want)
	}
	if want == api.OK {
		done++
	} else if looked(f) != was {
		t.Errorf("%v: refused, and yet: %s", o, looked(f))
	}
	if f.Calls() != calls+1 || f.Done() != done {
		t.Errorf("%v: %d calls, %d done, ahead of it %d", o, f.Calls(), f.Done(), calls)
	}
}

func TestMake(t *testing.T) {
	for _, what := range []string{"mkdir", "create", "symlink"} {
		kind := map[string]int{"mkdir": api.Dir, "create": api.File, "symlink": api.Link}[what]
		for _, c := range []struct {
			p    string
			want api.Errno
		}{
			{"x", api.OK}, {"-", api.OK}, {"a/x", api.OK}, {"a/b/x", api.OK}, {"d/x", api.OK}, {".flit/x", api.OK}, {"a/.flit", api.OK}, {strings.Repeat("x", 12), api.OK},
			{"", api.ErrPath}, {"/", api.ErrPath}, {"a/", api.ErrPath}, {"x//y", api.ErrPath}, {"f/..", api.ErrPath}, {deep(17), api.ErrPath}, {strings.Repeat("x", 13), api.ErrPath}, {"a/ ", api.ErrPath},
			{"x/y", api.ErrNone}, {"a/x/y", api.ErrNone}, {"f/x/y", api.ErrNone}, {"a/l/x/y", api.ErrNone}, {deep(16), api.ErrNone},
			{"f/x", api.ErrKind}, {"a/l/x", api.ErrKind}, {"a/b/c/d", api.ErrKind},
			{"a", api.ErrExists}, {"a/b", api.ErrExists}, {"a/b/c", api.ErrExists}, {"a/l", api.ErrExists}, {"f", api.ErrExists}, {".flit", api.ErrExists},
		} {
			f, o := made(t, some()), op{what: what, p: c.p}
			n := api.Node{Path: c.p, Kind: kind}
			if what == "symlink" {
				o.s, n.Data = "to", "to"
			}
			tried(t, f, o, c.want)
			if c.want == api.OK {
				held(t, f, tree.Of(append(some(), n)))
			}
		}
	}
	f := made(t, ladder(15))
	tried(t, f, op{what: "mkdir", p: deep(16)}, api.OK)
	held(t, f, ladder(16))
}

func TestSymlink(t *testing.T) {
	most := strings.Repeat("~", 64)
	for _, c := range []struct {
		p, target string
		want      api.Errno
	}{
		{"x", "!", api.OK}, {"x", "../a//b", api.OK}, {"x", "x", api.OK}, {"x", most, api.OK},
		{"x", most + "~", api.ErrArg}, {"x", strings.Repeat("x", 1<<20), api.ErrArg}, {"x", "", api.ErrArg}, {"x", "a b", api.ErrArg}, {"x", "\x7f", api.ErrArg}, {"x", "a\x00", api.ErrArg}, {"x", "\xe9", api.ErrArg},
		{"x/", "", api.ErrPath}, {"x/y", "", api.ErrNone}, {"f/y", "", api.ErrKind}, {"a", "", api.ErrExists}, {"a/l", most + "~", api.ErrExists},
	} {
		f := made(t, some())
		tried(t, f, op{what: "symlink", p: c.p, s: c.target}, c.want)
		if c.want == api.OK {
			held(t, f, tree.Of(append(some(), link(c.p, c.target))))
		}
	}
}

func TestAppend(t *testing.T) {
	full := strings.Repeat("x", 1<<14)
	for _, c := range []struct {
		p, s string
		want api.Errno
	}{
		{"f", "", api.OK}, {"f", "x", api.OK}, {"a/b/c", "\x00\xff\n", api.OK}, {"f", full, api.OK}, {"a/b/c", full[5:], api.OK},
		{"f", full + "x", api.ErrLong}, {"a/b/c", full[4:], api.ErrLong}, {"f", strings.Repeat(full, 100), api.ErrLong},
		{"x", "1", api.ErrNone}, {"x", full + full, api.ErrNone}, {"", "1", api.ErrNone}, {"", "", api.ErrNone}, {"f/", "1", api.ErrNone}, {"f/x", "1", api.ErrNone}, {"//", "", api.ErrNone},
		{"a", "1", api.ErrKind}, {"a", "", api.ErrKind}, {"a/l", "1", api.ErrKind}, {"a/l", full + full, api.ErrKind},
	} {
		f := made(t, some())
		tried(t, f, op{what: "append", p: c.p, s: c.s}, c.want)
		if c.want == api.OK {
			want := some()
			i := slices.IndexFunc(want, func(n api.Node) bool { return n.Path == c.p })
			want[i].Data += c.s
			held(t, f, want)
		}
	}
	f := made(t, []api.Node{file("f", full)})
	tried(t, f, op{what: "append", p: "f"}, api.OK)
	tried(t, f, op{what: "append", p: "f", s: "x"}, api.ErrLong)
}

func TestQuota(t *testing.T) {
	for _, c := range []struct {
		what string
		q    api.Quota
		o    op
		want api.Errno
	}{
		{"a node more", api.Quota{Nodes: 9, Bytes: 9}, op{what: "mkdir", p: "x"}, api.OK},
		{"no node more", api.Quota{Nodes: 8, Bytes: 99}, op{what: "mkdir", p: "x"}, api.ErrQuota},
		{"no file more", api.Quota{Nodes: 8, Bytes: 99}, op{what: "create", p: "x"}, api.ErrQuota},
		{"no link more", api.Quota{Nodes: 8, Bytes: 99}, op{what: "symlink", p: "x", s: "y"}, api.ErrQuota},
		{"fewer than there are", api.Quota{Nodes: 3, Bytes: 99}, op{what: "create", p: "x"}, api.ErrQuota},
		{"fewer than none", api.Quota{Nodes: math.MinInt, Bytes: math.MinInt}, op{what: "create", p: "x"}, api.ErrQuota},
		{"a node that is there first", api.Quota{Nodes: 1, Bytes: 99}, op{what: "create", p: "f"}, api.ErrExists},
		{"a wrong target first", api.Quota{}, op{what: "symlink", p: "x"}, api.ErrArg},
		{"a file, though there are too many bytes", api.Quota{Nodes: 9, Bytes: 2}, op{what: "create", p: "x"}, api.OK},
		{"a directory, though there are too many bytes", api.Quota{Nodes: 9, Bytes: math.MinInt}, op{what: "mkdir", p: "x"}, api.OK},
		{"a link's bytes", api.Quota{Nodes: 9, Bytes: 12}, op{what: "symlink", p: "x", s: "123"}, api.OK},
		{"a link's byte too many", api.Quota{Nodes: 9, Bytes: 11}, op{what: "symlink", p: "x", s: "123"}, api.ErrQuota},
		{"a link, and too many bytes", api.Quota{Nodes: 9, Bytes: math.MinInt}, op{what: "symlink", p: "x", s: "1"}, api.ErrQuota},
		{"just enough", api.Quota{Nodes: 8, Bytes: 12}, op{what: "append", p: "f", s: "123"}, api.OK},
		{"a byte too many", api.Quota{Nodes: 8, Bytes: 11}, op{what: "append", p: "f", s: "123"}, api.ErrQuota},
		{"bytes, and too many of them", api.Quota{Nodes: 8, Bytes: math.MinInt}, op{what: "append", p: "f", s: "1"}, api.ErrQuota},
		{"bytes, though there are too many nodes", api.Quota{Bytes: 10}, op{what: "append", p: "f", s: "1"}, api.OK},
		{"no bytes, though there are too many", api.Quota{Bytes: math.MinInt}, op{what: "append", p: "f"}, api.OK},
		{"too long first", api.Quota{}, op{what: "append", p: "f", s: strings.Repeat("x", 1<<14+1)}, api.ErrLong},
		{"no quota for moves", api.Quota{}, op{what: "rename", p: "a", s: "x"}, api.OK},
		{"none for what is removed", api.Quota{}, op{what: "remove", p: "a/b/c"}, api.OK},
		{"none for modes", api.Quota{}, op{what: "meta", p: "a"}, api.OK},
	} {
		f := made(t, some())
		f.Limit(c.q)
		held(t, f, some())
		t.Log(c.what)
		tried(t, f, c.o, c.want)
		f.Limit(much())
		if c.want == api.ErrQuota {
			tried(t, f, c.o, api.OK)
		}
	}
	f := made(t, wide(511))
	tried(t, f, op{what: "create", p: "x"}, api.OK)
	for _, what := range []string{"mkdir", "create", "symlink"} {
		tried(t, f, op{what: what, p: "y", s: "z"}, api.ErrQuota)
	}
	tried(t, f, op{what: "remove", p: "f1000"}, api.OK)
	tried(t, f, op{what: "mkdir", p: "y"}, api.OK)
	if f.Used() != (api.Quota{Nodes: 512}) {
		t.Errorf("Used %v", f.Used())
	}
}

func TestRename(t *testing.T) {
	for _, c := range []struct {
		from, to string
		want     api.Errno
	}{
		{"a", "b", api.OK}, {"a/b", "b", api.OK}, {"f", "d/f", api.OK}, {"d", "a/b/d", api.OK}, {"a", ".flit/1", api.OK}, {"a/b/c", "f", api.OK}, {"f", "a/l", api.OK}, {"a/l", "a/b/c", api.OK}, {"a/l", "d/l", api.OK},
		{"", "x", api.ErrPath}, {"a", "", api.ErrPath}, {"a/", "x", api.ErrPath}, {"x", "/", api.ErrPath}, {"a", "a", api.ErrPath}, {"a", "a/b/x", api.ErrPath}, {"f", "f", api.ErrPath}, {"x", "x/y", api.ErrPath},
		{"x", "y", api.ErrNone}, {"x", "f/y", api.ErrNone}, {"f", "x/y", api.ErrNone}, {"a", "f/x/y", api.ErrNone},
		{"a", "f/x", api.ErrKind}, {"f", "a/l/x", api.ErrKind},
		{"d", "f", api.ErrExists}, {"f", "d", api.ErrExists}, {"a", "d", api.ErrExists}, {"a/b", "a", api.ErrExists}, {"d", "a/l", api.ErrExists},
	} {
		f := made(t, some())
		tried(t, f, op{what: "rename", p: c.from, s: c.to}, c.want)
		want, e := tree.Move(some(), c.from, c.to)
		if e != c.want {
			t.Errorf("Move %s %s: %d", c.from, c.to, e)
		}
		if e == api.OK {
			held(t, f, want)
		}
	}
	long := append(ladder(15), dir("b"), dir("b/b"))
	f := made(t, long)
	tried(t, f, op{what: "rename", p: "a", s: "b/b/c"}, api.ErrLong)
	tried(t, f, op{what: "rename", p: "a", s: "b/c"}, api.OK)
	if want, _ := tree.Move(long, "a", "b/c"); !tree.Same(f.Tree(), want) {
		t.Errorf("Rename: %s", names(f.Tree()))
	}
}

func TestRemove(t *testing.T) {
	for _, c := range []struct {
		p    string
		want api.Errno
	}{
		{"f", api.OK}, {"d", api.OK}, {"a/l", api.OK}, {"a/b/c", api.OK}, {".flit", api.OK},
		{"", api.ErrPath}, {"a/", api.ErrPath}, {"//", api.ErrPath}, {deep(17), api.ErrPath},
		{"x", api.ErrNone}, {"f/x", api.ErrNone}, {"a/l/c", api.ErrNone}, {"x/y/z", api.ErrNone},
		{"a", api.ErrBusy}, {"a/b", api.ErrBusy},
	} {
		f := made(t, some())
		tried(t, f, op{what: "remove", p: c.p}, c.want)
		if c.want == api.OK {
			held(t, f, tree.Drop(some(), c.p))
		}
	}
	f := made(t, some())
	for _, n := range slices.Backward(some()) {
		tried(t, f, op{what: "remove", p: n.Path}, api.OK)
		tried(t, f, op{what: "remove", p: n.Path}, api.ErrNone)
	}
	held(t, f, nil)
}

func TestMeta(t *testing.T) {
	for _, c := range []struct {
		p          string
		mode, time int
		want       api.Errno
	}{
		{"a", 4095, 1 << 40, api.OK}, {"a/b/c", 0, 0, api.OK}, {"f", 1, 2, api.OK}, {"a/l", 0, 1 << 40, api.OK}, {".flit", 0, 1, api.OK},
		{"x", 0, 0, api.ErrNone}, {"", 0, 0, api.ErrNone}, {"a/", 0, 0, api.ErrNone}, {"x", -1, -1, api.ErrNone}, {"", -1, 0, api.ErrNone},
		{"a", -1, 0, api.ErrArg}, {"a", 4096, 0, api.ErrArg}, {"f", 0, -1, api.ErrArg}, {"f", 0, 1<<40 + 1, api.ErrArg}, {"f", math.MinInt, math.MaxInt, api.ErrArg}, {"a/l", 1, 0, api.ErrArg}, {"a/l", 0, -1, api.ErrArg},
	} {
		f := made(t, some())
		tried(t, f, op{what: "meta", p: c.p, a: c.mode, b: c.time}, c.want)
		if c.want == api.OK {
			want := some()
			i := slices.IndexFunc(want, func(n api.Node) bool { return n.Path == c.p })
			want[i].Mode, want[i].Time = c.mode, c.time
			held(t, f, want)
		}
	}
}

func TestFail(t *testing.T) {
	for _, o := range append(kinds(), op{what: "mkdir", p: "//"}, op{what: "append", p: "x"}, op{what: "rename"}, op{what: "remove", p: "a"}, op{what: "meta", p: "f", a: -1}) {
		f := made(t, some())
		f.Fail(1)
		tried(t, f, o, api.ErrIO)
		held(t, f, some())
		if e := o.do(f); e == api.ErrIO {
			t.Errorf("%v fails twice", o)
		}
	}
	for _, c := range []struct {
		puts []int // ahead of the first call, one after the other
		want int   // the call that fails; 0: none
	}{
		{nil, 0}, {[]int{0}, 0}, {[]int{-1}, 0}, {[]int{math.MinInt}, 0}, {[]int{math.MaxInt}, 0}, {[]int{1}, 1}, {[]int{2}, 2}, {[]int{5}, 5}, {[]int{7}, 7}, {[]int{8}, 0},
		{[]int{1, 3}, 3}, {[]int{3, 1}, 1}, {[]int{2, 0}, 0}, {[]int{2, -5}, 0}, {[]int{4, 4}, 4},
	} {
		f := made(t, nil)
		for _, n := range c.puts {
			f.Fail(n)
		}
		for i := range 7 {
			want := api.OK
			if i+1 == c.want {
				want = api.ErrIO
			}
			f.List("") // what is no operation doesn't count
			f.Read("x", 0, 0)
			tried(t, f, op{what: "mkdir", p: "x" + strconv.Itoa(i)}, want)
		}
	}
	f := made(t, nil)
	f.Fail(3)
	tried(t, f, op{what: "mkdir", p: "a"}, api.OK)
	tried(t, f, op{what: "mkdir", p: "a"}, api.ErrExists) // one that isn't done counts, too
	tried(t, f, op{what: "mkdir", p: "b"}, api.ErrIO)
	f.Fail(2)
	tried(t, f, op{what: "mkdir", p: "b"}, api.OK)
	f.Fail(2) // from now on
	tried(t, f, op{what: "mkdir", p: "c"}, api.OK)
	tried(t, f, op{what: "mkdir", p: "d"}, api.ErrIO)
	tried(t, f, op{what: "mkdir", p: "d"}, api.OK)
	if f.Calls() != 7 || f.Done() != 4 || names(f.Tree()) != "a b c d" {
		t.Errorf("%d calls, %d done: %s", f.Calls(), f.Done(), names(f.Tree()))
	}
}

func TestNobodyMade(t *testing.T) {
	for _, f := range []*FS{nil, {}} {
		f.Fail(1)
		f.Limit(much())
		for _, o := range append(kinds(), op{what: "mkdir"}, op{what: "create"}, op{what: "symlink"}, op{what: "append"}, op{what: "rename"}, op{what: "remove"}, op{what: "meta", a: -1}) {
			if e := o.do(f); e != api.ErrState {
				t.Errorf("%v: %d", o, e)
			}
		}
		for _, p := range []string{"", "a", "//"} {
			if n, ok := f.Stat(p); ok || n != (api.Node{}) {
				t.Errorf("Stat %q: %v, %v", p, n, ok)
			}
			if s, e := f.Read(p, -1, 1); s != "" || e != api.ErrState {
				t.Errorf("Read %q: %q, %d", p, s, e)
			}
			if l, e := f.List(p); l != nil || e != api.ErrState {
				t.Errorf("List %q: %v, %d", p, l, e)
			}
		}
		if len(f.Tree()) != 0 || f.Used() != (api.Quota{}) || f.Calls() != 0 || f.Done() != 0 {
			t.Errorf("%v, %v, %d, %d", f.Tree(), f.Used(), f.Calls(), f.Done())
		}
	}
}

func TestExample(t *testing.T) {
	f := made(t, nil)
	for _, o := range []op{{what: "mkdir", p: "a"}, {what: "create", p: "a/f"}, {what: "append", p: "a/f", s: "xy"}, {what: "rename", p: "a", s: "b"}} {
		tried(t, f, o, api.OK)
	}
	held(t, f, []api.Node{dir("b"), file("b/f", "xy")})
}

// told is what an operation is to make of a tree, as the document says it, by lists alone.
func told(t []api.Node, q api.Quota, o op) ([]api.Node, api.Errno) {
	n, ok := tree.Find(t, o.p)
	switch o.what {
	case "append":
		switch {
		case !ok:
			return nil, api.ErrNone
		case n.Kind != api.File:
			return nil, api.ErrKind
		case len(n.Data)+len(o.s) > 1<<14:
			return nil, api.ErrLong
		case o.s != "" && tree.Bytes(t)+len(o.s) > q.Bytes:
			return nil, api.ErrQuota
		}
		n.Data += o.s
	case "meta":
		n.Mode, n.Time = o.a, o.b
		if !ok {
			return nil, api.ErrNone
		}
		if node.Check(n) != api.OK {
			return nil, api.ErrArg
		}
	case "rename":
		return tree.Move(t, o.p, o.s)
	case "remove":
		switch {
		case o.p == "" || !paths.Right(o.p):
			return nil, api.ErrPath
		case !ok:
			return nil, api.ErrNone
		case len(tree.Sub(t, o.p)) > 1:
			return nil, api.ErrBusy
		}
		return tree.Drop(t, o.p), api.OK
	default:
		return toldMake(t, q, o)
	}
	return tree.Of(append([]api.Node{n}, t...)), api.OK
}

// toldMake is told, of an operation that makes a node.
func toldMake(t []api.Node, q api.Quota, o op) ([]api.Node, api.Errno) {
	n := api.Node{Path: o.p, Kind: api.Dir}
	switch o.what {
	case "create":
		n.Kind = api.File
	case "symlink":
		n.Kind, n.Data = api.Link, o.s
	}
	next, e := tree.Put(t, n)
	switch {
	case node.Check(n) == api.ErrPath:
		return nil, api.ErrPath
	case node.Check(n) != api.OK:
		if _, e = tree.Put(t, file(o.p, "")); e == api.OK || e == api.ErrLong {
			e = api.ErrArg
		}
		return nil, e
	case e == api.ErrLong:
		return nil, api.ErrQuota
	case e == api.OK && (len(next) > q.Nodes || n.Kind == api.Link && tree.Bytes(next) > q.Bytes):
		return nil, api.ErrQuota
	case e != api.OK:
		return nil, e
	}
	return next, api.OK
}

// drawn is a path out of few, a wrong one now and then.
func drawn(r *rand.Rand) string {
	l := []string{"a", "b", "a-", ".flit"}
	var p []string
	for range 1 + r.Intn(3) {
		p = append(p, l[r.Intn(len(l))])
	}
	if r.Intn(20) == 0 {
		return []string{"", "/", "a/", "..", "a//b"}[r.Intn(5)]
	}
	return strings.Join(p, "/")
}

// drawnOp is an operation on such a path.
func drawnOp(r *rand.Rand) op {
	o := kinds()[r.Intn(7)]
	o.p, o.s = drawn(r), strings.Repeat("x", r.Intn(8))
	if o.what == "rename" {
		o.s = drawn(r)
	}
	if o.what == "append" && r.Intn(20) == 0 {
		o.s = strings.Repeat("x", 1<<14-10+r.Intn(20))
	}
	o.a, o.b = r.Intn(3)-r.Intn(2), r.Intn(3)
	return o
}

func TestDrawn(t *testing.T) {
	r := rand.New(rand.NewSource(1))
	seen := map[string]int{}
	for range 300 {
		f, want := made(t, nil), []api.Node{}
		q, calls, done, fails := much(), 0, 0, 0
		for range 150 {
			switch r.Intn(40) {
			case 0:
				fails = r.Intn(6) - 1
				f.Fail(fails)
			case 1:
				q = api.Quota{Nodes: r.Intn(20) - 1, Bytes: r.Intn(100) - 1}
				f.Limit(q)
			case 2:
				q = much()
				f.Limit(q)
			}
			o := drawnOp(r)
			next, e := told(want, q, o)
			if fails == 1 {
				next, e = nil, api.ErrIO
			}
			fails--
			if calls++; e == api.OK {
				want = next
				done++
			}
			if got := o.do(f); got != e {
				t.Fatalf("%v on %s, %v: %d, want %d", o, names(want), q, got, e)
			}
			seen[o.what+strconv.Itoa(int(e))]++
			if f.Calls() != calls || f.Done() != done {
				t.Fatalf("%d calls, %d done, want %d, %d", f.Calls(), f.Done(), calls, done)
			}
			held(t, f, want)
		}
	}
	for _, s := range []string{"mkdir0", "mkdir2", "mkdir6", "mkdir8", "mkdir7", "mkdir10", "mkdir11", "create0", "create10", "symlink0", "symlink1", "symlink10", "append0", "append5", "append6", "append8", "append10", "rename0", "rename2", "rename6", "rename7", "rename8", "rename11", "remove0", "remove2", "remove6", "remove9", "meta0", "meta1", "meta6", "meta11"} {
		if seen[s] == 0 {
			t.Errorf("%s didn't come up", s)
		}
	}
}
