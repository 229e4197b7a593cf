package node

import (
	"flitting/api"
	"math"
	"strings"
	"testing"
)

// many is a path of n names.
func many(n int) string {
	return strings.TrimSuffix(strings.Repeat("a/", n), "/")
}

// dir, file and link are right nodes at a.
var (
	dir  = api.Node{Path: "a", Kind: api.Dir, Mode: 7, Time: 9}
	file = api.Node{Path: "a", Kind: api.File, Mode: 7, Time: 9, Data: "xy"}
	link = api.Node{Path: "a", Kind: api.Link, Time: 9, Data: "xy"}
)

// each tells whether a check answers an error for all three nodes, changed alike.
func each(t *testing.T, change func(n *api.Node), want api.Errno, what string) {
	t.Helper()
	for _, n := range []api.Node{dir, file, link} {
		change(&n)
		if got := Check(n); got != want {
			t.Errorf("%s, kind %d: Check %d, want %d", what, n.Kind, got, want)
		}
	}
}

func TestCheckPath(t *testing.T) {
	for p, want := range map[string]api.Errno{
		"":                      api.ErrPath,
		"/":                     api.ErrPath,
		"a/":                    api.ErrPath,
		"/a":                    api.ErrPath,
		"a//b":                  api.ErrPath,
		".":                     api.ErrPath,
		"a/..":                  api.ErrPath,
		"a b":                   api.ErrPath,
		many(api.MaxDepth + 1):  api.ErrPath,
		strings.Repeat("a", 13): api.ErrPath,
		strings.Repeat("a", 12): api.OK,
		many(api.MaxDepth):      api.OK,
		"a/b.c":                 api.OK,
		".flit":                 api.OK,
		".flit/x":               api.OK,
		".flit.":                api.OK,
	} {
		each(t, func(n *api.Node) { n.Path = p }, want, "path "+p)
	}
}

func TestCheckKind(t *testing.T) {
	for _, k := range []int{0, 4, -1, 255, 257, math.MaxInt, math.MinInt} {
		each(t, func(n *api.Node) { n.Kind = k }, api.ErrKind, "a wrong kind")
	}
	each(t, func(n *api.Node) {}, api.OK, "right")
}

func TestCheckLong(t *testing.T) {
	for _, c := range []struct {
		n    api.Node
		size int
		want api.Errno
	}{
		{dir, 0, api.OK}, {dir, 1, api.ErrLong}, {dir, 64, api.ErrLong},
		{file, 0, api.OK}, {file, 65, api.OK}, {file, 16384, api.OK}, {file, 16385, api.ErrLong},
		{link, 0, api.ErrArg}, {link, 1, api.OK}, {link, 64, api.OK}, {link, 65, api.ErrLong}, {link, 16385, api.ErrLong},
	} {
		c.n.Data = strings.Repeat("x", c.size)
		if got := Check(c.n); got != c.want {
			t.Errorf("kind %d with %d bytes: Check %d, want %d", c.n.Kind, c.size, got, c.want)
		}
	}
}

func TestCheckMode(t *testing.T) {
	for m, want := range map[int]api.Errno{0: api.OK, 1: api.OK, 4095: api.OK, 4096: api.ErrArg, -1: api.ErrArg, math.MaxInt: api.ErrArg, math.MinInt: api.ErrArg} {
		for _, n := range []api.Node{dir, file} {
			n.Mode = m
			if got := Check(n); got != want {
				t.Errorf("kind %d with mode %d: Check %d, want %d", n.Kind, m, got, want)
			}
		}
		n := link
		n.Mode = m
		if got := Check(n); got == api.OK != (m == 0) || m != 0 && got != api.ErrArg {
			t.Errorf("a link with mode %d: Check %d", m, got)
		}
	}
}

func TestCheckTime(t *testing.T) {
	for at, want := range map[int]api.Errno{0: api.OK, 1: api.OK, 1 << 40: api.OK, 1<<40 + 1: api.ErrArg, -1: api.ErrArg, math.MaxInt: api.ErrArg, math.MinInt: api.ErrArg} {
		each(t, func(n *api.Node) { n.Time = at }, want, "a time")
	}
}

func TestCheckTarget(t *testing.T) {
	for b := range 256 {
		want := api.ErrArg
		if b >= 33 && b <= 126 {
			want = api.OK
		}
		for _, s := range []string{string([]byte{byte(b)}), "x" + string([]byte{byte(b)}), string([]byte{byte(b)}) + "x"} {
			if got := Check(api.Node{Path: "a", Kind: api.Link, Data: s}); got != want {
				t.Errorf("target %q: Check %d, want %d", s, got, want)
			}
			if got := Check(api.Node{Path: "a", Kind: api.File, Data: s}); got != api.OK {
				t.Errorf("file with %q: Check %d", s, got)
			}
		}
	}
	// A target is no path.
	if got := Check(api.Node{Path: "a", Kind: api.Link, Data: "../../..//x"}); got != api.OK {
		t.Errorf("a target outside: Check %d", got)
	}
}

func TestCheckFirst(t *testing.T) {
	long := strings.Repeat("\x00", api.MaxFile+1)
	for _, c := range []struct {
		n    api.Node
		want api.Errno
	}{
		{api.Node{Path: "", Kind: 9, Mode: -1, Time: -1, Data: long}, api.ErrPath},
		{api.Node{Path: "a", Kind: 9, Mode: -1, Time: -1, Data: long}, api.ErrKind},
		{api.Node{Path: "a", Kind: api.Dir, Mode: -1, Time: -1, Data: long}, api.ErrLong},
		{api.Node{Path: "a", Kind: api.File, Mode: -1, Time: -1, Data: long}, api.ErrLong},
		{api.Node{Path: "a", Kind: api.Link, Mode: -1, Time: -1, Data: long}, api.ErrLong},
		{api.Node{Path: "a", Kind: api.Link, Mode: 1, Time: -1}, api.ErrArg},
		{api.Node{}, api.ErrPath},
	} {
		if got := Check(c.n); got != c.want {
			t.Errorf("kind %d: Check %d, want %d", c.n.Kind, got, c.want)
		}
	}
}

// variants is nodes, right or not, each of which differs from the first one by some of its fields.
func variants() []api.Node {
	var l []api.Node
	for i := range 32 {
		n := api.Node{Path: "a", Kind: api.File, Mode: 1, Time: 2, Data: "x"}
		if i&1 != 0 {
			n.Path = ""
		}
		if i&2 != 0 {
			n.Kind = api.Dir
		}
		if i&4 != 0 {
			n.Mode = -2
		}
		if i&8 != 0 {
			n.Time = 1
		}
		if i&16 != 0 {
			n.Data = "x\x00"
		}
		l = append(l, n)
	}
	return l
}

func TestSame(t *testing.T) {
	for i, a := range variants() {
		for j, b := range variants() {
			off := i ^ j
			if got, want := Same(a, b), off == 0; got != want {
				t.Errorf("Same(%v, %v): %v", a, b, got)
			}
			if got, want := Content(a, b), off&(2|16) == 0; got != want {
				t.Errorf("Content(%v, %v): %v", a, b, got)
			}
			if got, want := Meta(a, b), off&(4|8) == 0; got != want {
				t.Errorf("Meta(%v, %v): %v", a, b, got)
			}
			if got, want := Same(a, b), a.Path == b.Path && Content(a, b) && Meta(a, b); got != want {
				t.Errorf("Same(%v, %v): %v, but by path, Content and Meta %v", a, b, got, want)
			}
		}
	}
}

func TestAt(t *testing.T) {
	for _, n := range variants() {
		for _, p := range []string{"", "b", "a", "b/c", "//"} {
			want := api.Node{Path: p, Kind: n.Kind, Mode: n.Mode, Time: n.Time, Data: n.Data}
			was := n
			if got := At(n, p); got != want || n != was {
				t.Errorf("At(%v, %q): %v", n, p, got)
			}
		}
	}
}

func TestKind(t *testing.T) {
	for k, want := range map[int]string{api.Dir: "dir", api.File: "file", api.Link: "link", 0: "", 4: "", -1: "", math.MaxInt: "", math.MinInt: ""} {
		if got := Kind(k); got != want {
			t.Errorf("Kind(%d): %q", k, got)
		}
	}
}

func TestSize(t *testing.T) {
	for k, want := range map[int]int{api.Dir: 0, api.File: 3, api.Link: 3, 0: 3, 9: 3} {
		if got := Size(api.Node{Kind: k, Data: "x\x00\xff"}); got != want {
			t.Errorf("Size of kind %d: %d", k, got)
		}
		if got := Size(api.Node{Kind: k}); got != 0 {
			t.Errorf("Size of kind %d without bytes: %d", k, got)
		}
	}
	if got := Size(api.Node{Kind: api.File, Data: strings.Repeat("x", api.MaxFile+7)}); got != api.MaxFile+7 {
		t.Errorf("Size of a file that is too long: %d", got)
	}
}
