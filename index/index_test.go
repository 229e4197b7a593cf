package index

import (
	"encoding/binary"
	"flitting/api"
	"flitting/merkle"
	"flitting/mix"
	"flitting/msg"
	"flitting/sketch"
	"flitting/tree"
	"math"
	"math/rand"
	"slices"
	"strconv"
	"strings"
	"testing"
)

func dir(p string) api.Node { return api.Node{Path: p, Kind: api.Dir, Mode: 493, Time: 7} }
func file(p, s string) api.Node {
	return api.Node{Path: p, Kind: api.File, Mode: 420, Time: 300, Data: s}
}
func link(p, s string) api.Node { return api.Node{Path: p, Kind: api.Link, Time: 1, Data: s} }

// some is a well-formed tree.
func some() []api.Node {
	return []api.Node{dir(".flit"), file(".flit/x", "1"), dir("a"), dir("a/b"), file("a/b/c", "45"), link("a/l", "b"), file("a-b", strings.Repeat("6789", 50)), dir("d"), dir("e"), dir("e/b"), file("e/b/c", "45"), link("e/l", "b"), file("f", ""), link("g", strings.Repeat("t", api.MaxTarget)), {Path: "h", Kind: api.File}, {Path: "i", Kind: api.File, Mode: api.MaxMode, Time: api.MaxTime, Data: strings.Repeat("z", api.MaxFile)}}
}

// tentry is a node's entry, as the document says it.
func tentry(t []api.Node, n api.Node) api.Entry {
	e := api.Entry{Path: n.Path, Kind: n.Kind, Mode: n.Mode, Time: n.Time}
	if n.Kind == api.Dir {
		e.Sum, _ = merkle.Of(t, n.Path)
	}
	if n.Kind == api.File {
		e.Size = len(n.Data)
		e.Sum = mix.Of([]byte(n.Data))
		e.Sketch = sketch.Of([]byte(n.Data))
	}
	if n.Kind == api.Link {
		e.Size = len(n.Data)
		e.Target = n.Data
	}
	return e
}

// length is how many bytes an entry has, as the document says them.
func length(e api.Entry) int {
	num := func(n uint64) int { return len(binary.AppendUvarint(nil, n)) }
	text := func(s string) int { return num(uint64(len(s))) + len(s) }
	n := text(e.Path) + num(uint64(e.Kind)) + num(uint64(e.Mode)) + num(uint64(e.Time))
	switch e.Kind {
	case api.Dir:
		n += 16
	case api.File:
		n += num(uint64(e.Size)) + 16
		for _, x := range e.Sketch {
			n += num(x)
		}
	case api.Link:
		n += text(e.Target)
	}
	return n
}

// ahead is how many bytes the first n entries have.
func ahead(l []api.Entry, n int) int {
	sum := 0
	for _, e := range l[:n] {
		sum += length(e)
	}
	return sum
}

// hidden is a list with room behind it, which holds what nobody may see.
func hidden[T any](l []T, no T) []T {
	return append(slices.Clone(l), no, no, no)[:len(l)]
}

// untouched tells whether what lies in and behind a list that hidden made is as it was.
func untouched[T comparable](in, l []T, no T) bool {
	return slices.Equal(in[:len(in)+3], append(slices.Clone(l), no, no, no))
}

// noNode and noEntry are what nobody may see.
func noNode() api.Node { return file("zz", "no") }
func noEntry() api.Entry {
	return api.Entry{Path: "zz", Kind: api.File, Size: 1000}
}

// many is n empty files.
func many(n int) []api.Node {
	var t []api.Node
	for i := range n {
		t = append(t, file("f"+strconv.Itoa(1000+i), ""))
	}
	return t
}

// deep is n directories, each beneath the one ahead.
func deep(n int) []api.Node {
	var t []api.Node
	for i := range n {
		t = append(t, dir(strings.TrimSuffix(strings.Repeat("a/", i+1), "/")))
	}
	return t
}

// odd is what is no tree.
func odd() []api.Node {
	return []api.Node{dir(""), dir(""), dir("/"), dir("a/"), {Path: "a", Kind: -9, Data: "x"}, file("a/b", ""), file("f", ""), dir("f/g"), file("f/g/h", ""), file("q/r", ""), file("b", ""), dir("b"), {Path: strings.Repeat("a/", 1<<12), Kind: 1 << 62}, {Path: "c"}, file("c/d", ""), link("c/e", ""), {Path: "x", Kind: api.Dir, Data: "q"}, {Kind: api.File, Mode: math.MinInt, Time: math.MaxInt, Data: strings.Repeat("x", api.MaxFile+1)}}
}

// drawn is a tree of some nodes.
func drawn(r *rand.Rand) []api.Node {
	var l []api.Node
	for i := range r.Intn(40) {
		var p []string
		for range 1 + r.Intn(4) {
			p = append(p, []string{"a", "b", "cccccccccccc", "a-", ".flit"}[r.Intn(5)])
		}
		n := api.Node{Path: strings.Join(p, "/"), Kind: api.Dir, Mode: r.Intn(api.MaxMode + 1), Time: r.Intn(1<<r.Intn(41)) + i}
		switch r.Intn(4) {
		case 0, 1:
			n.Kind, n.Data = api.File, strings.Repeat(strconv.Itoa(r.Intn(3)), r.Intn(20))
		case 2:
			n.Kind, n.Mode, n.Data = api.Link, 0, strings.Repeat("x", 1+r.Intn(api.MaxTarget))
		}
		l = append(l, n)
	}
	return tree.Of(l)
}

// TestOf: 23.1, an index.
func TestOf(t *testing.T) {
	for _, l := range [][]api.Node{nil, {}, some(), many(512), deep(16), {link("l", "a")}} {
		in := hidden(l, noNode())
		got := Of(in)
		if len(got) != len(l) {
			t.Fatalf("%d entries of %d nodes", len(got), len(l))
		}
		for i, n := range l {
			if want := tentry(l, n); got[i] != want {
				t.Errorf("the entry of %s: %v, want %v", n.Path, got[i], want)
			}
		}
		for i := range got {
			got[i] = api.Entry{}
		}
		if !untouched(in, l, noNode()) || len(l) > 0 && Of(in)[0] != tentry(l, l[0]) {
			t.Error("what was handed in is changed, or what is told is kept")
		}
	}
}

// TestByHand: 23.1, entries whose numbers stand here.
func TestByHand(t *testing.T) {
	most := [api.Slots]uint64{}
	for k := range most {
		most[k] = math.MaxUint64
	}
	none := mix.Of(nil)
	a := mix.Of(append([]byte{1, 'f', 2}, sumBytes(none)...))
	want := []api.Entry{
		{Path: "a", Kind: api.Dir, Mode: 5, Time: 6, Sum: a},
		{Path: "a/f", Kind: api.File, Mode: 7, Time: 8, Sum: none, Sketch: most},
		{Path: "d", Kind: api.Dir, Sum: none},
		{Path: "l", Kind: api.Link, Time: 9, Size: 1, Target: "a"},
		{Path: "x", Kind: api.File, Size: 3, Sum: mix.Of([]byte("xyz")), Sketch: sketch.Of([]byte("xyz"))},
	}
	in := []api.Node{{Path: "a", Kind: api.Dir, Mode: 5, Time: 6}, {Path: "a/f", Kind: api.File, Mode: 7, Time: 8}, {Path: "d", Kind: api.Dir}, {Path: "l", Kind: api.Link, Time: 9, Data: "a"}, {Path: "x", Kind: api.File, Data: "xyz"}}
	if got := Of(in); !slices.Equal(got, want) {
		t.Errorf("%v, want %v", got, want)
	}
}

// sumBytes is a sum's bytes.
func sumBytes(s api.Sum) []byte {
	return binary.BigEndian.AppendUint64(binary.BigEndian.AppendUint64(nil, s.Hi), s.Lo)
}

// TestOfOdd: R1, lists that are no trees.
func TestOfOdd(t *testing.T) {
	for _, l := range [][]api.Node{odd(), slices.Repeat(odd()[:5], 500), slices.Repeat(deep(20), 40), make([]api.Node, 3000)} {
		in := hidden(l, noNode())
		x := Of(in)
		Outline(x)
		Check(x)
		Page(x, 0, 100)
		Page(x, len(x)/2, math.MaxInt)
		Find(x, "")
		Bytes(x)
		for i := range x {
			Fits(x[i], l[i])
		}
		if !untouched(in, l, noNode()) || !slices.Equal(x, Of(in)) {
			t.Error("a list was changed, or one call tells otherwise than another one")
		}
	}
}

// TestOutline: 23.1, an outline, also of what is no index.
func TestOutline(t *testing.T) {
	full := func(kind int) api.Entry {
		return api.Entry{Path: "p", Kind: kind, Mode: 3, Time: 4, Size: 5, Sum: api.Sum{Hi: 6, Lo: 7}, Target: "tt", Sketch: [api.Slots]uint64{8}}
	}
	l := []api.Entry{full(api.Link), full(api.File), full(api.Dir), full(0), full(-1), full(4), {}, {Path: "//", Mode: math.MinInt, Time: math.MaxInt}, {Kind: api.Link}}
	want := []api.Node{
		{Path: "p", Kind: api.Link, Mode: 3, Time: 4, Data: "tt"}, {Path: "p", Kind: api.File, Mode: 3, Time: 4}, {Path: "p", Kind: api.Dir, Mode: 3, Time: 4},
		{Path: "p", Mode: 3, Time: 4}, {Path: "p", Kind: -1, Mode: 3, Time: 4}, {Path: "p", Kind: 4, Mode: 3, Time: 4}, {}, {Path: "//", Mode: math.MinInt, Time: math.MaxInt}, {Kind: api.Link},
	}
	in := hidden(l, noEntry())
	got := Outline(in)
	if !slices.Equal(got, want) {
		t.Errorf("%v, want %v", got, want)
	}
	for i := range got {
		got[i] = noNode()
	}
	if !untouched(in, l, noEntry()) || !slices.Equal(Outline(in), want) || len(Outline(nil)) != 0 {
		t.Error("a list was changed, or is kept")
	}
	bare := slices.Clone(some())
	for i := range bare {
		if bare[i].Kind == api.File {
			bare[i].Data = ""
		}
	}
	if got := Outline(Of(some())); !slices.Equal(got, bare) {
		t.Errorf("%v, want %v", got, bare)
	}
}

// TestCheck: 23.1, what is wrong.
func TestCheck(t *testing.T) {
	a, ax, b, l := tentry(nil, dir("a")), tentry(nil, file("a/x", "1")), tentry(nil, file("b", "2")), tentry(nil, link("c", "b"))
	wrong := b
	wrong.Size = -1
	root, mode, sum := a, l, l
	root.Path, mode.Mode, sum.Sum.Lo = "", 1, 1
	tooDeep, deepest := Of(deep(17)), Of(deep(16))
	for _, c := range []struct {
		what string
		l    []api.Entry
		want api.Errno
	}{
		{"nil", nil, api.OK},
		{"some", Of(some()), api.OK},
		{"a, a/x, b, c", []api.Entry{a, ax, b, l}, api.OK},
		{"other prints", []api.Entry{{Path: "a", Kind: api.Dir, Sum: api.Sum{Hi: 9}}, {Path: "a/x", Kind: api.File, Size: 4, Sum: api.Sum{Lo: 8}}}, api.OK},
		{"512", Of(many(512)), api.OK},
		{"513", Of(many(513)), api.ErrLong},
		{"513, the last one wrong", append(Of(many(512)), wrong), api.ErrForm},
		{"16 names", deepest, api.OK},
		{"17 names", tooDeep, api.ErrForm},
		{"the zero entry", []api.Entry{{}}, api.ErrForm},
		{"the root", []api.Entry{root, a}, api.ErrForm},
		{"a wrong size", []api.Entry{a, wrong}, api.ErrForm},
		{"a link's mode", []api.Entry{mode}, api.ErrForm},
		{"a link's sum", []api.Entry{sum}, api.ErrForm},
		{"a wrong one behind another fault", []api.Entry{b, a, wrong}, api.ErrForm},
		{"a wrong one ahead", []api.Entry{wrong, a}, api.ErrForm},
		{"out of order", []api.Entry{b, a}, api.ErrOrder},
		{"twice", []api.Entry{a, a}, api.ErrOrder},
		{"no parent", []api.Entry{ax, b}, api.ErrNone},
		{"a parent that is a file", []api.Entry{b, tentry(nil, file("b/x", ""))}, api.ErrKind},
		{"a parent that is a link", []api.Entry{l, tentry(nil, file("c/x", ""))}, api.ErrKind},
		{"no parent, and then out of order", []api.Entry{ax, a}, api.ErrOrder},
		{"out of order ahead of no parent", []api.Entry{b, ax}, api.ErrOrder},
	} {
		in := hidden(c.l, noEntry())
		if got := Check(in); got != c.want {
			t.Errorf("%s: %d, want %d", c.what, got, c.want)
		}
		if !untouched(in, c.l, noEntry()) {
			t.Errorf("%s: the list was changed", c.what)
		}
	}
}

// TestPage: 23.2, pages.
func TestPage(t *testing.T) {
	l := Of(some())
	in := hidden(l, noEntry())
	for from := range l {
		for n := 1; n <= len(l)-from; n++ {
			sum := ahead(l[from:], n)
			for _, most := range []int{sum - 1, sum, sum + 1} {
				want := n
				if most < sum {
					want = max(1, n-1)
				}
				got := Page(in, from, most)
				if !slices.Equal(got, l[from:from+want]) {
					t.Fatalf("from %d, %d bytes: %d entries, want %d", from, most, len(got), want)
				}
				if cap(got) != len(got) {
					t.Fatalf("from %d, %d bytes: room for %d behind %d entries", from, most, cap(got), len(got))
				}
			}
		}
		for _, most := range []int{math.MinInt, -1, 0, 1} {
			if got := Page(in, from, most); !slices.Equal(got, l[from:from+1]) {
				t.Errorf("from %d, %d bytes: %d entries, want 1", from, most, len(got))
			}
		}
		for _, most := range []int{1 << 20, math.MaxInt} {
			if got := Page(in, from, most); !slices.Equal(got, l[from:]) {
				t.Errorf("from %d, %d bytes: %d entries, want %d", from, most, len(got), len(l)-from)
			}
		}
	}
	for _, from := range []int{math.MinInt, -1, len(l), len(l) + 1, len(l) + 3, math.MaxInt} {
		for _, most := range []int{math.MinInt, 0, 100, math.MaxInt} {
			if got := Page(in, from, most); len(got) != 0 || len(Page(nil, from, most)) != 0 {
				t.Errorf("from %d: %d entries", from, len(got))
			}
		}
	}
	if len(Page(nil, 0, 100)) != 0 {
		t.Error("a page of nothing")
	}
	got := Page(in, 1, 300)
	for i := range got {
		got[i] = api.Entry{}
	}
	_ = append(got, api.Entry{}, api.Entry{})
	if !untouched(in, l, noEntry()) {
		t.Error("a page shares what it was cut off from")
	}
}

// TestPageStops: 23.2, an entry that would have room behind one that hasn't is none of the page.
func TestPageStops(t *testing.T) {
	l := []api.Entry{tentry(nil, dir("a")), tentry(nil, file("b", "x")), tentry(nil, link("c", "d"))}
	if got := Page(l, 0, length(l[0])+length(l[2])); len(got) != 1 {
		t.Errorf("%d entries", len(got))
	}
	if got := Page(l, 1, length(l[2])); len(got) != 1 {
		t.Errorf("%d entries", len(got))
	}
	long := Of(slices.Repeat(many(1), 2000))
	if got := Page(long, 0, math.MaxInt); len(got) != 2000 {
		t.Errorf("%d entries", len(got))
	}
	if got := Page(long, 3, 10*length(long[0])); len(got) != 10 {
		t.Errorf("%d entries", len(got))
	}
}

// TestPageOdd: R1, pages of entries that aren't right.
func TestPageOdd(t *testing.T) {
	l := []api.Entry{{}, {Path: "//", Kind: -1}, {Kind: api.Link, Target: strings.Repeat("x", 1<<16)}, {Path: "a", Kind: api.File, Size: math.MinInt}, {Path: "a", Kind: api.Dir, Mode: math.MinInt, Time: math.MinInt}}
	in := hidden(l, noEntry())
	for from := -1; from <= len(l)+4; from++ {
		for _, most := range []int{math.MinInt, 0, 10, math.MaxInt} {
			got := Page(in, from, most)
			if len(got) > max(0, len(l)-from) || !untouched(in, l, noEntry()) {
				t.Errorf("from %d, %d bytes: %d entries", from, most, len(got))
			}
		}
	}
}

// TestFind: 23.2, places.
func TestFind(t *testing.T) {
	l := append(Of(some()), api.Entry{Path: "a", Kind: api.File}, api.Entry{Path: "//"}, api.Entry{Path: "//", Kind: 1})
	in := hidden(l, noEntry())
	for i, e := range l[:len(some())] {
		if got, ok := Find(in, e.Path); !ok || got != i {
			t.Errorf("%s: %d, %v, want %d", e.Path, got, ok, i)
		}
	}
	if got, ok := Find(in, "//"); !ok || got != len(l)-2 {
		t.Errorf("//: %d, %v", got, ok)
	}
	for _, p := range []string{"", "a/", "a/c", "zz", ".", "/", "a//b", "A", "a/b/"} {
		if got, ok := Find(in, p); ok || got != 0 {
			t.Errorf("%s: %d, %v", p, got, ok)
		}
	}
	if got, ok := Find([]api.Entry{{Path: "a"}, {}}, ""); !ok || got != 1 {
		t.Errorf("the empty text: %d, %v", got, ok)
	}
	if got, ok := Find(nil, ""); ok || got != 0 {
		t.Errorf("of nil: %d, %v", got, ok)
	}
}

// TestBytes: 23.2, how many bytes files have; links have a Size, too.
func TestBytes(t *testing.T) {
	for _, c := range []struct {
		l    []api.Node
		want int
	}{{nil, 0}, {deep(16), 0}, {[]api.Node{link("l", "abc")}, 0}, {[]api.Node{file("a", "xyz"), link("l", "abc"), file("m", "12345")}, 8}, {some(), 1 + 2 + 200 + 2 + api.MaxFile}, {many(512), 0}} {
		if got := Bytes(hidden(Of(c.l), noEntry())); got != c.want {
			t.Errorf("%d bytes, want %d", got, c.want)
		}
	}
	full := api.Entry{Kind: api.File, Size: api.MaxFile}
	if got := Bytes(slices.Repeat([]api.Entry{full}, 512)); got != 512*api.MaxFile {
		t.Errorf("%d bytes", got)
	}
	if got := Bytes([]api.Entry{{Kind: api.File, Size: 5, Target: "abcdef"}}); got != 5 {
		t.Errorf("%d bytes", got)
	}
}

// TestFits: 23.2, which entries are those of nodes.
func TestFits(t *testing.T) {
	d, f, l := tentry(nil, dir("a")), tentry(nil, file("a", "xyz")), tentry(nil, link("a", "xyz"))
	with := func(e api.Entry, change func(e *api.Entry)) api.Entry {
		change(&e)
		return e
	}
	elsewhere := func(e *api.Entry) { e.Path, e.Mode, e.Time = "q/r", e.Mode+1, e.Time+1 }
	for _, c := range []struct {
		what string
		e    api.Entry
		n    api.Node
		want bool
	}{
		{"a directory", d, dir("a"), true},
		{"a file", f, file("a", "xyz"), true},
		{"a link", l, link("a", "xyz"), true},
		{"a directory elsewhere", with(d, elsewhere), dir("a"), true},
		{"a file elsewhere", with(f, elsewhere), file("a", "xyz"), true},
		{"a link elsewhere", with(l, elsewhere), link("a", "xyz"), true},
		{"a directory's print", with(d, func(e *api.Entry) { e.Sum.Lo++ }), dir("a"), true},
		{"a file's sketch", with(f, func(e *api.Entry) { e.Sketch[0]++ }), file("a", "xyz"), true},
		{"a link's size", with(l, func(e *api.Entry) { e.Size++ }), link("a", "xyz"), true},
		{"other bytes", f, file("a", "xyy"), false},
		{"more bytes", f, file("a", "xyzz"), false},
		{"no bytes", f, file("a", ""), false},
		{"the size", with(f, func(e *api.Entry) { e.Size++ }), file("a", "xyz"), false},
		{"the low sum", with(f, func(e *api.Entry) { e.Sum.Lo++ }), file("a", "xyz"), false},
		{"the high sum", with(f, func(e *api.Entry) { e.Sum.Hi++ }), file("a", "xyz"), false},
		{"another target", l, link("a", "xyy"), false},
		{"a longer target", l, link("a", "xyzz"), false},
		{"no target", with(l, func(e *api.Entry) { e.Target = "" }), link("a", "xyz"), false},
		{"a directory, a file", d, file("a", ""), false},
		{"a directory, a link", d, link("a", "xyz"), false},
		{"a file, a directory", tentry(nil, file("a", "")), dir("a"), false},
		{"a file, a link", f, link("a", "xyz"), false},
		{"a link, a file", l, file("a", "xyz"), false},
		{"a link, a directory", l, dir("a"), false},
		{"nothing, a directory", api.Entry{}, dir("a"), false},
		{"a directory, nothing", d, api.Node{}, false},
	} {
		if got := Fits(c.e, c.n); got != c.want {
			t.Errorf("%s: %v", c.what, got)
		}
	}
}

// TestFollows: 23.3.
func TestFollows(t *testing.T) {
	r := rand.New(rand.NewSource(1))
	pages := 0
	for i := range 1500 {
		l := drawn(r)
		switch i {
		case 0:
			l = many(512)
		case 1:
			l = some()
		}
		x := Of(l)
		if !slices.EqualFunc(x, l, func(e api.Entry, n api.Node) bool { return e == tentry(l, n) && msg.RightEntry(e) && Fits(e, n) }) {
			t.Fatalf("the index of %v: %v", l, x)
		}
		if Check(x) != api.OK || tree.Check(Outline(x)) != api.OK {
			t.Fatalf("Check of %v: %d", x, Check(x))
		}
		if Bytes(x) > tree.Bytes(l) {
			t.Fatalf("%d bytes of %d", Bytes(x), tree.Bytes(l))
		}
		most := r.Intn(600) - 10
		var all []api.Entry
		for {
			p := Page(x, len(all), most)
			if len(p) == 0 {
				break
			}
			n := len(all)
			all = append(all, p...)
			if len(p) > 1 && ahead(p, len(p)) > most || len(all) < len(x) && ahead(x[n:], len(p)+1) <= most {
				t.Fatalf("a page of %d entries, of %d bytes", len(p), most)
			}
			pages++
		}
		if !slices.Equal(all, x) {
			t.Fatalf("pages of %d bytes: %d entries of %d", most, len(all), len(x))
		}
	}
	if pages < 2000 {
		t.Errorf("%d pages", pages)
	}
}
