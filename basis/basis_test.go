package basis

import (
	"flitting/api"
	"flitting/index"
	"flitting/sample"
	"flitting/sketch"
	"flitting/stock"
	"flitting/tree"
	"math"
	"math/rand"
	"slices"
	"strings"
	"testing"
)

// file is an entry of so many bytes, whose sketch has so many numbers, the first ones, of those that all such have; no two slots have one number.
func file(p string, size, common int) api.Entry {
	e := api.Entry{Path: p, Kind: api.File, Size: size}
	for k := range e.Sketch {
		e.Sketch[k] = uint64(k)
		if k >= common {
			// Each path has numbers of its own.
			e.Sketch[k] = mixed(p) + uint64(k)
		}
	}
	return e
}

// mixed is a great number that hangs on a text.
func mixed(p string) uint64 {
	n := uint64(1)
	for i := range len(p) {
		n = n*256 + uint64(p[i])
	}
	return n << 8
}

// of is a kind in place of an entry's.
func of(kind int, e api.Entry) api.Entry {
	e.Kind = kind
	return e
}

// made makes a stock of words.
func made(t *testing.T, want, have, rules string, del bool) *stock.Stock {
	t.Helper()
	s, e := stock.New(index.Of(tree.Of(sample.Nodes(want))), tree.Of(sample.Nodes(have)), api.Options{Rules: sample.Rules(rules), Del: del})
	if e != api.OK {
		t.Fatalf("New of %s and %s: %d", want, have, e)
	}
	if len(s.Want) != len(sample.Nodes(want)) || len(s.Have) != len(sample.Nodes(have)) {
		t.Fatalf("%s, %s: no trees", want, have)
	}
	return s
}

// told is the path of what Choose tells, or what else it tells.
func told(s *stock.Stock, i, size int) string {
	k, ok := Choose(s, i, size)
	switch {
	case ok && k >= 0 && k < len(s.Have):
		return s.Have[k].Path
	case ok:
		return "no place"
	case k != 0:
		return "a place with false"
	}
	return ""
}

// TestScore: 27.1, at how many places the sketches are alike.
func TestScore(t *testing.T) {
	for common := range api.Slots + 1 {
		a, b := file("a", 9, api.Slots), file("b", 9, common)
		if x, y := Score(a, b, 4), Score(b, a, 4); x != common || y != common {
			t.Errorf("%d numbers alike: %d, %d", common, x, y)
		}
	}
	// The same numbers, but not at the same places.
	a, b := file("a", 9, 8), file("b", 9, 8)
	slices.Reverse(b.Sketch[:])
	if n := Score(a, b, 4); n != 0 {
		t.Errorf("turned round: %d", n)
	}
	b = file("b", 9, 8)
	b.Sketch[0], b.Sketch[6] = 99, 98
	if n := Score(a, b, 4); n != 6 {
		t.Errorf("the first and the last but one: %d", n)
	}
}

// TestScoreOther: 27.1, nothing but sketches, kinds, sizes, and b's Path counts.
func TestScoreOther(t *testing.T) {
	a, b := file("a", 9, 8), file("b", 20, 5)
	for _, c := range []struct {
		what string
		a, b api.Entry
		size int
		want int
	}{
		{"as they are", a, b, 4, 5},
		{"just as many bytes", a, b, 9, 5},
		{"a has too few", a, b, 10, 0},
		{"b has just as many", file("a", 30, 8), b, 20, 5},
		{"b has too few", file("a", 30, 8), b, 21, 0},
		{"both have too few", a, b, 64, 0},
		{"the greatest size", a, b, math.MaxInt, 0},
		{"size 0", a, b, 0, 5},
		{"below 0", a, b, -1, 5},
		{"the least size", a, b, math.MinInt, 5},
		{"without bytes, and size 1", file("a", 0, 8), file("b", 0, 8), 1, 0},
		{"without bytes, and size 0", file("a", 0, 8), file("b", 0, 8), 0, 8},
		{"a is a directory", of(api.Dir, a), b, 4, 0},
		{"b is a directory", a, of(api.Dir, b), 4, 0},
		{"a is a link", of(api.Link, a), b, 4, 0},
		{"b is a link", a, of(api.Link, b), 4, 0},
		{"both are directories", of(api.Dir, a), of(api.Dir, b), 4, 0},
		{"both are links", of(api.Link, a), of(api.Link, b), 4, 0},
		{"both are of no kind", of(0, a), of(0, b), 4, 0},
		{"both are of other kinds", of(4, a), of(-2, b), 4, 0},
		{"b is at .flit", a, file(".flit", 20, 8), 4, 0},
		{"a is at .flit", file(".flit", 9, 8), b, 4, 5},
		{"both are", file(".flit", 9, 8), file(".flit", 9, 8), 4, 0},
		{"b is under .flit", a, file(".flit/n0", 20, 7), 4, 7},
		{"b is named like it", a, file(".flit-", 20, 7), 4, 7},
		{"b is elsewhere, of that name", a, file("x/.flit", 20, 7), 4, 7},
		{"one path", a, file("a", 20, 8), 4, 8},
		{"the zero ones", api.Entry{}, api.Entry{}, 0, 0},
	} {
		if n := Score(c.a, c.b, c.size); n != c.want {
			t.Errorf("%s: %d, want %d", c.what, n, c.want)
		}
	}
	meta := b
	meta.Mode, meta.Time, meta.Sum, meta.Target, meta.Size = 9, 9, api.Sum{Hi: 1}, "x", 1<<40
	if n := Score(a, meta, 4); n != 5 {
		t.Errorf("mode, time, sum, target: %d", n)
	}
}

// TestScoreNodes: 27.1, of the entries of nodes it is what their bytes' sketches tell.
func TestScoreNodes(t *testing.T) {
	texts := []string{"", "abc", "abcabcabc", "bcabcab", "thequickbrownfoxjumps", "thequickbrownfoxjumpsoverthelazydog", "xxxx", strings.Repeat("flit", 99)}
	some := 0
	for _, x := range texts {
		for _, y := range texts {
			l := index.Of([]api.Node{{Path: "a", Kind: api.File, Data: x}, {Path: "b", Kind: api.File, Data: y}})
			for _, size := range []int{0, 4, 9, 64} {
				want := sketch.Alike(sketch.Of([]byte(x)), sketch.Of([]byte(y)))
				if len(x) < size || len(y) < size {
					want = 0
				}
				if got := Score(l[0], l[1], size); got != want {
					t.Errorf("%.20s, %.20s, %d: %d, want %d", x, y, size, got, want)
				}
				if want > 0 && want < api.Slots {
					some++
				}
			}
		}
	}
	if some == 0 {
		t.Errorf("none is alike in part")
	}
}

// TestChoose: 27.1, the best basis of files with bytes.
func TestChoose(t *testing.T) {
	const text, other = "thequickbrownfoxjumps", "0123456789+#*!"
	for _, c := range []struct {
		what, want, have, rules string
		keep                    bool
		best                    string // of the file z
	}{
		{what: "nothing is there", want: "z=" + text},
		{what: "it grew at its end", want: "z=" + text + "over", have: "a=" + other + " z=" + text, best: "z"},
		{what: "it grew at its begin", want: "z=over" + text, have: "a=" + other + " z=" + text, best: "z"},
		{what: "nothing is alike", want: "z=" + text, have: "a=" + other + " z=" + other},
		{what: "it was moved, and grew", want: "z=" + text + "over", have: "a=" + other + " b=" + text + " z=" + other, best: "b"},
		{what: "the same bytes", want: "z=" + text, have: "a=" + text, best: "a"},
		{what: "a file deep below", want: "z=" + text, have: "a/ a/b/ a/b/c=" + text, best: "a/b/c"},
		{what: "of several the first one", want: "z=" + text, have: "b=" + text + " c=" + text + " d=" + text, best: "b"},
		{what: "of several the one in its place", want: "z=" + text, have: "a=" + text + " z=" + text, best: "z"},
		{what: "rather one that is more alike", want: "z=" + text + text + "over", have: "a=" + text + text + " b=" + text + text + "over z=" + text, best: "b"},
		{what: "one that stays", want: "z=" + text, have: "a=" + text, keep: true, best: "a"},
		{what: "one that is shut out", want: "z=" + text, have: "a=" + text, rules: "-a", best: "a"},
		{what: "one in place that is shut out", want: "z=" + text, have: "a=" + text + " z=" + text, rules: "-z", best: "z"},
		{what: "for one that is blocked", want: "z=" + text, have: "a=" + text + " z/ z/x", keep: true, best: "a"},
		{what: "out of the reserved directory", want: "z=" + text, have: ".flit/ .flit/n1=" + text, best: ".flit/n1"},
		{what: "not at .flit", want: "z=" + text, have: ".flit=" + text},
		{what: "not at .flit, but behind it", want: "z=" + text, have: ".flit=" + text + " a=" + text[1:], best: "a"},
		{what: "not a link", want: "z=" + text, have: "a>" + text},
		{what: "not a directory", want: "z=" + text, have: "z/"},
		{what: "none of a link", want: "z>" + text, have: "z=" + text},
		{what: "none of a directory", want: "z/", have: "z=" + text},
		{what: "not of too few bytes", want: "z=abc", have: "a=abc"},
		{what: "of just so many", want: "z=abcd", have: "a=abcd", best: "a"},
		{what: "one has too few", want: "z=abcd", have: "a=abc"},
		{what: "one has too few, the next one not", want: "z=abcd", have: "a=abc b=abcd", best: "b"},
	} {
		s := made(t, c.want, c.have, c.rules, !c.keep)
		if got := told(s, len(s.Want)-1, 4); got != c.best {
			t.Errorf("%s: %q, want %q", c.what, got, c.best)
		}
	}
}

// TestBest: 27.1, which of several is the best one, by the sketches alone.
func TestBest(t *testing.T) {
	for i, c := range []struct {
		alike [4]int // of the files a, b, m, z
		want  string
	}{
		{[4]int{0, 0, 0, 0}, ""},
		{[4]int{1, 0, 0, 0}, "a"},
		{[4]int{0, 1, 0, 0}, "b"},
		{[4]int{0, 0, 1, 0}, "m"},
		{[4]int{0, 0, 0, 1}, "z"},
		{[4]int{1, 1, 0, 1}, "a"},
		{[4]int{0, 1, 0, 1}, "b"},
		{[4]int{1, 1, 1, 1}, "m"},
		{[4]int{8, 8, 8, 8}, "m"},
		{[4]int{0, 3, 3, 3}, "m"},
		{[4]int{3, 0, 3, 0}, "m"},
		{[4]int{3, 2, 3, 1}, "m"},
		{[4]int{3, 3, 2, 3}, "a"},
		{[4]int{2, 3, 2, 3}, "b"},
		{[4]int{2, 2, 2, 3}, "z"},
		{[4]int{7, 8, 7, 8}, "b"},
		{[4]int{1, 2, 3, 4}, "z"},
		{[4]int{4, 3, 2, 1}, "a"},
		{[4]int{1, 3, 4, 2}, "m"},
		{[4]int{1, 4, 3, 4}, "b"},
	} {
		s := &stock.Stock{Want: []api.Entry{file("d", 99, 0), file("m", 99, 8)}}
		for k, p := range []string{"a", "b", "m", "z"} {
			s.Have = append(s.Have, file(p, 99, c.alike[k]))
		}
		if got := told(s, 1, 64); got != c.want {
			t.Errorf("case %d, %v: %q, want %q", i, c.alike, got, c.want)
		}
		if got := told(s, 0, 64); got != "" {
			t.Errorf("case %d: of one that is like none: %q", i, got)
		}
		for _, size := range []int{100, math.MaxInt} {
			if got := told(s, 1, size); got != "" {
				t.Errorf("case %d: of size %d: %q", i, size, got)
			}
		}
	}
}

// TestEmpty: 27.1, files without bytes have sketches that are alike.
func TestEmpty(t *testing.T) {
	s := made(t, "e f=abcd", "a=abcd b c e", "", true)
	for _, size := range []int{0, -1, math.MinInt} {
		if x, y := told(s, 0, size), told(s, 1, size); x != "e" || y != "a" {
			t.Errorf("size %d: %s, %s", size, x, y)
		}
	}
	if x, y := told(s, 0, 1), told(s, 1, 1); x != "" || y != "a" {
		t.Errorf("size 1: %s, %s", x, y)
	}
}

// TestWrong: 27.1, places where there is nothing, and a stock that nobody made.
func TestWrong(t *testing.T) {
	s := made(t, "a=abcd", "a=abcd b=abcd", "", true)
	for _, i := range []int{-1, 1, 2, math.MinInt, math.MaxInt} {
		if k, ok := Choose(s, i, 4); k != 0 || ok {
			t.Errorf("Choose of %d: %d, %v", i, k, ok)
		}
	}
	if k, ok := Choose(nil, 0, 4); k != 0 || ok || len(All(nil, 4)) != 0 {
		t.Errorf("nil tells something")
	}
	s = &stock.Stock{}
	if k, ok := Choose(s, 0, 4); k != 0 || ok || len(All(s, 4)) != 0 {
		t.Errorf("an empty one tells something")
	}
}

// TestAll: 27.1, what All tells is what Choose tells, or -1.
func TestAll(t *testing.T) {
	s := made(t, "a=abcd b/ b/c=abcdef d>a e=xyzw f=abc", "a=abcd c=abcdefg", "", true)
	// a, b, b/c, d, e, f
	want := []int{0, -1, 1, -1, -1, -1}
	got := All(s, 4)
	if !slices.Equal(got, want) {
		t.Errorf("All: %v, want %v", got, want)
	}
	for i := range got {
		got[i] = 9
	}
	if again := All(s, 4); !slices.Equal(again, want) {
		t.Errorf("what was told is kept: %v", again)
	}
	if got := All(s, 5); !slices.Equal(got, []int{-1, -1, 1, -1, -1, -1}) {
		t.Errorf("All of size 5: %v", got)
	}
	if got := All(s, math.MaxInt); !slices.Equal(got, []int{-1, -1, -1, -1, -1, -1}) {
		t.Errorf("All of the greatest size: %v", got)
	}
	if got := All(made(t, "a=abcd b>a", "", "", true), 4); !slices.Equal(got, []int{-1, -1}) {
		t.Errorf("All, without anything there: %v", got)
	}
	if got := All(made(t, "", "a=abcd", "", true), 4); len(got) != 0 {
		t.Errorf("All, without anything wanted: %v", got)
	}
}

// TestUntouched: R5, a stock is read alone, and within the lengths of its lists.
func TestUntouched(t *testing.T) {
	no := file("zz", 99, 8)
	want, have := []api.Entry{file("a", 99, 8)}, []api.Entry{file("b", 99, 4), file("c", 99, 3)}
	s := &stock.Stock{Want: sample.Hidden(want, no), Have: sample.Hidden(have, no)}
	if got := All(s, 4); !slices.Equal(got, []int{0}) {
		t.Errorf("All: %v", got)
	}
	if got := told(s, 1, 4); got != "" {
		t.Errorf("behind the end: %s", got)
	}
	if !sample.Untouched(s.Want, want, no) || !sample.Untouched(s.Have, have, no) {
		t.Errorf("the stock is changed")
	}
}

// drawn is a stock of drawn trees, most of whose nodes are files, of which many are alike in part.
func drawn(t *testing.T, r *rand.Rand) *stock.Stock {
	a, b := drawnTree(r), drawnTree(r)
	s, e := stock.New(index.Of(a), b, api.Options{Rules: sample.DrawRules(r.Intn), Del: r.Intn(2) == 0})
	if e != api.OK {
		t.Fatalf("%s, %s: %d", sample.Words(a), sample.Words(b), e)
	}
	return s
}

// drawnTree is one of both.
func drawnTree(r *rand.Rand) []api.Node {
	var l []api.Node
	for _, p := range []string{".flit", ".flit/n0", ".flit/n1", "a", "a/x", "b", "c", "d", "e"} {
		n := api.Node{Path: p, Kind: api.File, Data: drawnText(r)}
		switch {
		case r.Intn(4) == 0:
			continue
		case p == ".flit" && r.Intn(4) > 0, p == "a" && r.Intn(2) == 0, r.Intn(20) == 0:
			n.Kind, n.Data = api.Dir, ""
		case r.Intn(20) == 0:
			n.Kind, n.Data = api.Link, "x"
		}
		l = append(l, n)
	}
	return tree.Of(l)
}

// drawnText is bytes of some words, which others have, too.
func drawnText(r *rand.Rand) string {
	words := []string{"one.", "two,two,", "threethree", "4", "five-five-five", "six6"}
	text := ""
	for range r.Intn(4) {
		text += words[r.Intn(len(words))]
	}
	return text
}

// better tells whether a file that there is is a better basis than another one, where both are one of a file: of all orders of them the best one is the least.
func better(s *stock.Stock, i, k, than, size int) bool {
	x, y := Score(s.Want[i], s.Have[k], size), Score(s.Want[i], s.Have[than], size)
	if x != y {
		return x > y
	}
	if p := s.Want[i].Path; s.Have[k].Path == p || s.Have[than].Path == p {
		return s.Have[k].Path == p
	}
	return k < than
}

// TestFollows: 27.2, and with it 27.1, of drawn trees: no file is more alike than the best basis, and of those that are as alike none is to be taken rather.
func TestFollows(t *testing.T) {
	r := rand.New(rand.NewSource(7))
	found, none, inPlace, ties := 0, 0, 0, 0
	for range 1000 {
		s := drawn(t, r)
		size := r.Intn(14) - 1
		all := All(s, size)
		if len(all) != len(s.Want) {
			t.Fatalf("%d of %d", len(all), len(s.Want))
		}
		for i, got := range all {
			k, ok := Choose(s, i, size)
			if ok && k != got || !ok && (got != -1 || k != 0) {
				t.Fatalf("All tells %d, Choose %d, %v", got, k, ok)
			}
			if ok && Score(s.Want[i], s.Have[k], size) == 0 {
				t.Fatalf("%s: %s is no basis", s.Want[i].Path, s.Have[k].Path)
			}
			for j := range s.Have {
				switch n := Score(s.Want[i], s.Have[j], size); {
				case n == 0:
				case !ok:
					t.Fatalf("%s: %s is a basis, but none is told", s.Want[i].Path, s.Have[j].Path)
				case j != k && better(s, i, j, k, size):
					t.Fatalf("%s: %s is better than %s", s.Want[i].Path, s.Have[j].Path, s.Have[k].Path)
				case j != k && n == Score(s.Want[i], s.Have[k], size):
					ties++
				}
			}
			switch {
			case !ok:
				none++
			case s.Have[k].Path == s.Want[i].Path:
				inPlace++
			default:
				found++
			}
		}
	}
	if found < 1000 || none < 1000 || inPlace < 200 || ties < 200 {
		t.Errorf("too few were looked at: %d, %d, %d, %d", found, none, inPlace, ties)
	}
}
