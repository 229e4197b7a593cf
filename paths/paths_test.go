package paths

import (
	"flitting/api"
	"iter"
	"slices"
	"strings"
	"testing"
)

// long is a path of n names.
func long(n int) string {
	return strings.TrimPrefix(strings.Repeat("/a", n), "/")
}

// texts is every text of at most n of the bytes of alphabet.
func texts(alphabet string, n int) []string {
	l := []string{""}
	for from := 0; n > 0; n-- {
		to := len(l)
		for _, s := range l[from:to] {
			for i := range len(alphabet) {
				l = append(l, s+alphabet[i:i+1])
			}
		}
		from = to
	}
	return l
}

// wrong is texts that are no right paths.
func wrong() []string {
	return []string{"/", "//", "a/", "/a", "a//b", ".", "..", "a/.", "a/../b", "a b", "a\x00", "a\n", "ä", "abcdefghijklm", "a/abcdefghijklm", long(17), long(400), ".flit/", ".flit//x", ".flit/..", strings.Repeat("x", 1<<10), strings.Repeat("/", 1<<10)}
}

// TestName: 1.1.
func TestName(t *testing.T) {
	for _, s := range []string{"a", "z", "A", "Z", "0", "9", "_", "-", "...", ".a", "a.", "..a", ".-", "-.", "aZ09._-", ".flit", "abcdefghijkl"} {
		if !Name(s) {
			t.Errorf("Name(%q) is false", s)
		}
	}
	for _, s := range []string{"", ".", "..", "abcdefghijklm", "a/b", "/", "a/", "a b", " ", "a\n", "\x00", "ä", "a\xff", "a*", strings.Repeat("a", 1<<16)} {
		if Name(s) {
			t.Errorf("Name(%q) is true", s)
		}
	}
	for b := range 256 {
		is := strings.IndexByte("abcdefghijklmnopqrstuvwxyzABCDEFGHIJKLMNOPQRSTUVWXYZ0123456789._-", byte(b)) >= 0
		if s := "a" + string([]byte{byte(b)}); Name(s) != is {
			t.Errorf("Name(%q) is %v", s, !is)
		}
	}
}

// TestRight: 1.1.
func TestRight(t *testing.T) {
	for _, p := range []string{"", "a", "a/b", ".flit", ".../..a", long(16), strings.Repeat("abcdefghijkl/", 15) + "abcdefghijkl"} {
		if !Right(p) {
			t.Errorf("Right(%q) is false", p)
		}
	}
	for _, p := range wrong() {
		if Right(p) {
			t.Errorf("Right(%q) is true", p)
		}
	}
	for _, p := range texts("ab./", 6) {
		is := true
		for _, s := range strings.Split(p, "/") {
			is = is && (s != "" && s != "." && s != ".." || p == "")
		}
		if Right(p) != is {
			t.Errorf("Right(%q) is %v", p, !is)
		}
	}
}

// TestWrong: 1.1, what is told of a path that is not right.
func TestWrong(t *testing.T) {
	for _, p := range wrong() {
		if l := slices.Collect(Names(p)); len(l) != 0 {
			t.Errorf("Names(%q): %q", p, l)
		}
		if l := slices.Collect(Ups(p)); len(l) != 0 {
			t.Errorf("Ups(%q): %q", p, l)
		}
		if n := Depth(p); n != 0 {
			t.Errorf("Depth(%q): %d", p, n)
		}
		if q, ok := Parent(p); q != "" || ok {
			t.Errorf("Parent(%q): %q %v", p, q, ok)
		}
		if s := Base(p); s != "" {
			t.Errorf("Base(%q): %q", p, s)
		}
		if Reserved(p) {
			t.Errorf("Reserved(%q) is true", p)
		}
		wrongPairs(t, p)
	}
}

// wrongPairs is what is told of a path that is not right and other ones.
func wrongPairs(t *testing.T, p string) {
	for _, q := range append(wrong(), "", "a", "a/b", ".flit", long(16)) {
		if Under(p, q) || Under(q, p) || Within(p, q) || Within(q, p) || Within(p, p) {
			t.Errorf("Under, Within of %q, %q", p, q)
		}
		for _, l := range [][3]string{{p, q, "x"}, {q, p, "x"}, {q, q, p}, {q, "", p}} {
			if s, ok := Rebase(l[0], l[1], l[2]); s != "" || ok {
				t.Errorf("Rebase of %q: %q %v", l, s, ok)
			}
		}
	}
}

// TestParts: 1.2, Names, Depth, Parent, Base, Ups.
func TestParts(t *testing.T) {
	for _, x := range []struct {
		p      string
		names  []string
		parent string
		ok     bool
		base   string
		ups    []string
	}{
		{"", nil, "", false, "", nil},
		{"a", []string{"a"}, "", true, "a", []string{""}},
		{"a/b", []string{"a", "b"}, "a", true, "b", []string{"", "a"}},
		{"ab/a.b/c", []string{"ab", "a.b", "c"}, "ab/a.b", true, "c", []string{"", "ab", "ab/a.b"}},
		{".flit/x", []string{".flit", "x"}, ".flit", true, "x", []string{"", ".flit"}},
	} {
		if l := slices.Collect(Names(x.p)); !slices.Equal(l, x.names) {
			t.Errorf("Names(%q): %q", x.p, l)
		}
		if n := Depth(x.p); n != len(x.names) {
			t.Errorf("Depth(%q): %d", x.p, n)
		}
		if q, ok := Parent(x.p); q != x.parent || ok != x.ok {
			t.Errorf("Parent(%q): %q %v", x.p, q, ok)
		}
		if s := Base(x.p); s != x.base {
			t.Errorf("Base(%q): %q", x.p, s)
		}
		if l := slices.Collect(Ups(x.p)); !slices.Equal(l, x.ups) {
			t.Errorf("Ups(%q): %q", x.p, l)
		}
	}
}

// TestDeep: 1.2 of a path of 16 names.
func TestDeep(t *testing.T) {
	p := long(16)
	if n := Depth(p); n != 16 {
		t.Errorf("Depth: %d", n)
	}
	if q, ok := Parent(p); q != long(15) || !ok {
		t.Errorf("Parent: %q %v", q, ok)
	}
	n := 0
	for q := range Ups(p) {
		if q != long(n) {
			t.Errorf("Ups: %q at %d", q, n)
		}
		n++
	}
	if n != 16 {
		t.Errorf("Ups: %d of them", n)
	}
}

// TestAgain: what is ranged over tells the same each time, and no more behind a stop.
func TestAgain(t *testing.T) {
	for _, f := range []func(string) iter.Seq[string]{Names, Ups} {
		seq := f("a/b/c")
		first := slices.Collect(seq)
		if l := slices.Collect(seq); len(l) != 3 || !slices.Equal(l, first) {
			t.Errorf("%q, then %q", first, l)
		}
		for stop := 1; stop <= 3; stop++ {
			n := 0
			seq(func(string) bool { n++; return n < stop })
			if n != stop {
				t.Errorf("stopped at %d, told %d", stop, n)
			}
		}
		for _, p := range []string{"", "a/", long(17)} {
			if f(p) == nil {
				t.Errorf("nil of %q", p)
			}
		}
	}
}

// TestJoin: 1.2.
func TestJoin(t *testing.T) {
	many := strings.Split(long(17), "/")
	for _, x := range []struct {
		l []string
		p string
		e api.Errno
	}{
		{nil, "", api.OK},
		{[]string{}, "", api.OK},
		{[]string{"a"}, "a", api.OK},
		{[]string{"a", "b", ".flit"}, "a/b/.flit", api.OK},
		{many[:16], long(16), api.OK},
		{many, "", api.ErrLong},
		{[]string{""}, "", api.ErrPath},
		{[]string{"a", ""}, "", api.ErrPath},
		{[]string{"a", "b/c"}, "", api.ErrPath},
		{[]string{"..", "a"}, "", api.ErrPath},
		{[]string{"abcdefghijklm"}, "", api.ErrPath},
		{append(slices.Clone(many), "."), "", api.ErrPath},
		{append([]string{"/"}, many...), "", api.ErrPath},
	} {
		if p, e := Join(x.l...); p != x.p || e != x.e {
			t.Errorf("Join(%q): %q %d", x.l, p, e)
		}
	}
	for _, p := range texts("ab/", 6) {
		if q, e := Join(slices.Collect(Names(p))...); Right(p) && (q != p || e != api.OK) {
			t.Errorf("Join of the names of %q: %q %d", p, q, e)
		}
	}
}

// begins tells whether a path begins with another one's names, by lists of names.
func begins(p, q string) bool {
	l, m := slices.Collect(Names(p)), slices.Collect(Names(q))
	return len(l) >= len(m) && slices.Equal(l[:len(m)], m)
}

// TestUnder: 1.3, Under and Within.
func TestUnder(t *testing.T) {
	for _, x := range []struct {
		p, q          string
		under, within bool
	}{
		{"", "", false, true},
		{"a", "", true, true},
		{"a/b", "", true, true},
		{"", "a", false, false},
		{"a", "a", false, true},
		{"a/b", "a", true, true},
		{"a/b/c", "a", true, true},
		{"a", "a/b", false, false},
		{"ab", "a", false, false},
		{"ab/c", "a", false, false},
		{"a-/b", "a", false, false},
		{"b/a", "a", false, false},
		{"a/bc", "a/b", false, false},
		{long(16), long(15), true, true},
	} {
		if Under(x.p, x.q) != x.under || Within(x.p, x.q) != x.within {
			t.Errorf("Under, Within of %q, %q: not %v, %v", x.p, x.q, x.under, x.within)
		}
	}
	l := slices.DeleteFunc(texts("ab/", 5), func(p string) bool { return !Right(p) })
	for _, p := range l {
		for _, q := range l {
			if Within(p, q) != begins(p, q) || Under(p, q) != (begins(p, q) && p != q) {
				t.Errorf("Under, Within of %q, %q", p, q)
			}
		}
	}
}

// TestRebase: 1.3.
func TestRebase(t *testing.T) {
	for _, x := range []struct {
		p, from, to, q string
		ok             bool
	}{
		{"a/b/c", "a", "x/y", "x/y/b/c", true},
		{"a/b", "a/b", "x", "x", true},
		{"a/b", "a/b", "", "", true},
		{"a/b", "a", "", "b", true},
		{"a/b", "", "", "a/b", true},
		{"a/b", "", "x", "x/a/b", true},
		{"", "", "", "", true},
		{"", "", "x", "x", true},
		{"a/b", "a", "a/b", "a/b/b", true},
		{"a", "a/b", "x", "", false},
		{"ab", "a", "x", "", false},
		{"ab/c", "a", "x", "", false},
		{"", "a", "x", "", false},
		{long(16), long(8), long(8), long(16), true},
		{long(16), long(8), long(9), "", false},
		{long(16), "", "x", "", false},
		{"a/b", "a", long(15), long(15) + "/b", true},
		{"a/b", "a", long(16), "", false},
	} {
		if q, ok := Rebase(x.p, x.from, x.to); q != x.q || ok != x.ok {
			t.Errorf("Rebase(%q, %q, %q): %q %v", x.p, x.from, x.to, q, ok)
		}
	}
}

// TestReserved: 1.3.
func TestReserved(t *testing.T) {
	for _, x := range []struct {
		p  string
		is bool
	}{{".flit", true}, {".flit/x", true}, {".flit/x/y", true}, {"", false}, {".flits", false}, {".fli", false}, {"a/.flit", false}, {".flit-/x", false}, {"flit", false}} {
		if Reserved(x.p) != x.is {
			t.Errorf("Reserved(%q) is %v", x.p, !x.is)
		}
	}
}

// order is the order of paths, by lists of what stands between slashes.
func order(p, q string) int {
	l, m := strings.Split(p, "/"), strings.Split(q, "/")
	if p == "" {
		l = nil
	}
	if q == "" {
		m = nil
	}
	return slices.Compare(l, m)
}

// TestCmp: 1.4, of right paths and of any other texts.
func TestCmp(t *testing.T) {
	for _, x := range []struct {
		p, q string
		n    int
	}{
		{"", "", 0}, {"a", "a", 0}, {"a/b", "a-b", -1}, {"a", "a/b", -1}, {"b", "a/b", 1}, {"a", "b", -1}, {"a/c", "ab", -1}, {"a-b", "a/b", 1},
		{"", "a", -1}, {"A", "a", -1}, {"a.b", "a/b", 1}, {"a/b/c", "a/b", 1}, {"a", "z/z", -1},
		{"", "/", -1}, {"/", "//", -1}, {"a", "a/", -1}, {"a/", "a\x00", -1}, {"\xff", "a", 1}, {"/a", "a", -1}, {"a//b", "a/b", -1},
	} {
		if n := Cmp(x.p, x.q); n != x.n {
			t.Errorf("Cmp(%q, %q): %d", x.p, x.q, n)
		}
		if n := Cmp(x.q, x.p); n != -x.n {
			t.Errorf("Cmp(%q, %q): %d", x.q, x.p, n)
		}
	}
	l := append(texts("a-/\x00\xff", 4), wrong()...)
	for _, p := range l {
		for _, q := range l {
			if n := Cmp(p, q); n != order(p, q) {
				t.Fatalf("Cmp(%q, %q): %d", p, q, n)
			}
		}
	}
}

// TestTogether: 1.5.
func TestTogether(t *testing.T) {
	l := slices.DeleteFunc(texts("ab-/", 5), func(p string) bool { return !Right(p) })
	slices.SortFunc(l, Cmp)
	for i, p := range l {
		end := i + 1
		for end < len(l) && Under(l[end], p) {
			end++
		}
		for j, q := range l {
			if Within(q, p) != (j >= i && j < end) {
				t.Fatalf("%q is at %d, %q at %d", p, i, q, j)
			}
		}
	}
}
