package rule

import (
	"flitting/api"
	"flitting/glob"
	"flitting/paths"
	"slices"
	"strings"
	"testing"
)

// texts is every text of at most n of the bytes of alphabet.
func texts(alphabet string, n int) []string {
	l := []string{""}
	for from := 0; n > 0; n-- {
		to := len(l)
		for _, s := range l[from:to] {
			for i := range len(alphabet) {
				l = append(l, s+alphabet[i:i+1])
			}
		}
		from = to
	}
	return l
}

// long is a path of n names.
func long(n int) string {
	return strings.TrimPrefix(strings.Repeat("/a", n), "/")
}

// keep and shut are rules.
func keep(pattern string) api.Rule { return api.Rule{Keep: true, Pattern: pattern} }
func shut(pattern string) api.Rule { return api.Rule{Pattern: pattern} }

// wrong is patterns of rules that are not right, with what is told of them.
func wrong() map[string]api.Errno {
	return map[string]api.Errno{
		"": api.ErrForm, "/": api.ErrForm, "//": api.ErrForm,
		"[": api.ErrForm, "/[": api.ErrForm, "[/": api.ErrForm, "/[/": api.ErrForm, "[/]": api.ErrForm, "[c-a]": api.ErrForm, "a[]": api.ErrForm,
		"\\": api.ErrForm, "a\\": api.ErrForm, "\\/": api.ErrForm, "a\\/": api.ErrForm, "/\\": api.ErrForm, "/\\/": api.ErrForm,
		strings.Repeat("[", 64): api.ErrForm, strings.Repeat("a", 62) + "\\/": api.ErrForm,
		strings.Repeat("a", 65): api.ErrLong, "/" + strings.Repeat("a", 64): api.ErrLong, strings.Repeat("a", 64) + "/": api.ErrLong, "/" + strings.Repeat("a", 63) + "/": api.ErrLong,
		strings.Repeat("[", 65): api.ErrLong, strings.Repeat("/", 65): api.ErrLong, strings.Repeat("\\", 1<<16): api.ErrLong,
	}
}

// TestCheck: 3.1, Check.
func TestCheck(t *testing.T) {
	for _, p := range []string{"a", "/a", "a/", "/a/", "///", "//a", "a//", "/ ", " ", "*", "/**/", "[a-c]/", "\\//", "/\\a", "!", "+", "-", "\n", "\x00\xff", "ä", "a/b", "/]/",
		strings.Repeat("a", 64), "/" + strings.Repeat("a", 63), strings.Repeat("a", 63) + "/", "/" + strings.Repeat("a", 62) + "/", strings.Repeat("*", 64), strings.Repeat("/", 64)} {
		if e, f := Check(keep(p)), Check(shut(p)); e != api.OK || f != api.OK {
			t.Errorf("Check of %q: %d, %d", p, e, f)
		}
	}
	for p, x := range wrong() {
		if e, f := Check(keep(p)), Check(shut(p)); e != x || f != x {
			t.Errorf("Check of %q: %d, %d", p, e, f)
		}
	}
}

// TestCheckAll: 3.1, CheckAll.
func TestCheckAll(t *testing.T) {
	form, length := keep("["), shut(strings.Repeat("a", 65))
	many := slices.Repeat([]api.Rule{keep("a"), shut("/b/")}, 9)
	for _, x := range []struct {
		l []api.Rule
		e api.Errno
	}{
		{nil, api.OK},
		{[]api.Rule{}, api.OK},
		{many[:1], api.OK},
		{many[:16], api.OK},
		{many[:17], api.ErrLong},
		{many, api.ErrLong},
		{[]api.Rule{{}}, api.ErrForm},
		{[]api.Rule{keep("a"), form, length}, api.ErrForm},
		{[]api.Rule{keep("a"), length, form}, api.ErrLong},
		{append(slices.Clone(many[:15]), form), api.ErrForm},
		{append(slices.Clone(many[:15]), length), api.ErrLong},
		{append([]api.Rule{form}, many[:16]...), api.ErrLong},
		{slices.Repeat([]api.Rule{form}, 1<<12), api.ErrLong},
	} {
		if e := CheckAll(x.l); e != x.e {
			t.Errorf("CheckAll of %d rules: %d, not %d", len(x.l), e, x.e)
		}
	}
	if e := CheckAll(append(many[:2:2], form)[:2]); e != api.OK {
		t.Errorf("CheckAll read behind the list's length: %d", e)
	}
}

// TestMatches: 3.2, Matches. Paths stand with a slash behind where they are directories'.
func TestMatches(t *testing.T) {
	for _, x := range []struct {
		pattern  string
		yes, not string
	}{
		{"a", "a a/ b/a b/a/ b/c/a", "b ab a/b a/b/ ba b/a/c"},
		{"/a", "a a/", "b/a b/a/ a/b ab"},
		{"a/", "a/ b/a/ c/b/a/", "a b/a a/b ab/"},
		{"/a/", "a/", "a b/a/ a/a/ a/b/"},
		{"a/b", "a/b a/b/ c/a/b", "b a ca/b a/b/c a/bc"},
		{"/a/b", "a/b a/b/", "c/a/b b a a/b/c"},
		{"a/b/", "a/b/ c/a/b/", "a/b b/ a/"},
		{"*", "a a/ a/b a/b/", ""},
		{"/*", "a a/", "a/b a/b/"},
		{"*/", "a/ a/b/", "a a/b"},
		{"/*/", "a/", "a a/b/"},
		{"**", "a a/ a/b a/b/c/", ""},
		{"/**", "a a/ a/b a/b/c/", ""},
		{"/**/b", "a/b a/c/b/", "b b/ a/bc"},
		{"**/b", "a/b a/c/b/", "b b/"},
		{"/**b", "b ab a/b a/cb/", "a b/a"},
		{"*.go", "x.go a/y.go/ .go", "x.gob go a.go/x"},
		{"/a/*", "a/b a/c/", "a b/a/c a/b/c"},
		{"/a/**", "a/b a/b/c/", "a b/a/c"},
		{"?/[b-c]", "a/b x/a/c/", "a/d b ab/b"},
		{"\\a", "a b/a/", "b"},
		{"\\*", "", "a a/ a/b"},
		{"//a", "", "a a/ b/a"},
		{"a//", "", "a a/ b/a/"},
		{"///", "", "a a/ b/a/"},
		{"//a/", "", "a a/ b/a/"},
		{" a", "", "a a/ b/a"},
		{".flit", ".flit .flit/ a/.flit", "flit a"},
	} {
		for _, r := range []api.Rule{keep(x.pattern), shut(x.pattern)} {
			matches(t, r, x.yes, true)
			matches(t, r, x.not, false)
		}
	}
}

// matches looks whether a rule matches all of these paths, or none.
func matches(t *testing.T, r api.Rule, l string, is bool) {
	for _, s := range strings.Fields(l) {
		p, dir := strings.CutSuffix(s, "/")
		if Matches(r, p, dir) != is {
			t.Errorf("Matches(%q, %q, %v) is not %v", r.Pattern, p, dir, is)
		}
	}
}

// TestMatchesWrong: 3.2, rules and paths that are not right, and the root.
func TestMatchesWrong(t *testing.T) {
	for p := range wrong() {
		for _, q := range []string{"a", "[", "\\", "a/b", "", "/", p} {
			if Matches(keep(p), q, true) || Matches(shut(p), q, false) {
				t.Errorf("Matches(%q, %q) is true", p, q)
			}
		}
	}
	for _, q := range []string{"", "/", "a/", "/a", "a//a", ".", "..", "a/..", "a b", "ä", "abcdefghijklm", long(17), strings.Repeat("a/", 1<<16)} {
		for _, p := range []string{"**", "/**", "**/", "*", "a", q} {
			if Matches(keep(p), q, true) || Matches(shut(p), q, false) {
				t.Errorf("Matches(%q, %q) is true", p, q)
			}
		}
	}
	if !Matches(keep("/**/a"), long(16), false) || !Matches(shut(long(16)), long(16), true) {
		t.Errorf("a path of 16 names")
	}
}

// plain is Matches by the words of the chapter, one by one.
func plain(r api.Rule, p string, dir bool) bool {
	core, whole, dirs := r.Pattern, false, false
	if core != "" && core[0] == '/' {
		core, whole = core[1:], true
	}
	if core != "" && core[len(core)-1] == '/' {
		core, dirs = core[:len(core)-1], true
	}
	if core == "" || len(r.Pattern) > 64 || p == "" || !paths.Right(p) || dirs && !dir {
		return false
	}
	is := glob.Match(core, p)
	for i := range len(p) {
		is = is || !whole && p[i] == '/' && glob.Match(core, p[i+1:])
	}
	return is
}

// TestMatchesAll: 3.2, of all short patterns and paths.
func TestMatchesAll(t *testing.T) {
	l := texts("ab/", 5)
	for _, pattern := range texts("a/*\\", 5) {
		for _, p := range l {
			for _, dir := range []bool{false, true} {
				if r := keep(pattern); Matches(r, p, dir) != plain(r, p, dir) {
					t.Fatalf("Matches(%q, %q, %v) is %v", pattern, p, dir, !plain(r, p, dir))
				}
			}
		}
	}
}

// TestKeeps: 3.2, Keeps.
func TestKeeps(t *testing.T) {
	for _, x := range []struct {
		l    []api.Rule
		p    string
		dir  bool
		keep bool
	}{
		{nil, "a", false, true},
		{[]api.Rule{}, "a", true, true},
		{[]api.Rule{shut("a")}, "a", false, false},
		{[]api.Rule{shut("a")}, "b", false, true},
		{[]api.Rule{shut("a")}, "a/b", false, true},
		{[]api.Rule{keep("a")}, "a", false, true},
		{[]api.Rule{keep("a")}, "b", false, true},
		{[]api.Rule{keep("a"), shut("*")}, "a", false, true},
		{[]api.Rule{keep("a"), shut("*")}, "b", false, false},
		{[]api.Rule{shut("*"), keep("a")}, "a", false, false},
		{[]api.Rule{shut("a/"), keep("*")}, "a", true, false},
		{[]api.Rule{shut("a/"), keep("*")}, "a", false, true},
		{[]api.Rule{keep("a/"), shut("*")}, "a", false, false},
		{[]api.Rule{shut("["), shut(""), shut("/"), shut(strings.Repeat("*", 65))}, "a", false, true},
		{[]api.Rule{keep("["), shut("a")}, "a", false, false},
		{[]api.Rule{shut("**")}, "", true, true},
		{[]api.Rule{shut("**")}, "a/", true, true},
		{[]api.Rule{shut("**")}, long(16), false, false},
		{[]api.Rule{shut("**")}, long(17), false, true},
		{append(slices.Repeat([]api.Rule{keep("b")}, 16), shut("a")), "a", false, false},
		{append(slices.Repeat([]api.Rule{shut("b")}, 16), keep("a"), shut("*")), "a", false, true},
	} {
		if Keeps(x.l, x.p, x.dir) != x.keep {
			t.Errorf("Keeps(%v, %q, %v) is %v", x.l, x.p, x.dir, !x.keep)
		}
	}
	if l := []api.Rule{keep("b"), shut("a")}; !Keeps(l[:1], "a", false) || Shut(l[:1], "a", false) {
		t.Errorf("a rule behind the list's length was asked")
	}
}

// TestShut: 3.2, Shut.
func TestShut(t *testing.T) {
	for _, x := range []struct {
		l        []api.Rule
		yes, not string
	}{
		{nil, "", "a a/ a/b a/b/"},
		{[]api.Rule{shut("b/")}, "b/ a/b/ a/b/c a/b/c/ b/c/d", "b a/b c/ bb/"},
		{[]api.Rule{shut("/b")}, "b b/ b/c b/c/d/", "a/b a/b/ a/b/c"},
		{[]api.Rule{shut("b")}, "b a/b a/b/c/", "a bc/d"},
		{[]api.Rule{shut("/a"), keep("/a/b")}, "a/ a/b a/b/c a/c", "b"},
		{[]api.Rule{keep("/a/b"), shut("/a/*")}, "a/c a/c/b", "a a/b a/b/c"},
		{[]api.Rule{keep("a/"), shut("*")}, "a b b/ b/a a/b", "a/ a/a/"},
		{[]api.Rule{keep("*/"), shut("*")}, "a a/b a/b/c", "a/ a/b/"},
		{[]api.Rule{shut("[")}, "", "a a/b"},
		{[]api.Rule{shut("**")}, "a a/ a/b", ""},
		{[]api.Rule{shut("/a/a/a/a/a/a/a/a/a/a/a/a/a/a/a/a")}, long(16), long(15) + " " + long(14) + "/b"},
		{[]api.Rule{shut("/a/a/a/a/a/a/a/a/a/a/a/a/a/a/a/")}, long(16) + " " + long(15) + "/", long(15)},
	} {
		for _, s := range strings.Fields(x.yes + " " + x.not) {
			p, dir := strings.CutSuffix(s, "/")
			if is := slices.Contains(strings.Fields(x.yes), s); Shut(x.l, p, dir) != is {
				t.Errorf("Shut(%v, %q, %v) is not %v", x.l, p, dir, is)
			}
		}
	}
	for _, p := range []string{"", "/", "a/", "/a", "a//b", "a/..", "a/b c", long(17), long(1 << 12)} {
		if Shut([]api.Rule{shut("**"), shut("a")}, p, true) || Shut([]api.Rule{shut("**")}, p, false) {
			t.Errorf("Shut of %q is true", p)
		}
	}
}

// lists is all lists of at most two of some rules.
func lists() [][]api.Rule {
	l := [][]api.Rule{nil}
	some := []api.Rule{keep("a"), shut("a"), keep("/a/"), shut("b/"), shut("/a/b"), keep("*/"), shut("/*"), shut("**/a"), keep("[")}
	for _, r := range some {
		l = append(l, []api.Rule{r})
		for _, q := range some {
			l = append(l, []api.Rule{r, q})
		}
	}
	return l
}

// TestUnder: 3.2 and 3.4, what is shut out, and all that is under it.
func TestUnder(t *testing.T) {
	tree := slices.DeleteFunc(texts("ab/", 5), func(p string) bool { return !paths.Right(p) })
	for _, l := range lists() {
		for _, p := range tree {
			for _, dir := range []bool{false, true} {
				is := !Keeps(l, p, dir)
				for _, q := range tree {
					is = is || paths.Under(p, q) && !Keeps(l, q, true)
				}
				if Shut(l, p, dir) != is {
					t.Fatalf("Shut(%v, %q, %v) is %v", l, p, dir, !is)
				}
				if up, ok := paths.Parent(p); ok && Shut(l, up, true) && !Shut(l, p, dir) {
					t.Fatalf("%q is shut out by %v, and what is under it, %q, is not", up, l, p)
				}
			}
		}
	}
}

// TestText: 3.3, Text, of rules that are not right, too.
func TestText(t *testing.T) {
	for _, x := range []struct {
		l []api.Rule
		s string
	}{
		{nil, ""},
		{[]api.Rule{keep("a")}, "+ a\n"},
		{[]api.Rule{shut("/b c/"), keep(" * "), shut("-")}, "- /b c/\n+  * \n- -\n"},
		{[]api.Rule{{}, keep("["), shut("a\nb")}, "- \n+ [\n- a\nb\n"},
		{slices.Repeat([]api.Rule{keep("a")}, 20), strings.Repeat("+ a\n", 20)},
		{[]api.Rule{keep("a"), shut("b")}[:1], "+ a\n"},
	} {
		if s := Text(x.l); s != x.s {
			t.Errorf("Text of %v: %q", x.l, s)
		}
	}
}

// TestParse: 3.3, texts that are read.
func TestParse(t *testing.T) {
	for _, x := range []struct {
		s string
		l []api.Rule
	}{
		{"", nil},
		{"+ a\n", []api.Rule{keep("a")}},
		{"- /b c/\n+  * \n- -\n", []api.Rule{shut("/b c/"), keep(" * "), shut("-")}},
		{"+ + a\n-  \n", []api.Rule{keep("+ a"), shut(" ")}},
		{"- a\r\n+ \x00\xff\n", []api.Rule{shut("a\r"), keep("\x00\xff")}},
		{"+ " + strings.Repeat("a", 64) + "\n", []api.Rule{keep(strings.Repeat("a", 64))}},
		{strings.Repeat("- a\n", 16), slices.Repeat([]api.Rule{shut("a")}, 16)},
	} {
		if l, n, e := Parse(x.s); !slices.Equal(l, x.l) || n != 0 || e != api.OK {
			t.Errorf("Parse(%q): %v, %d, %d", x.s, l, n, e)
		}
	}
}

// TestParseWrong: 3.3, the first line that isn't a rule's, and its error.
func TestParseWrong(t *testing.T) {
	full := strings.Repeat("- a\n", 16)
	a := strings.Repeat("a", 65)
	for _, x := range []struct {
		s string
		n int
		e api.Errno
	}{
		{"\n", 1, api.ErrForm}, {"+\n", 1, api.ErrForm}, {"-\n", 1, api.ErrForm}, {"+ \n", 1, api.ErrForm}, {"- /\n", 1, api.ErrForm}, {"+ //\n", 1, api.ErrForm},
		{"+a\n", 1, api.ErrForm}, {"+\ta\n", 1, api.ErrForm}, {" + a\n", 1, api.ErrForm}, {"a\n", 1, api.ErrForm}, {"* a\n", 1, api.ErrForm}, {", a\n", 1, api.ErrForm}, {"++ a\n", 1, api.ErrForm},
		{"+ [\n", 1, api.ErrForm}, {"- a\\\n", 1, api.ErrForm}, {"- a\\/\n", 1, api.ErrForm},
		{"+", 1, api.ErrForm}, {"+ a", 1, api.ErrForm}, {"+ a\n+ a", 2, api.ErrForm}, {"+ a\n+ ", 2, api.ErrForm}, {"+ a\n\n", 2, api.ErrForm}, {"+ a\n\n+ a\n", 2, api.ErrForm},
		{"+ " + a + "\n", 1, api.ErrLong}, {"+ a\n- " + a + "\n+ [\n", 2, api.ErrLong}, {"+ a\n- [\n+ " + a + "\n", 2, api.ErrForm}, {"- " + strings.Repeat("[", 65) + "\n", 1, api.ErrLong},
		{"+" + a + "\n", 1, api.ErrForm}, {"* " + a + "\n", 1, api.ErrForm}, {"+ " + a, 1, api.ErrForm}, {strings.Repeat("x", 1<<16), 1, api.ErrForm},
		{full + "- a\n", 17, api.ErrLong}, {full + "- a", 17, api.ErrLong}, {full + "\n", 17, api.ErrLong}, {full + "x", 17, api.ErrLong}, {full + "+ [\n- a\n", 17, api.ErrLong}, {full + full, 17, api.ErrLong},
		{"x\n" + full + full, 1, api.ErrForm}, {"- a\n+ " + a + "\n" + full, 2, api.ErrLong}, {full[:60] + "\n" + full, 16, api.ErrForm}, {full[:60] + "+ a", 16, api.ErrForm},
		{strings.Repeat("+ a\n", 1<<16), 17, api.ErrLong}, {strings.Repeat("\n", 1<<16), 1, api.ErrForm},
	} {
		if l, n, e := Parse(x.s); len(l) != 0 || n != x.n || e != x.e {
			t.Errorf("Parse(%.80q): %v, %d, %d, not %d, %d", x.s, l, n, e, x.n, x.e)
		}
	}
}

// TestThere: 3.4, Parse of Text is the rules; Text of Parse the text.
func TestThere(t *testing.T) {
	for _, p := range texts("a/*[-] ", 4) {
		l := []api.Rule{keep(p), shut("x"), shut(p)}
		got, n, e := Parse(Text(l))
		if x := Check(l[0]); x != api.OK {
			if len(got) != 0 || n != 1 || e != x {
				t.Fatalf("Parse of Text of %q: %v, %d, %d", p, got, n, e)
			}
		} else if !slices.Equal(got, l) || n != 0 || e != api.OK {
			t.Fatalf("Parse of Text of %q: %v, %d, %d", p, got, n, e)
		}
	}
	for _, s := range texts("+- \na", 7) {
		if l, _, e := Parse(s); e == api.OK && Text(l) != s {
			t.Fatalf("Text of Parse of %q: %q", s, Text(l))
		}
	}
}

// TestApart: lists that are told are new, and those that are handed in stay as they are.
func TestApart(t *testing.T) {
	a, _, _ := Parse("+ a\n- b\n")
	b, _, _ := Parse("+ a\n- b\n")
	a[0] = shut("x")
	if b[0] != keep("a") {
		t.Errorf("two lists share memory")
	}
	l := []api.Rule{keep("a"), shut("["), shut("b/")}
	was := slices.Clone(l)
	CheckAll(l)
	Keeps(l, "b", true)
	Shut(l, "b/c", false)
	Text(l)
	if !slices.Equal(l, was) {
		t.Errorf("the list was changed: %v", l)
	}
}

// TestEnds: a path's ends are told the same each time, and no more behind a stop.
func TestEnds(t *testing.T) {
	seq := ends("a/bc/d")
	for range 2 {
		if l := slices.Collect(seq); !slices.Equal(l, []string{"a/bc/d", "bc/d", "d"}) {
			t.Errorf("ends: %q", l)
		}
	}
	for stop := 1; stop <= 3; stop++ {
		n := 0
		seq(func(string) bool { n++; return n < stop })
		if n != stop {
			t.Errorf("stopped at %d, told %d", stop, n)
		}
	}
}
