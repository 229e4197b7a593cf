package glob

import (
	"flitting/api"
	"strings"
	"testing"
)

// texts is every text of at most n of the bytes of alphabet.
func texts(alphabet string, n int) []string {
	l := []string{""}
	for from := 0; n > 0; n-- {
		to := len(l)
		for _, s := range l[from:to] {
			for i := range len(alphabet) {
				l = append(l, s+alphabet[i:i+1])
			}
		}
		from = to
	}
	return l
}

// TestErrors: 2.1, what is no pattern, and what is told of it.
func TestErrors(t *testing.T) {
	for _, x := range []struct {
		s string
		e api.Errno
	}{
		{"[", api.ErrForm}, {"[]", api.ErrForm}, {"[!", api.ErrForm}, {"[!]", api.ErrForm}, {"[a", api.ErrForm}, {"[a-", api.ErrForm}, {"[a-b", api.ErrForm},
		{"[c-a]", api.ErrForm}, {"[/]", api.ErrForm}, {"[a/]", api.ErrForm}, {"[[]", api.ErrForm}, {"[a[]", api.ErrForm}, {"[\\]", api.ErrForm}, {"[\\]]", api.ErrForm},
		{"[a-/]", api.ErrForm}, {"[+-/]", api.ErrForm}, {"[a-[]", api.ErrForm}, {"[A-[]", api.ErrForm}, {"[A-\\]", api.ErrForm}, {"[/-a]", api.ErrForm}, {"[[-a]", api.ErrForm}, {"[\\-a]", api.ErrForm},
		{"[]a]", api.ErrForm}, {"[!]a]", api.ErrForm}, {"[a--]", api.ErrForm}, {"[a-c-b-a]", api.ErrForm},
		{"\\", api.ErrForm}, {"a\\", api.ErrForm}, {"\\\\\\", api.ErrForm}, {"ab[c", api.ErrForm}, {"[a]][", api.ErrForm},
		{strings.Repeat("a", 65), api.ErrLong}, {strings.Repeat("[", 65), api.ErrLong}, {strings.Repeat("*", 1<<16), api.ErrLong},
		{strings.Repeat("[", 64), api.ErrForm}, {strings.Repeat("a", 63) + "\\", api.ErrForm},
	} {
		p, e := Parse(x.s)
		if e != x.e || p != (Pattern{}) || p.Len() != 0 {
			t.Errorf("Parse(%q): %d, %d parts", x.s, e, p.Len())
		}
		for _, s := range []string{"", x.s, "a", "/"} {
			if Match(x.s, s) {
				t.Errorf("Match(%q, %q) is true", x.s, s)
			}
		}
	}
}

// TestLen: 2.1, the parts of a pattern.
func TestLen(t *testing.T) {
	for _, x := range []struct {
		s string
		n int
	}{
		{"", 0}, {"a", 1}, {"abc", 3}, {"*", 1}, {"**", 1}, {"***", 2}, {"****", 2}, {"*?*", 3}, {"**/*", 3}, {"[a]", 1}, {"[!a-c]x", 2}, {"[a-b-c]", 1}, {"\\*", 1}, {"\\[a]", 3}, {"a**[b-d]?", 4},
		{"]", 1}, {"!", 1}, {"-", 1}, {"a]b", 3}, {"\\\\", 1}, {"**\\***", 3}, {"ä", 2}, {"[ä]", 1}, {"\n\x00\xff", 3},
		{strings.Repeat("a", 64), 64}, {strings.Repeat("*", 64), 32}, {"[" + strings.Repeat("a", 62) + "]", 1},
	} {
		if p, e := Parse(x.s); p.Len() != x.n || e != api.OK {
			t.Errorf("Parse(%q): %d parts, %d", x.s, p.Len(), e)
		}
	}
	if (Pattern{}).Len() != 0 {
		t.Errorf("a pattern that Parse didn't tell has parts")
	}
}

// TestSame: of one text the same pattern is read, and other ones of others.
func TestSame(t *testing.T) {
	p, _ := Parse("a*[b-c]")
	q, _ := Parse("a*[b-c]")
	r, _ := Parse("a**[b-c]")
	if p != q || p == r {
		t.Errorf("patterns against each other")
	}
}

// TestMatch: 2.2.
func TestMatch(t *testing.T) {
	for _, x := range []struct {
		p        string
		yes, not []string
	}{
		{"", []string{""}, []string{"a", "/"}},
		{"a*c", []string{"abc", "ac", "abcc", "acac", "a\n\xffc"}, []string{"a/c", "ab", "bc", "", "abcd", "a/bc", "xac"}},
		{"a**c", []string{"a/b/c", "ac", "a//c", "abc"}, []string{"a/b", "b/c", ""}},
		{"*", []string{"", "abc"}, []string{"/", "a/b"}},
		{"**", []string{"", "abc", "/", "a/b"}, nil},
		{"***", []string{"", "a/b", "a/"}, nil},
		{"**/*", []string{"/", "a/", "/a", "a/b/c"}, []string{"", "a"}},
		{"*/**", []string{"/", "a/", "/a", "a/b/c"}, []string{"", "a"}},
		{"?", []string{"a", "?", "\n", "\xff", "\x00"}, []string{"", "/", "ab"}},
		{"??", []string{"ab", "ä"}, []string{"a", "a/", "/a", "abc"}},
		{"a", []string{"a"}, []string{"", "b", "aa", "A"}},
		{"a/b", []string{"a/b"}, []string{"ab", "a-b"}},
		{"\\*", []string{"*"}, []string{"a", "", "\\*", "\\"}},
		{"\\**", []string{"*", "*a"}, []string{"a", "", "*/"}},
		{"\\/\\a\\\\", []string{"/a\\"}, []string{"/a", "a\\"}},
		{"\\[a]", []string{"[a]"}, []string{"a"}},
		{"]-!", []string{"]-!"}, []string{"", "!"}},
	} {
		matches(t, x.p, x.yes, x.not)
	}
}

// TestClass: 2.2, what stands for one byte out of several.
func TestClass(t *testing.T) {
	for _, x := range []struct {
		p        string
		yes, not []string
	}{
		{"[a]", []string{"a"}, []string{"", "b", "aa", "[a]", "/"}},
		{"[abc]", []string{"a", "b", "c"}, []string{"d", "`", "ab"}},
		{"[a-c]", []string{"a", "b", "c"}, []string{"d", "`", "-"}},
		{"[a-a]", []string{"a"}, []string{"b", "`", "-"}},
		{"[!a-c]", []string{"d", "`", "!", "-", "\x00", "\xff", "]", "[", "\\"}, []string{"a", "b", "c", "/", "", "dd"}},
		{"[!!]", []string{"a"}, []string{"!", "/"}},
		{"[a!]", []string{"a", "!"}, []string{"b"}},
		{"[!-a]", []string{"b", "!", "5"}, []string{"-", "a", "/"}},
		{"[a-]", []string{"-", "a"}, []string{"b", "]"}},
		{"[-a]", []string{"-", "a"}, []string{"b", "5"}},
		{"[-]", []string{"-"}, []string{"a"}},
		{"[--]", []string{"-"}, []string{",", ".", "]"}},
		{"[---]", []string{"-"}, []string{",", "."}},
		{"[--a]", []string{"-", ".", "0", "A", "[", "]", "a"}, []string{",", "/", "b"}},
		{"[+--]", []string{"+", ",", "-"}, []string{"*", "."}},
		{"[a-b-c]", []string{"a", "b", "-", "c"}, []string{"d", "`"}},
		{"[a-c-e]", []string{"a", "b", "c", "-", "e"}, []string{"d"}},
		{"[a-b--0]", []string{"a", "b", "-", ".", "0"}, []string{"/", "c", ",", "1"}},
		{"[.-0]", []string{".", "0"}, []string{"/", "1", "-"}},
		{"[!.-0]", []string{"1", "-"}, []string{"/", ".", "0"}},
		{"[*?]", []string{"*", "?"}, []string{"a", ""}},
		{"[a]]", []string{"a]"}, []string{"a", "]"}},
		{"[\x80-\xff]", []string{"\x80", "\xff", "\xc3"}, []string{"\x7f", "a", "ä"}},
		{"[\x00-\x01]", []string{"\x00", "\x01"}, []string{"\x02", "\xff"}},
		{"[A-a]", []string{"A", "[", "\\", "]", "a"}, []string{"@", "b"}},
		{"[ä]", []string{"\xc3", "\xa4"}, []string{"ä"}},
		{"x[a-c]*[!z]", []string{"xab", "xa--y"}, []string{"xa", "xdb", "xaz", "xa/b"}},
	} {
		matches(t, x.p, x.yes, x.not)
	}
}

// matches looks whether a pattern's texts are those of yes, and none of not.
func matches(t *testing.T, pattern string, yes, not []string) {
	p, e := Parse(pattern)
	if e != api.OK {
		t.Errorf("Parse(%q): %d", pattern, e)
	}
	for i, s := range append(append([]string{}, yes...), not...) {
		is := i < len(yes)
		if p.Match(s) != is || Match(pattern, s) != is {
			t.Errorf("Match(%q, %q) is not %v", pattern, s, is)
		}
	}
}

// tries is Match by trying each way, of patterns of "a", "/", "*" and "?" alone.
func tries(p, s string) bool {
	one := s != "" && s[0] != '/'
	switch {
	case p == "":
		return s == ""
	case strings.HasPrefix(p, "**"):
		return tries(p[2:], s) || s != "" && tries(p, s[1:])
	case p[0] == '*':
		return tries(p[1:], s) || one && tries(p, s[1:])
	case p[0] == '?':
		return one && tries(p[1:], s[1:])
	}
	return s != "" && s[0] == p[0] && tries(p[1:], s[1:])
}

// TestWays: 2.2, of all short patterns and texts.
func TestWays(t *testing.T) {
	l := texts("ab/", 5)
	for _, p := range texts("a/*?", 5) {
		x, e := Parse(p)
		if e != api.OK {
			t.Fatalf("Parse(%q): %d", p, e)
		}
		for _, s := range l {
			if x.Match(s) != tries(p, s) {
				t.Fatalf("Match(%q, %q) is %v", p, s, x.Match(s))
			}
		}
	}
}

// TestNone: 2.2, a pattern that Parse didn't tell.
func TestNone(t *testing.T) {
	if p := (Pattern{}); !p.Match("") || p.Match("a") || p.Match("/") {
		t.Errorf("a pattern without parts")
	}
}

// TestEnds: a pattern of many stars against a long text is done soon.
func TestEnds(t *testing.T) {
	s := strings.Repeat("a", 1<<16)
	for _, p := range []string{strings.Repeat("*a", 31) + "*b", strings.Repeat("**a", 20) + "**b", strings.Repeat("*?", 32), strings.Repeat("?", 64)} {
		if Match(p, s) != (p[len(p)-1] == '?' && p[0] == '*') {
			t.Errorf("Match(%q, 2^16 times a)", p)
		}
	}
}

// TestPlain: 2.3.
func TestPlain(t *testing.T) {
	l := texts("a]-!/", 4)
	for _, p := range l {
		x, e := Parse(p)
		if e != api.OK || x.Len() != len(p) {
			t.Fatalf("Parse(%q): %d, %d parts", p, e, x.Len())
		}
		for _, s := range l {
			if x.Match(s) != (p == s) {
				t.Fatalf("Match(%q, %q) is %v", p, s, p != s)
			}
		}
	}
	for b := range 256 {
		s := string([]byte{byte(b)})
		if strings.Contains("*?[\\", s) {
			continue
		}
		for c := range 256 {
			if Match(s, string([]byte{byte(c)})) != (b == c) {
				t.Errorf("Match(%q, byte %d)", s, c)
			}
		}
	}
}
