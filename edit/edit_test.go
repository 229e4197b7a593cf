package edit

import (
	"flitting/api"
	"flitting/paths"
	"flitting/sample"
	"math"
	"math/rand"
	"regexp"
	"slices"
	"strconv"
	"strings"
	"testing"
)

// name is as long as a name may be.
const name = "abcdefghijkl"

// long is a path of n names beneath another one, which has no slash.
func long(p string, n int) string {
	return p + strings.Repeat("/x", n-1)
}

// each is an edit of each kind, in the order of their numbers, and their lines.
func each() ([]api.Edit, []string) {
	return []api.Edit{
		{Kind: api.EdCopy, From: "a", To: ".flit/n1"},
		{Kind: api.EdDelta, From: "a/b", To: ".flit/n2", N: 3},
		{Kind: api.EdFetch, To: ".flit/n3", N: 0},
		{Kind: api.EdLink, To: ".flit/n4", N: 511},
		{Kind: api.EdStow, From: "c", To: ".flit/n5"},
		{Kind: api.EdMove, From: ".flit/n5", To: "d/e"},
		{Kind: api.EdMkdir, To: "f"},
		{Kind: api.EdRemove, From: "g/h"},
		{Kind: api.EdMeta, To: "f", N: 10},
	}, []string{
		"copy a .flit/n1",
		"delta a/b .flit/n2 3",
		"fetch .flit/n3 0",
		"link .flit/n4 511",
		"stow c .flit/n5",
		"move .flit/n5 d/e",
		"mkdir f",
		"remove g/h",
		"meta f 10",
	}
}

// changed is an edit behind a change.
func changed(e api.Edit, by func(e *api.Edit)) api.Edit {
	by(&e)
	return e
}

// TestWord: 28.1, the words of the kinds.
func TestWord(t *testing.T) {
	for kind, want := range map[int]string{1: "copy", 2: "delta", 3: "fetch", 4: "link", 5: "stow", 6: "move", 7: "mkdir", 8: "remove", 9: "meta", 0: "", 10: "", 11: "", -1: "", math.MinInt: "", math.MaxInt: "", 1 << 32: "", 256 + 1: ""} {
		if got := Word(kind); got != want {
			t.Errorf("%d: %q, want %q", kind, got, want)
		}
	}
}

// TestLine: 28.1 and 28.3, each kind's line, and back.
func TestLine(t *testing.T) {
	edits, lines := each()
	if len(edits) != 9 || len(lines) != 9 {
		t.Fatalf("%d, %d", len(edits), len(lines))
	}
	for i, e := range edits {
		if e.Kind != i+1 || !Right(e) {
			t.Errorf("%v isn't right", e)
		}
		if got := Line(e); got != lines[i] {
			t.Errorf("%v: %q, want %q", e, got, lines[i])
		}
		if got, err := Read(lines[i]); got != e || err != api.OK {
			t.Errorf("%q: %v, %d", lines[i], got, err)
		}
	}
	if got := Line(api.Edit{Kind: api.EdMove, From: "a", To: "b"}); got != "move a b" {
		t.Errorf("the document's example: %q", got)
	}
}

// good is edits that are right, at the edges.
func good() []api.Edit {
	return []api.Edit{
		{Kind: api.EdCopy, From: ".flit", To: ".flit/x"},
		{Kind: api.EdCopy, From: ".flit/x", To: ".flit/x"},
		{Kind: api.EdCopy, From: long("a", 16), To: long(".flit", 16)},
		{Kind: api.EdDelta, From: name, To: ".flit/" + name, N: 511},
		{Kind: api.EdDelta, From: "a", To: ".flit/a/b/c"},
		{Kind: api.EdFetch, To: ".flit/.flit", N: 1},
		{Kind: api.EdLink, To: ".flit/-._", N: 99},
		{Kind: api.EdStow, From: ".flit/a", To: ".flit/b"},
		{Kind: api.EdMove, From: "a", To: "a"},
		{Kind: api.EdMove, From: "a", To: "a/b"},
		{Kind: api.EdMove, From: ".flit/a", To: ".flit"},
		{Kind: api.EdMove, From: "0", To: "-"},
		{Kind: api.EdMkdir, To: ".flit"},
		{Kind: api.EdMkdir, To: ".flit/a"},
		{Kind: api.EdMkdir, To: "move"},
		{Kind: api.EdRemove, From: ".flit"},
		{Kind: api.EdRemove, From: "..."},
		{Kind: api.EdMeta, To: ".flit", N: 511},
		{Kind: api.EdMeta, To: long("a", 16)},
	}
}

// TestRight: 28.1 and 28.3, what is right has a line, of which it is read.
func TestRight(t *testing.T) {
	for _, e := range good() {
		line := Line(e)
		if !Right(e) || line == "" {
			t.Errorf("%v isn't right", e)
		}
		if got, err := Read(line); got != e || err != api.OK {
			t.Errorf("%v, %q: %v, %d", e, line, got, err)
		}
	}
	for n := range api.MaxNodes {
		e := api.Edit{Kind: api.EdMeta, To: "a", N: n}
		line := Line(e)
		if got, err := Read(line); line != "meta a "+strconv.Itoa(n) || got != e || err != api.OK {
			t.Errorf("%d: %q, %v, %d", n, line, got, err)
		}
	}
}

// TestWrong: 28.1, what isn't right, and has no line.
func TestWrong(t *testing.T) {
	edits, _ := each()
	wrong := []api.Edit{{}, {From: "a", To: "b"}, {From: "a", To: ".flit/b", N: 1}}
	for _, kind := range []int{0, -1, 10, 255, 257, math.MinInt, math.MaxInt} {
		for _, e := range edits {
			e.Kind = kind
			wrong = append(wrong, e)
		}
	}
	for _, e := range edits {
		// No field may be without what it has to have, nor with anything where a kind hasn't that field.
		for _, p := range []string{"", "/", "a/", "/a", "a//b", ".", "..", "a/..", "a b", " a", "a\n", "ä", "a\x00", name + "m", long("a", 17), long(".flit", 17), ".flit/", ".flit/ ", ".flit/..", ".flit//a", "/.flit/a"} {
			if e.From != "" || p != "" {
				wrong = append(wrong, changed(e, func(e *api.Edit) { e.From = p }))
			}
			if e.To != "" || p != "" {
				wrong = append(wrong, changed(e, func(e *api.Edit) { e.To = p }))
			}
		}
		if e.From == "" {
			wrong = append(wrong, changed(e, func(e *api.Edit) { e.From = "a" }), changed(e, func(e *api.Edit) { e.From = ".flit/a" }))
		}
		if e.To == "" {
			wrong = append(wrong, changed(e, func(e *api.Edit) { e.To = "a" }), changed(e, func(e *api.Edit) { e.To = ".flit/a" }))
		}
		for _, n := range []int{-1, 512, 513, math.MinInt, math.MaxInt, 1 << 32, -1 << 32} {
			wrong = append(wrong, changed(e, func(e *api.Edit) { e.N = n }))
		}
		if !slices.Contains([]int{api.EdDelta, api.EdFetch, api.EdLink, api.EdMeta}, e.Kind) {
			wrong = append(wrong, changed(e, func(e *api.Edit) { e.N = 1 }), changed(e, func(e *api.Edit) { e.N = 511 }))
		}
		if e.Kind <= api.EdStow {
			for _, p := range []string{".flit", "a", "flit/a", ".flit-/a", ".flitt/a", ".fli/t", "a/.flit", "a/.flit/b", ".Flit/a"} {
				wrong = append(wrong, changed(e, func(e *api.Edit) { e.To = p }))
			}
		}
	}
	for _, e := range wrong {
		if Right(e) {
			t.Errorf("%v is right", e)
		}
		if line := Line(e); line != "" {
			t.Errorf("%v: %q", e, line)
		}
		if text := Text([]api.Edit{e}); text != "" {
			t.Errorf("%v: %q", e, text)
		}
	}
}

// notLines is lines of no edit.
func notLines() []string {
	l := []string{
		"", " ", "a", "copy", "Move a b", "MOVE a b", "mov a b", "moves a b", "6 a b", "unknown a b",
		"move", "move ", "move a", "move a ", "move a b ", " move a b", "move  a b", "move a  b", "move a b c", "move a b 0", "move a b 1", "move  b", "move\ta\tb", "move a\tb", "move a b\n", "move a b\r", "move a b\x00", "move a,b", "move a b/", "move /a b", "move a ..", "move . b", "move a " + name + "m", "move " + long("a", 17) + " b",
		"copy a b", "copy a .flit", "copy .flit/n1", "copy a .flit/n1 0", "copy .flit/n1 a", "copy a .flit/n1 ",
		"delta a .flit/n2", "delta a .flit/n2 ", "delta a b 3", "delta .flit/n2 3", "delta 3 a .flit/n2", "delta a 3 .flit/n2",
		"fetch .flit/n3", "fetch a .flit/n3 0", "fetch a 0", "fetch .flit 0", "fetch 0 .flit/n3",
		"link .flit/n4", "link a 0", "link a .flit/n4 0",
		"stow a b", "stow a .flit", "stow a", "stow a .flit/n5 0",
		"mkdir", "mkdir ", "mkdir a b", "mkdir a 0", "mkdir a ", "mkdir /",
		"remove", "remove ", "remove a b", "remove a 0", "remove a ", "remove ..",
		"meta", "meta a", "meta a ", "meta 0", "meta a b", "meta a b 0", "meta a 0 0", "meta a 0 ", "meta  0",
	}
	for _, n := range []string{"", "-0", "+0", "+1", "-1", "00", "01", "0011", "0x1", "0b1", "1e1", "1.0", "1_0", "512", "513", "999", "1000", "5110", "2147483648", "4294967296", "9223372036854775807", "9223372036854775808", "18446744073709551616", strings.Repeat("9", 1000), strings.Repeat("0", 1000), "٣", "x", " 1", "1 ", "1\n", "\n1"} {
		l = append(l, "meta a "+n, "fetch .flit/a "+n, "link .flit/a "+n, "delta b .flit/a "+n)
	}
	return append(l, strings.Repeat(" ", 1<<16), "move "+strings.Repeat("a/", 1<<16)+" b", strings.Repeat("move", 1<<16), "\xff\xfe", "move \xff b")
}

// TestReadWrong: 28.1, lines of no edit, of which nothing is told but the error.
func TestReadWrong(t *testing.T) {
	for _, line := range notLines() {
		if e, err := Read(line); e != (api.Edit{}) || err != api.ErrForm {
			t.Errorf("%.80q: %v, %d", line, e, err)
		}
	}
}

// forms is the kinds' lines, as the document's table has them; how many names a path has, and how great a number is, isn't told.
var forms = func() []*regexp.Regexp {
	const path = `((?:[A-Za-z0-9._-]{1,12}/)*[A-Za-z0-9._-]{1,12})`
	parts := strings.NewReplacer("FROM", "(?P<From>"+path+")", "STAGED", `(?P<To>\.flit/`+path+")", "TO", "(?P<To>"+path+")", "N", `(?P<N>0|[1-9][0-9]*)`)
	l := []*regexp.Regexp{nil}
	for _, form := range []string{"copy FROM STAGED", "delta FROM STAGED N", "fetch STAGED N", "link STAGED N", "stow FROM STAGED", "move FROM TO", "mkdir TO", "remove FROM", "meta TO N"} {
		l = append(l, regexp.MustCompile(`\A`+parts.Replace(form)+`\z`))
	}
	return l
}()

// read reads a line as the document's table has it.
func read(line string) (api.Edit, bool) {
	for kind, form := range forms {
		if kind == 0 || !form.MatchString(line) {
			continue
		}
		e := api.Edit{Kind: kind}
		m := form.FindStringSubmatch(line)
		for i, field := range form.SubexpNames() {
			switch field {
			case "From":
				e.From = m[i]
			case "To":
				e.To = m[i]
			case "N":
				e.N, _ = strconv.Atoi(m[i])
			}
		}
		return e, e.N < 512 && names(e.From) && names(e.To)
	}
	return api.Edit{}, false
}

// names tells whether there are not too many names in a path, and all may be.
func names(p string) bool {
	l := strings.Split(p, "/")
	return len(l) <= 16 && !slices.Contains(l, ".") && !slices.Contains(l, "..")
}

// TestReadDrawn: 28.1 and 28.3, lines that are drawn of words are read as the table has them.
func TestReadDrawn(t *testing.T) {
	words := []string{"copy", "delta", "fetch", "link", "stow", "move", "mkdir", "remove", "meta", "a", "a/b", ".flit", ".flit/n0", ".flit/a/b", "..", ".flit/.", "0", "7", "07", "511", "512", "-1", "", name, name + "m"}
	r := rand.New(rand.NewSource(5))
	yes := map[int]int{}
	for range 60000 {
		l := []string{words[r.Intn(9)]}
		for range r.Intn(5) {
			l = append(l, words[r.Intn(len(words))])
		}
		line := strings.Join(l, " ")
		want, ok := read(line)
		if !ok {
			want = api.Edit{}
		}
		got, err := Read(line)
		if got != want || (err == api.OK) != ok || !ok && err != api.ErrForm {
			t.Fatalf("%q: %v, %d, want %v, %v", line, got, err, want, ok)
		}
		if !ok {
			continue
		}
		yes[got.Kind]++
		if !Right(got) || Line(got) != line {
			t.Fatalf("%q: %v, %q", line, got, Line(got))
		}
	}
	for kind := api.EdCopy; kind <= api.EdMeta; kind++ {
		if yes[kind] < 5 {
			t.Errorf("too few of the kind %d: %d", kind, yes[kind])
		}
	}
}

// drawn is an edit that is right, or not.
func drawn(r *rand.Rand) api.Edit {
	l := []string{"", "a", "a/b", ".flit", ".flit/n0", ".flit/n0/x", "..", "a b"}
	return api.Edit{Kind: r.Intn(12) - 1, From: l[r.Intn(len(l))], To: l[r.Intn(len(l))], N: []int{0, 0, 1, 511, 512, -1}[r.Intn(6)]}
}

// TestRightDrawn: 28.1 and 28.3, what is right is just that of which the table has a line.
func TestRightDrawn(t *testing.T) {
	r := rand.New(rand.NewSource(6))
	right := 0
	for range 40000 {
		e := drawn(r)
		// A line with all that the edit has: it can be read as the edit just if that is right.
		var l []string
		for _, s := range []string{e.From, e.To} {
			if s != "" {
				l = append(l, s)
			}
		}
		if slices.Contains([]int{2, 3, 4, 9}, e.Kind) || e.N != 0 {
			l = append(l, strconv.Itoa(e.N))
		}
		line := strings.Join(append([]string{Word(e.Kind)}, l...), " ")
		got, ok := read(line)
		want := ok && got == e
		if Right(e) != want {
			t.Fatalf("%v: %v", e, !want)
		}
		if !want {
			line = ""
		} else {
			right++
		}
		if Line(e) != line {
			t.Fatalf("%v: %q, not %q", e, Line(e), line)
		}
	}
	if right < 1000 {
		t.Errorf("too few are right: %d", right)
	}
}

// TestPathsAgree: 28.1, a path that an edit has is right just if paths says so.
func TestPathsAgree(t *testing.T) {
	for _, p := range []string{"a", "a/b", "-", "_", "...", ".a", "a.", "A/Z/0/9", name, name + "/" + name, long("a", 15), long("a", 16), long("a", 17), long("a", 1000), name + "m", "", ".", "..", "/", "a/", "a//b", "~", "a*b", "a\\b", "a:b"} {
		want := p != "" && paths.Right(p)
		if Right(api.Edit{Kind: api.EdMkdir, To: p}) != want || Right(api.Edit{Kind: api.EdRemove, From: p}) != want || Right(api.Edit{Kind: api.EdStow, From: p, To: ".flit/x"}) != want {
			t.Errorf("%.80q isn't told as paths tells it", p)
		}
	}
}

// TestText: 28.2 and 28.3, the lines of edits, and back.
func TestText(t *testing.T) {
	edits, lines := each()
	text := strings.Join(lines, "\n") + "\n"
	if got := Text(edits); got != text {
		t.Errorf("%q, want %q", got, text)
	}
	for n := range len(edits) + 1 {
		want := text
		for range len(edits) - n {
			want = want[:strings.LastIndexByte(want[:len(want)-1], '\n')+1]
		}
		if got := Text(edits[:n]); got != want {
			t.Errorf("the first %d: %q", n, got)
		}
		got, at, e := Parse(want)
		if !slices.Equal(got, edits[:n]) || at != 0 || e != api.OK {
			t.Errorf("the first %d: %v, %d, %d", n, got, at, e)
		}
	}
	l := slices.Concat(good(), good())
	if got, at, e := Parse(Text(l)); !slices.Equal(got, l) || at != 0 || e != api.OK {
		t.Errorf("%v, %d, %d", got, at, e)
	}
	many := slices.Repeat(edits, 1000)
	if got, at, e := Parse(Text(many)); !slices.Equal(got, many) || at != 0 || e != api.OK {
		t.Errorf("%d edits: %d, %d, %d", len(many), len(got), at, e)
	}
	if Text(nil) != "" || Text([]api.Edit{}) != "" {
		t.Errorf("of nothing: %q", Text(nil))
	}
}

// TestTextWrong: 28.2, nothing is written where one isn't right.
func TestTextWrong(t *testing.T) {
	edits, _ := each()
	for i := range edits {
		for _, bad := range []api.Edit{{}, {Kind: api.EdMkdir}, {Kind: api.EdMove, From: "a", To: "b", N: 1}} {
			l := slices.Clone(edits)
			l[i] = bad
			if got := Text(l); got != "" {
				t.Errorf("%v at %d: %q", bad, i, got)
			}
		}
	}
}

// TestParseWrong: 28.2, the number of the first line that isn't one's.
func TestParseWrong(t *testing.T) {
	edits, lines := each()
	for _, c := range []struct {
		text string
		at   int
	}{
		{"\n", 1},
		{"\n\n", 1},
		{" ", 1},
		{"x", 1},
		{"x\n", 1},
		{"mkdir a", 1},
		{"mkdir a\n\n", 2},
		{"mkdir a\nmkdir b", 2},
		{"mkdir a\nmkdir b\nx", 3},
		{"mkdir a\nx\nmkdir b", 2},
		{"mkdir a\nx\ny\n", 2},
		{"\nmkdir a\n", 1},
		{"mkdir a\n\nmkdir b\n", 2},
		{"mkdir a\r\n", 1},
		{"mkdir a\rmkdir b\n", 1},
		{"mkdir a\n ", 2},
		{"mkdir a \nmkdir b\n", 1},
		{"mkdir a\nmeta a 01\n", 2},
		{strings.Repeat("mkdir a\n", 1000) + "mkdir a", 1001},
		{strings.Repeat("\n", 1<<16), 1},
		{strings.Repeat("mkdir a", 1<<12), 1},
	} {
		if l, at, e := Parse(c.text); len(l) != 0 || at != c.at || e != api.ErrForm {
			t.Errorf("%.40q: %v, %d, %d, want %d", c.text, l, at, e, c.at)
		}
	}
	text := Text(edits)
	for i := range lines {
		ahead := Text(edits[:i])
		for _, line := range notLines() {
			if strings.Contains(line, "\n") {
				continue
			}
			if l, at, e := Parse(ahead + line + "\n" + text); len(l) != 0 || at != i+1 || e != api.ErrForm {
				t.Errorf("%.40q behind %d lines: %v, %d, %d", line, i, l, at, e)
			}
		}
	}
	// Of the front of a text all is read just if it ends with a line's end.
	for n := range len(text) {
		front := text[:n]
		l, at, e := Parse(front)
		lines := strings.Count(front, "\n")
		if n == 0 || front[n-1] == '\n' {
			if !slices.Equal(l, edits[:lines]) || at != 0 || e != api.OK {
				t.Errorf("%q: %v, %d, %d", front, l, at, e)
			}
		} else if len(l) != 0 || at != lines+1 || e != api.ErrForm {
			t.Errorf("%q: %v, %d, %d", front, l, at, e)
		}
	}
	if l, at, e := Parse(""); len(l) != 0 || at != 0 || e != api.OK {
		t.Errorf("of nothing: %v, %d, %d", l, at, e)
	}
}

// TestCount: 28.2, how many edits are of some kinds.
func TestCount(t *testing.T) {
	var l []api.Edit
	for kind := range 11 {
		for range kind {
			l = append(l, api.Edit{Kind: kind})
		}
	}
	l = append(l, api.Edit{}, api.Edit{Kind: -1}, api.Edit{Kind: math.MaxInt}, api.Edit{Kind: math.MaxInt})
	for _, c := range []struct {
		kinds []int
		want  int
	}{
		{nil, 0},
		{[]int{}, 0},
		{[]int{1}, 1},
		{[]int{6}, 6},
		{[]int{9}, 9},
		{[]int{1, 2, 3}, 6},
		{[]int{9, 1}, 10},
		{[]int{3, 3, 3}, 3},
		{[]int{3, 4, 3, 4}, 7},
		{[]int{0}, 1},
		{[]int{-1}, 1},
		{[]int{math.MaxInt}, 2},
		{[]int{math.MinInt, 11, 12}, 0},
		{[]int{1, 2, 3, 4, 5, 6, 7, 8, 9}, 45},
		{[]int{11, 10}, 10},
	} {
		in := sample.Hidden(c.kinds, 6)
		if got := Count(l, in...); got != c.want || !sample.Untouched(in, c.kinds, 6) {
			t.Errorf("%v: %d, want %d", c.kinds, got, c.want)
		}
	}
	if got := Count(nil, 1, 2); got != 0 {
		t.Errorf("of no edits: %d", got)
	}
	edits, _ := each()
	if Count(edits, api.EdCopy, api.EdMeta) != 2 || Count(edits[:4], api.EdStow) != 0 {
		t.Errorf("of one of each")
	}
}

// TestUntouched: R5, lists are read alone, and within their length.
func TestUntouched(t *testing.T) {
	edits, lines := each()
	no := api.Edit{Kind: api.EdMkdir, To: "zz"}
	in := sample.Hidden(edits, no)
	if got := Text(in); got != strings.Join(lines, "\n")+"\n" {
		t.Errorf("Text: %q", got)
	}
	if got := Count(in, api.EdMkdir); got != 1 {
		t.Errorf("Count: %d", got)
	}
	if !sample.Untouched(in, edits, no) {
		t.Errorf("the list is changed")
	}
	a, _, _ := Parse(Text(in))
	a[0] = no
	if b, _, _ := Parse(Text(in)); !slices.Equal(b, edits) {
		t.Errorf("what was told is kept: %v", b)
	}
}
