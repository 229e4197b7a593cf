package match

import (
	"flitting/api"
	"flitting/index"
	"flitting/paths"
	"flitting/sample"
	"flitting/stock"
	"flitting/tree"
	"math"
	"math/rand"
	"slices"
	"strconv"
	"strings"
	"testing"
)

// kinds is the ways' kinds in words, in the order of their numbers.
var kinds = [...]string{"out", "here", "moved", "inside", "copied", "lacks", "made", "linked"}

// made makes a stock of words.
func made(t *testing.T, want, have, rules string, del bool) *stock.Stock {
	t.Helper()
	s, e := stock.New(index.Of(tree.Of(sample.Nodes(want))), tree.Of(sample.Nodes(have)), api.Options{Rules: sample.Rules(rules), Del: del})
	if e != api.OK {
		t.Fatalf("New of %s and %s: %d", want, have, e)
	}
	if len(s.Want) != len(sample.Nodes(want)) || len(s.Have) != len(sample.Nodes(have)) {
		t.Fatalf("%s, %s: no trees", want, have)
	}
	return s
}

// told is ways in words: each entry's path, its kind, and from where it is, if that is told.
func told(s *stock.Stock, ways []Way) string {
	if len(ways) != len(s.Want) {
		return "not as many ways as entries"
	}
	var l []string
	for i, w := range ways {
		text := s.Want[i].Path + ":" + kinds[w.Kind]
		if slices.Contains([]int{Here, Moved, Inside, Copied}, w.Kind) {
			text += "<" + s.Have[w.From].Path
		} else if w.From != 0 {
			text += "<" + strconv.Itoa(w.From)
		}
		l = append(l, text)
	}
	return strings.Join(l, " ")
}

// pairs makes pairs of words: the path of what is wanted, and behind = that of what there is.
func pairs(t *testing.T, s *stock.Stock, text string) []Pair {
	t.Helper()
	var l []Pair
	for word := range strings.FieldsSeq(text) {
		w, h, _ := strings.Cut(word, "=")
		i, ok := index.Find(s.Want, w)
		k, there := index.Find(s.Have, h)
		if !ok || !there {
			t.Fatalf("no pair: %s", word)
		}
		l = append(l, Pair{i, k})
	}
	return l
}

// going is the paths of what goes.
func going(s *stock.Stock, goes []bool) string {
	if len(goes) != len(s.Have) {
		return "not as many parts as entries"
	}
	var l []string
	for k, e := range s.Have {
		if goes[k] {
			l = append(l, e.Path)
		}
	}
	return strings.Join(l, " ")
}

// example is a stock, with its ways and what goes.
type example struct {
	what, want, have, rules string
	keep                    bool // nothing is deleted
	unlike                  string
	ways, goes              string
}

// check holds the ways of some examples against what is wanted.
func check(t *testing.T, l []example) {
	t.Helper()
	for _, c := range l {
		s := made(t, c.want, c.have, c.rules, !c.keep)
		ways := Ways(s, pairs(t, s, c.unlike))
		if got := told(s, ways); got != c.ways {
			t.Errorf("%s: %s, want %s", c.what, got, c.ways)
		}
		if got := going(s, Goes(s, ways)); got != c.goes {
			t.Errorf("%s: %s goes, want %s", c.what, got, c.goes)
		}
	}
}

// TestNumbers: 26.1, the kinds have their numbers.
func TestNumbers(t *testing.T) {
	if got := [...]int{Out, Here, Moved, Inside, Copied, Lacks, Made, Linked}; got != [...]int{0, 1, 2, 3, 4, 5, 6, 7} {
		t.Errorf("%v", got)
	}
}

// TestHere: 26.1, what is out, what is here, and what is neither.
func TestHere(t *testing.T) {
	check(t, []example{
		{what: "nothing"},
		{what: "all is here", want: "a/ a/b=1 l>x", have: "a/ a/b=1 l>x", ways: "a:here<a a/b:here<a/b l:here<l"},
		{what: "nothing is there", want: "a/ a/b=1 c l>x", ways: "a:made a/b:lacks c:lacks l:linked"},
		{what: "nothing is wanted", have: "a/ a/b=1 c", goes: "a a/b c"},
		{what: "nothing is wanted, all stays", have: "a/ a/b=1 c", keep: true},
		{what: "other bytes", want: "a=1 b=2", have: "a=2 b=3", ways: "a:lacks b:moved<a", goes: "a b"},
		{what: "another target", want: "a>1", have: "a>2", ways: "a:linked", goes: "a"},
		{what: "a link that is elsewhere", want: "a>1 b>1", have: "b>1 c>1", ways: "a:linked b:here<b", goes: "c"},
		{what: "a directory that holds other things", want: "a/ a/x", have: "a/ a/y=1", ways: "a:here<a a/x:lacks", goes: "a/y"},
		{what: "other kinds", want: "a/ b c>1", have: "a=1 b>1 c/", ways: "a:made b:lacks c:linked", goes: "a b c"},
		{what: "a file as its own place's directory", want: "a/ a/x=1", have: "a=1", ways: "a:made a/x:moved<a", goes: "a"},
		{what: "a file out of the directory in its place", want: "a=1", have: "a/ a/x=1", ways: "a:moved<a/x", goes: "a a/x"},
		{what: "blocked by what stays", want: "a b=1", have: "a/ a/x=1", keep: true, ways: "a:out b:copied<a/x"},
		{what: "shut out where it is the same", want: "a=1 k=1", have: "k=1", rules: "-k", ways: "a:copied<k k:out"},
		{what: "blocked by what is shut out", want: "a/ a/b=1 a/c=1 b=1", have: "a>b b=1", rules: "+a/ -a", ways: "a:out a/b:out a/c:out b:here<b"},
		{what: "reserved", want: ".flit/ .flit/x=1 a=1", have: ".flit/ .flit/x=1", ways: ".flit:out .flit/x:out a:moved<.flit/x", goes: ".flit/x"},
		{what: "an unlike file in its place", want: "a=1", have: "a=1", unlike: "a=a", ways: "a:lacks", goes: "a"},
		{what: "an unlike file in its place, and one elsewhere", want: "a=1", have: "a=1 b=1", unlike: "a=a", ways: "a:moved<b", goes: "a b"},
		{what: "unlike ones told of directories and links", want: "a/ l>1", have: "a/ l>1", unlike: "a=a l=l", ways: "a:here<a l:here<l"},
		{what: "another one's pair", want: "a=1 b=1", have: "a=1 b=1", unlike: "a=b b=a", ways: "a:here<a b:here<b"},
	})
}

// TestGoes: 26.1, what goes, and what doesn't.
func TestGoes(t *testing.T) {
	check(t, []example{
		{what: "the reserved directory doesn't go", have: ".flit/ .flit/d/ .flit/d/x .flit/y", goes: ".flit/d .flit/d/x .flit/y"},
		{what: "nor does a file in its place", want: "a=1", have: ".flit=1", ways: "a:lacks"},
		{what: "nor does a link in its place", have: ".flit>1"},
		{what: "others named like that go", have: ".flit-/ a/ a/.flit=1", goes: ".flit- a a/.flit"},
		{what: "what holds what stays", have: "a/ a/b/ a/b/k a/c/ a/c/x d/ d/x", rules: "-k", goes: "a/c a/c/x d d/x"},
		{what: "what holds what is here", want: "a/ a/b/ a/b/x=1", have: "a/ a/b/ a/b/x=1 a/c", ways: "a:here<a a/b:here<a/b a/b/x:here<a/b/x", goes: "a/c"},
		{what: "what isn't here any more", want: "a/ a/x=2", have: "a/ a/x=1", ways: "a:here<a a/x:lacks", goes: "a/x"},
		{what: "what is reserved goes without deletion", have: ".flit/ .flit/x a", keep: true, goes: ".flit/x"},
		{what: "what is moved goes", want: "b=1 d/ d/x=1", have: "a=1 c/ c/x=1", ways: "b:moved<a d:moved<c d/x:inside<c/x", goes: "a c c/x"},
		{what: "what is copied goes if it isn't here", want: "a=1 b=1 c=1", have: "b=1 d=1", ways: "a:moved<d b:here<b c:copied<b", goes: "d"},
	})
}

// TestDirectories: 26.1, which directories are moved, and from where.
func TestDirectories(t *testing.T) {
	check(t, []example{
		{what: "a directory of another name", want: "b/ b/x=1", have: "a/ a/x=1", ways: "b:moved<a b/x:inside<a/x", goes: "a a/x"},
		{what: "all kinds beneath", want: "z/ z/d/ z/d/e/ z/d/x=1 z/l>1 z/m", have: "a/ a/d/ a/d/e/ a/d/x=1 a/l>1 a/m", ways: "z:moved<a z/d:inside<a/d z/d/e:inside<a/d/e z/d/x:inside<a/d/x z/l:inside<a/l z/m:inside<a/m", goes: "a a/d a/d/e a/d/x a/l a/m"},
		{what: "one without files", want: "b/ b/c/ b/l>1", have: "a/ a/c/ a/l>1", ways: "b:made b/c:made b/l:linked", goes: "a a/c a/l"},
		{what: "an empty one", want: "b/", have: "a/", ways: "b:made", goes: "a"},
		{what: "a file deep below", want: "b/ b/c/ b/c/d/ b/c/d/x", have: "a/ a/c/ a/c/d/ a/c/d/x", ways: "b:moved<a b/c:inside<a/c b/c/d:inside<a/c/d b/c/d/x:inside<a/c/d/x", goes: "a a/c a/c/d a/c/d/x"},
		{what: "the first of several", want: "d/ d/x=1", have: "a/ a/x=1 b/ b/x=1 c/ c/x=1", ways: "d:moved<a d/x:inside<a/x", goes: "a a/x b b/x c c/x"},
		{what: "each from another one", want: "d/ d/x=1 e/ e/x=1", have: "a/ a/x=1 b/ b/x=1", ways: "d:moved<a d/x:inside<a/x e:moved<b e/x:inside<b/x", goes: "a a/x b b/x"},
		{what: "two out of one", want: "d/ d/x=1 e/ e/x=1", have: "a/ a/x=1", ways: "d:moved<a d/x:inside<a/x e:made e/x:copied<a/x", goes: "a a/x"},
		{what: "not the first one, which is here", want: "a/ a/x=1 d/ d/x=1", have: "a/ a/x=1 b/ b/x=1", ways: "a:here<a a/x:here<a/x d:moved<b d/x:inside<b/x", goes: "b b/x"},
		{what: "not one that is here, though all in it goes", want: "a/ d/ d/x=1", have: "a/ a/x=1", ways: "a:here<a d:made d/x:moved<a/x", goes: "a/x"},
		{what: "not one in which something stays", want: "d/ d/k=1", have: "a/ a/k=1", rules: "-/a/k", ways: "d:made d/k:copied<a/k"},
		{what: "not without deletion", want: "d/ d/x=1", have: "a/ a/x=1", keep: true, ways: "d:made d/x:copied<a/x"},
		{what: "out of the reserved one, also without deletion", want: "d/ d/x=1", have: ".flit/ .flit/s/ .flit/s/x=1", keep: true, ways: "d:moved<.flit/s d/x:inside<.flit/s/x", goes: ".flit/s .flit/s/x"},
		{what: "not the reserved one itself", want: "d/ d/x=1", have: ".flit/ .flit/x=1", ways: "d:made d/x:moved<.flit/x", goes: ".flit/x"},
		{what: "a file more", want: "d/ d/x=1", have: "a/ a/x=1 a/y", ways: "d:made d/x:moved<a/x", goes: "a a/x a/y"},
		{what: "a file less", want: "d/ d/x=1 d/y", have: "a/ a/x=1", ways: "d:made d/x:moved<a/x d/y:lacks", goes: "a a/x"},
		{what: "another name", want: "d/ d/y=1", have: "a/ a/x=1", ways: "d:made d/y:moved<a/x", goes: "a a/x"},
		{what: "other bytes beneath", want: "d/ d/x=1 d/y=2", have: "a/ a/x=1 a/y=3", ways: "d:made d/x:moved<a/x d/y:lacks", goes: "a a/x a/y"},
		{what: "another target beneath", want: "d/ d/l>1 d/x=1", have: "a/ a/l>2 a/x=1", ways: "d:made d/l:linked d/x:moved<a/x", goes: "a a/l a/x"},
		{what: "the outer one first", want: "d/ d/e/ d/e/x=1 f/ f/x=1", have: "a/ a/b/ a/b/x=1 c/ c/e/ c/e/x=1", ways: "d:moved<c d/e:inside<c/e d/e/x:inside<c/e/x f:moved<a/b f/x:inside<a/b/x", goes: "a a/b a/b/x c c/e c/e/x"},
		{what: "an inner one, where the outer one isn't the same", want: "d/ d/e/ d/e/x=1 d/new", have: "c/ c/e/ c/e/x=1", ways: "d:made d/e:moved<c/e d/e/x:inside<c/e/x d/new:lacks", goes: "c c/e c/e/x"},
		{what: "not an outer one, of which an inner one is taken", want: "b/ b/x=1 d/ d/e/ d/e/x=1", have: "a/ a/e/ a/e/x=1", ways: "b:moved<a/e b/x:inside<a/e/x d:made d/e:made d/e/x:copied<a/e/x", goes: "a a/e a/e/x"},
		{what: "not an inner one, of which an outer one is taken", want: "d/ d/e/ d/e/x=1 f/ f/x=1", have: "c/ c/e/ c/e/x=1", ways: "d:moved<c d/e:inside<c/e d/e/x:inside<c/e/x f:made f/x:copied<c/e/x", goes: "c c/e c/e/x"},
		{what: "beneath one that is here", want: "a/ a/d/ a/d/x=1", have: "a/ a/c/ a/c/x=1", ways: "a:here<a a/d:moved<a/c a/d/x:inside<a/c/x", goes: "a/c a/c/x"},
		{what: "in place of a file", want: "d/ d/x=1", have: "a/ a/x=1 d=2", ways: "d:moved<a d/x:inside<a/x", goes: "a a/x d"},
		{what: "two that change places", want: "a/ a/x=1 b/ b/x=2", have: "a/ a/x=2 b/ b/x=1", ways: "a:here<a a/x:moved<b/x b:here<b b/x:moved<a/x", goes: "a/x b/x"},
		{what: "ahead of files", want: "a=1 d/ d/x=1", have: "c/ c/x=1", ways: "a:copied<c/x d:moved<c d/x:inside<c/x", goes: "c c/x"},
		{what: "an unlike file beneath", want: "d/ d/x=1 d/y=2", have: "a/ a/x=1 a/y=2", unlike: "d/y=a/y", ways: "d:made d/x:moved<a/x d/y:lacks", goes: "a a/x a/y"},
		{what: "an unlike file beneath, and another directory", want: "d/ d/x=1", have: "a/ a/x=1 b/ b/x=1", unlike: "d/x=a/x", ways: "d:moved<b d/x:inside<b/x", goes: "a a/x b b/x"},
		{what: "unlike ones told of directories and links beneath", want: "d/ d/e/ d/l>1 d/x=1", have: "a/ a/e/ a/l>1 a/x=1", unlike: "d=a d/e=a/e d/l=a/l", ways: "d:moved<a d/e:inside<a/e d/l:inside<a/l d/x:inside<a/x", goes: "a a/e a/l a/x"},
		{what: "what isn't wanted beneath stays out", want: "d/ d/k=1 d/x=1", have: "a/ a/k=1 a/x=1", rules: "-/d/k", ways: "d:moved<a d/k:out d/x:inside<a/x", goes: "a a/k a/x"},
		{what: "what isn't wanted beneath, and isn't there", want: "d/ d/k=1 d/x=1", have: "a/ a/x=1", rules: "-k", ways: "d:made d/k:out d/x:moved<a/x", goes: "a a/x"},
		{what: "one that isn't wanted", want: "d/ d/x=1", have: "a/ a/x=1 d>1", rules: "+d/ -d", ways: "d:out d/x:out", goes: "a a/x"},
		{what: "names that one begins with another", want: "d/ d/a/ d/a/x d/a-", have: "c/ c/a/ c/a/x c/a-", ways: "d:moved<c d/a:inside<c/a d/a/x:inside<c/a/x d/a-:inside<c/a-", goes: "c c/a c/a/x c/a-"},
	})
}

// TestFiles: 26.1, which files are moved by themselves, copied, or lack.
func TestFiles(t *testing.T) {
	check(t, []example{
		{what: "a file of another name", want: "b=1", have: "a=1", ways: "b:moved<a", goes: "a"},
		{what: "the first of several", want: "d=1", have: "a=1 b=1 c=1", ways: "d:moved<a", goes: "a b c"},
		{what: "in order", want: "c=1 d=1 e=1", have: "a=1 b=1", ways: "c:moved<a d:moved<b e:copied<a", goes: "a b"},
		{what: "not one that is here", want: "a=1 c=1", have: "a=1 b=1", ways: "a:here<a c:moved<b", goes: "b"},
		{what: "a copy of one that is here", want: "a=1 c=1", have: "a=1", ways: "a:here<a c:copied<a"},
		{what: "a copy of one that stays", want: "c=1", have: "a=1", keep: true, ways: "c:copied<a"},
		{what: "a copy of one that is shut out", want: "c=1", have: "a=1", rules: "-a", ways: "c:copied<a"},
		{what: "moved rather than copied from one ahead", want: "a=1 d=1", have: "a=1 b=1", ways: "a:here<a d:moved<b", goes: "b"},
		{what: "out of the reserved directory", want: "d=1", have: ".flit/ .flit/n0=1", keep: true, ways: "d:moved<.flit/n0", goes: ".flit/n0"},
		{what: "two that change places", want: "a=1 b=2", have: "a=2 b=1", ways: "a:moved<b b:moved<a", goes: "a b"},
		{what: "out of a directory", want: "x=1", have: "a/ a/b/ a/b/x=1", ways: "x:moved<a/b/x", goes: "a a/b a/b/x"},
		{what: "beneath what was taken", want: "b=1 d/ d/x=1", have: "a/ a/x=1", ways: "b:copied<a/x d:moved<a d/x:inside<a/x", goes: "a a/x"},
		{what: "an empty one", want: "b", have: "a", ways: "b:moved<a", goes: "a"},
		{what: "no link with the bytes as its target", want: "b=1", have: "a>1", ways: "b:lacks", goes: "a"},
		{what: "an unlike one, and another", want: "d=1", have: "a=1 b=1", unlike: "d=a", ways: "d:moved<b", goes: "a b"},
		{what: "all unlike", want: "d=1", have: "a=1 b=1", unlike: "d=a d=b", ways: "d:lacks", goes: "a b"},
		{what: "an unlike one that isn't told twice", want: "c=1 d=1", have: "a=1 b=1", unlike: "c=a", ways: "c:moved<b d:moved<a", goes: "a b"},
		{what: "a copy of the first that it may be", want: "a=1 b=1 c=1", have: "a=1 b=1", unlike: "c=a", ways: "a:here<a b:here<b c:copied<b"},
		{what: "the same pair told twice", want: "d=1", have: "a=1 b=1", unlike: "d=a d=a", ways: "d:moved<b", goes: "a b"},
	})
}

// TestSums: 26.1, what a directory's sum alone says, and what it doesn't.
func TestSums(t *testing.T) {
	s := made(t, "d/ d/x=1", "a/ a/x=1 b/ b/x=1", "", true)
	s.Want[0].Sum.Lo++
	if got := told(s, Ways(s, nil)); got != "d:made d/x:moved<a/x" {
		t.Errorf("another sum: %s", got)
	}
	for _, c := range [][3]string{
		{"d/ d/x=1 d/y=2", "a/ a/x=1", "d:made d/x:moved<a/x d/y:lacks"},
		{"d/ d/x=1", "a/ a/x=1 a/y=2", "d:made d/x:moved<a/x"},
		{"d/ d/y=1", "a/ a/x=1", "d:made d/y:moved<a/x"},
		{"d/ d/x=2", "a/ a/x=1", "d:made d/x:lacks"},
		{"d/ d/l>1 d/x=1", "a/ a/l>2 a/x=1", "d:made d/l:linked d/x:moved<a/x"},
		{"d/ d/l>1 d/x=1", "a/ a/l/ a/x=1", "d:made d/l:linked d/x:moved<a/x"},
		{"d/ d/e/ d/x=1", "a/ a/e a/x=1", "d:made d/e:made d/x:moved<a/x"},
		{"d/ d/e/ d/e/x=1 d/y=1", "a/ a/e/ a/x=1 a/y=1", "d:made d/e:made d/e/x:moved<a/x d/y:moved<a/y"},
		{"d/ d/x=1", "a/ a/x=1", "d:moved<a d/x:inside<a/x"},
	} {
		s := made(t, c[0], c[1], "", true)
		s.Want[0].Sum = s.Have[0].Sum
		if got := told(s, Ways(s, nil)); got != c[2] {
			t.Errorf("the same sum of %s and %s: %s, want %s", c[0], c[1], got, c[2])
		}
	}
	// The first directory with the sum isn't the same, the next one is.
	s = made(t, "d/ d/x=1", "a/ a/y=1 b/ b/x=1", "", true)
	s.Have[0].Sum = s.Want[0].Sum
	if got := told(s, Ways(s, nil)); got != "d:moved<b d/x:inside<b/x" {
		t.Errorf("the first one isn't the same: %s", got)
	}
}

// TestPairs: 26.1, which files are held to be which.
func TestPairs(t *testing.T) {
	s := made(t, "a=1 b=1 c=4 d/ d/l>1 d/x=2 e/ f/ f/k=1 g>1 h=3", "a=1 d-/ d-/l>1 d-/x=2 e/ g>1 i=3", "-k", true)
	ways := Ways(s, nil)
	if got := told(s, ways); got != "a:here<a b:copied<a c:lacks d:moved<d- d/l:inside<d-/l d/x:inside<d-/x e:here<e f:made f/k:out g:here<g h:moved<i" {
		t.Fatalf("%s", got)
	}
	if got, want := Pairs(s, ways), pairs(t, s, "a=a b=a d/x=d-/x h=i"); !slices.Equal(got, want) {
		t.Errorf("%v, want %v", got, want)
	}
	if got := Pairs(s, nil); len(got) != 0 {
		t.Errorf("without ways: %v", got)
	}
	s = made(t, "a b>1 c/", "", "", true)
	if got := Pairs(s, Ways(s, nil)); len(got) != 0 {
		t.Errorf("without anything there: %v", got)
	}
}

// TestMemory: R5, what is handed in isn't changed, and what is told is new.
func TestMemory(t *testing.T) {
	s := made(t, "b=1 d/ d/x=2 e", "a=1 c/ c/x=2 e", "", true)
	unlike, noPair := []Pair{{0, 3}}, Pair{0, 0}
	in := sample.Hidden(unlike, noPair)
	want, have := slices.Clone(s.Want), slices.Clone(s.Have)
	wanted, stays, loose := slices.Clone(s.Wanted), slices.Clone(s.Stays), slices.Clone(s.Loose)
	ways := Ways(s, in)
	inWays := sample.Hidden(ways, Way{Here, 0})
	goes, l := Goes(s, inWays), Pairs(s, inWays)
	if told(s, ways) != "b:moved<a d:moved<c d/x:inside<c/x e:here<e" || going(s, goes) != "a c c/x" || len(l) != 3 {
		t.Errorf("%v, %v, %v", ways, goes, l)
	}
	if !sample.Untouched(in, unlike, noPair) || !sample.Untouched(inWays, ways, Way{Here, 0}) {
		t.Errorf("a list that was handed in is changed")
	}
	for i := range goes {
		goes[i] = !goes[i]
	}
	clear(l)
	clear(inWays)
	if !slices.Equal(s.Want, want) || !slices.Equal(s.Have, have) || !slices.Equal(s.Wanted, wanted) || !slices.Equal(s.Stays, stays) || !slices.Equal(s.Loose, loose) {
		t.Errorf("the stock is changed")
	}
	if got := Ways(s, unlike); !slices.Equal(got, ways) {
		t.Errorf("asked again: %v", got)
	}
}

// TestOdd: 26.1 and R1, nothing of nil, and no panic at whatever.
func TestOdd(t *testing.T) {
	if len(Ways(nil, []Pair{{0, 0}})) != 0 || len(Goes(nil, []Way{{Here, 0}})) != 0 || len(Pairs(nil, []Way{{Here, 0}})) != 0 {
		t.Errorf("nil tells something")
	}
	numbers := []int{math.MinInt, -1, 0, 1, 2, 3, math.MaxInt}
	var unlike []Pair
	var ways []Way
	for _, a := range numbers {
		for _, b := range numbers {
			unlike, ways = append(unlike, Pair{a, b}), append(ways, Way{a, b})
		}
	}
	long := strings.Repeat("a/", 20)
	entries := []api.Entry{{}, {Kind: api.Dir}, {Path: "a", Kind: api.File}, {Path: "a/b", Kind: api.File}, {Path: "a", Kind: api.Dir}, {Path: "c", Kind: api.Dir}, {Path: "c/a", Kind: api.File}, {Path: "a/b", Kind: api.File}, {Path: long, Kind: api.Dir}, {Path: "//", Kind: 9}, {Path: "c/b", Kind: api.File}}
	for _, s := range []*stock.Stock{
		{},
		{Want: entries},
		{Have: entries},
		{Want: entries, Have: entries},
		{Want: entries, Have: entries, Wanted: make([]bool, 1), Stays: make([]bool, 99), Loose: make([]bool, 1)},
		{Wanted: make([]bool, 3), Stays: make([]bool, 3), Loose: make([]bool, 3)},
		{Want: entries, Have: entries[:7], Wanted: slices.Repeat([]bool{true}, 20)},
		{Want: entries[3:], Have: entries, Wanted: slices.Repeat([]bool{true}, 20), Stays: make([]bool, 3)},
		made(t, "a/ a/b=1 l>1", "b/ b/b=1 l>1", "", true),
	} {
		if got := Ways(s, unlike); len(got) != len(s.Want) {
			t.Errorf("%v: %v", s, got)
		}
		if got := Goes(s, ways); len(got) != len(s.Have) {
			t.Errorf("%v: %v", s, got)
		}
		Pairs(s, ways)
		Pairs(s, Ways(s, nil))
	}
}

// slow finds ways as the document's words tell it, step by step, by paths alone.
type slow struct {
	s      *stock.Stock
	unlike []Pair
	ways   map[int]Way // those that were found
	taken  []int
}

// maybe tells whether a file may be another one, or whether other entries are alike.
func (f *slow) maybe(i, k int) bool {
	return f.s.Alike(i, k) && (f.s.Want[i].Kind != api.File || !slices.Contains(f.unlike, Pair{i, k}))
}

// goes tells whether an entry goes.
func (f *slow) goes(k int) bool {
	for _, j := range f.s.Within(f.s.Have, f.s.Have[k].Path) {
		if f.s.Stays[j] {
			return false
		}
		for _, w := range f.ways {
			if w == (Way{Here, j}) {
				return false
			}
		}
	}
	return f.s.Have[k].Path != ".flit"
}

// free tells whether nothing within an entry is taken.
func (f *slow) free(k int) bool {
	return !slices.ContainsFunc(f.taken, func(j int) bool { return paths.Within(f.s.Have[j].Path, f.s.Have[k].Path) })
}

// like tells whether all under the directory i is at the same places under k.
func (f *slow) like(i, k int) bool {
	w, h := f.s.Within(f.s.Want, f.s.Want[i].Path), f.s.Within(f.s.Have, f.s.Have[k].Path)
	for _, j := range w {
		p, _ := paths.Rebase(f.s.Want[j].Path, f.s.Want[i].Path, f.s.Have[k].Path)
		if at, ok := f.s.At(p); !ok || !f.maybe(j, at) {
			return false
		}
	}
	return len(w) == len(h) && f.s.Want[i].Sum == f.s.Have[k].Sum
}

// directory finds the way of a directory, and of all under it, if it is moved.
func (f *slow) directory(i int) {
	within := f.s.Within(f.s.Want, f.s.Want[i].Path)
	if !slices.ContainsFunc(within, func(j int) bool { return f.s.Want[j].Kind == api.File }) {
		return
	}
	for k, h := range f.s.Have {
		if h.Kind != api.Dir || !f.goes(k) || !f.free(k) || !f.like(i, k) {
			continue
		}
		for _, j := range within {
			p, _ := paths.Rebase(f.s.Want[j].Path, f.s.Want[i].Path, h.Path)
			at, _ := f.s.At(p)
			if _, found := f.ways[j]; !found {
				f.ways[j] = Way{Inside, at}
			}
		}
		f.ways[i] = Way{Moved, k}
		f.taken = append(f.taken, f.s.Within(f.s.Have, h.Path)...)
		return
	}
}

// each does something for each entry of a kind whose way isn't found yet.
func (f *slow) each(do func(i int), of ...int) {
	for i, e := range f.s.Want {
		if _, found := f.ways[i]; !found && slices.Contains(of, e.Kind) {
			do(i)
		}
	}
}

// all is the ways of all.
func (f *slow) all() []Way {
	any := []int{api.Dir, api.File, api.Link}
	f.each(func(i int) {
		if !f.s.Wanted[i] {
			f.ways[i] = Way{Kind: Out}
		}
	}, any...)
	f.each(func(i int) {
		if k, ok := f.s.At(f.s.Want[i].Path); ok && f.maybe(i, k) {
			f.ways[i] = Way{Here, k}
		}
	}, any...)
	f.each(f.directory, api.Dir)
	f.each(func(i int) {
		for k := range f.s.Have {
			if f.maybe(i, k) && f.goes(k) && !slices.Contains(f.taken, k) {
				f.ways[i], f.taken = Way{Moved, k}, append(f.taken, k)
				return
			}
		}
	}, api.File)
	f.each(func(i int) {
		f.ways[i] = Way{Kind: Lacks}
		for k := range f.s.Have {
			if f.maybe(i, k) {
				f.ways[i] = Way{Copied, k}
				return
			}
		}
	}, api.File)
	f.each(func(i int) { f.ways[i] = Way{Kind: Made} }, api.Dir)
	f.each(func(i int) { f.ways[i] = Way{Kind: Linked} }, api.Link)
	out := make([]Way, len(f.s.Want))
	for i, w := range f.ways {
		out[i] = w
	}
	return out
}

// TestDrawn: 26.1 and 26.2, of drawn stocks.
func TestDrawn(t *testing.T) {
	r := rand.New(rand.NewSource(5))
	counts := map[string]int{}
	for n := range 3000 {
		have := sample.DrawTree(r.Intn, 150)
		want := sample.DrawTree(r.Intn, 150)
		if n%3 > 0 {
			want = sample.DrawMoved(r.Intn, have)
		}
		o := api.Options{Rules: sample.DrawRules(r.Intn), Del: r.Intn(3) > 0}
		s, e := stock.New(index.Of(want), have, o)
		if e != api.OK {
			t.Fatalf("%s, %s: %d", sample.Words(want), sample.Words(have), e)
		}
		var unlike []Pair
		for range 4 {
			ways := Ways(s, unlike)
			w := (&slow{s: s, unlike: unlike, ways: map[int]Way{}}).all()
			if !slices.Equal(ways, w) {
				t.Fatalf("%v, %v: %s out of %s: %s, want %s", o, unlike, sample.Words(want), sample.Words(have), told(s, ways), told(s, w))
			}
			apart(t, s, ways)
			for _, w := range ways {
				counts[kinds[w.Kind]]++
			}
			if l := Pairs(s, ways); len(l) > 0 {
				unlike = append(unlike, l[r.Intn(len(l))])
			}
		}
	}
	for _, kind := range kinds {
		if counts[kind] < 200 {
			t.Errorf("too few are %s: %v", kind, counts)
		}
	}
}

// apart: 26.2, nothing comes from what stays, or is here, and nothing from one entry twice; what comes goes.
func apart(t *testing.T, s *stock.Stock, ways []Way) {
	t.Helper()
	goes := Goes(s, ways)
	from := map[int]int{}
	for i, w := range ways {
		if w.Kind == Out && s.Wanted[i] || w.Kind != Out && !s.Wanted[i] {
			t.Fatalf("%s: %s", s.Want[i].Path, kinds[w.Kind])
		}
		if w.Kind != Moved && w.Kind != Inside {
			continue
		}
		from[w.From]++
		if from[w.From] > 1 || s.Stays[w.From] || !goes[w.From] || slices.Contains(ways, Way{Here, w.From}) {
			t.Fatalf("%s comes from %s: %s", s.Want[i].Path, s.Have[w.From].Path, told(s, ways))
		}
	}
}

// TestShuffled: 26.2, where things were moved elsewhere nothing lacks, and nothing is copied.
func TestShuffled(t *testing.T) {
	r := rand.New(rand.NewSource(6))
	moved := 0
	for range 3000 {
		have := tree.Shown(sample.DrawTree(r.Intn, 150))
		want := sample.DrawMoved(r.Intn, have)
		s, _ := stock.New(index.Of(want), have, api.Options{Del: true})
		for i, w := range Ways(s, nil) {
			if w.Kind == Lacks || w.Kind == Copied {
				t.Fatalf("%s out of %s: %s %s", sample.Words(want), sample.Words(have), s.Want[i].Path, kinds[w.Kind])
			}
			if w.Kind == Moved {
				moved++
			}
		}
	}
	if moved < 1500 {
		t.Errorf("too few were moved: %d", moved)
	}
}

// TestMany: R1, great stocks end soon: each directory is held against each other, and all files have one sum.
func TestMany(t *testing.T) {
	var want, have []api.Node
	for i := range 256 {
		n := strconv.Itoa(1000 + i)
		want = append(want, sample.Nodes("w"+n+"/ w"+n+"/x=1")...)
		have = append(have, sample.Nodes("h"+n+"/ h"+n+"/x=1")...)
	}
	s, e := stock.New(index.Of(want), have, api.Options{Del: true})
	if e != api.OK {
		t.Fatal(e)
	}
	for i, w := range Ways(s, nil) {
		if w != (Way{Moved + i%2, i}) {
			t.Fatalf("%s: %v", s.Want[i].Path, w)
		}
	}
	var unlike []Pair
	for i := 1; i < 512; i += 2 {
		for k := 1; k < 512; k += 2 {
			unlike = append(unlike, Pair{i, k})
		}
	}
	for i, w := range Ways(s, unlike) {
		if w != (Way{Kind: Made - i%2}) {
			t.Fatalf("%s: %v", s.Want[i].Path, w)
		}
	}
}
