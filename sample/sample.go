// Package sample has trees, rules and lists in short words, for the tests of other packages.
package sample

import (
	"flitting/api"
	"flitting/tree"
	"slices"
	"strconv"
	"strings"
)

// Nodes makes nodes of words: a path with a slash behind it is a directory's, one with a > behind it a link's, to what stands there; another one is a file's, with what stands behind = as its bytes.
func Nodes(text string) []api.Node {
	var t []api.Node
	for word := range strings.FieldsSeq(text) {
		t = append(t, one(word))
	}
	return t
}

// one makes a node of a word.
func one(word string) api.Node {
	if p, ok := strings.CutSuffix(word, "/"); ok {
		return api.Node{Path: p, Kind: api.Dir, Mode: 5}
	}
	if p, to, ok := strings.Cut(word, ">"); ok {
		return api.Node{Path: p, Kind: api.Link, Data: to}
	}
	p, data, _ := strings.Cut(word, "=")
	return api.Node{Path: p, Kind: api.File, Time: 3, Data: data}
}

// Words is the text that Nodes reads.
func Words(t []api.Node) string {
	var l []string
	for _, n := range t {
		l = append(l, word(n))
	}
	return strings.Join(l, " ")
}

// word is the one that one reads.
func word(n api.Node) string {
	switch {
	case n.Kind == api.Dir:
		return n.Path + "/"
	case n.Kind == api.Link:
		return n.Path + ">" + n.Data
	case n.Data == "":
		return n.Path
	}
	return n.Path + "=" + n.Data
}

// Rules makes rules of words: each is a pattern behind its sign, + or -.
func Rules(text string) []api.Rule {
	var out []api.Rule
	for word := range strings.FieldsSeq(text) {
		out = append(out, api.Rule{Keep: word[0] == '+', Pattern: word[1:]})
	}
	return out
}

// Hidden is a list with room behind it, which holds what nobody may see.
func Hidden[T any](l []T, no T) []T {
	return append(slices.Clone(l), no, no, no)[:len(l)]
}

// Untouched tells whether what lies in and behind a list that Hidden made is as it was.
func Untouched[T comparable](in, l []T, no T) bool {
	return slices.Equal(in[:len(in)+3], append(slices.Clone(l), no, no, no))
}

// DrawTree draws a well-formed tree of so many nodes at most out of few names, each node with a time of its own; draw tells a number from 0 on, below the one that it is handed.
func DrawTree(draw func(n int) int, most int) []api.Node {
	names := []string{"a", "b", "c", "a-", api.Reserved}
	var l []api.Node
	for i := range draw(most + 1) {
		var p []string
		for range 1 + draw(4) {
			p = append(p, names[draw(len(names))])
		}
		n := api.Node{Path: strings.Join(p, "/"), Kind: api.Dir, Time: i}
		switch draw(5) {
		case 0, 1:
			n.Kind, n.Data = api.File, strconv.Itoa(draw(3))
		case 2:
			n.Kind, n.Data = api.Link, "x"
		}
		l = append(l, n)
	}
	return tree.Of(l)
}

// DrawRules draws some rules, of which some match much.
func DrawRules(draw func(n int) int) []api.Rule {
	l := []string{"a", "/a", "a/", "/b/", "b", "*/", "a/*", "?", "**b", "[!a]", "/a/b", "c/**", ".flit", "[", "*-*"}
	var out []api.Rule
	for range draw(4) {
		out = append(out, api.Rule{Keep: draw(2) == 0, Pattern: l[draw(len(l))]})
	}
	return out
}

// DrawMoved draws a tree that is another one in which some things were moved elsewhere.
func DrawMoved(draw func(n int) int, l []api.Node) []api.Node {
	for range draw(8) {
		if len(l) == 0 {
			break
		}
		to := l[draw(len(l))].Path + "/" + letter(draw(6))
		if draw(3) == 0 {
			to = letter(draw(6))
		}
		l, _ = moved(l, l[draw(len(l))].Path, to)
	}
	return l
}

// letter is a name of one letter.
func letter(n int) string {
	return string(rune('a' + n))
}

// moved is a tree with one thing moved, or the same one, if that can't be done.
func moved(l []api.Node, from, to string) ([]api.Node, bool) {
	if m, e := tree.Move(l, from, to); e == api.OK {
		return m, true
	}
	return l, false
}

// DrawShuffled draws a tree that is another one in which some things were moved elsewhere, changed places, or were lost.
func DrawShuffled(draw func(n int) int, l []api.Node) []api.Node {
	for range draw(16) {
		shown := tree.Shown(l)
		if len(shown) == 0 {
			break
		}
		a, b := shown[draw(len(shown))].Path, shown[draw(len(shown))].Path
		switch draw(6) {
		case 0:
			l, _ = moved(l, a, b+"/"+letter(draw(4)))
		case 1:
			l, _ = moved(l, a, letter(draw(4)))
		default:
			l = turned(l, a, b)
		}
	}
	return l
}

// turned is a tree in which two things changed places: a file may so come in place of the directory that it was in, and that one be lost.
func turned(l []api.Node, a, b string) []api.Node {
	const aside = "aside"
	l, ok := moved(l, a, aside)
	if !ok {
		return l
	}
	l, _ = moved(l, b, a)
	l, _ = moved(l, aside, b)
	return tree.Drop(l, aside)
}

// DrawTrees draws the sender's tree and the receiver's, which was mostly changed to come to be the first one, and how they are made one; n counts what was drawn ahead.
func DrawTrees(draw func(n int) int, n int) (want, have []api.Node, o api.Options) {
	have = DrawTree(draw, 200)
	for i := range have {
		// With bytes of their own more files are moved, and fewer copied.
		if have[i].Kind == api.File && draw(3) > 0 {
			have[i].Data = strconv.Itoa(i)
		}
	}
	want = DrawTree(draw, 200)
	if n%4 > 0 {
		want = DrawShuffled(draw, have)
	}
	o = api.Options{Del: draw(4) > 0}
	if n%3 == 0 {
		o.Rules = DrawRules(draw)
	}
	return want, have, o
}

// Prepared is a tree in which the reserved directory is one.
func Prepared(l []api.Node) []api.Node {
	if tree.IsDir(l, api.Reserved) {
		return l
	}
	l, _ = tree.Put(tree.Drop(l, api.Reserved), api.Node{Path: api.Reserved, Kind: api.Dir})
	return l
}
