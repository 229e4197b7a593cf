// Package sample has trees, rules and lists in short words, for the tests of other packages.
package sample

import (
	"flitting/api"
	"flitting/tree"
	"slices"
	"strconv"
	"strings"
)

// Nodes makes nodes of words: a path with a slash behind it is a directory's, one with a > behind it a link's, to what stands there; another one is a file's, with what stands behind = as its bytes.
func Nodes(text string) []api.Node {
	var t []api.Node
	for word := range strings.FieldsSeq(text) {
		t = append(t, one(word))
	}
	return t
}

// one makes a node of a word.
func one(word string) api.Node {
	if p, ok := strings.CutSuffix(word, "/"); ok {
		return api.Node{Path: p, Kind: api.Dir, Mode: 5}
	}
	if p, to, ok := strings.Cut(word, ">"); ok {
		return api.Node{Path: p, Kind: api.Link, Data: to}
	}
	p, data, _ := strings.Cut(word, "=")
	return api.Node{Path: p, Kind: api.File, Time: 3, Data: data}
}

// Words is the text that Nodes reads.
func Words(t []api.Node) string {
	var l []string
	for _, n := range t {
		l = append(l, word(n))
	}
	return strings.Join(l, " ")
}

// word is the one that one reads.
func word(n api.Node) string {
	switch {
	case n.Kind == api.Dir:
		return n.Path + "/"
	case n.Kind == api.Link:
		return n.Path + ">" + n.Data
	case n.Data == "":
		return n.Path
	}
	return n.Path + "=" + n.Data
}

// Rules makes rules of words: each is a pattern behind its sign, + or -.
func Rules(text string) []api.Rule {
	var out []api.Rule
	for word := range strings.FieldsSeq(text) {
		out = append(out, api.Rule{Keep: word[0] == '+', Pattern: word[1:]})
	}
	return out
}

// Hidden is a list with room behind it, which holds what nobody may see.
func Hidden[T any](l []T, no T) []T {
	return append(slices.Clone(l), no, no, no)[:len(l)]
}

// Untouched tells whether what lies in and behind a list that Hidden made is as it was.
func Untouched[T comparable](in, l []T, no T) bool {
	return slices.Equal(in[:len(in)+3], append(slices.Clone(l), no, no, no))
}

// DrawTree draws a well-formed tree of so many nodes at most out of few names, each node with a time of its own; draw tells a number from 0 on, below the one that it is handed.
func DrawTree(draw func(n int) int, most int) []api.Node {
	names := []string{"a", "b", "c", "a-", api.Reserved}
	var l []api.Node
	for i := range draw(most + 1) {
		var p []string
		for range 1 + draw(4) {
			p = append(p, names[draw(len(names))])
		}
		n := api.Node{Path: strings.Join(p, "/"), Kind: api.Dir, Time: i}
		switch draw(5) {
		case 0, 1:
			n.Kind, n.Data = api.File, strconv.Itoa(draw(3))
		case 2:
			n.Kind, n.Data = api.Link, "x"
		}
		l = append(l, n)
	}
	return tree.Of(l)
}

// DrawRules draws some rules, of which some match much.
func DrawRules(draw func(n int) int) []api.Rule {
	l := []string{"a", "/a", "a/", "/b/", "b", "*/", "a/*", "?", "**b", "[!a]", "/a/b", "c/**", ".flit", "[", "*-*"}
	var out []api.Rule
	for range draw(4) {
		out = append(out, api.Rule{Keep: draw(2) == 0, Pattern: l[draw(len(l))]})
	}
	return out
}
