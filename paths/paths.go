// Package paths has names, paths and their order.
package paths

import (
	"flitting/api"
	"iter"
	"strings"
)

// Name tells whether a text is a name.
func Name(s string) bool {
	if s == "" || len(s) > api.MaxName || s == "." || s == ".." {
		return false
	}
	for i := range len(s) {
		if !ofName(s[i]) {
			return false
		}
	}
	return true
}

// ofName tells whether names may have a byte.
func ofName(b byte) bool {
	switch {
	case b >= 'a' && b <= 'z', b >= 'A' && b <= 'Z', b >= '0' && b <= '9':
		return true
	}
	return b == '.' || b == '_' || b == '-'
}

// Right tells whether a text is a right path.
func Right(p string) bool {
	if p == "" {
		return true
	}
	n := 0
	for s := range strings.SplitSeq(p, "/") {
		n++
		if n > api.MaxDepth || !Name(s) {
			return false
		}
	}
	return true
}

// Names tells a path's names.
func Names(p string) iter.Seq[string] {
	return func(yield func(string) bool) {
		if p == "" || !Right(p) {
			return
		}
		for s := range strings.SplitSeq(p, "/") {
			if !yield(s) {
				return
			}
		}
	}
}

// Depth is how many names a path has.
func Depth(p string) int {
	n := 0
	for range Names(p) {
		n++
	}
	return n
}

// Parent is a path without its last name.
func Parent(p string) (string, bool) {
	if p == "" || !Right(p) {
		return "", false
	}
	// A path of one name has no slash: then i is -1, and its parent the root.
	i := strings.LastIndexByte(p, '/')
	return p[:max(i, 0)], true
}

// Base is a path's last name.
func Base(p string) string {
	if !Right(p) {
		return ""
	}
	return p[strings.LastIndexByte(p, '/')+1:]
}

// Join makes a path of names.
func Join(l ...string) (string, api.Errno) {
	for _, s := range l {
		if !Name(s) {
			return "", api.ErrPath
		}
	}
	if len(l) > api.MaxDepth {
		return "", api.ErrLong
	}
	return strings.Join(l, "/"), api.OK
}

// Under tells whether a path is under another one.
func Under(p, q string) bool {
	return p != q && Within(p, q)
}

// Within tells whether a path is under another one, or is it.
func Within(p, q string) bool {
	_, ok := behind(p, q)
	return ok
}

// behind tells what a path has behind the names of one that it is within: nothing, or names with a slash ahead.
func behind(p, q string) (string, bool) {
	if !Right(p) || !Right(q) {
		return "", false
	}
	if q == "" && p != "" {
		return "/" + p, true
	}
	rest, ok := strings.CutPrefix(p, q)
	return rest, ok && (rest == "" || rest[0] == '/')
}

// Rebase puts a path that is within another one beneath a third one.
func Rebase(p, from, to string) (string, bool) {
	rest, ok := behind(p, from)
	if !ok || !Right(to) {
		return "", false
	}
	all := to + rest
	if to == "" {
		all = strings.TrimPrefix(rest, "/")
	}
	// Both parts have names alone, but perhaps too many of them in all.
	if !Right(all) {
		return "", false
	}
	return all, true
}

// Cmp holds two paths against each other.
func Cmp(p, q string) int {
	n := min(len(p), len(q))
	for i := range n {
		if p[i] != q[i] {
			return sign(rank(p[i]) - rank(q[i]))
		}
	}
	return sign(len(p) - len(q))
}

// rank is a byte's place among those that a path can go on with: a slash ends a name, and a name is ahead of all that begin with it.
func rank(b byte) int {
	if b == '/' {
		return -1
	}
	return int(b)
}

// sign is a number's: -1, 0 or 1.
func sign(n int) int {
	return min(max(n, -1), 1)
}

// Ups tells the paths that a path is under.
func Ups(p string) iter.Seq[string] {
	return func(yield func(string) bool) {
		end := 0
		for s := range Names(p) {
			// Behind the first name, each one stands behind a slash, which the path ahead of it is without.
			if !yield(p[:max(end-1, 0)]) {
				return
			}
			end += len(s) + 1
		}
	}
}

// Reserved tells whether a path is within the reserved directory.
func Reserved(p string) bool {
	return Within(p, api.Reserved)
}
