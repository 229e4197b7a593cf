// Package glob has patterns of texts.
package glob

import (
	"flitting/api"
	"strings"
)

// set is some of the 256 bytes, a bit for each.
type set [4]uint64

// span is the bytes from one to another one, both of them too.
func span(from, to byte) set {
	var s set
	for b := int(from); b <= int(to); b++ {
		s[b/64] |= 1 << (b % 64)
	}
	return s
}

// has tells whether a byte is one of them.
func (s set) has(b byte) bool {
	return s[b/64]>>(b%64)&1 == 1
}

// with is the bytes of both.
func (s set) with(t set) set {
	for i := range s {
		s[i] |= t[i]
	}
	return s
}

// without is the bytes of s that t hasn't.
func (s set) without(t set) set {
	for i := range s {
		s[i] &^= t[i]
	}
	return s
}

// all is each byte.
func all() set {
	return span(0, 255)
}

// inName is each byte but the slash.
func inName() set {
	return all().without(span('/', '/'))
}

// part is a pattern's: it stands for one byte out of a set, or for any number of them.
type part struct {
	many bool
	set  set
}

// Pattern is a pattern.
type Pattern struct {
	n     int
	parts [api.MaxPattern]part
}

// Parse reads a pattern.
func Parse(s string) (Pattern, api.Errno) {
	if len(s) > api.MaxPattern {
		return Pattern{}, api.ErrLong
	}
	var p Pattern
	for s != "" {
		x, n := first(s)
		if n == 0 {
			return Pattern{}, api.ErrForm
		}
		p.parts[p.n] = x
		p.n++
		s = s[n:]
	}
	return p, api.OK
}

// first reads the part that a text begins with, and tells how many bytes it has: 0, if it is none.
func first(s string) (part, int) {
	switch {
	case strings.HasPrefix(s, "**"):
		return part{many: true, set: all()}, 2
	case s[0] == '*':
		return part{many: true, set: inName()}, 1
	case s[0] == '?':
		return part{set: inName()}, 1
	case s[0] == '[':
		return class(s)
	case s[0] == '\\' && len(s) == 1:
		return part{}, 0
	case s[0] == '\\':
		return part{set: span(s[1], s[1])}, 2
	}
	return part{set: span(s[0], s[0])}, 1
}

// class reads a part that begins with "[", as first does.
func class(s string) (part, int) {
	i := len("[")
	not := strings.HasPrefix(s[i:], "!")
	if not {
		i++
	}
	begin := i
	var l set
members:
	for {
		switch {
		case i < len(s) && s[i] == ']' && i > begin:
			break members
		case i == len(s) || !member(s[i]):
			return part{}, 0
		case i+2 < len(s) && s[i+1] == '-' && s[i+2] != ']':
			if !member(s[i+2]) || s[i+2] < s[i] {
				return part{}, 0
			}
			l = l.with(span(s[i], s[i+2]))
			i += 3
		default:
			l = l.with(span(s[i], s[i]))
			i++
		}
	}
	if not {
		l = all().without(l)
	}
	// Two bytes with "-" between may have the slash among them; no class stands for it.
	return part{set: l.without(span('/', '/'))}, i + 1
}

// member tells whether a byte may be a class's member, or one of a member's two ends.
func member(b byte) bool {
	switch b {
	case ']', '[', '/', '\\':
		return false
	}
	return true
}

// Len is how many parts there are.
func (p Pattern) Len() int {
	return p.n
}

// reach tells of each number of parts whether the bytes that were read are one of the texts of so many of a pattern's first parts.
type reach [api.MaxPattern + 1]bool

// Match tells whether a text is one of a pattern's.
func (p Pattern) Match(s string) bool {
	// All the ways to read the text go on together: trying them one behind the other could take as good as for ever.
	at := p.start()
	for i := range len(s) {
		next, some := p.step(&at, s[i])
		if !some {
			return false
		}
		at = next
	}
	return at[p.n]
}

// start is what no bytes reach: what is behind parts that may stand for none.
func (p *Pattern) start() reach {
	var at reach
	at[0] = true
	for i := 0; i < p.n && p.parts[i].many; i++ {
		at[i+1] = true
	}
	return at
}

// step is what is reached with one more byte, and whether that is anything.
func (p *Pattern) step(at *reach, b byte) (reach, bool) {
	var next reach
	some := false
	for i := range p.n {
		x := &p.parts[i]
		if at[i] && x.set.has(b) {
			some = true
			if x.many {
				next[i] = true
			} else {
				next[i+1] = true
			}
		}
		if next[i] && x.many {
			next[i+1] = true
		}
	}
	return next, some
}

// Match tells whether a text is one of a pattern's, which is read first.
func Match(pattern, s string) bool {
	p, e := Parse(pattern)
	return e == api.OK && p.Match(s)
}
