package msg

import (
	"encoding/binary"
	"flitting/api"
	"flitting/block"
	"math"
	"math/rand"
	"slices"
	"strings"
	"testing"
)

// tnum is a number's bytes.
func tnum(n uint64) string {
	return string(binary.AppendUvarint(nil, n))
}

// ttext is a text's bytes.
func ttext(s string) string {
	return tnum(uint64(len(s))) + s
}

// tsum is a sum's bytes.
func tsum(s api.Sum) string {
	return string(binary.BigEndian.AppendUint64(binary.BigEndian.AppendUint64(nil, s.Hi), s.Lo))
}

// tyes is 1 or 0.
func tyes(y bool) string {
	if y {
		return "\x01"
	}
	return "\x00"
}

// tentry is an entry's bytes, as the document says them.
func tentry(e api.Entry) string {
	s := ttext(e.Path) + tnum(uint64(e.Kind)) + tnum(uint64(e.Mode)) + tnum(uint64(e.Time))
	switch e.Kind {
	case api.Dir:
		s += tsum(e.Sum)
	case api.File:
		s += tnum(uint64(e.Size)) + tsum(e.Sum)
		for _, n := range e.Sketch {
			s += tnum(n)
		}
	case api.Link:
		s += ttext(e.Target)
	}
	return s
}

// tentries is how many entries there are, and their bytes.
func tentries(l ...api.Entry) string {
	s := tnum(uint64(len(l)))
	for _, e := range l {
		s += tentry(e)
	}
	return s
}

// body is a message's body, kind by kind, as the document's table says it.
func body(m Msg) string {
	n, at, total := tnum(uint64(m.N)), tnum(uint64(m.At)), tnum(uint64(m.Total))
	return map[int]string{
		1: n, 2: total + tentries(m.Entries...), 3: n + at + ttext(string(block.Put(m.Sig))), 4: total + ttext(m.Data), 5: n + at, 6: ttext(m.Data),
		7: n + at + ttext(m.Data) + tyes(m.Yes), 8: tyes(m.Yes), 9: tnum(uint64(m.Code)), 10: "", 11: tnum(uint64(m.Code)),
	}[m.Kind]
}

// dir is a right entry of a directory.
func dir() api.Entry {
	return api.Entry{Path: "a", Kind: api.Dir, Mode: 493, Time: 7, Sum: api.Sum{Hi: 1, Lo: 1 << 63}}
}

// file is a right entry of a file.
func file() api.Entry {
	return api.Entry{Path: "a/b", Kind: api.File, Mode: 420, Time: 300, Size: 129, Sum: api.Sum{Hi: math.MaxUint64, Lo: 5}, Sketch: [api.Slots]uint64{1, 2, 3, 128, 1 << 32, 1 << 63, 0, math.MaxUint64}}
}

// symlink is a right entry of a link.
func symlink() api.Entry {
	return api.Entry{Path: "c", Kind: api.Link, Time: 1, Size: 3, Target: "a/b"}
}

// with is an entry that was changed.
func with(e api.Entry, f func(e *api.Entry)) api.Entry {
	f(&e)
	return e
}

// deep is the longest path there is.
func deep() string {
	return strings.TrimSuffix(strings.Repeat(strings.Repeat("n", api.MaxName)+"/", api.MaxDepth), "/")
}

// rightEntries is entries that are right.
func rightEntries() []api.Entry {
	l := []api.Entry{dir(), file(), symlink(), {Path: "x", Kind: api.Dir}, {Path: "x", Kind: api.File}, {Path: "x", Kind: api.Link, Target: "y", Size: 1}}
	for _, e := range []api.Entry{dir(), file(), symlink()} {
		l = append(l,
			with(e, func(e *api.Entry) { e.Path = deep() }),
			with(e, func(e *api.Entry) { e.Path = ".flit/x" }),
			with(e, func(e *api.Entry) { e.Path = ".flit" }),
			with(e, func(e *api.Entry) { e.Time = 0 }),
			with(e, func(e *api.Entry) { e.Time = api.MaxTime }),
			with(e, func(e *api.Entry) { e.Mode = 0 }))
	}
	return append(l,
		with(dir(), func(e *api.Entry) { e.Mode = api.MaxMode }),
		with(file(), func(e *api.Entry) { e.Mode = api.MaxMode }),
		with(dir(), func(e *api.Entry) { e.Sum = api.Sum{} }),
		with(file(), func(e *api.Entry) { e.Sum = api.Sum{} }),
		with(file(), func(e *api.Entry) { e.Size = 0 }),
		with(file(), func(e *api.Entry) { e.Size = api.MaxFile }),
		with(file(), func(e *api.Entry) { e.Sketch = [api.Slots]uint64{} }),
		with(symlink(), func(e *api.Entry) { e.Target, e.Size = "!~", 2 }),
		with(symlink(), func(e *api.Entry) { e.Target, e.Size = strings.Repeat("t", api.MaxTarget), api.MaxTarget }))
}

// wrongEntries is entries that aren't right, by what is wrong.
func wrongEntries() map[string]api.Entry {
	all := map[string]api.Entry{"nothing": {}, "no path, a directory": {Kind: api.Dir}}
	for k, e := range map[string]api.Entry{"dir": dir(), "file": file(), "link": symlink()} {
		for what, f := range map[string]func(e *api.Entry){
			"the root": func(e *api.Entry) { e.Path = "" }, "a slash ahead": func(e *api.Entry) { e.Path = "/a" }, "a slash behind": func(e *api.Entry) { e.Path = "a/" },
			"two slashes": func(e *api.Entry) { e.Path = "a//b" }, "dots": func(e *api.Entry) { e.Path = "a/.." }, "a blank": func(e *api.Entry) { e.Path = "a b" },
			"too many names": func(e *api.Entry) { e.Path = deep() + "/n" }, "too long a name": func(e *api.Entry) { e.Path = strings.Repeat("n", api.MaxName+1) },
			"kind 0": func(e *api.Entry) { e.Kind = 0 }, "kind 4": func(e *api.Entry) { e.Kind = 4 }, "kind -1": func(e *api.Entry) { e.Kind = -1 }, "kind 2^32+1": func(e *api.Entry) { e.Kind = 1<<32 + e.Kind },
			"mode -1": func(e *api.Entry) { e.Mode = -1 }, "mode 4096": func(e *api.Entry) { e.Mode = 4096 }, "the least mode": func(e *api.Entry) { e.Mode = math.MinInt },
			"time -1": func(e *api.Entry) { e.Time = -1 }, "time 2^40+1": func(e *api.Entry) { e.Time = api.MaxTime + 1 }, "the greatest time": func(e *api.Entry) { e.Time = math.MaxInt },
			"size -1": func(e *api.Entry) { e.Size = -1 }, "size 2^14+1": func(e *api.Entry) { e.Size = api.MaxFile + 1 }, "the least size": func(e *api.Entry) { e.Size = math.MinInt },
		} {
			all[k+": "+what] = with(e, f)
		}
	}
	for i := range api.Slots {
		all["dir: sketch "+string(rune('0'+i))] = with(dir(), func(e *api.Entry) { e.Sketch[i] = 1 })
		all["link: sketch "+string(rune('0'+i))] = with(symlink(), func(e *api.Entry) { e.Sketch[i] = 1 })
	}
	for what, f := range map[string]func(e *api.Entry){
		"no target": func(e *api.Entry) { e.Target, e.Size = "", 0 }, "too long": func(e *api.Entry) { e.Target, e.Size = strings.Repeat("t", 65), 65 },
		"a blank": func(e *api.Entry) { e.Target, e.Size = "a b", 3 }, "127": func(e *api.Entry) { e.Target, e.Size = "\x7f", 1 }, "a byte above": func(e *api.Entry) { e.Target, e.Size = "\xff", 1 },
		"size 0": func(e *api.Entry) { e.Size = 0 }, "size less": func(e *api.Entry) { e.Size = 2 }, "size more": func(e *api.Entry) { e.Size = 4 },
		"a mode": func(e *api.Entry) { e.Mode = 1 }, "a high sum": func(e *api.Entry) { e.Sum.Hi = 1 }, "a low sum": func(e *api.Entry) { e.Sum.Lo = 1 },
	} {
		all["link: "+what] = with(symlink(), f)
	}
	all["dir: a size"] = with(dir(), func(e *api.Entry) { e.Size = 1 })
	all["dir: a target"] = with(dir(), func(e *api.Entry) { e.Target = "x" })
	all["dir: a target, with its size"] = with(dir(), func(e *api.Entry) { e.Target, e.Size = "x", 1 })
	all["file: a target"] = with(file(), func(e *api.Entry) { e.Target = "x" })
	all["file: a long target"] = with(file(), func(e *api.Entry) { e.Target = strings.Repeat("x", api.MaxFile+1) })
	return all
}

// TestRightEntry: 20.1, which entries are right.
func TestRightEntry(t *testing.T) {
	for _, e := range rightEntries() {
		if !RightEntry(e) {
			t.Errorf("not right: %v", e)
		}
	}
	for what, e := range wrongEntries() {
		if RightEntry(e) {
			t.Errorf("right, though %s: %v", what, e)
		}
	}
}

// many is n right entries.
func many(n int) []api.Entry {
	return slices.Repeat([]api.Entry{symlink()}, n)
}

// some is bytes that make a signature with blocks and a tail.
func some(n int) []byte {
	return []byte(strings.Repeat("0123456789abcdefghijk", n/21+1)[:n])
}

// simple is a right message of each kind.
func simple() []Msg {
	return []Msg{
		{Kind: AskIndex, N: 5}, {Kind: TellIndex, Total: 3, Entries: []api.Entry{dir(), file(), symlink()}}, {Kind: AskDelta, N: 1, At: 2, Sig: block.Of(some(30), 4)},
		{Kind: TellDelta, Total: 300, Data: "abc"}, {Kind: AskData, N: 3, At: 300}, {Kind: TellData, Data: "xyz"}, {Kind: AskSame, N: 7, At: 8, Data: "z", Yes: true},
		{Kind: TellSame, Yes: true}, {Kind: AskDone, Code: api.ErrIO}, {Kind: TellDone}, {Kind: TellError, Code: api.ErrKind},
	}
}

// rights is messages that are right.
func rights() []Msg {
	long := strings.Repeat("\x00\xff", api.MaxPiece/2)
	l := append(simple(), Msg{Kind: TellIndex, Entries: rightEntries()}, Msg{Kind: TellIndex, Entries: many(api.MaxNodes)}, Msg{Kind: TellIndex, Total: MostAt}, Msg{Kind: TellIndex, Entries: []api.Entry{}},
		Msg{Kind: TellDelta}, Msg{Kind: TellDelta, Total: MostAt, Data: long}, Msg{Kind: TellData}, Msg{Kind: TellData, Data: long},
		Msg{Kind: AskSame}, Msg{Kind: AskSame, N: 512, At: MostAt, Data: long, Yes: true}, Msg{Kind: AskSame, Yes: true}, Msg{Kind: TellSame},
		Msg{Kind: AskDelta, Sig: block.Signature{Size: 4}}, Msg{Kind: AskDelta, N: 512, At: MostAt, Sig: block.Of(some(api.MaxFile), 4)}, Msg{Kind: AskDelta, Sig: block.Of(some(100), 64)},
		Msg{Kind: AskDelta, Sig: block.Signature{Size: 4, Blocks: []block.Sign{}}})
	for _, n := range []int{0, 1, 127, 128, 511, 512} {
		l = append(l, Msg{Kind: AskIndex, N: n}, Msg{Kind: AskData, N: n, At: 1}, Msg{Kind: AskData, N: 1, At: n}, Msg{Kind: AskData, N: n, At: MostAt - n})
	}
	for c := api.OK; c <= api.ErrState; c++ {
		l = append(l, Msg{Kind: AskDone, Code: c})
		if c != api.OK {
			l = append(l, Msg{Kind: TellError, Code: c})
		}
	}
	return l
}

// part is a field of a message, with what makes it another one.
type part struct {
	name  string
	kinds []int // those that have it
	set   func(m *Msg)
}

// parts is the fields, and which kinds have them.
func parts() []part {
	return []part{
		{"N", []int{AskIndex, AskDelta, AskData, AskSame}, func(m *Msg) { m.N++ }},
		{"At", []int{AskDelta, AskData, AskSame}, func(m *Msg) { m.At++ }},
		{"Total", []int{TellIndex, TellDelta}, func(m *Msg) { m.Total++ }},
		{"Yes", []int{AskSame, TellSame}, func(m *Msg) { m.Yes = !m.Yes }},
		{"Code", []int{AskDone, TellError}, func(m *Msg) { m.Code++ }},
		{"Data", []int{TellDelta, TellData, AskSame}, func(m *Msg) { m.Data += "a" }},
		{"Sig", []int{AskDelta}, func(m *Msg) { m.Sig = block.Of(some(31), 5) }},
		{"Entries", []int{TellIndex}, func(m *Msg) { m.Entries = append(slices.Clone(m.Entries), dir()) }},
	}
}

// TestKinds: the kinds, and which of them ask.
func TestKinds(t *testing.T) {
	for i, k := range []int{AskIndex, TellIndex, AskDelta, TellDelta, AskData, TellData, AskSame, TellSame, AskDone, TellDone, TellError} {
		if k != i+1 {
			t.Errorf("the kind %d is %d", i+1, k)
		}
	}
	if MostAt != 131072 {
		t.Errorf("MostAt: %d", MostAt)
	}
	asks := []int{AskIndex, AskDelta, AskData, AskSame, AskDone}
	for k := -20; k < 300; k++ {
		if Asks(k) != slices.Contains(asks, k) {
			t.Errorf("Asks(%d): %t", k, Asks(k))
		}
	}
	for _, k := range []int{math.MinInt, math.MinInt + 1, math.MaxInt, 1<<32 + 1, -AskIndex} {
		if Asks(k) {
			t.Errorf("%d asks", k)
		}
	}
}

// TestRight: 20.1, which messages are right, and that Put tells nothing of others.
func TestRight(t *testing.T) {
	for _, m := range rights() {
		if !Right(m) {
			t.Errorf("not right: %.100v", m)
		}
	}
	for what, m := range wrongs() {
		s, ok := Put(m)
		if Right(m) || ok || s != "" {
			t.Errorf("%s: right, or Put tells %.40q, %t: %.100v", what, s, ok, m)
		}
	}
}

// wrongs is messages that aren't right.
func wrongs() map[string]Msg {
	long := strings.Repeat("x", api.MaxPiece+1)
	l := map[string]Msg{
		"nothing": {}, "an entry too many": {Kind: TellIndex, Entries: many(api.MaxNodes + 1)}, "TellError of OK": {Kind: TellError},
		"the zero signature": {Kind: AskDelta}, "a tail that isn't there": {Kind: AskDelta, Sig: block.Signature{Size: 4, Last: block.SignOf([]byte("a"))}},
		"a tail as long as a block": {Kind: AskDelta, Sig: block.Signature{Size: 4, Tail: 4}}, "a size of 3": {Kind: AskDelta, Sig: block.Signature{Size: 3}}, "a size of 65": {Kind: AskDelta, Sig: block.Signature{Size: 65}},
		"a block too many": {Kind: AskDelta, Sig: block.Signature{Size: 4, Blocks: make([]block.Sign, 4097)}},
		"TellDelta's Data": {Kind: TellDelta, Data: long}, "TellData's Data": {Kind: TellData, Data: long}, "AskSame's Data": {Kind: AskSame, Data: long},
	}
	for _, k := range []int{math.MinInt, -1, 0, 12, 13, 255, 256, 1<<32 + 1, math.MaxInt} {
		l["the kind "+tnum(uint64(k))] = Msg{Kind: k}
	}
	for _, n := range []int{math.MinInt, -1, 513, 1 << 32, math.MaxInt} {
		s := tnum(uint64(n))
		l["AskIndex's N "+s], l["AskDelta's N "+s] = Msg{Kind: AskIndex, N: n}, Msg{Kind: AskDelta, N: n, Sig: block.Of(nil, 4)}
		l["AskData's N "+s], l["AskSame's N "+s] = Msg{Kind: AskData, N: n}, Msg{Kind: AskSame, N: n}
	}
	for _, n := range []int{math.MinInt, -1, MostAt + 1, 1 << 32, math.MaxInt} {
		s := tnum(uint64(n))
		l["AskDelta's At "+s], l["AskData's At "+s], l["AskSame's At "+s] = Msg{Kind: AskDelta, At: n, Sig: block.Of(nil, 4)}, Msg{Kind: AskData, At: n}, Msg{Kind: AskSame, At: n}
		l["TellIndex's Total "+s], l["TellDelta's Total "+s] = Msg{Kind: TellIndex, Total: n}, Msg{Kind: TellDelta, Total: n}
	}
	for _, c := range []api.Errno{math.MinInt, -1, 16, 1 << 32, math.MaxInt} {
		s := tnum(uint64(c))
		l["AskDone's Code "+s], l["TellError's Code "+s] = Msg{Kind: AskDone, Code: c}, Msg{Kind: TellError, Code: c}
	}
	for what, e := range wrongEntries() {
		l["the only entry: "+what] = Msg{Kind: TellIndex, Entries: []api.Entry{e}}
		l["the last entry: "+what] = Msg{Kind: TellIndex, Entries: []api.Entry{dir(), file(), e}}
		l["the first entry: "+what] = Msg{Kind: TellIndex, Entries: []api.Entry{e, symlink()}}
	}
	for _, m := range simple() {
		for _, p := range parts() {
			if !slices.Contains(p.kinds, m.Kind) {
				p.set(&m)
				l["the kind "+tnum(uint64(m.Kind))+" with "+p.name] = m
				m = simple()[m.Kind-1]
			}
		}
	}
	return l
}

// TestOthers: 20.1, each kind's messages have the fields that the table names, and no other ones.
func TestOthers(t *testing.T) {
	for _, p := range parts() {
		for _, m := range simple() {
			if p.set(&m); Right(m) != slices.Contains(p.kinds, m.Kind) {
				t.Errorf("kind %d with another %s: %t", m.Kind, p.name, Right(m))
			}
		}
	}
	// Signs that aren't the zero one count, even where Size is 0.
	for _, s := range []block.Signature{{Size: 4}, {Tail: 1}, {Blocks: make([]block.Sign, 1)}, {Last: block.Sign{Weak: 1}}, {Last: block.Sign{Strong: api.Sum{Lo: 1}}}} {
		if m := (Msg{Kind: TellDone, Sig: s}); Right(m) {
			t.Errorf("TellDone with a signature: %v", s)
		}
	}
}

// TestSame: 20.1, whether all parts are the same.
func TestSame(t *testing.T) {
	for i, a := range append(simple(), Msg{}, Msg{Kind: -1, N: -5}) {
		for j, b := range append(simple(), Msg{}, Msg{Kind: -1, N: -5}) {
			if Same(a, b) != (i == j) {
				t.Errorf("%d and %d: %t", i, j, Same(a, b))
			}
		}
		for _, p := range append(parts(), part{name: "Kind", set: func(m *Msg) { m.Kind++ }}) {
			b := a
			if p.set(&b); Same(a, b) || Same(b, a) {
				t.Errorf("%d, with another %s, is the same", i, p.name)
			}
		}
	}
	l := Msg{Kind: TellIndex, Entries: []api.Entry{dir(), file(), symlink()}}
	for what, f := range map[string]func(e *api.Entry){
		"Path": func(e *api.Entry) { e.Path += "x" }, "Kind": func(e *api.Entry) { e.Kind++ }, "Mode": func(e *api.Entry) { e.Mode++ }, "Time": func(e *api.Entry) { e.Time++ }, "Size": func(e *api.Entry) { e.Size++ },
		"Sum": func(e *api.Entry) { e.Sum.Lo++ }, "Target": func(e *api.Entry) { e.Target += "x" }, "Sketch": func(e *api.Entry) { e.Sketch[7]++ },
	} {
		for i := range l.Entries {
			m := Msg{Kind: TellIndex, Entries: slices.Clone(l.Entries)}
			if !Same(l, m) {
				t.Errorf("a copy isn't the same")
			}
			if f(&m.Entries[i]); Same(l, m) {
				t.Errorf("another %s of the entry %d is the same", what, i)
			}
		}
	}
	if !Same(Msg{}, Msg{Entries: []api.Entry{}, Sig: block.Signature{Blocks: []block.Sign{}}}) {
		t.Errorf("an empty list isn't as none")
	}
	x, y := block.Of(some(30), 4), block.Of(some(30), 4)
	y.Blocks[3].Weak++
	if Same(Msg{Sig: x}, Msg{Sig: y}) || !Same(Msg{Sig: x}, Msg{Sig: block.Of(some(30), 4)}) {
		t.Errorf("signatures aren't held against each other")
	}
}

// TestPut: 20.1, bodies by hand.
func TestPut(t *testing.T) {
	zero := strings.Repeat("\x00", 16)
	for _, x := range []struct {
		m Msg
		s string
	}{
		{Msg{Kind: AskData, N: 3, At: 300}, "\x03\xac\x02"},
		{Msg{Kind: AskIndex}, "\x00"}, {Msg{Kind: AskIndex, N: 512}, "\x80\x04"},
		{Msg{Kind: TellIndex}, "\x00\x00"}, {Msg{Kind: TellIndex, Total: 9}, "\x09\x00"},
		{Msg{Kind: TellIndex, Total: 2, Entries: []api.Entry{{Path: "a", Kind: api.Dir, Mode: 1, Time: 2}, {Path: "a/b", Kind: api.Link, Time: 4, Size: 2, Target: "xy"}}}, "\x02\x02\x01a\x01\x01\x02" + zero + "\x03a/b\x03\x00\x04\x02xy"},
		{Msg{Kind: TellIndex, Entries: []api.Entry{{Path: "f", Kind: api.File, Mode: 3, Time: 300, Size: 5, Sum: api.Sum{Lo: 1}, Sketch: [api.Slots]uint64{1, 2, 3, 4, 5, 6, 7, 300}}}}, "\x00\x01\x01f\x02\x03\xac\x02\x05" + zero[1:] + "\x01\x01\x02\x03\x04\x05\x06\x07\xac\x02"},
		{Msg{Kind: AskDelta, N: 1, At: 2, Sig: block.Signature{Size: 4}}, "\x01\x02\x03\x04\x00\x00"},
		{Msg{Kind: TellDelta, Total: 5, Data: "ab"}, "\x05\x02ab"},
		{Msg{Kind: TellData, Data: "ab"}, "\x02ab"}, {Msg{Kind: TellData}, "\x00"},
		{Msg{Kind: AskSame, N: 1, At: 2, Data: "ab", Yes: true}, "\x01\x02\x02ab\x01"}, {Msg{Kind: AskSame, N: 1, At: 2}, "\x01\x02\x00\x00"},
		{Msg{Kind: TellSame}, "\x00"}, {Msg{Kind: TellSame, Yes: true}, "\x01"},
		{Msg{Kind: AskDone}, "\x00"}, {Msg{Kind: AskDone, Code: api.ErrState}, "\x0f"},
		{Msg{Kind: TellDone}, ""}, {Msg{Kind: TellError, Code: api.ErrArg}, "\x01"},
	} {
		if s, ok := Put(x.m); !ok || s != x.s {
			t.Errorf("Put(%v): %x, %t, not %x", x.m, s, ok, x.s)
		}
	}
}

// TestThere: 20.3, Get of Put is the message.
func TestThere(t *testing.T) {
	for _, m := range rights() {
		s, ok := Put(m)
		if !ok || s != body(m) {
			t.Errorf("Put(%.100v): %.40x, %t", m, s, ok)
		}
		if g, e := Get(m.Kind, s); e != api.OK || !Same(g, m) {
			t.Errorf("%.100v: read as %.100v, %d", m, g, e)
		}
	}
}

// TestNoKind: 20.2, ErrFrame where there is no such Kind.
func TestNoKind(t *testing.T) {
	for _, k := range []int{math.MinInt, -1, 0, 12, 13, 127, 128, 254, 255, 256, 257, 1<<32 + 1, math.MaxInt} {
		for _, s := range []string{"", "\x00", "\x80", "\x01\x02\x03"} {
			if m, e := Get(k, s); e != api.ErrFrame || !Same(m, Msg{}) {
				t.Errorf("Get(%d, %x): %v, %d", k, s, m, e)
			}
		}
	}
}

// bad is a body, and what is told of it.
type bad struct {
	what string
	kind int
	s    string
	want api.Errno
}

// try tells whether bodies are read as they are to be.
func try(t *testing.T, l []bad) {
	t.Helper()
	for _, x := range l {
		m, e := Get(x.kind, x.s)
		if e != x.want || e != api.OK && !Same(m, Msg{}) || e == api.OK && (m.Kind != x.kind || body(m) != x.s) {
			t.Errorf("%s: %.100v, %d, not %d", x.what, m, e, x.want)
		}
	}
}

// TestWrong: 20.2, vint's errors, and ErrForm, of all fields but entries and signatures.
func TestWrong(t *testing.T) {
	past, at := tnum(MostAt+1), tnum(MostAt)
	long := strings.Repeat("x", api.MaxPiece)
	try(t, []bad{
		{"no N", AskIndex, "", api.ErrShort}, {"half an N", AskIndex, "\x80", api.ErrShort}, {"N 512", AskIndex, "\x80\x04", api.OK}, {"N 513", AskIndex, "\x81\x04", api.ErrLong},
		{"a nought ahead", AskIndex, "\x80\x00", api.ErrForm}, {"more behind", AskIndex, "\x00\x00", api.ErrLong},
		{"no At", AskData, "\x01", api.ErrShort}, {"At 2^17", AskData, "\x01" + at, api.OK}, {"At 2^17+1", AskData, "\x01" + past, api.ErrLong}, {"AskData, and more", AskData, "\x01\x01\x01", api.ErrLong},
		{"N 513, and an At with a nought ahead", AskData, "\x81\x04\x80\x00", api.ErrLong}, {"N with a nought ahead, and At 2^17+1", AskData, "\x80\x00" + past, api.ErrForm}, {"N 513 of AskData", AskData, "\x81\x04\x00", api.ErrLong},
		{"N 513 of AskSame", AskSame, "\x81\x04\x00\x00\x00", api.ErrLong}, {"At of AskSame", AskSame, "\x00" + past + "\x00\x00", api.ErrLong}, {"Data of AskSame", AskSame, "\x00\x00" + ttext(long+"x") + "\x00", api.ErrLong},
		{"the longest Data of AskSame", AskSame, "\x00\x00" + ttext(long) + "\x01", api.OK}, {"no Data of AskSame", AskSame, "\x00\x00", api.ErrShort}, {"no Yes", AskSame, "\x00\x00\x00", api.ErrShort},
		{"Yes 2", AskSame, "\x00\x00\x00\x02", api.ErrLong}, {"Yes with a nought ahead", AskSame, "\x00\x00\x00\x81\x00", api.ErrForm}, {"Yes, and more", AskSame, "\x00\x00\x00\x01\x00", api.ErrLong},
		{"no Yes of TellSame", TellSame, "", api.ErrShort}, {"Yes 2 of TellSame", TellSame, "\x02", api.ErrLong}, {"Yes 1, and more", TellSame, "\x01\x01", api.ErrLong},
		{"no Total", TellDelta, "", api.ErrShort}, {"Total 2^17", TellDelta, at + "\x00", api.OK}, {"Total 2^17+1", TellDelta, past + "\x00", api.ErrLong}, {"no Data", TellDelta, "\x01", api.ErrShort},
		{"Data that is too short", TellDelta, "\x01\x02a", api.ErrShort}, {"Data of 513", TellDelta, "\x01" + ttext(long+"x"), api.ErrLong}, {"Data of 513, none there", TellDelta, "\x01\x81\x04", api.ErrLong},
		{"no Data at all", TellData, "", api.ErrShort}, {"Data of 512", TellData, ttext(long), api.OK}, {"Data of 513 alone", TellData, ttext(long + "x"), api.ErrLong}, {"Data, and more", TellData, "\x01ab", api.ErrLong},
		{"no Code", AskDone, "", api.ErrShort}, {"Code 15", AskDone, "\x0f", api.OK}, {"Code 16", AskDone, "\x10", api.ErrLong}, {"Code 0", AskDone, "\x00", api.OK}, {"Code, and more", AskDone, "\x00\x00", api.ErrLong},
		{"no Code of TellError", TellError, "", api.ErrShort}, {"Code 15 of TellError", TellError, "\x0f", api.OK}, {"Code 16 of TellError", TellError, "\x10", api.ErrLong}, {"Code 0 of TellError", TellError, "\x00", api.ErrForm},
		{"Code 0 of TellError, and more", TellError, "\x00\x00", api.ErrLong}, {"TellDone", TellDone, "", api.OK}, {"TellDone, and more", TellDone, "\x00", api.ErrLong},
		{"no Total of TellIndex", TellIndex, "", api.ErrShort}, {"Total 2^17+1 of TellIndex", TellIndex, past + "\x00", api.ErrLong}, {"Total 2^17 of TellIndex", TellIndex, at + "\x00", api.OK},
		{"how many Entries is missing", TellIndex, "\x00", api.ErrShort}, {"512 Entries, none there", TellIndex, "\x00\x80\x04", api.ErrShort}, {"513 Entries", TellIndex, "\x00\x81\x04", api.ErrLong},
		{"513 Entries, all there", TellIndex, "\x00" + tentries(many(513)...), api.ErrLong}, {"512 Entries, all there", TellIndex, "\x00" + tentries(many(512)...), api.OK},
	})
}

// TestSig: 20.2, AskDelta's signature: its length, then what is behind it, then what is wrong within.
func TestSig(t *testing.T) {
	good := string(block.Put(block.Of(some(30), 4)))
	// Within, the first number has a nought ahead: an error of another kind than that of a text that is too long.
	huge := "\x84\x00" + strings.Repeat("\x01", MostAt-2)
	try(t, []bad{
		{"good", AskDelta, "\x01\x02" + ttext(good), api.OK}, {"none", AskDelta, "\x01\x02", api.ErrShort}, {"no At", AskDelta, "\x01", api.ErrShort}, {"no N", AskDelta, "", api.ErrShort},
		{"N 513", AskDelta, "\x81\x04\x00" + ttext(good), api.ErrLong}, {"At 2^17+1", AskDelta, "\x00" + tnum(MostAt+1) + ttext(good), api.ErrLong}, {"At 2^17", AskDelta, "\x80\x04" + tnum(MostAt) + ttext(good), api.OK},
		{"cut off", AskDelta, "\x01\x02" + ttext(good)[:40], api.ErrShort}, {"more behind", AskDelta, "\x01\x02" + ttext(good) + "\x00", api.ErrLong},
		{"empty", AskDelta, "\x01\x02\x00", api.ErrShort}, {"a size alone", AskDelta, "\x01\x02\x01\x04", api.ErrShort}, {"cut off within", AskDelta, "\x01\x02" + ttext(good[:len(good)-1]), api.ErrShort},
		{"more within", AskDelta, "\x01\x02" + ttext(good+"\x00"), api.ErrLong}, {"a size of 65", AskDelta, "\x01\x02\x03\x41\x00\x00", api.ErrLong}, {"a size of 3", AskDelta, "\x01\x02\x03\x03\x00\x00", api.ErrForm},
		{"a size with a nought ahead", AskDelta, "\x01\x02\x04\x84\x00\x00\x00", api.ErrForm}, {"4097 blocks", AskDelta, "\x01\x02\x03\x04\x81\x20", api.ErrLong},
		{"a tail of 4 by 4", AskDelta, "\x01\x02" + ttext("\x04\x00\x04\x00"+strings.Repeat("\x00", 16)), api.ErrForm},
		// What is behind the signature is told ahead of what is wrong within.
		{"a size of 3, and more behind", AskDelta, "\x01\x02\x03\x03\x00\x00\x00", api.ErrLong}, {"empty, and more behind", AskDelta, "\x01\x02\x00\x00", api.ErrLong},
		{"2^17 bytes", AskDelta, "\x01\x02" + ttext(huge), api.ErrForm}, {"2^17+1 bytes", AskDelta, "\x01\x02" + ttext(huge+"\x01"), api.ErrLong}, {"2^17+1 bytes, none there", AskDelta, "\x01\x02" + tnum(MostAt+1), api.ErrLong},
		{"2^17 bytes, none there", AskDelta, "\x01\x02" + tnum(MostAt), api.ErrShort},
	})
}

// one is the body of a TellIndex with one entry, whose bytes these are.
func one(s string) string {
	return "\x00\x01" + s
}

// TestEntries: 20.2, errors of entries.
func TestEntries(t *testing.T) {
	sum, nine := strings.Repeat("\x07", 16), strings.Repeat("\x80", 9)
	slots := "\x01\x02\x03\x04\x05\x06\x07\x08"
	p := strings.Repeat("p", 255)
	target := strings.Repeat("t", 64)
	l := []bad{
		{"a Path of 255", TellIndex, one(ttext(p) + "\x01\x00\x00" + sum), api.ErrForm}, {"a Path of 256", TellIndex, one(ttext(p+"p") + "\x01\x00\x00" + sum), api.ErrLong},
		{"Kind 3", TellIndex, one("\x01a\x03\x00\x00\x01x"), api.OK}, {"Kind 4", TellIndex, one("\x01a\x04\x00\x00"), api.ErrLong},
		{"Mode 4095", TellIndex, one("\x01a\x01\xff\x1f\x00" + sum), api.OK}, {"Mode 4096", TellIndex, one("\x01a\x01\x80\x20\x00" + sum), api.ErrLong}, {"Mode 4096 of Kind 0", TellIndex, one("\x01a\x00\x80\x20\x00"), api.ErrLong},
		{"Time 2^40", TellIndex, one("\x01a\x01\x00" + tnum(1<<40) + sum), api.OK}, {"Time 2^40+1", TellIndex, one("\x01a\x01\x00" + tnum(1<<40+1) + sum), api.ErrLong},
		{"Size 2^14", TellIndex, one("\x01a\x02\x00\x00" + tnum(1<<14) + sum + slots), api.OK}, {"Size 2^14+1", TellIndex, one("\x01a\x02\x00\x00" + tnum(1<<14+1) + sum + slots), api.ErrLong},
		{"a slot 2^64-1", TellIndex, one("\x01a\x02\x00\x00\x00" + sum + slots[1:] + tnum(math.MaxUint64)), api.OK}, {"a slot 2^64", TellIndex, one("\x01a\x02\x00\x00\x00" + sum + slots[1:] + nine + "\x02"), api.ErrForm},
		{"seven slots", TellIndex, one("\x01a\x02\x00\x00\x00" + sum + slots[1:]), api.ErrShort}, {"nine slots", TellIndex, one("\x01a\x02\x00\x00\x00" + sum + slots + "\x00"), api.ErrLong},
		{"a Target of 64", TellIndex, one("\x01a\x03\x00\x00" + ttext(target)), api.OK}, {"a Target of 65", TellIndex, one("\x01a\x03\x00\x00" + ttext(target+"t")), api.ErrLong},
		{"half a sum", TellIndex, one("\x01a\x01\x00\x00" + sum[8:]), api.ErrShort}, {"half a file's sum", TellIndex, one("\x01a\x02\x00\x00\x00" + sum[8:]), api.ErrShort},
		{"more behind", TellIndex, one("\x01a\x01\x00\x00"+sum) + "\x00", api.ErrLong}, {"a Mode with a nought ahead", TellIndex, one("\x01a\x01\x81\x00\x00" + sum), api.ErrForm},
		// These are read, but the entry isn't right.
		{"the root", TellIndex, one("\x00\x01\x00\x00" + sum), api.ErrForm}, {"no right path", TellIndex, one("\x02a/\x01\x00\x00" + sum), api.ErrForm}, {"Kind 0", TellIndex, one("\x01a\x00\x00\x00"), api.ErrForm},
		{"Kind 0, and more behind", TellIndex, one("\x01a\x00\x00\x00" + sum), api.ErrLong}, {"a link's Mode", TellIndex, one("\x01a\x03\x01\x00\x01x"), api.ErrForm}, {"no Target", TellIndex, one("\x01a\x03\x00\x00\x00"), api.ErrForm},
		{"a Target with a blank", TellIndex, one("\x01a\x03\x00\x00\x03x y"), api.ErrForm}, {"a link with a directory's sum", TellIndex, one("\x01a\x03\x00\x00" + sum), api.ErrLong},
		// What can't be read in a later entry is told ahead of an earlier one that isn't right.
		{"no right path, then none", TellIndex, "\x00\x02\x02a/\x01\x00\x00" + sum, api.ErrShort}, {"no right path, then Kind 4", TellIndex, "\x00\x02\x02a/\x01\x00\x00" + sum + "\x01a\x04", api.ErrLong},
		{"Kind 0, then a directory", TellIndex, "\x00\x02\x01a\x00\x00\x00\x01b\x01\x00\x00" + sum, api.ErrForm}, {"two, one told", TellIndex, one(tentry(dir()) + tentry(file())), api.ErrLong},
		{"a Path too long, then no form", TellIndex, one(ttext(p+"p") + "\x81\x00"), api.ErrLong}, {"no form, then Mode 4096", TellIndex, one("\x01a\x81\x00\x80\x20"), api.ErrForm},
	}
	try(t, l)
	// Whatever is left of entries is too short.
	whole := "\x05" + tentries(dir(), file(), symlink())
	for n := range len(whole) {
		try(t, []bad{{"cut off", TellIndex, whole[:n], api.ErrShort}})
	}
}

// TestRead: 20.2, all entries that can't be right, but can be put, are ErrForm or vint's ErrLong.
func TestRead(t *testing.T) {
	for what, e := range wrongEntries() {
		if e.Kind < 1 || e.Kind > 3 || e.Mode < 0 || e.Time < 0 || e.Size < 0 {
			continue
		}
		// A size or a target that a kind's bytes don't have is not there when they are read.
		s := "\x00" + tentries(e)
		m, err := Get(TellIndex, s)
		if err == api.OK && (!Right(m) || body(m) != s) || err != api.OK && (err != api.ErrForm && err != api.ErrLong || !Same(m, Msg{})) {
			t.Errorf("%s: %v, %d", what, m, err)
		}
	}
}

// TestOneForm: 20.2 and 20.3, bodies that are read are those of the message that is told.
func TestOneForm(t *testing.T) {
	r := rand.New(rand.NewSource(20))
	some := []byte{0, 1, 2, 3, 4, 'a', 'b', '/', 127, 128, 129, 255}
	from := rights()
	read := map[int]int{}
	for range 60000 {
		m := from[r.Intn(len(from))]
		b := []byte(body(m))
		if len(b) > 3000 {
			continue
		}
		for range r.Intn(3) {
			switch at := r.Intn(len(b) + 1); {
			case at == len(b) || r.Intn(3) == 0:
				b = slices.Insert(b, at, some[r.Intn(len(some))])
			case r.Intn(3) == 0:
				b = b[:at]
			default:
				b[at] = some[r.Intn(len(some))]
			}
		}
		k := m.Kind
		if r.Intn(4) == 0 {
			k = r.Intn(13)
		}
		switch g, e := Get(k, string(b)); {
		case e == api.OK && (g.Kind != k || !Right(g) || body(g) != string(b)):
			t.Fatalf("%d, %.40x is read as %.100v", k, b, g)
		case e != api.OK && !Same(g, Msg{}):
			t.Fatalf("%d, %.40x: %.100v beside %d", k, b, g, e)
		case e == api.OK:
			read[k]++
		}
	}
	for k := AskIndex; k <= TellError; k++ {
		if read[k] < 100 {
			t.Errorf("of the kind %d only %d were read", k, read[k])
		}
	}
}

// TestApart: R5, messages that were read share no memory, and a list is not read behind its length.
func TestApart(t *testing.T) {
	all := []api.Entry{dir(), file(), symlink(), {}}
	m := Msg{Kind: TellIndex, Entries: all[:2]}
	s, ok := Put(m)
	if !ok || s != "\x00"+tentries(dir(), file()) || !slices.Equal(all, []api.Entry{dir(), file(), symlink(), {}}) {
		t.Errorf("Put reads behind a list, or changes it: %x, %t", s, ok)
	}
	x, _ := Get(TellIndex, s)
	y, _ := Get(TellIndex, s)
	x.Entries[0] = symlink()
	if !Same(y, m) {
		t.Errorf("entries share memory")
	}
	d := Msg{Kind: AskDelta, Sig: block.Of(some(30), 4)}
	s, _ = Put(d)
	x, _ = Get(AskDelta, s)
	y, _ = Get(AskDelta, s)
	x.Sig.Blocks[0] = block.Sign{}
	if !Same(y, d) {
		t.Errorf("signatures share memory")
	}
	if !Right(d) || !Same(d, Msg{Kind: AskDelta, Sig: block.Of(some(30), 4)}) {
		t.Errorf("Right or Put changed the message")
	}
}
