package port

import (
	"bytes"
	"flitting/api"
	"flitting/block"
	"flitting/crc"
	"flitting/frame"
	"flitting/link"
	"flitting/msg"
	"math"
	"math/rand"
	"slices"
	"strings"
	"testing"
)

// packet is the bytes of a message's frame.
func packet(boot, num uint64, m msg.Msg) []byte {
	body, _ := msg.Put(m)
	return frame.Put(frame.Frame{Kind: m.Kind, Boot: boot, Num: num, Body: body})
}

// questions is one right question of each kind.
func questions() []msg.Msg {
	return []msg.Msg{
		{Kind: msg.AskIndex, N: 7}, {Kind: msg.AskDelta, N: 1, At: 2, Sig: block.Of([]byte("0123456789"), 4)}, {Kind: msg.AskData, N: 3, At: 300},
		{Kind: msg.AskSame, N: 4, At: 5, Data: "xy", Yes: true}, {Kind: msg.AskDone, Code: api.ErrIO},
	}
}

// answers is one right answer of each kind.
func answers() []msg.Msg {
	return []msg.Msg{
		{Kind: msg.TellIndex, Total: 9, Entries: []api.Entry{{Path: "a", Kind: api.Dir, Mode: 3}, {Path: "b", Kind: api.Link, Size: 1, Target: "a"}}},
		{Kind: msg.TellDelta, Total: 8, Data: "z"}, {Kind: msg.TellData, Data: strings.Repeat("d", api.MaxPiece)},
		{Kind: msg.TellSame, Yes: true}, {Kind: msg.TellDone}, {Kind: msg.TellError, Code: api.ErrFrame},
	}
}

// wrongs is messages that aren't right.
func wrongs() []msg.Msg {
	return []msg.Msg{
		{}, {Kind: -1}, {Kind: 12}, {Kind: 255}, {Kind: math.MinInt}, {Kind: math.MaxInt}, {Kind: msg.AskIndex, N: 513}, {Kind: msg.AskIndex, N: -1}, {Kind: msg.AskIndex, At: 1},
		{Kind: msg.AskDelta}, {Kind: msg.AskData, At: msg.MostAt + 1}, {Kind: msg.AskDone, Code: 16}, {Kind: msg.AskSame, Data: strings.Repeat("x", api.MaxPiece+1)},
		{Kind: msg.TellError}, {Kind: msg.TellDone, Yes: true}, {Kind: msg.TellData, Data: strings.Repeat("x", api.MaxPiece+1)}, {Kind: msg.TellIndex, Entries: []api.Entry{{}}}, {Kind: msg.TellDelta, Total: -1},
	}
}

// index is an AskIndex.
func index(n int) msg.Msg { return msg.Msg{Kind: msg.AskIndex, N: n} }

// data is a TellData.
func data(s string) msg.Msg { return msg.Msg{Kind: msg.TellData, Data: s} }

// malformed is packets that are opened, but are no frame, or whose body is not read.
func malformed() [][]byte {
	l := [][]byte{crc.Seal(nil), crc.Seal([]byte{0}), crc.Seal([]byte{1, 1}), crc.Seal([]byte{1, 1, 1, 1}), crc.Seal([]byte{1, 1, 1, 0, 0}), crc.Seal([]byte{0x80, 0, 1, 1, 0}), crc.Seal([]byte{0x80, 2, 1, 1, 0})}
	for _, f := range []frame.Frame{
		{}, {Kind: 255}, {Kind: 255, Boot: 1, Num: 1}, {Kind: 12, Boot: 1, Num: 1}, {Kind: msg.AskIndex, Boot: 1, Num: 1}, {Kind: msg.AskIndex, Boot: 1, Num: 1, Body: "\x00\x00"},
		{Kind: msg.AskIndex, Boot: 1, Num: 1, Body: "\x81\x04"}, {Kind: msg.AskData, Boot: 1, Num: 1, Body: "\x80\x00\x01"}, {Kind: msg.AskDelta, Boot: 1, Num: 1, Body: "\x01\x02\x03\x03\x00\x00"},
		{Kind: msg.TellDone, Boot: 1, Num: 1, Body: "\x00"}, {Kind: msg.TellError, Boot: 1, Num: 1, Body: "\x00"}, {Kind: msg.TellData, Boot: 1, Num: 1, Body: "\x02a"}, {Kind: msg.TellSame, Boot: 1, Num: 1, Body: "\x02"},
	} {
		l = append(l, frame.Put(f))
	}
	return l
}

// closed is packets that are not opened, each with crc.Open's error.
func closed() map[string]api.Errno {
	q, a := string(packet(1, 1, index(0))), string(packet(1, 1, data("x")))
	l := map[string]api.Errno{"": api.ErrShort, "\x00": api.ErrShort, "\x00\x00\x00": api.ErrShort, "\x00\x00\x00\x01": api.ErrSum, "\xff\xff\xff\xff\xff": api.ErrSum}
	for _, s := range []string{q, a} {
		l[s[:3]], l[s[:len(s)-1]], l[s+"\x00"] = api.ErrShort, api.ErrSum, api.ErrSum
		l[string(crc.Turn([]byte(s), 0, 1))] = api.ErrSum
	}
	return l
}

// ticker is what Tick is called of.
type ticker interface{ Tick() ([]byte, bool) }

// ticks calls Tick so often as there are signs, and tells whether b comes just at those that are x.
func ticks(t *testing.T, p ticker, signs string, b []byte) {
	t.Helper()
	for i, c := range signs {
		g, ok := p.Tick()
		if ok != (c == 'x') || ok && !bytes.Equal(g, b) || !ok && len(g) != 0 {
			t.Fatalf("%s: at %d % x, %t, not % x", signs, i, g, ok, b)
		}
	}
}

// asking is an asker of which the n-th question is open, and was sent once.
func asking(t *testing.T, boot uint64, n int) *Asker {
	t.Helper()
	a := NewAsker(boot)
	for i := range n {
		if !a.Ask(index(i)) {
			t.Fatalf("not asked: %d", i)
		}
		ticks(t, a, "x", packet(boot, uint64(i+1), index(i)))
		if i == n-1 {
			break
		}
		if _, e := a.Take(packet(boot, uint64(i+1), data(""))); e != api.OK {
			t.Fatalf("not answered: %d, %d", i, e)
		}
	}
	return a
}

// answering is an answerer that got a question.
func answering(t *testing.T, boot, num uint64) *Answerer {
	t.Helper()
	a := NewAnswerer()
	if m, e := a.Take(packet(boot, num, index(1))); e != api.OK || !msg.Same(m, index(1)) {
		t.Fatalf("the first question: %v, %d", m, e)
	}
	return a
}

// TestAsk: 22.1, what is asked, and how often.
func TestAsk(t *testing.T) {
	for _, boot := range []uint64{0, 1, 300, math.MaxUint64} {
		a := NewAsker(boot)
		if a.Open() || a.Asked() != 0 {
			t.Errorf("new: %t, %d", a.Open(), a.Asked())
		}
		ticks(t, a, "...", nil)
		for i, m := range questions() {
			if !a.Ask(m) || !a.Open() || a.Asked() != i+1 {
				t.Errorf("question %d: %t, %d", i, a.Open(), a.Asked())
			}
			// While one is open no other one is asked.
			for _, n := range questions() {
				if a.Ask(n) || a.Asked() != i+1 {
					t.Errorf("question %d: another one was asked, %d", i, a.Asked())
				}
			}
			ticks(t, a, "x...x...x", packet(boot, uint64(i+1), m))
			if g, e := a.Take(packet(boot, uint64(i+1), data("d"))); e != api.OK || !msg.Same(g, data("d")) || a.Open() || a.Asked() != i+1 {
				t.Errorf("answer %d: %v, %d, %t, %d", i, g, e, a.Open(), a.Asked())
			}
			ticks(t, a, ".....", nil)
		}
	}
}

// TestAskWrong: 22.1, what isn't right, or doesn't ask, is not asked.
func TestAskWrong(t *testing.T) {
	a := NewAsker(1)
	for _, m := range append(wrongs(), answers()...) {
		if a.Ask(m) || a.Open() || a.Asked() != 0 {
			t.Errorf("%.80v was asked: %t, %d", m, a.Open(), a.Asked())
		}
		ticks(t, a, ".", nil)
	}
	// The next one is the first, all the same.
	if !a.Ask(index(3)) || a.Asked() != 1 {
		t.Errorf("not asked: %d", a.Asked())
	}
	ticks(t, a, "x", packet(1, 1, index(3)))
}

// TestRhythm: 22.1 and its example, the first Tick sends, and each fourth one behind that; each question begins anew.
func TestRhythm(t *testing.T) {
	for _, head := range []string{"", "x", "x.", "x..", "x...", "x...x."} {
		a := NewAsker(2)
		a.Ask(index(0))
		ticks(t, a, head, packet(2, 1, index(0)))
		// A packet that is no answer changes nothing of it, nor does one that can't be asked.
		a.Take(nil)
		a.Take(packet(2, 2, data("")))
		a.Take(frame.Put(frame.Frame{Kind: 255}))
		a.Ask(index(5))
		ticks(t, a, "x...x...x...x..."[len(head):], packet(2, 1, index(0)))
		if _, e := a.Take(packet(2, 1, data(""))); e != api.OK {
			t.Fatalf("not answered: %d", e)
		}
		ticks(t, a, "...", nil)
		a.Ask(index(1))
		ticks(t, a, "x...x...", packet(2, 2, index(1)))
	}
}

// TestAskerTake: 22.2, which answers are taken.
func TestAskerTake(t *testing.T) {
	for i, m := range answers() {
		a := asking(t, 4, i+1)
		if g, e := a.Take(packet(4, uint64(i+1), m)); e != api.OK || !msg.Same(g, m) || a.Open() || a.Asked() != i+1 {
			t.Errorf("%.80v: %.80v, %d, %t, %d", m, g, e, a.Open(), a.Asked())
		}
		// The same once more: none is open.
		if g, e := a.Take(packet(4, uint64(i+1), m)); e != api.ErrState || !msg.Same(g, msg.Msg{}) {
			t.Errorf("%.80v, once more: %.80v, %d", m, g, e)
		}
	}
	for _, x := range []struct{ boot, num uint64 }{{4, 1}, {4, 2}, {4, 4}, {3, 3}, {5, 3}, {0, 3}, {4, 0}, {0, 0}, {4, math.MaxUint64}, {math.MaxUint64, 3}, {4, 3 + 1<<32}, {4 + 1<<32, 3}} {
		a := asking(t, 4, 3)
		for _, m := range answers() {
			if g, e := a.Take(packet(x.boot, x.num, m)); e != api.ErrState || !msg.Same(g, msg.Msg{}) || !a.Open() {
				t.Errorf("%d, %d: %.80v, %d, %t", x.boot, x.num, g, e, a.Open())
			}
		}
		ticks(t, a, "...x", packet(4, 3, index(2)))
		if _, e := a.Take(packet(4, 3, data("y"))); e != api.OK {
			t.Errorf("%d, %d, then the answer: %d", x.boot, x.num, e)
		}
	}
}

// TestAskerWrong: 22.2, packets that are not opened, or are malformed, whether a question is open, or not.
func TestAskerWrong(t *testing.T) {
	for _, a := range []*Asker{asking(t, 1, 1), NewAsker(1), {}} {
		open := a.Open()
		try := func(b []byte, want api.Errno) {
			t.Helper()
			if m, e := a.Take(b); e != want || !msg.Same(m, msg.Msg{}) || a.Open() != open {
				t.Errorf("% .40x: %v, %d, not %d; open %t", b, m, e, want, a.Open())
			}
		}
		for s, e := range closed() {
			try([]byte(s), e)
		}
		try(nil, api.ErrShort)
		for _, b := range malformed() {
			try(b, api.ErrFrame)
		}
		// One that asks is malformed, whatever its numbers are.
		for _, m := range questions() {
			try(packet(1, 1, m), api.ErrFrame)
			try(packet(0, 0, m), api.ErrFrame)
			try(packet(9, 9, m), api.ErrFrame)
		}
		if !open {
			try(packet(1, 1, data("")), api.ErrState)
			try(packet(0, 0, data("")), api.ErrState)
			try(packet(1, 0, data("")), api.ErrState)
		}
	}
}

// TestAnswererTake: 22.3, which questions are taken.
func TestAnswererTake(t *testing.T) {
	for _, m := range questions() {
		for _, boot := range []uint64{0, 1, math.MaxUint64} {
			for _, a := range []*Answerer{NewAnswerer(), {}} {
				if g, e := a.Take(packet(boot, boot/3, m)); e != api.OK || !msg.Same(g, m) {
					t.Errorf("%.80v: %.80v, %d", m, g, e)
				}
				if g, e := a.Take(packet(boot, boot/3, m)); e != api.ErrExists || !msg.Same(g, msg.Msg{}) {
					t.Errorf("%.80v, once more: %.80v, %d", m, g, e)
				}
			}
		}
	}
	for _, x := range []struct {
		boot, num uint64
		want      api.Errno
	}{
		{4, 3, api.ErrExists}, {4, 2, api.ErrState}, {4, 0, api.ErrState}, {3, 9, api.ErrState}, {0, 0, api.ErrState}, {3, math.MaxUint64, api.ErrState}, {4, 4, api.OK}, {4, 9, api.OK},
		{4, math.MaxUint64, api.OK}, {5, 0, api.OK}, {5, 3, api.OK}, {5, 1, api.OK}, {math.MaxUint64, 0, api.OK},
	} {
		for _, answered := range []bool{false, true} {
			for _, m := range questions() {
				a := answering(t, 4, 3)
				if answered {
					a.Answer(data("a"))
				}
				// Those that are of one question with another one are so by their numbers alone.
				g, e := a.Take(packet(x.boot, x.num, m))
				if e != x.want || e == api.OK && !msg.Same(g, m) || e != api.OK && !msg.Same(g, msg.Msg{}) {
					t.Errorf("%d, %d: %.80v, %d, not %d", x.boot, x.num, g, e, x.want)
				}
				if e != api.OK && answered {
					ticks(t, a, "...x", packet(4, 3, data("a")))
					continue
				}
				// A question that is taken has no answer yet, even if the one ahead had one.
				ticks(t, a, ".....", nil)
				boot, num := x.boot, x.num
				if e != api.OK {
					boot, num = 4, 3
				}
				if b, ok := a.Answer(data("b")); !ok || !bytes.Equal(b, packet(boot, num, data("b"))) {
					t.Errorf("%d, %d: answered by % x, %t", x.boot, x.num, b, ok)
				}
			}
		}
	}
}

// TestAnswererWrong: 22.3, packets that are not opened, or are malformed.
func TestAnswererWrong(t *testing.T) {
	answered := answering(t, 1, 1)
	answered.Answer(data("z"))
	for _, a := range []*Answerer{NewAnswerer(), {}, answering(t, 1, 1), answered} {
		try := func(b []byte, want api.Errno) {
			t.Helper()
			if m, e := a.Take(b); e != want || !msg.Same(m, msg.Msg{}) {
				t.Errorf("% .40x: %v, %d, not %d", b, m, e, want)
			}
		}
		for s, e := range closed() {
			try([]byte(s), e)
		}
		try(nil, api.ErrShort)
		for _, b := range malformed() {
			try(b, api.ErrFrame)
		}
		// One that doesn't ask is malformed, whatever its numbers are.
		for _, m := range answers() {
			try(packet(1, 1, m), api.ErrFrame)
			try(packet(0, 0, m), api.ErrFrame)
			try(packet(9, 9, m), api.ErrFrame)
		}
		if a.got {
			try(packet(1, 1, index(0)), api.ErrExists)
		} else if m, e := a.Take(packet(0, 0, index(0))); e != api.OK || !msg.Same(m, index(0)) {
			t.Errorf("a first question with the numbers 0: %v, %d", m, e)
		}
	}
	ticks(t, answered, "...x", packet(1, 1, data("z")))
}

// TestAnswer: 22.3, what is answered, and how often.
func TestAnswer(t *testing.T) {
	for _, m := range answers() {
		a := answering(t, 7, 300)
		ticks(t, a, ".....", nil)
		b, ok := a.Answer(m)
		if !ok || !bytes.Equal(b, packet(7, 300, m)) {
			t.Errorf("%.80v: % .40x, %t", m, b, ok)
		}
		// It has an answer: there is no other one.
		for _, n := range answers() {
			if b, ok := a.Answer(n); ok || len(b) != 0 {
				t.Errorf("%.80v: answered again by %.80v, % .40x", m, n, b)
			}
		}
		ticks(t, a, "...x...x...x...", packet(7, 300, m))
		if _, e := a.Take(packet(7, 300, index(1))); e != api.ErrExists {
			t.Errorf("once more: %d", e)
		}
		ticks(t, a, "x...x.", packet(7, 300, m))
		// The next question: the old answer is sent no more, and the new one's ticks begin anew.
		if _, e := a.Take(packet(7, 301, index(2))); e != api.OK {
			t.Errorf("the next question: %d", e)
		}
		ticks(t, a, "......", nil)
		if b, ok := a.Answer(data("n")); !ok || !bytes.Equal(b, packet(7, 301, data("n"))) {
			t.Errorf("the next answer: % x, %t", b, ok)
		}
		ticks(t, a, "...x...x", packet(7, 301, data("n")))
	}
}

// TestAnswerWrong: 22.3, what isn't right, or asks, is no answer, and nothing is one ahead of a question.
func TestAnswerWrong(t *testing.T) {
	for _, a := range []*Answerer{NewAnswerer(), {}} {
		for _, m := range slices.Concat(wrongs(), questions(), answers()) {
			if b, ok := a.Answer(m); ok || len(b) != 0 {
				t.Errorf("without a question: % .40x, %t", b, ok)
			}
		}
		ticks(t, a, ".....", nil)
	}
	a := answering(t, 1, 1)
	for _, m := range append(wrongs(), questions()...) {
		if b, ok := a.Answer(m); ok || len(b) != 0 {
			t.Errorf("%.80v: % .40x, %t", m, b, ok)
		}
		ticks(t, a, ".....", nil)
	}
	if b, ok := a.Answer(data("a")); !ok || !bytes.Equal(b, packet(1, 1, data("a"))) {
		t.Errorf("then: % x, %t", b, ok)
	}
}

// TestLong: 22.3, of a right answer whose body no frame can have there are no bytes, but it is the answer.
func TestLong(t *testing.T) {
	var l []api.Entry
	for range api.MaxNodes {
		e := api.Entry{Path: strings.Repeat(strings.Repeat("n", api.MaxName)+"/", api.MaxDepth-1) + "x", Kind: api.File, Size: api.MaxFile, Time: api.MaxTime}
		for i := range e.Sketch {
			e.Sketch[i] = math.MaxUint64
		}
		l = append(l, e)
	}
	m := msg.Msg{Kind: msg.TellIndex, Entries: l}
	if body, ok := msg.Put(m); !ok || len(body) <= frame.MostBody {
		t.Fatalf("the message is not right, or short: %t, %d", ok, len(body))
	}
	a := answering(t, 1, 1)
	if b, ok := a.Answer(m); !ok || len(b) != 0 {
		t.Errorf("%d bytes, %t", len(b), ok)
	}
	ticks(t, a, "...x", nil)
	if b, ok := a.Answer(data("")); ok || len(b) != 0 {
		t.Errorf("answered again: %d bytes, %t", len(b), ok)
	}
}

// TestNil: 22.4, of nil, and of zero objects.
func TestNil(t *testing.T) {
	var a *Asker
	var b *Answerer
	ticks(t, a, "..", nil)
	ticks(t, b, "..", nil)
	for _, m := range slices.Concat(wrongs(), questions(), answers()) {
		if a.Ask(m) || a.Open() || a.Asked() != 0 {
			t.Errorf("of nil was asked: %.80v", m)
		}
		if x, ok := b.Answer(m); ok || len(x) != 0 {
			t.Errorf("of nil was answered: % x, %t", x, ok)
		}
	}
	for _, x := range append(malformed(), nil, []byte("\xff\xff\xff\xff\xff"), packet(0, 0, index(0)), packet(0, 0, data("")), packet(1, 1, data(""))) {
		if m, e := a.Take(x); e != api.ErrState || !msg.Same(m, msg.Msg{}) {
			t.Errorf("an asker that is nil took % x: %v, %d", x, m, e)
		}
		if m, e := b.Take(x); e != api.ErrState || !msg.Same(m, msg.Msg{}) {
			t.Errorf("an answerer that is nil took % x: %v, %d", x, m, e)
		}
	}
	var zero Asker
	if !zero.Ask(index(0)) || zero.Asked() != 1 {
		t.Errorf("a zero asker doesn't ask: %d", zero.Asked())
	}
	ticks(t, &zero, "x...x", packet(0, 1, index(0)))
	if m, e := zero.Take(packet(0, 1, data("a"))); e != api.OK || !msg.Same(m, data("a")) {
		t.Errorf("a zero asker: %v, %d", m, e)
	}
}

// TestApart: R5, packets are new memory each time, and nothing that is handed in or out is kept.
func TestApart(t *testing.T) {
	a := NewAsker(1)
	m := msg.Msg{Kind: msg.AskDelta, Sig: block.Of([]byte("0123456789"), 4)}
	want := packet(1, 1, m)
	a.Ask(m)
	clear(m.Sig.Blocks)
	for range 2 {
		b, _ := a.Tick()
		if !bytes.Equal(b, want) {
			t.Errorf("the question was changed: % x", b)
		}
		clear(b)
		ticks(t, a, "...", nil)
	}
	x := NewAnswerer()
	g, e := x.Take(want)
	if e != api.OK || len(g.Sig.Blocks) != 2 || !bytes.Equal(want, packet(1, 1, g)) {
		t.Errorf("the question: %v, %d", g, e)
	}
	n := answers()[0]
	said := packet(1, 1, n)
	b, _ := x.Answer(n)
	if !bytes.Equal(b, said) {
		t.Errorf("the answer: % x", b)
	}
	clear(b)
	clear(n.Entries)
	for range 2 {
		ticks(t, x, "...", nil)
		b, _ := x.Tick()
		if !bytes.Equal(b, said) {
			t.Errorf("the answer was changed: % x", b)
		}
		clear(b)
	}
	was := slices.Clone(said)
	if g, e := a.Take(said); e != api.OK || !msg.Same(g, answers()[0]) || !bytes.Equal(said, was) {
		t.Errorf("taken: %v, %d", g, e)
	}
}

// pair is an asker and an answerer, the link between them, and what was asked and told till now.
type pair struct {
	r     *rand.Rand
	l     *link.Link
	a     *Asker
	b     *Answerer
	boot  uint64
	n     int            // questions that were answered
	open  int            // what the open question has as its N
	told  map[int]string // by question what was answered to it
	taken int            // answers that were taken
}

// answer is what is answered to the question that has n; no other one is answered so.
func answer(p *pair, n int) msg.Msg {
	return data(strings.Repeat("a", n%200) + string(rune('0'+p.n%10)))
}

// send lays what a Tick, or an answer, tells on a way.
func (p *pair) send(way int, b []byte, ok bool) {
	if ok {
		p.l.Send(way, b)
	}
}

// disturb loses, doubles or turns a packet.
func (p *pair) disturb() {
	way := p.r.Intn(2)
	i := p.r.Intn(p.l.Len(way) + 1)
	switch p.r.Intn(3) {
	case 0:
		p.l.Drop(way, i)
	case 1:
		p.l.Double(way, i)
	default:
		p.l.Turn(way, i, p.r.Intn(20)-3, 1<<p.r.Intn(32))
	}
}

// ask does a step of the asker; a crash of it begins the next start.
func (p *pair) ask() {
	if p.r.Intn(60) == 0 {
		p.boot++
		p.a = NewAsker(p.boot)
	}
	if !p.a.Open() {
		p.open++
		p.a.Ask(index(p.open % 512))
	}
	b, ok := p.a.Tick()
	p.send(0, b, ok)
}

// toAnswerer delivers a packet to the answerer, and tells whether all is well: no question is answered twice.
func (p *pair) toAnswerer() bool {
	b, ok := p.l.Deliver(0, p.r.Intn(p.l.Len(0)+1))
	if !ok {
		b, ok = p.b.Tick()
		p.send(1, b, ok)
		return true
	}
	m, e := p.b.Take(b)
	if e != api.OK {
		return e == api.ErrSum || e == api.ErrShort || e == api.ErrExists || e == api.ErrState
	}
	_, twice := p.told[m.N]
	p.n++
	w := answer(p, m.N)
	p.told[m.N] = w.Data
	b, ok = p.b.Answer(w)
	p.send(1, b, ok)
	return ok && !twice
}

// toAsker delivers a packet to the asker, and tells whether all is well: what it takes was answered to the open question.
func (p *pair) toAsker() bool {
	b, ok := p.l.Deliver(1, p.r.Intn(p.l.Len(1)+1))
	if !ok {
		return true
	}
	open := p.a.Open()
	m, e := p.a.Take(b)
	if e != api.OK {
		return (e == api.ErrSum || e == api.ErrShort || e == api.ErrState) && p.a.Open() == open
	}
	p.taken++
	s, there := p.told[p.open]
	return open && there && m.Data == s
}

// TestPair: 22.5, whatever the link does, what is taken as an answer was answered to that very question, and each question is answered once.
func TestPair(t *testing.T) {
	for seed := range int64(20) {
		r := rand.New(rand.NewSource(seed))
		p := &pair{r: r, l: link.New(), a: NewAsker(1), b: NewAnswerer(), boot: 1, told: map[int]string{}}
		// No question has the N of another one while there are at most 511.
		for n := 0; p.open < 511; n++ {
			if n > 100000 {
				t.Fatalf("seed %d: it doesn't end", seed)
			}
			ok := true
			switch r.Intn(5) {
			case 0:
				p.disturb()
			case 1, 2:
				p.ask()
			case 3:
				ok = p.toAnswerer()
			default:
				ok = p.toAsker()
			}
			if !ok {
				t.Fatalf("seed %d, step %d: question %d is answered wrongly, or twice", seed, n, p.open)
			}
		}
		if p.taken < 100 || p.taken > p.n {
			t.Errorf("seed %d: %d answers of %d were taken", seed, p.taken, p.n)
		}
	}
}
