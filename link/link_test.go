package link

import (
	"bytes"
	"flitting/api"
	"flitting/crc"
	"math"
	"math/rand"
	"slices"
	"strconv"
	"strings"
	"testing"
)

// held is a packet as a test holds it: its bytes, those that were sent, and whether it was turned.
type held struct {
	data, from string
	turned     bool
}

// hold is a way as a test holds it.
type hold struct {
	l          []held
	sent, lost int
}

// add lays a packet behind the others.
func (h *hold) add(p held) {
	h.l = append(h.l, p)
	if len(h.l) > 16 {
		h.l, h.lost = h.l[1:], h.lost+1
	}
}

// out takes a packet out.
func (h *hold) out(i int) held {
	p := h.l[i]
	h.l = append(slices.Clone(h.l[:i]), h.l[i+1:]...)
	return p
}

// turned is a text over which a mask's bytes were laid, one by one.
func turned(s string, at int, mask uint32) string {
	b := []byte(s)
	for i := range 4 {
		if at >= -i && at < len(b)-i {
			b[at+i] ^= byte(mask >> (8 * i))
		}
	}
	return string(b)
}

// told is how many packets are on both ways, were sent, and were lost.
func told(l *Link) [6]int {
	return [6]int{l.Len(0), l.Len(1), l.Sent(0), l.Sent(1), l.Lost(0), l.Lost(1)}
}

// drained is a way's packets, from the first one on.
func drained(t *testing.T, l *Link, way int) string {
	t.Helper()
	var out []string
	for l.Len(way) > 0 {
		n := l.Len(way)
		b, ok := l.Deliver(way, 0)
		if !ok || l.Len(way) != n-1 {
			t.Fatalf("%d of %d packets: %t, %d are left", way, n, ok, l.Len(way))
		}
		out = append(out, string(b))
	}
	return strings.Join(out, " ")
}

// full is a link on whose way are packets of the texts 0 to 15.
func full(way int) *Link {
	l := New()
	for i := range api.Room {
		l.Send(way, []byte(strconv.Itoa(i)))
	}
	return l
}

// TestNew: 21.1, nothing is on any way.
func TestNew(t *testing.T) {
	for _, l := range []*Link{New(), {}, new(Link)} {
		if told(l) != [6]int{} {
			t.Errorf("a new link: %v", told(l))
		}
		for way := range 2 {
			if b, ok := l.Deliver(way, 0); ok || len(b) != 0 {
				t.Errorf("delivered: %q, %t", b, ok)
			}
			if l.Drop(way, 0) || l.Double(way, 0) || l.Turn(way, 0, 0, 1) {
				t.Errorf("a packet was found on the way %d", way)
			}
		}
		if told(l) != [6]int{} {
			t.Errorf("a new link is changed: %v", told(l))
		}
		// 21.2, a zero link is as New's.
		l.Send(1, []byte("x"))
		if told(l) != [6]int{0, 1, 0, 1, 0, 0} || drained(t, l, 1) != "x" {
			t.Errorf("sent: %v", told(l))
		}
	}
}

// TestExample: the chapter's example.
func TestExample(t *testing.T) {
	l := New()
	l.Send(0, []byte("a"))
	l.Send(0, []byte("b"))
	if !l.Double(0, 0) {
		t.Errorf("not doubled")
	}
	if b, ok := l.Deliver(0, 1); string(b) != "b" || !ok {
		t.Errorf("Deliver: %q, %t", b, ok)
	}
	if s := drained(t, l, 0); s != "a a" || told(l) != [6]int{0, 0, 2, 0, 0, 0} {
		t.Errorf("then: %s, %v", s, told(l))
	}
}

// TestRoom: 21.1, behind 16 packets the first one is lost, for one that is sent and for one that is doubled.
func TestRoom(t *testing.T) {
	for way := range 2 {
		l := full(way)
		if l.Len(way) != 16 || l.Sent(way) != 16 || l.Lost(way) != 0 {
			t.Errorf("16: %v", told(l))
		}
		l.Send(way, []byte("x"))
		if l.Len(way) != 16 || l.Sent(way) != 17 || l.Lost(way) != 1 {
			t.Errorf("17: %v", told(l))
		}
		if l.Len(1-way) != 0 || l.Sent(1-way) != 0 || l.Lost(1-way) != 0 {
			t.Errorf("the other way: %v", told(l))
		}
		if s := drained(t, l, way); s != "1 2 3 4 5 6 7 8 9 10 11 12 13 14 15 x" || l.Lost(way) != 1 {
			t.Errorf("17: %s", s)
		}
		for i, want := range map[int]string{0: "0", 1: "1", 15: "15"} {
			l = full(way)
			if !l.Double(way, i) || l.Len(way) != 16 || l.Sent(way) != 16 || l.Lost(way) != 1 {
				t.Errorf("doubled %d: %v", i, told(l))
			}
			if s := drained(t, l, way); s != "1 2 3 4 5 6 7 8 9 10 11 12 13 14 15 "+want {
				t.Errorf("doubled %d: %s", i, s)
			}
		}
	}
}

// TestOut: 21.1, packets at any place are delivered, or lost; the others stay in order.
func TestOut(t *testing.T) {
	for i, want := range map[int]string{0: "1 2 3", 1: "0 2 3", 2: "0 1 3", 3: "0 1 2"} {
		for way := range 2 {
			l, m := New(), New()
			for k := range 4 {
				l.Send(way, []byte(strconv.Itoa(k)))
				m.Send(way, []byte(strconv.Itoa(k)))
			}
			if b, ok := l.Deliver(way, i); !ok || string(b) != strconv.Itoa(i) || l.Len(way) != 3 || l.Lost(way) != 0 || l.Sent(way) != 4 {
				t.Errorf("Deliver %d: %q, %t, %v", i, b, ok, told(l))
			}
			if !m.Drop(way, i) || m.Len(way) != 3 || m.Lost(way) != 1 || m.Sent(way) != 4 {
				t.Errorf("Drop %d: %v", i, told(m))
			}
			if s, u := drained(t, l, way), drained(t, m, way); s != want || u != want {
				t.Errorf("without %d: %s, and %s", i, s, u)
			}
		}
	}
}

// TestTurn: 21.1, a packet is turned as crc.Turn does, once at most, even if no byte changed; a double of it was turned, too.
func TestTurn(t *testing.T) {
	for _, s := range []string{"", "a", "abc", "abcdefgh"} {
		for _, at := range []int{math.MinInt, -4, -3, -1, 0, 1, 2, 6, 8, 9, math.MaxInt} {
			for _, mask := range []uint32{0, 1, 0x80000000, 0x12345678, math.MaxUint32} {
				l := New()
				l.Send(0, []byte("x"))
				l.Send(0, []byte(s))
				if !l.Turn(0, 1, at, mask) {
					t.Errorf("%q, %d, %x: not turned", s, at, mask)
				}
				if l.Turn(0, 1, 0, 7) || l.Turn(0, 1, at, mask) {
					t.Errorf("%q, %d, %x: turned twice", s, at, mask)
				}
				if !l.Double(0, 1) || l.Turn(0, 2, at, mask) || !l.Turn(0, 0, 0, 1) {
					t.Errorf("%q, %d, %x: the double, or the first one", s, at, mask)
				}
				want := turned(s, at, mask)
				if got := drained(t, l, 0); got != strings.Join([]string{"y", want, want}, " ") || told(l) != [6]int{0, 0, 2, 0, 0, 0} {
					t.Errorf("%q, %d, %x: %q, %v", s, at, mask, got, told(l))
				}
			}
		}
	}
}

// TestDouble: 21.1, of a packet and its double each one may be turned by itself; a packet at a place where a turned one was is not turned.
func TestDouble(t *testing.T) {
	l := New()
	l.Send(1, []byte("abcd"))
	l.Double(1, 0)
	if !l.Turn(1, 1, 0, 3) || !l.Turn(1, 0, 1, 1) || l.Turn(1, 0, 0, 1) || l.Turn(1, 1, 0, 1) {
		t.Errorf("turned one by one: %v", told(l))
	}
	if s := drained(t, l, 1); s != "accd bbcd" {
		t.Errorf("turned one by one: %s", s)
	}
	l.Send(1, []byte("a"))
	if !l.Turn(1, 0, 0, 1) || !l.Drop(1, 0) {
		t.Errorf("not turned, or not lost")
	}
	l.Send(1, []byte("a"))
	l.Send(1, []byte("b"))
	if !l.Turn(1, 0, 0, 1) || !l.Drop(1, 0) || !l.Turn(1, 0, 0, 1) || drained(t, l, 1) != "c" {
		t.Errorf("a packet counts as turned, as the one ahead was")
	}
}

// TestNone: 21.1 and 21.2, where there is no packet, or no way, nothing is done.
func TestNone(t *testing.T) {
	l := New()
	l.Send(0, []byte("a"))
	l.Send(0, []byte("b"))
	l.Send(1, []byte("c"))
	was := told(l)
	try := func(way, i int) {
		t.Helper()
		if b, ok := l.Deliver(way, i); ok || len(b) != 0 {
			t.Errorf("Deliver(%d, %d): %q, %t", way, i, b, ok)
		}
		if l.Drop(way, i) || l.Double(way, i) || l.Turn(way, i, 0, 1) {
			t.Errorf("%d, %d: a packet was found", way, i)
		}
		if told(l) != was {
			t.Errorf("%d, %d: %v, not %v", way, i, told(l), was)
		}
	}
	for _, i := range []int{math.MinInt, -16, -2, -1, 2, 3, 15, 16, 17, math.MaxInt} {
		try(0, i)
	}
	for _, i := range []int{math.MinInt, -1, 1, 2, 16, math.MaxInt} {
		try(1, i)
	}
	for _, way := range []int{math.MinInt, -2, -1, 2, 3, 256, 1 << 32, math.MaxInt} {
		for _, i := range []int{math.MinInt, -1, 0, 1, math.MaxInt} {
			try(way, i)
		}
		l.Send(way, []byte("x"))
		if l.Len(way) != 0 || l.Sent(way) != 0 || l.Lost(way) != 0 || told(l) != was {
			t.Errorf("the way %d: %d, %d, %d, %v", way, l.Len(way), l.Sent(way), l.Lost(way), told(l))
		}
	}
	if s, u := drained(t, l, 0), drained(t, l, 1); s != "a b" || u != "c" {
		t.Errorf("then: %s, and %s", s, u)
	}
}

// TestNil: 21.2, a link that nobody made.
func TestNil(t *testing.T) {
	var l *Link
	for _, way := range []int{-1, 0, 1, 2} {
		l.Send(way, []byte("a"))
		if b, ok := l.Deliver(way, 0); ok || len(b) != 0 {
			t.Errorf("Deliver: %q, %t", b, ok)
		}
		if l.Len(way) != 0 || l.Sent(way) != 0 || l.Lost(way) != 0 || l.Drop(way, 0) || l.Double(way, 0) || l.Turn(way, 0, 0, 1) {
			t.Errorf("of nil something is told of the way %d", way)
		}
	}
}

// TestEmpty: 21.1, a packet may have no bytes, and many.
func TestEmpty(t *testing.T) {
	l := New()
	l.Send(0, nil)
	l.Send(0, []byte{})
	long := bytes.Repeat([]byte("0123456789abcdef"), 1<<14)
	l.Send(0, long)
	for range 2 {
		if b, ok := l.Deliver(0, 0); !ok || len(b) != 0 {
			t.Errorf("nothing: %q, %t", b, ok)
		}
	}
	if b, ok := l.Deliver(0, 0); !ok || !bytes.Equal(b, long) {
		t.Errorf("long: %d bytes, %t", len(b), ok)
	}
	if told(l) != [6]int{0, 0, 3, 0, 0, 0} {
		t.Errorf("told: %v", told(l))
	}
}

// TestApart: R5, packets share no memory with what was handed in, with one another, or with what was delivered; what lies behind a list's length is left alone.
func TestApart(t *testing.T) {
	l := New()
	b := []byte("abcdef")[:3]
	l.Send(0, b)
	if string(b[:6]) != "abcdef" {
		t.Errorf("what was handed in is changed: %s", b[:6])
	}
	clear(b[:6])
	l.Double(0, 0)
	l.Double(0, 0)
	l.Turn(0, 1, 0, 1)
	x, _ := l.Deliver(0, 0)
	if string(x) != "abc" {
		t.Errorf("the first one: %q", x)
	}
	clear(x[:cap(x)])
	if s := drained(t, l, 0); s != "`bc abc" {
		t.Errorf("the others: %q", s)
	}
	if crc.Sum(x) != crc.Sum(make([]byte, 3)) {
		t.Errorf("what was delivered is changed: %q", x)
	}
}

// tried does a call on both the link and what a test holds of it, and tells whether they tell the same.
func tried(r *rand.Rand, l *Link, w []hold, n int) bool {
	way := r.Intn(2)
	h := &w[way]
	i := r.Intn(len(h.l)+2) - r.Intn(2)*r.Intn(2)
	there := i >= 0 && i < len(h.l)
	switch r.Intn(9) {
	case 0, 1, 2:
		s := strings.Repeat(strconv.Itoa(n)+",", r.Intn(3))
		l.Send(way, []byte(s))
		h.sent++
		h.add(held{data: s, from: s})
	case 3, 4:
		b, ok := l.Deliver(way, i)
		if !there {
			return !ok && len(b) == 0
		}
		p := h.out(i)
		return ok && string(b) == p.data && (p.turned || p.data == p.from)
	case 5:
		if l.Drop(way, i) != there {
			return false
		}
		if there {
			h.out(i)
			h.lost++
		}
	case 6, 7:
		if l.Double(way, i) != there {
			return false
		}
		if there {
			h.add(h.l[i])
		}
	default:
		at, mask := r.Intn(12)-4, r.Uint32()
		may := there && !h.l[i].turned
		if l.Turn(way, i, at, mask) != may {
			return false
		}
		if may {
			h.l[i] = held{data: turned(h.l[i].data, at, mask), from: h.l[i].from, turned: true}
		}
	}
	return true
}

// TestWhole: 21.1 to 21.3, whatever is called, the link tells what the document says; what is delivered was sent on that way, or is turned once from what was.
func TestWhole(t *testing.T) {
	for seed := range int64(40) {
		r := rand.New(rand.NewSource(seed))
		l, w := New(), make([]hold, 2)
		for n := range 1000 {
			if !tried(r, l, w, n) {
				t.Fatalf("seed %d, call %d: another answer", seed, n)
			}
			if want := [6]int{len(w[0].l), len(w[1].l), w[0].sent, w[1].sent, w[0].lost, w[1].lost}; told(l) != want {
				t.Fatalf("seed %d, call %d: %v, not %v", seed, n, told(l), want)
			}
		}
		if w[0].lost < 20 || w[1].lost < 20 {
			t.Errorf("seed %d: only %d and %d were lost", seed, w[0].lost, w[1].lost)
		}
	}
}
