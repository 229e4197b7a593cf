package journal

import (
	"flitting/sample"
	"math"
	"math/rand"
	"slices"
	"strconv"
	"strings"
	"testing"
)

// most is the greatest number that a record may have.
const most = 2147483647

// TestNumbers: the kinds have the numbers that the document names.
func TestNumbers(t *testing.T) {
	if l := []int{Start, Plan, Did, End}; !slices.Equal(l, []int{1, 2, 3, 4}) {
		t.Errorf("%v", l)
	}
}

// TestLine: 32.1, a record's line, or none.
func TestLine(t *testing.T) {
	for _, c := range []struct {
		r    Record
		line string
	}{
		{Record{Start, 0}, "start 0\n"},
		{Record{Start, 1}, "start 1\n"},
		{Record{Plan, 10}, "plan 10\n"},
		{Record{Did, 1536}, "did 1536\n"},
		{Record{End, 0}, "end 0\n"},
		{Record{End, 15}, "end 15\n"},
		{Record{Start, most}, "start 2147483647\n"},
		{Record{End, most}, "end 2147483647\n"},
		{Record{Start, most + 1}, ""},
		{Record{Plan, math.MaxInt}, ""},
		{Record{Plan, 1 << 32}, ""},
		{Record{Did, -1}, ""},
		{Record{End, math.MinInt}, ""},
		{Record{}, ""},
		{Record{0, 1}, ""},
		{Record{5, 1}, ""},
		{Record{-1, 1}, ""},
		{Record{1 << 32, 1}, ""},
		{Record{1<<32 + 1, 1}, ""},
		{Record{math.MaxInt, math.MaxInt}, ""},
		{Record{math.MinInt, 0}, ""},
	} {
		if got := Line(c.r); got != c.line {
			t.Errorf("%v: %q, want %q", c.r, got, c.line)
		}
	}
}

// TestRead: 32.1, records are read as long as each line is one's.
func TestRead(t *testing.T) {
	one, two := Record{Start, 1}, Record{Plan, 20}
	for _, c := range []struct {
		s string
		l []Record
	}{
		{"", nil},
		{"start 1\n", []Record{one}},
		{"start 1\nplan 20\n", []Record{one, two}},
		{"plan 20\nstart 1\nplan 20\n", []Record{two, one, two}},
		{"start 0\nplan 1\ndid 2\nend 2147483647\n", []Record{{Start, 0}, {Plan, 1}, {Did, 2}, {End, most}}},
		// Torn lines.
		{"start 1", nil},
		{"start 1\ndid", []Record{one}},
		{"start 1\nplan 20", []Record{one}},
		{"start 1\nplan 2", []Record{one}},
		{"start 1\nplan ", []Record{one}},
		{"start 1\np", []Record{one}},
		// What stands behind a wrong line isn't read.
		{"start 1\n\nplan 20\n", []Record{one}},
		{"\nstart 1\n", nil},
		{"start 1\nplan\nplan 20\n", []Record{one}},
		{"start 1\nplan 20 \nplan 20\n", []Record{one}},
		{"start 1plan 20\nplan 20\n", nil},
		{"start 1\n\n", []Record{one}},
		{"start 1\n ", []Record{one}},
		{"start 1\x00\nplan 20\n", nil},
	} {
		if got := Read(c.s); !slices.Equal(got, c.l) {
			t.Errorf("%q: %v, want %v", c.s, got, c.l)
		}
	}
}

// TestReadWrong: 32.1, lines that are no record's.
func TestReadWrong(t *testing.T) {
	for _, line := range []string{
		"", " ", "start", "start ", "start  1", " start 1", "start 1 ", "start 1 1", "start 01", "start 00", "start +1", "start -1", "start -0", "start 1.", "start 1e0", "start 0x1", "start 1_0", "start a", "start ²", "start ١",
		"start 2147483648", "start 4294967297", "start 9223372036854775807", "start 9223372036854775808", "start 18446744073709551617", "start 99999999999999999999999999", "start " + strings.Repeat("0", 1000),
		"start\t1", "start\u00a01", "start 1\r", "start 1\x00", "start\x001",
		"Start 1", "START 1", "starts 1", "star 1", "tart 1", "startplan 1", "planstart 1", "1 start", "1", " 1", "end", "did1", "ends 1", "stop 1", "1 1", "\xff 1",
	} {
		if l := Read("plan 3\n" + line + "\ndid 0\n"); !slices.Equal(l, []Record{{Plan, 3}}) {
			t.Errorf("%q: %v", line, l)
		}
		if l := Read(line + "\n"); len(l) != 0 {
			t.Errorf("%q alone: %v", line, l)
		}
	}
	// Each other byte in place of one of a line is wrong, unless it is another digit.
	for i := range len("start 17") {
		for b := range 256 {
			line := []byte("start 17\n")
			if line[i] = byte(b); b == '\n' {
				continue
			}
			digit := b >= '0' && b <= '9' && (i == 7 || i == 6 && b != '0')
			l := Read(string(line))
			if right := digit || b == int("start 17\n"[i]); (len(l) == 1) != right || right && Line(l[0]) != string(line) {
				t.Errorf("%q: %v", line, l)
			}
		}
	}
}

// TestTell: 32.2, how often was started, what was planned, and done, and has all ended.
func TestTell(t *testing.T) {
	for _, c := range []struct {
		what string
		l    []Record
		want Summary
	}{
		{"nothing", nil, Summary{}},
		{"a start", []Record{{Start, 1}}, Summary{Starts: 1}},
		{"starts, whatever their numbers", []Record{{Start, 1}, {Start, 7}, {Start, 1}}, Summary{Starts: 3}},
		{"a plan", []Record{{Plan, 5}}, Summary{Planned: 5}},
		{"the last plan", []Record{{Plan, 5}, {Plan, 9}, {Plan, 4}}, Summary{Planned: 4}},
		{"the last plan is one of nothing", []Record{{Plan, 5}, {Did, 0}, {Plan, 0}}, Summary{}},
		{"what was done without a plan", []Record{{Did, 5}, {Start, 1}, {Did, 5}}, Summary{Starts: 1, Did: 2}},
		{"what was done behind a plan", []Record{{Start, 1}, {Plan, 5}, {Did, 0}, {Did, 1}, {Did, 9}}, Summary{Starts: 1, Planned: 5, Did: 3}},
		{"what was done ahead of the last plan", []Record{{Did, 0}, {Plan, 5}, {Did, 0}, {Did, 1}, {Start, 2}, {Plan, 3}, {Did, 2}}, Summary{Starts: 1, Planned: 3, Did: 1}},
		{"a start behind a plan changes nothing of it", []Record{{Plan, 5}, {Did, 0}, {Start, 2}, {Did, 1}}, Summary{Starts: 1, Planned: 5, Did: 2}},
		{"an end", []Record{{End, 0}}, Summary{Ended: true}},
		{"an end with an error", []Record{{Start, 1}, {Plan, 2}, {Did, 0}, {End, 10}}, Summary{Starts: 1, Planned: 2, Did: 1, Ended: true}},
		{"a start behind the end", []Record{{Start, 1}, {End, 0}, {Start, 2}}, Summary{Starts: 2}},
		{"an edit behind the end", []Record{{End, 0}, {Did, 2}}, Summary{Did: 1}},
		{"a plan behind the end", []Record{{End, 0}, {Plan, 2}}, Summary{Planned: 2}},
		{"an end behind an end", []Record{{End, 0}, {Start, 1}, {End, 3}}, Summary{Starts: 1, Ended: true}},
		{"kinds that are none", []Record{{}, {5, 1}, {-1, 2}, {Start, 1}, {math.MaxInt, 3}}, Summary{Starts: 1}},
		{"such a one behind the end", []Record{{End, 0}, {}}, Summary{}},
		{"such ones ahead of the end", []Record{{9, 9}, {}, {End, 0}}, Summary{Ended: true}},
		{"numbers that are none", []Record{{Start, -1}, {Plan, math.MinInt}, {Did, math.MaxInt}, {End, -9}}, Summary{Starts: 1, Planned: math.MinInt, Did: 1, Ended: true}},
		{"a great number", []Record{{Plan, math.MaxInt}}, Summary{Planned: math.MaxInt}},
	} {
		if got := Tell(c.l); got != c.want {
			t.Errorf("%s: %v, want %v", c.what, got, c.want)
		}
	}
}

// TestMemory: R5, what is handed in isn't changed, and what is told is new.
func TestMemory(t *testing.T) {
	s := "start 1\nplan 2\ndid 0\n"
	l := Read(s)
	clear(l)
	want := []Record{{Start, 1}, {Plan, 2}, {Did, 0}}
	if got := Read(s); !slices.Equal(got, want) {
		t.Errorf("asked twice: %v", got)
	}
	in := sample.Hidden(want, Record{End, 0})
	if got := Tell(in); got != (Summary{Starts: 1, Planned: 2, Did: 1}) || !sample.Untouched(in, want, Record{End, 0}) {
		t.Errorf("%v", got)
	}
}

// TestRecords: R9, a text's records are told anew each time, and no more behind a stop.
func TestRecords(t *testing.T) {
	all := records("start 1\nplan 2\ndid 0\nend\n")
	for range 2 {
		var l []Record
		for r := range all {
			l = append(l, r)
			if r.Kind == Plan {
				break
			}
		}
		if !slices.Equal(l, []Record{{Start, 1}, {Plan, 2}}) {
			t.Errorf("%v", l)
		}
	}
	if l := slices.Collect(all); !slices.Equal(l, []Record{{Start, 1}, {Plan, 2}, {Did, 0}}) {
		t.Errorf("%v", l)
	}
}

// drawn draws a record: most are right.
func drawn(r *rand.Rand) Record {
	numbers := []int{0, 1, 9, 10, 512, most - 1, most, most + 1, -1, math.MaxInt, math.MinInt}
	x := Record{Kind: 1 + r.Intn(4), N: r.Intn(2000)}
	if r.Intn(4) == 0 {
		x.N = numbers[r.Intn(len(numbers))]
	}
	if r.Intn(20) == 0 {
		x.Kind = r.Intn(8) - 1
	}
	return x
}

// slow tells a record of a line by holding its parts against what each must be.
func slow(line string) (Record, bool) {
	word, digits, ok := strings.Cut(line, " ")
	kind := slices.Index([]string{"start", "plan", "did", "end"}, word) + 1
	if !ok || kind == 0 || digits == "" || len(digits) > 10 || digits[0] == '0' && digits != "0" || strings.Trim(digits, "0123456789") != "" {
		return Record{}, false
	}
	n, _ := strconv.ParseUint(digits, 10, 64)
	return Record{kind, int(n)}, n <= most
}

// slowly reads records, line by line.
func slowly(s string) []Record {
	var l []Record
	lines := strings.Split(s, "\n")
	for _, line := range lines[:len(lines)-1] {
		r, ok := slow(line)
		if !ok {
			break
		}
		l = append(l, r)
	}
	return l
}

// TestTorn: 32.3 and 32.1, what was written is read as it was, whatever was torn behind it; of each front the first ones are read.
func TestTorn(t *testing.T) {
	r := rand.New(rand.NewSource(32))
	for range 500 {
		var l []Record
		s := ""
		for range r.Intn(12) {
			x := drawn(r)
			line := Line(x)
			if right := x.Kind >= 1 && x.Kind <= 4 && x.N >= 0 && x.N <= most; (line != "") != right {
				t.Fatalf("%v: %q", x, line)
			}
			if line != "" {
				s, l = s+line, append(l, x)
			}
		}
		if got := Read(s); !slices.Equal(got, l) {
			t.Fatalf("%q: %v, want %v", s, got, l)
		}
		for n := range len(s) + 1 {
			front := Read(s[:n])
			if whole := strings.Count(s[:n], "\n"); !slices.Equal(front, l[:whole]) {
				t.Fatalf("%q: %v, want %v", s[:n], front, l[:whole])
			}
			torn := Read(s + s[r.Intn(n+1):n])
			if len(torn) < len(l) || !slices.Equal(torn[:len(l)], l) {
				t.Fatalf("%q, and something behind it: %v", s, torn)
			}
		}
	}
}

// TestTurned: 32.1 and 32.3, texts of which some bytes are others.
func TestTurned(t *testing.T) {
	r := rand.New(rand.NewSource(33))
	read, left := 0, 0
	for range 20000 {
		var b []byte
		for range 1 + r.Intn(5) {
			b = append(b, Line(Record{1 + r.Intn(4), r.Intn(20) * r.Intn(20)})...)
		}
		for range r.Intn(3) {
			i, with := r.Intn(len(b)), "start 0129\n plandidend\x00\xff"
			switch x := with[r.Intn(len(with))]; r.Intn(3) {
			case 0:
				b[i] = x
			case 1:
				b = slices.Insert(b, i, x)
			default:
				b = slices.Delete(b, i, i+1)
			}
			if len(b) == 0 {
				break
			}
		}
		s := string(b)
		l := Read(s)
		if want := slowly(s); !slices.Equal(l, want) {
			t.Fatalf("%q: %v, want %v", s, l, want)
		}
		read += len(l)
		left += strings.Count(s, "\n") - len(l)
		cut := r.Intn(len(s) + 1)
		if front := Read(s[:cut]); len(front) > len(l) || !slices.Equal(front, l[:len(front)]) {
			t.Fatalf("%q: %v, of the whole %v", s[:cut], front, l)
		}
	}
	if read < 10000 || left < 10000 {
		t.Errorf("%d lines were read, and %d left out", read, left)
	}
}

// TestMany: R1, great texts end soon.
func TestMany(t *testing.T) {
	const n = 200000
	l := Read(strings.Repeat("did 12\n", n) + "did" + strings.Repeat(" ", n))
	if got := Tell(l); len(l) != n || got != (Summary{Did: n}) {
		t.Errorf("%d records, %v", len(l), got)
	}
	if l := Read("did " + strings.Repeat("1", 1<<20) + "\n"); len(l) != 0 {
		t.Errorf("%v", l)
	}
}
