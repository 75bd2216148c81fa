package num_test

import (
	"fmt"
	"math"
	"strings"
	"testing"

	"garret/api"
	"garret/num"
)

const greatest = math.MaxInt

// numbers has both sides of every edge of seven and of eight bits.
func numbers() []int {
	out := []int{0, 1, 2, 100, 300, 12345, greatest - 1, greatest}
	for bits := 1; bits < 63; bits++ {
		out = append(out, 1<<bits-1, 1<<bits, 1<<bits+1)
	}
	return out
}

func mustShort(t *testing.T, n int) string {
	t.Helper()
	s, e := num.Short(n)
	if e != api.OK {
		t.Fatalf("Short(%d): %d", n, int(e))
	}
	return s
}

// Promise 1.1.

func TestFixedWrites(t *testing.T) {
	for _, x := range []struct {
		n, bytes int
		want     string
		e        api.Code
	}{
		{0, 1, "\x00", api.OK},
		{255, 1, "\xff", api.OK},
		{258, 2, "\x01\x02", api.OK},
		{258, 4, "\x00\x00\x01\x02", api.OK},
		{0x01020304050607, 7, "\x01\x02\x03\x04\x05\x06\x07", api.OK},
		{1<<56 - 1, 7, "\xff\xff\xff\xff\xff\xff\xff", api.OK},
		{1 << 56, 8, "\x01\x00\x00\x00\x00\x00\x00\x00", api.OK},
		{greatest, 8, "\x7f\xff\xff\xff\xff\xff\xff\xff", api.OK},
		{0, 8, strings.Repeat("\x00", 8), api.OK},
		{256, 1, "", api.ErrRange},
		{1 << 56, 7, "", api.ErrRange},
		{greatest, 7, "", api.ErrRange},
		{greatest, 1, "", api.ErrRange},
		{-1, 1, "", api.ErrRange},
		{-1, 8, "", api.ErrRange},
		{math.MinInt, 8, "", api.ErrRange},
		{0, 0, "", api.ErrRange},
		{0, 9, "", api.ErrRange},
		{0, -1, "", api.ErrRange},
		{-1, 9, "", api.ErrRange},
		{1, math.MaxInt, "", api.ErrRange},
		{1, math.MinInt, "", api.ErrRange},
	} {
		if s, e := num.Fixed(x.n, x.bytes); s != x.want || e != x.e {
			t.Errorf("Fixed(%d, %d) = %q %d, want %q %d", x.n, x.bytes, s, int(e), x.want, int(x.e))
		}
	}
}

func TestFixedHasRoomJustToItsEdge(t *testing.T) {
	for bytes := 1; bytes <= 7; bytes++ {
		edge := 1 << (8 * bytes)
		if s, e := num.Fixed(edge-1, bytes); s != strings.Repeat("\xff", bytes) || e != api.OK {
			t.Errorf("%d bytes: %q %d", bytes, s, int(e))
		}
		if s, e := num.Fixed(edge, bytes); s != "" || e != api.ErrRange {
			t.Errorf("%d bytes and no room: %q %d", bytes, s, int(e))
		}
	}
}

func TestShortWrites(t *testing.T) {
	for _, x := range []struct {
		n    int
		want string
		e    api.Code
	}{
		{0, "\x00", api.OK},
		{1, "\x01", api.OK},
		{127, "\x7f", api.OK},
		{128, "\x80\x01", api.OK},
		{300, "\xac\x02", api.OK},
		{1<<14 - 1, "\xff\x7f", api.OK},
		{1 << 14, "\x80\x80\x01", api.OK},
		{1<<56 - 1, strings.Repeat("\xff", 7) + "\x7f", api.OK},
		{1 << 56, strings.Repeat("\x80", 8) + "\x01", api.OK},
		{greatest, strings.Repeat("\xff", 8) + "\x7f", api.OK},
		{-1, "", api.ErrRange},
		{math.MinInt, "", api.ErrRange},
	} {
		if s, e := num.Short(x.n); s != x.want || e != x.e {
			t.Errorf("Short(%d) = %q %d, want %q %d", x.n, s, int(e), x.want, int(x.e))
		}
	}
}

func TestTextWrites(t *testing.T) {
	for _, x := range []struct{ s, want string }{
		{"", "\x00"},
		{"ab", "\x02ab"},
		{"\x00\xff", "\x02\x00\xff"},
		{strings.Repeat("x", 127), "\x7f" + strings.Repeat("x", 127)},
		{strings.Repeat("x", 300), "\xac\x02" + strings.Repeat("x", 300)},
	} {
		if got := num.Text(x.s); got != x.want {
			t.Errorf("Text of %d bytes: %q", len(x.s), got)
		}
	}
}

// Promise 1.2.

// asked is what one question to a reader of bytes came to.
type asked struct {
	number int
	text   string
	e      api.Code
	left   int
}

func (a asked) String() string {
	return fmt.Sprintf("%d %q, error %d, left %d", a.number, a.text, int(a.e), a.left)
}

type question struct {
	kind string
	n    int
}

func (q question) put(r *num.Reader) asked {
	var a asked
	switch q.kind {
	case "fixed":
		a.number = r.Fixed(q.n)
	case "short":
		a.number = r.Short(q.n)
	case "text":
		a.text = r.Text(q.n)
	case "bytes":
		a.text = r.Bytes(q.n)
	}
	a.e, a.left = r.Err(), r.Left()
	return a
}

func hold(t *testing.T, bytes string, q question, want asked) {
	t.Helper()
	if got := q.put(num.Read(bytes)); got != want {
		t.Errorf("%v of %q: %v, want %v", q, bytes, got, want)
	}
}

func TestReaderFixed(t *testing.T) {
	seven := "\x01\x02\x03\x04\x05\x06\x07"
	for _, x := range []struct {
		bytes string
		n     int
		want  asked
	}{
		{"\x01\x02", 2, asked{number: 258}},
		{"\x01\x02\x03", 2, asked{number: 258, left: 1}},
		{"\x00", 1, asked{}},
		{"\xff", 1, asked{number: 255}},
		{seven, 7, asked{number: 0x01020304050607}},
		{strings.Repeat("\xff", 7), 7, asked{number: 1<<56 - 1}},
		{seven + seven, 0, asked{e: api.ErrRange, left: 14}},
		{seven + seven, 8, asked{e: api.ErrRange, left: 14}},
		{seven + seven, 9, asked{e: api.ErrRange, left: 14}},
		{seven, -1, asked{e: api.ErrRange, left: 7}},
		{seven, math.MinInt, asked{e: api.ErrRange, left: 7}},
		{seven, math.MaxInt, asked{e: api.ErrRange, left: 7}},
		{"", 8, asked{e: api.ErrRange}},
		{"", 0, asked{e: api.ErrRange}},
		{"", 1, asked{e: api.ErrEnd}},
		{"\x01", 2, asked{e: api.ErrEnd, left: 1}},
		{seven[:6], 7, asked{e: api.ErrEnd, left: 6}},
	} {
		hold(t, x.bytes, question{"fixed", x.n}, x.want)
	}
}

func TestReaderShort(t *testing.T) {
	biggest := strings.Repeat("\xff", 8) + "\x7f"
	for _, x := range []struct {
		bytes string
		most  int
		want  asked
	}{
		{"\x00", 0, asked{}},
		{"\x00\x00", 0, asked{left: 1}},
		{"\x07rest", 7, asked{number: 7, left: 4}},
		{"\xac\x02", 300, asked{number: 300}},
		{"\xac\x02\x80", greatest, asked{number: 300, left: 1}},
		{"\x80\x80\x01", 1 << 14, asked{number: 1 << 14}},
		{biggest, greatest, asked{number: greatest}},
		{strings.Repeat("\x80", 8) + "\x01", greatest, asked{number: 1 << 56}},

		{"", 9, asked{e: api.ErrEnd}},
		{"\x80", 9, asked{e: api.ErrEnd, left: 1}},
		{"\xff\xff", 9, asked{e: api.ErrEnd, left: 2}},
		{strings.Repeat("\x80", 8), 9, asked{e: api.ErrEnd, left: 8}},
		{strings.Repeat("\xff", 8), 9, asked{e: api.ErrEnd, left: 8}},
		{"", -1, asked{e: api.ErrEnd}},

		{"\x80\x00", 9, asked{e: api.ErrForm, left: 2}},
		{"\xff\x00", 9, asked{e: api.ErrForm, left: 2}},
		{"\x80\x80\x00rest", 9, asked{e: api.ErrForm, left: 7}},
		{strings.Repeat("\xff", 8) + "\x00", greatest, asked{e: api.ErrForm, left: 9}},
		{strings.Repeat("\x80", 9), greatest, asked{e: api.ErrForm, left: 9}},
		{strings.Repeat("\x80", 9) + "\x01", greatest, asked{e: api.ErrForm, left: 10}},
		{strings.Repeat("\xff", 9) + "\x00", greatest, asked{e: api.ErrForm, left: 10}},
		{strings.Repeat("\x80", 100), greatest, asked{e: api.ErrForm, left: 100}},
		{"\x80\x00", -1, asked{e: api.ErrForm, left: 2}},

		{"\x07", 6, asked{e: api.ErrLong, left: 1}},
		{"\xac\x02", 299, asked{e: api.ErrLong, left: 2}},
		{"\x00", -1, asked{e: api.ErrLong, left: 1}},
		{"\x00", math.MinInt, asked{e: api.ErrLong, left: 1}},
		{biggest, greatest - 1, asked{e: api.ErrLong, left: 9}},
	} {
		hold(t, x.bytes, question{"short", x.most}, x.want)
	}
}

func TestReaderText(t *testing.T) {
	biggest := strings.Repeat("\xff", 8) + "\x7f"
	for _, x := range []struct {
		bytes string
		most  int
		want  asked
	}{
		{"\x00", 0, asked{}},
		{"\x00a", 0, asked{left: 1}},
		{"\x02ab", 2, asked{text: "ab"}},
		{"\x02abc", 9, asked{text: "ab", left: 1}},
		{"\x02\x00\xff", 2, asked{text: "\x00\xff"}},
		{"\xac\x02" + strings.Repeat("x", 301), 300, asked{text: strings.Repeat("x", 300), left: 1}},

		{"", 9, asked{e: api.ErrEnd}},
		{"\x80", 9, asked{e: api.ErrEnd, left: 1}},
		{"\x01", 9, asked{e: api.ErrEnd, left: 1}},
		{"\x03ab", 9, asked{e: api.ErrEnd, left: 3}},
		{biggest + "ab", greatest, asked{e: api.ErrEnd, left: 11}},
		{"\x82\x00ab", 9, asked{e: api.ErrForm, left: 4}},
		{strings.Repeat("\x80", 9) + "\x01ab", greatest, asked{e: api.ErrForm, left: 12}},
		{"\x03abc", 2, asked{e: api.ErrLong, left: 4}},
		{"\x03ab", 2, asked{e: api.ErrLong, left: 3}},
		{"\x00", -1, asked{e: api.ErrLong, left: 1}},
	} {
		hold(t, x.bytes, question{"text", x.most}, x.want)
	}
}

func TestReaderBytes(t *testing.T) {
	for _, x := range []struct {
		bytes string
		n     int
		want  asked
	}{
		{"abc", 2, asked{text: "ab", left: 1}},
		{"abc", 3, asked{text: "abc"}},
		{"abc", 0, asked{left: 3}},
		{"", 0, asked{}},
		{"abc", -1, asked{e: api.ErrRange, left: 3}},
		{"", math.MinInt, asked{e: api.ErrRange}},
		{"abc", 4, asked{e: api.ErrEnd, left: 3}},
		{"", 1, asked{e: api.ErrEnd}},
		{"abc", math.MaxInt, asked{e: api.ErrEnd, left: 3}},
	} {
		hold(t, x.bytes, question{"bytes", x.n}, x.want)
	}
}

func TestAFaultInTheMidstLeavesThePlace(t *testing.T) {
	for _, x := range []struct {
		rest string
		q    question
		e    api.Code
	}{
		{"\x01", question{"fixed", 2}, api.ErrEnd},
		{"\x01", question{"fixed", 8}, api.ErrRange},
		{"\x80\x00z", question{"short", 9}, api.ErrForm},
		{"\x80", question{"short", 9}, api.ErrEnd},
		{"\x09z", question{"short", 8}, api.ErrLong},
		{"\x03ab", question{"text", 9}, api.ErrEnd},
		{"\x03abc", question{"text", 2}, api.ErrLong},
		{"ab", question{"bytes", 3}, api.ErrEnd},
		{"ab", question{"bytes", -1}, api.ErrRange},
		{"ab", question{"bytes", math.MaxInt}, api.ErrEnd},
	} {
		r := num.Read("\x01\x02\x02ab" + x.rest)
		if r.Fixed(2) != 258 || r.Text(2) != "ab" || r.Err() != api.OK {
			t.Fatal(r.Left(), int(r.Err()))
		}
		want := asked{e: x.e, left: len(x.rest)}
		if got := x.q.put(r); got != want {
			t.Errorf("%v of %q: %v, want %v", x.q, x.rest, got, want)
		}
	}
}

// Promise 1.3.

func TestTheFirstErrorStays(t *testing.T) {
	const bytes = "\x01a\x02b"
	right := []question{{"fixed", 1}, {"short", 9}, {"text", 9}, {"bytes", 1}, {"bytes", 0}}
	wrong := []struct {
		q question
		e api.Code
	}{
		{question{"fixed", 8}, api.ErrRange},
		{question{"fixed", 7}, api.ErrEnd},
		{question{"short", 0}, api.ErrLong},
		{question{"text", 0}, api.ErrLong},
		{question{"bytes", -1}, api.ErrRange},
		{question{"bytes", 9}, api.ErrEnd},
	}
	for _, first := range wrong {
		r := num.Read(bytes)
		want := asked{e: first.e, left: len(bytes)}
		if got := first.q.put(r); got != want {
			t.Fatalf("%v: %v", first.q, got)
		}
		for _, q := range right {
			if got := q.put(r); got != want {
				t.Errorf("%v, then %v: %v", first.q, q, got)
			}
		}
		for _, later := range wrong {
			if got := later.q.put(r); got != want {
				t.Errorf("%v, then %v: %v", first.q, later.q, got)
			}
		}
		r.Fail(api.ErrShape)
		if r.Err() != first.e || r.End() != first.e || r.Left() != len(bytes) {
			t.Errorf("%v: error %d, end %d, left %d", first.q, int(r.Err()), int(r.End()), r.Left())
		}
	}
}

func TestLeftCountsDown(t *testing.T) {
	r := num.Read("\x01\x02\xac\x02\x02abrest")
	for _, x := range []struct {
		q    question
		want asked
	}{
		{question{"fixed", 2}, asked{number: 258, left: 9}},
		{question{"short", 300}, asked{number: 300, left: 7}},
		{question{"text", 2}, asked{text: "ab", left: 4}},
		{question{"bytes", 0}, asked{left: 4}},
		{question{"bytes", 4}, asked{text: "rest"}},
		{question{"bytes", 0}, asked{}},
	} {
		if got := x.q.put(r); got != x.want {
			t.Errorf("%v: %v, want %v", x.q, got, x.want)
		}
	}
	if e := r.End(); e != api.OK {
		t.Error(int(e))
	}
}

func TestFail(t *testing.T) {
	r := num.Read("ab")
	r.Fail(api.OK)
	if r.Err() != api.OK || r.Bytes(1) != "a" {
		t.Error("OK is no failure", int(r.Err()))
	}
	r.Fail(api.ErrNode)
	if r.Err() != api.ErrNode || r.Bytes(1) != "" || r.Left() != 1 {
		t.Error("a failure stops the reader", int(r.Err()), r.Left())
	}
	r.Fail(api.ErrTree)
	r.Fail(api.OK)
	if r.Err() != api.ErrNode || r.End() != api.ErrNode {
		t.Error("the first failure stays", int(r.Err()))
	}
	odd := num.Read("")
	odd.Fail(api.Code(-7))
	if odd.Err() != api.Code(-7) || odd.End() != api.Code(-7) {
		t.Error("any other number is an error", int(odd.Err()))
	}
}

func TestEnd(t *testing.T) {
	if r := num.Read(""); r.End() != api.OK || r.Err() != api.OK || r.Left() != 0 {
		t.Error("nothing is left of nothing", int(r.Err()))
	}
	r := num.Read("ab")
	r.Bytes(1)
	if r.End() != api.ErrForm || r.Err() != api.ErrForm || r.Left() != 1 {
		t.Error("a byte is left", int(r.Err()), r.Left())
	}
	if r.Bytes(1) != "" || r.Left() != 1 || r.End() != api.ErrForm {
		t.Error("that is its error then", int(r.Err()), r.Left())
	}
	r = num.Read("\x80")
	r.Short(9)
	if r.End() != api.ErrEnd {
		t.Error("an earlier error goes ahead of bytes left", int(r.Err()))
	}
	r = num.Read("ab")
	r.Bytes(2)
	if r.End() != api.OK || r.Bytes(1) != "" || r.End() != api.ErrEnd {
		t.Error("an end that is OK does not stop the reader", int(r.Err()))
	}
}

// Promise 1.4.

func TestThereAndBack(t *testing.T) {
	texts := []string{"", "a", "\x00", "\x80\x80", strings.Repeat("ab", 100)}
	var all strings.Builder
	for i, n := range numbers() {
		all.WriteString(mustShort(t, n))
		all.WriteString(num.Text(texts[i%len(texts)]))
		for bytes := 1; bytes <= 7; bytes++ {
			if s, e := num.Fixed(n, bytes); e == api.OK {
				all.WriteString(s)
			}
		}
	}
	r := num.Read(all.String())
	for i, n := range numbers() {
		if got := r.Short(n); got != n {
			t.Fatalf("short %d: %d", n, got)
		}
		want := texts[i%len(texts)]
		if got := r.Text(len(want)); got != want {
			t.Fatalf("text %q: %q", want, got)
		}
		for bytes := 1; bytes <= 7; bytes++ {
			if n>>(8*bytes) != 0 {
				continue
			}
			if got := r.Fixed(bytes); got != n {
				t.Fatalf("fixed %d of %d bytes: %d", n, bytes, got)
			}
		}
	}
	if e := r.End(); e != api.OK {
		t.Error(int(e), r.Left())
	}
}

// shortWays has many texts that may be short numbers: all of one and of two
// bytes, and those of up to eleven that are made of bytes at the edges.
func shortWays() []string {
	var out []string
	for a := range 256 {
		out = append(out, string([]byte{byte(a)}))
		for b := range 256 {
			out = append(out, string([]byte{byte(a), byte(b)}))
		}
	}
	for long := 1; long <= 10; long++ {
		for _, body := range []string{"\x80", "\x81", "\xff"} {
			for _, last := range []string{"\x00", "\x01", "\x7f", "\x80", "\xff"} {
				out = append(out, strings.Repeat(body, long)+last)
			}
		}
	}
	return out
}

func TestOneWayToWriteAShortNumber(t *testing.T) {
	for _, s := range shortWays() {
		r := num.Read(s)
		n := r.Short(greatest)
		if r.Err() != api.OK {
			continue
		}
		if got, read := mustShort(t, n), s[:len(s)-r.Left()]; got != read {
			t.Errorf("%d is read of %q, but written %q", n, read, got)
		}
	}
}

func TestOneWayToWriteAText(t *testing.T) {
	for _, way := range shortWays() {
		s := way + "ab"
		r := num.Read(s)
		text := r.Text(greatest)
		if r.Err() != api.OK {
			continue
		}
		if read := s[:len(s)-r.Left()]; num.Text(text) != read {
			t.Errorf("%q is read of %q, but written %q", text, read, num.Text(text))
		}
	}
}

func TestOneWayToWriteAFixedNumber(t *testing.T) {
	for _, s := range shortWays() {
		if len(s) > 7 {
			continue
		}
		r := num.Read(s)
		n := r.Fixed(len(s))
		if got, e := num.Fixed(n, len(s)); got != s || e != api.OK || r.End() != api.OK {
			t.Errorf("%d is read of %q, but written %q", n, s, got)
		}
	}
}

func TestUnlikeNumbersAreWrittenUnlike(t *testing.T) {
	ways := map[string]int{}
	for _, n := range numbers() {
		s := mustShort(t, n)
		if m, ok := ways[s]; ok && m != n {
			t.Errorf("%d and %d are both %q", m, n, s)
		}
		ways[s] = n
	}
}

// P1: no call panics, whatever it is given, and a reader never goes backwards or past its end.
func TestNoArgumentPanics(t *testing.T) {
	arguments := []int{math.MinInt, math.MinInt + 1, -9, -1, 0, 1, 2, 7, 8, 9, 63, 64, 65, 1 << 32, greatest - 1, greatest}
	for _, a := range arguments {
		num.Short(a)
		for _, b := range arguments {
			num.Fixed(a, b)
		}
		for _, bytes := range shortWays() {
			for _, kind := range []string{"fixed", "short", "text", "bytes"} {
				r := num.Read(bytes)
				got := question{kind, a}.put(r)
				if got.left < 0 || got.left > len(bytes) || got.e != api.OK && (got.number != 0 || got.text != "" || got.left != len(bytes)) {
					t.Fatalf("%s %d of %q: %v", kind, a, bytes, got)
				}
			}
		}
	}
}
