package stripe_test

import (
	"math"
	"slices"
	"strings"
	"sync"
	"testing"

	"garret/api"
	"garret/stripe"
)

const maxBytes = 65536 // written out here, so that the edges hang on nothing else

// product is by chapter 3's words: all bits without carries first, and the
// rest by 391 then.
func product(a, b int) int {
	out := 0
	for bit := range 8 {
		if b>>bit&1 == 1 {
			out ^= a << bit
		}
	}
	for bit := 14; bit >= 8; bit-- {
		if out>>bit&1 == 1 {
			out ^= 391 << (bit - 8)
		}
	}
	return out
}

// under is 1 divided by an element, found by trying all.
func under(a int) int {
	for x := range 256 {
		if product(a, x) == 1 {
			return x
		}
	}
	return 0
}

// shardsOf is the shards of s by chapter 5's words.
func shardsOf(k, m int, s string) []string {
	each := 0
	for k*each < len(s) {
		each++
	}
	all := s
	for len(all) < k*each {
		all += "\x00"
	}
	var out []string
	for i := range k {
		out = append(out, all[i*each:(i+1)*each])
	}
	for i := range m {
		mixture := make([]byte, each)
		for j := range k {
			c := under((k + i) ^ j)
			for n := range each {
				mixture[n] ^= byte(product(int(out[j][n]), c))
			}
		}
		out = append(out, string(mixture))
	}
	return out
}

// some is so many bytes that hang on the seed, all kinds of them.
func some(long, seed int) string {
	x := uint32(seed)*2654435761 + 12345
	out := make([]byte, long)
	for i := range out {
		x = x*1664525 + 1013904223
		out[i] = byte(x >> 24)
	}
	return string(out)
}

func plan(t testing.TB, k, m int) *stripe.Plan {
	t.Helper()
	p, code := stripe.New(k, m)
	if p == nil || code != api.OK {
		t.Fatalf("New(%d, %d): %v, %d", k, m, p, int(code))
	}
	return p
}

func split(t testing.TB, p *stripe.Plan, s string) []string {
	t.Helper()
	shards, code := p.Split(s)
	if code != api.OK {
		t.Fatalf("Split of %d bytes: %d", len(s), int(code))
	}
	return shards
}

// partsOf is those of the shards with these numbers, in this order.
func partsOf(shards []string, numbers ...int) []stripe.Part {
	var out []stripe.Part
	for _, i := range numbers {
		out = append(out, stripe.Part{Index: i, Data: shards[i]})
	}
	return out
}

func numbersOf(parts []stripe.Part) []int {
	var out []int
	for _, part := range parts {
		out = append(out, part.Index)
	}
	return out
}

func wantJoin(t *testing.T, p *stripe.Plan, parts []stripe.Part, long int, want string, wantCode api.Code) {
	t.Helper()
	if got, code := p.Join(parts, long); got != want || code != wantCode {
		t.Errorf("Join(parts %v, %d): %.80q, %d; want %.80q, %d", numbersOf(parts), long, got, int(code), want, int(wantCode))
	}
}

func wantShard(t *testing.T, p *stripe.Plan, parts []stripe.Part, long, index int, want string, wantCode api.Code) {
	t.Helper()
	if got, code := p.Shard(parts, long, index); got != want || code != wantCode {
		t.Errorf("Shard(parts %v, %d, %d): %.80q, %d; want %.80q, %d", numbersOf(parts), long, index, got, int(code), want, int(wantCode))
	}
}

// choices calls with each list of k of the numbers from 0 to n - 1, rising.
func choices(n, k int, call func(numbers []int)) {
	var more func(from int, numbers []int)
	more = func(from int, numbers []int) {
		if len(numbers) == k {
			call(numbers)
			return
		}
		for i := from; i < n; i++ {
			more(i+1, append(slices.Clone(numbers), i))
		}
	}
	more(0, nil)
}

// Promise 5.1.

func TestNewAndShape(t *testing.T) {
	for _, x := range [][2]int{{1, 0}, {1, 1}, {2, 1}, {3, 2}, {1, 254}, {255, 0}, {254, 1}, {128, 127}} {
		if k, m := plan(t, x[0], x[1]).Shape(); k != x[0] || m != x[1] {
			t.Errorf("the shape of %v: %d, %d", x, k, m)
		}
	}
}

func TestNewRefuses(t *testing.T) {
	for _, x := range [][2]int{
		{0, 0}, {0, 1}, {0, 255}, {-1, 0}, {-1, 2}, {1, -1}, {5, -1}, {255, -1}, {256, -1}, {300, -45}, {0, -1},
		{1, 255}, {255, 1}, {256, 0}, {128, 128}, {200, 56},
		{math.MaxInt, 0}, {math.MaxInt, 1}, {1, math.MaxInt}, {math.MaxInt, math.MaxInt}, {math.MaxInt, math.MinInt},
		{math.MinInt, 0}, {math.MinInt, math.MinInt}, {math.MinInt, math.MaxInt}, {1, math.MinInt}, {2, math.MinInt},
	} {
		if p, code := stripe.New(x[0], x[1]); p != nil || code != api.ErrRange {
			t.Errorf("New(%d, %d): %v, %d", x[0], x[1], p, int(code))
		}
	}
}

func TestEach(t *testing.T) {
	for _, x := range []struct{ k, long, want int }{
		{1, 0, 0}, {1, 1, 1}, {1, 7, 7}, {1, maxBytes, maxBytes},
		{2, 0, 0}, {2, 1, 1}, {2, 2, 1}, {2, 3, 2}, {2, 4, 2}, {2, maxBytes - 1, maxBytes / 2}, {2, maxBytes, maxBytes / 2},
		{3, 0, 0}, {3, 1, 1}, {3, 3, 1}, {3, 4, 2}, {3, 6, 2}, {3, 7, 3}, {3, maxBytes - 1, 21845}, {3, maxBytes, 21846},
		{255, 0, 0}, {255, 1, 1}, {255, 255, 1}, {255, 256, 2}, {255, 65535, 257}, {255, maxBytes, 258},
	} {
		if got, code := plan(t, x.k, 0).Each(x.long); got != x.want || code != api.OK {
			t.Errorf("each of %d bytes in %d: %d, %d; want %d", x.long, x.k, got, int(code), x.want)
		}
	}
}

func TestEachHangsOnPiecesAlone(t *testing.T) {
	for m := range 6 {
		if got, code := plan(t, 4, m).Each(9); got != 3 || code != api.OK {
			t.Errorf("each of 9 bytes in 4 and %d: %d, %d", m, got, int(code))
		}
	}
}

func TestEachRefuses(t *testing.T) {
	for _, k := range []int{1, 2, 3, 255} {
		for _, long := range []int{-1, -2, -k, -maxBytes, math.MinInt, maxBytes + 1, 2 * maxBytes, 1 << 32, math.MaxInt} {
			if got, code := plan(t, k, 0).Each(long); got != 0 || code != api.ErrRange {
				t.Errorf("each of %d bytes in %d: %d, %d", long, k, got, int(code))
			}
		}
	}
}

func TestSplitExample(t *testing.T) {
	p := plan(t, 2, 1)
	shards := split(t, p, "abc")
	if len(shards) != 3 || shards[0] != "ab" || shards[1] != "c\x00" || len(shards[2]) != 2 {
		t.Fatalf("%q", shards)
	}
	// Of Cauchy(2, 1) the last row is 1 divided by 2, 1 divided by 3.
	third := string([]byte{byte(product('a', under(2)) ^ product('c', under(3))), byte(product('b', under(2)))})
	if shards[2] != third {
		t.Errorf("the third is %q, not %q", shards[2], third)
	}
	wantJoin(t, p, partsOf(shards, 0, 2), 3, "abc", api.OK)
	wantJoin(t, p, partsOf(shards, 1, 2), 3, "abc", api.OK)
	wantShard(t, p, partsOf(shards, 0, 2), 3, 1, "c\x00", api.OK)
	wantShard(t, p, partsOf(shards, 1, 2), 3, 0, "ab", api.OK)
}

func TestSplitByTheWords(t *testing.T) {
	for _, x := range []struct{ k, m int }{
		{1, 0}, {1, 1}, {1, 3}, {2, 0}, {2, 1}, {2, 2}, {3, 2}, {4, 4}, {5, 1}, {7, 9}, {10, 0}, {17, 3}, {100, 155}, {250, 5}, {1, 254}, {255, 0},
	} {
		p := plan(t, x.k, x.m)
		for _, long := range []int{0, 1, 2, 3, x.k - 1, x.k, x.k + 1, 2*x.k - 1, 2 * x.k, 2*x.k + 1, 40} {
			s := some(long, x.k*1000+long)
			if got, want := split(t, p, s), shardsOf(x.k, x.m, s); !slices.Equal(got, want) {
				t.Errorf("%d bytes in %d and %d: %.200q, want %.200q", long, x.k, x.m, got, want)
			}
		}
	}
}

func TestSplitOfNothing(t *testing.T) {
	for _, x := range [][2]int{{1, 0}, {1, 2}, {3, 2}, {255, 0}} {
		shards := split(t, plan(t, x[0], x[1]), "")
		if len(shards) != x[0]+x[1] || slices.ContainsFunc(shards, func(s string) bool { return s != "" }) {
			t.Errorf("%v: %q", x, shards)
		}
	}
}

func TestSplitOfFewerBytesThanPieces(t *testing.T) {
	got := split(t, plan(t, 5, 0), "ab")
	if !slices.Equal(got, []string{"a", "b", "\x00", "\x00", "\x00"}) {
		t.Errorf("%q", got)
	}
}

// With k 4 the fourth piece of 5 bytes has none of them: two in each of the
// first two, one in the third.
func TestSplitWithAPieceOfZerosAlone(t *testing.T) {
	got := split(t, plan(t, 4, 0), "abcde")
	if !slices.Equal(got, []string{"ab", "cd", "e\x00", "\x00\x00"}) {
		t.Errorf("%q", got)
	}
}

func TestSplitOfTheMost(t *testing.T) {
	for _, x := range []struct{ k, m, each int }{{1, 1, maxBytes}, {2, 1, maxBytes / 2}, {3, 2, 21846}, {255, 0, 258}} {
		p := plan(t, x.k, x.m)
		s := some(maxBytes, x.k)
		shards := split(t, p, s)
		if len(shards) != x.k+x.m {
			t.Fatalf("%d and %d: %d shards", x.k, x.m, len(shards))
		}
		for i, shard := range shards {
			if len(shard) != x.each {
				t.Errorf("%d and %d: shard %d has %d bytes", x.k, x.m, i, len(shard))
			}
		}
		if all := strings.Join(shards[:x.k], ""); all != s+strings.Repeat("\x00", x.k*x.each-maxBytes) {
			t.Errorf("%d and %d: the pieces are other bytes", x.k, x.m)
		}
		numbers := make([]int, x.k)
		for i := range numbers {
			numbers[i] = i + x.m
		}
		wantJoin(t, p, partsOf(shards, numbers...), maxBytes, s, api.OK)
	}
}

func TestSplitRefuses(t *testing.T) {
	for _, x := range [][2]int{{1, 0}, {3, 2}, {255, 0}} {
		for _, long := range []int{maxBytes + 1, maxBytes + 255, 3 * maxBytes} {
			if got, code := plan(t, x[0], x[1]).Split(strings.Repeat("x", long)); len(got) != 0 || code != api.ErrLong {
				t.Errorf("%v: %d bytes: %d shards, %d", x, long, len(got), int(code))
			}
		}
	}
}

func TestSplitAnswersNewMemory(t *testing.T) {
	p := plan(t, 2, 2)
	a, b := split(t, p, "abc"), split(t, p, "abc")
	want := slices.Clone(b)
	for i := range a {
		a[i] = "other"
	}
	_ = append(a[:0], slices.Repeat([]string{"more"}, cap(a))...)
	if !slices.Equal(b, want) || !slices.Equal(split(t, p, "abc"), want) {
		t.Error("an answer shares memory with another one")
	}
}

// Promise 5.2.

func TestJoinRefusesLengths(t *testing.T) {
	p := plan(t, 2, 1)
	good := partsOf(split(t, p, "abcd"), 0, 1)
	for _, long := range []int{-1, -4, math.MinInt, maxBytes + 1, math.MaxInt} {
		for _, parts := range [][]stripe.Part{nil, good, {{Index: 9, Data: "ab"}}, {{Index: 0, Data: "a"}}, good[:1]} {
			wantJoin(t, p, parts, long, "", api.ErrRange)
			for _, index := range []int{-1, 0, 2, 3} {
				wantShard(t, p, parts, long, index, "", api.ErrRange)
			}
		}
	}
}

func TestJoinRefusesNumbers(t *testing.T) {
	p := plan(t, 2, 1)
	good := partsOf(split(t, p, "abcd"), 0, 1, 2)
	for _, number := range []int{-1, 3, 4, 255, 256, -255, math.MinInt, math.MaxInt} {
		for at := range 4 {
			parts := slices.Insert(slices.Clone(good), at, stripe.Part{Index: number, Data: "xy"})
			wantJoin(t, p, parts, 4, "", api.ErrRange)
			wantShard(t, p, parts, 4, 0, "", api.ErrRange)
			wantShard(t, p, parts, 4, 2, "", api.ErrRange)
		}
		// Here the number is told, not that there are too few.
		alone := []stripe.Part{{Index: number, Data: "xy"}}
		wantJoin(t, p, alone, 4, "", api.ErrRange)
		wantShard(t, p, alone, 4, 0, "", api.ErrRange)
	}
	// The numbers at both ends are numbers.
	wantJoin(t, p, []stripe.Part{good[0], good[2]}, 4, "abcd", api.OK)
}

func TestJoinRefusesShapes(t *testing.T) {
	p := plan(t, 2, 1)
	good := partsOf(split(t, p, "abcd"), 0, 1, 2)
	for _, data := range []string{"", "x", "xyz", "wxyz", some(maxBytes, 1)} {
		for number := range 3 {
			for at := range 4 {
				// One that was seen already, or that is not needed, is looked at, too.
				parts := slices.Insert(slices.Clone(good), at, stripe.Part{Index: number, Data: data})
				wantJoin(t, p, parts, 4, "", api.ErrShape)
				wantShard(t, p, parts, 4, number, "", api.ErrShape)
				wantShard(t, p, parts, 4, 3, "", api.ErrShape)
			}
			alone := []stripe.Part{{Index: number, Data: data}}
			wantJoin(t, p, alone, 4, "", api.ErrShape)
			wantShard(t, p, alone, 4, 0, "", api.ErrShape)
		}
	}
	// The same parts, with a length of another shape.
	for _, long := range []int{0, 1, 2, 5, 6, maxBytes} {
		wantJoin(t, p, good, long, "", api.ErrShape)
		wantShard(t, p, good, long, 1, "", api.ErrShape)
	}
	wantJoin(t, p, []stripe.Part{{Index: 0, Data: "x"}, {Index: 1}}, 0, "", api.ErrShape)
}

// R1: a list is looked at from its front on, and of one part its number ahead
// of its length.
func TestFirstWrongPartIsTold(t *testing.T) {
	p := plan(t, 2, 1)
	for _, x := range []struct {
		parts []stripe.Part
		want  api.Code
	}{
		{[]stripe.Part{{Index: 3, Data: "x"}}, api.ErrRange},
		{[]stripe.Part{{Index: -1, Data: ""}}, api.ErrRange},
		{[]stripe.Part{{Index: 0, Data: "x"}, {Index: 3, Data: "xy"}}, api.ErrShape},
		{[]stripe.Part{{Index: 0, Data: "x"}, {Index: 3, Data: "x"}}, api.ErrShape},
		{[]stripe.Part{{Index: 3, Data: "xy"}, {Index: 0, Data: "x"}}, api.ErrRange},
		{[]stripe.Part{{Index: 3, Data: "x"}, {Index: 0, Data: "x"}}, api.ErrRange},
		{[]stripe.Part{{Index: 0, Data: "xy"}, {Index: 1, Data: "xyz"}, {Index: -1, Data: "xy"}}, api.ErrShape},
		{[]stripe.Part{{Index: 0, Data: "xy"}, {Index: -1, Data: "xy"}, {Index: 1, Data: "xyz"}}, api.ErrRange},
		// Behind as many parts as are needed, and of a number that was seen already, too.
		{[]stripe.Part{{Index: 0, Data: "xy"}, {Index: 1, Data: "xy"}, {Index: 1, Data: ""}, {Index: 3, Data: ""}}, api.ErrShape},
		{[]stripe.Part{{Index: 0, Data: "xy"}, {Index: 1, Data: "xy"}, {Index: 3, Data: ""}, {Index: 1, Data: ""}}, api.ErrRange},
	} {
		wantJoin(t, p, x.parts, 4, "", x.want)
		for _, index := range []int{0, 2, 9, -1} {
			wantShard(t, p, x.parts, 4, index, "", x.want)
		}
	}
}

// Wherever two wrong parts stand among good ones, the one ahead is told.
func TestFirstOfTwoWrongPartsIsTold(t *testing.T) {
	p := plan(t, 2, 2)
	good := partsOf(split(t, p, "abcd"), 2, 0, 2, 3, 1)
	short := stripe.Part{Index: 1, Data: "x"}
	far := stripe.Part{Index: 4, Data: "xy"}
	choices(len(good), 2, func(places []int) {
		for _, x := range []struct {
			ahead, behind stripe.Part
			want          api.Code
		}{{short, far, api.ErrShape}, {far, short, api.ErrRange}} {
			parts := slices.Clone(good)
			parts[places[0]], parts[places[1]] = x.ahead, x.behind
			wantJoin(t, p, parts, 4, "", x.want)
			wantShard(t, p, parts, 4, 3, "", x.want)
			wantShard(t, p, parts, 4, 4, "", x.want)
		}
	})
}

func TestJoinRefusesTooFew(t *testing.T) {
	p := plan(t, 3, 2)
	s := "the quick brown fox"
	shards := split(t, p, s)
	for _, numbers := range [][]int{nil, {0}, {4}, {0, 1}, {3, 4}, {0, 0, 0}, {2, 2, 4, 4, 2, 2, 4}, {1, 4, 1}} {
		parts := partsOf(shards, numbers...)
		wantJoin(t, p, parts, len(s), "", api.ErrFew)
		for index := range 5 {
			wantShard(t, p, parts, len(s), index, "", api.ErrFew)
		}
	}
	wantJoin(t, p, nil, 0, "", api.ErrFew)
	wantJoin(t, p, []stripe.Part{}, 0, "", api.ErrFew)
	wantShard(t, p, nil, 0, 0, "", api.ErrFew)
	wantJoin(t, p, partsOf(make([]string, 5), 0, 1, 0), 0, "", api.ErrFew)
	wantJoin(t, plan(t, 1, 0), nil, 0, "", api.ErrFew)
}

func TestShardRefusesIndexes(t *testing.T) {
	p := plan(t, 3, 2)
	shards := split(t, p, "abcde")
	for _, index := range []int{-1, 5, 6, 255, math.MinInt, math.MaxInt} {
		wantShard(t, p, partsOf(shards, 0, 1, 2), 5, index, "", api.ErrRange)
		wantShard(t, p, partsOf(shards, 4, 1, 2, 0), 5, index, "", api.ErrRange)
		// That goes ahead of too few, ..
		wantShard(t, p, partsOf(shards, 0, 1), 5, index, "", api.ErrRange)
		wantShard(t, p, nil, 5, index, "", api.ErrRange)
		// .. but behind what each part has wrong.
		wantShard(t, p, []stripe.Part{{Index: 0, Data: "a"}}, 5, index, "", api.ErrShape)
	}
	wantShard(t, p, partsOf(shards, 0, 1), 5, 4, "", api.ErrFew)
}

func TestFirstPartsOfUnlikeNumbersCount(t *testing.T) {
	p := plan(t, 2, 2)
	shards := split(t, p, "abc")
	wrong := func(i int) stripe.Part { return stripe.Part{Index: i, Data: "??"} }
	good := partsOf(shards, 0, 1, 2, 3)
	for _, parts := range [][]stripe.Part{
		{good[0], wrong(0), good[1]},
		{good[0], wrong(0), wrong(0), good[3], wrong(3), wrong(1)},
		{good[3], good[2], wrong(0), wrong(1), wrong(2), wrong(3)},
		{good[2], good[2], wrong(2), good[1], wrong(0)},
		{good[1], good[0], wrong(2), wrong(3)},
	} {
		wantJoin(t, p, parts, 3, "abc", api.OK)
		for i, want := range shards {
			wantShard(t, p, parts, 3, i, want, api.OK)
		}
	}
	// And where the wrong one stands ahead it counts.
	wantJoin(t, p, []stripe.Part{wrong(0), good[0], good[1]}, 3, "??c", api.OK)
	wantJoin(t, p, []stripe.Part{good[0], wrong(1), good[1]}, 3, "ab?", api.OK)
	wantShard(t, p, []stripe.Part{wrong(0), good[0], good[1]}, 3, 0, "??", api.OK)
	wantShard(t, p, []stripe.Part{wrong(0), good[0], good[1]}, 3, 3, shardsOf(2, 2, "??c")[3], api.OK)
}

// Whatever k unlike parts hold, if nothing is put behind the bytes there are
// just one bytes of which they are shards.
func TestAnyPartsAreShardsOfTheirBytes(t *testing.T) {
	for _, x := range []struct{ k, m, each int }{{1, 2, 3}, {2, 1, 2}, {3, 2, 4}, {5, 5, 1}, {4, 20, 2}} {
		p := plan(t, x.k, x.m)
		data := make([]string, x.k+x.m)
		for i := range data {
			data[i] = some(x.each, 77*i+x.k)
		}
		for turn := range x.k + x.m {
			var numbers []int
			for i := range x.k {
				numbers = append(numbers, (turn+i*(x.m/x.k+1))%(x.k+x.m))
			}
			parts := partsOf(data, numbers...)
			s, code := p.Join(parts, x.k*x.each)
			if code != api.OK || len(s) != x.k*x.each {
				t.Fatalf("%v, %v: %q, %d", x, numbers, s, int(code))
			}
			shards := shardsOf(x.k, x.m, s)
			for _, i := range numbers {
				if shards[i] != data[i] {
					t.Errorf("%v, %v: part %d is no shard of what was joined", x, numbers, i)
				}
			}
			for i, want := range shards {
				wantShard(t, p, parts, len(s), i, want, api.OK)
			}
		}
	}
}

// Parts of which other bytes than 0 follow behind the long ones: these are not
// told, and the shards are those of what is told.
func TestWhatLiesBehindTheBytesIsNotTold(t *testing.T) {
	p := plan(t, 3, 2)
	shards := shardsOf(3, 2, "abcdefghi")
	for long := 7; long <= 9; long++ {
		s := "abcdefghi"[:long]
		want := shardsOf(3, 2, s)
		choices(5, 3, func(numbers []int) {
			parts := partsOf(shards, numbers...)
			wantJoin(t, p, parts, long, s, api.OK)
			for i := range want {
				wantShard(t, p, parts, long, i, want[i], api.OK)
			}
		})
	}
}

func TestPartsStayAsTheyAre(t *testing.T) {
	p := plan(t, 2, 2)
	shards := split(t, p, "abc")
	room := partsOf(shards, 3, 3, 1, 0, 2, 2, 1)
	before := slices.Clone(room)
	for long := range len(room) {
		parts := room[:long]
		p.Join(parts, 3)
		p.Shard(parts, 3, 2)
		p.Shard(parts, 3, 9)
		p.Join(parts, 9)
		if !slices.Equal(room, before) {
			t.Fatalf("%d parts: changed to %v", long, room)
		}
	}
	// What lies behind the list is not read.
	wantJoin(t, p, room[:2], 3, "", api.ErrFew)
	room[3] = stripe.Part{Index: -5, Data: "far too long"}
	wantJoin(t, p, room[:3], 3, "abc", api.OK)
}

func TestPartsAreNotKept(t *testing.T) {
	p := plan(t, 2, 1)
	parts := partsOf(split(t, p, "abcd"), 2, 0)
	wantJoin(t, p, parts, 4, "abcd", api.OK)
	clear(parts)
	other := partsOf(split(t, p, "wxyz"), 1, 2)
	wantJoin(t, p, other, 4, "wxyz", api.OK)
	wantJoin(t, p, parts, 4, "", api.ErrShape)
	wantJoin(t, p, other, 4, "wxyz", api.OK)
}

func TestWithoutMore(t *testing.T) {
	for _, k := range []int{1, 2, 5, 255} {
		p := plan(t, k, 0)
		s := some(3*k-1, k)
		shards := split(t, p, s)
		numbers := make([]int, k)
		for i := range numbers {
			numbers[i] = k - 1 - i
		}
		parts := partsOf(shards, numbers...)
		wantJoin(t, p, parts, len(s), s, api.OK)
		wantJoin(t, p, parts[:k-1], len(s), "", api.ErrFew)
		wantShard(t, p, parts, len(s), k-1, shards[k-1], api.OK)
		wantShard(t, p, parts, len(s), k, "", api.ErrRange)
	}
}

func TestJoinOfNothing(t *testing.T) {
	p := plan(t, 2, 1)
	parts := partsOf(make([]string, 3), 2, 1)
	wantJoin(t, p, parts, 0, "", api.OK)
	for i := range 3 {
		wantShard(t, p, parts, 0, i, "", api.OK)
	}
}

// Promise 5.3.

func TestAnyShardsAreEnough(t *testing.T) {
	for _, x := range []struct{ k, m int }{{1, 0}, {1, 4}, {2, 1}, {2, 3}, {3, 2}, {3, 3}, {4, 2}, {5, 3}, {4, 5}} {
		p := plan(t, x.k, x.m)
		for _, long := range []int{0, 1, x.k, 3*x.k - 1, 3*x.k + 1, 24} {
			s := some(long, 31*x.k+long)
			shards := split(t, p, s)
			choices(x.k+x.m, x.k, func(numbers []int) {
				parts := partsOf(shards, numbers...)
				for range parts {
					wantJoin(t, p, parts, long, s, api.OK)
					parts = append(slices.Clone(parts[1:]), parts[0])
				}
				slices.Reverse(parts)
				wantJoin(t, p, parts, long, s, api.OK)
				for i, want := range shards {
					wantShard(t, p, parts, long, i, want, api.OK)
				}
			})
		}
	}
}

func TestAnyShardsOfManyAreEnough(t *testing.T) {
	for _, x := range []struct{ k, m int }{{128, 127}, {100, 155}, {200, 55}, {1, 254}, {254, 1}, {16, 16}} {
		p := plan(t, x.k, x.m)
		long := 3*x.k - 1
		s := some(long, x.k)
		shards := split(t, p, s)
		for from := 0; from < x.k+x.m; from += 50 {
			var numbers []int
			for i := range x.k {
				numbers = append(numbers, (from+i)%(x.k+x.m))
			}
			slices.Reverse(numbers)
			parts := partsOf(shards, numbers...)
			wantJoin(t, p, parts, long, s, api.OK)
			for _, i := range []int{0, x.k - 1, x.k, x.k + x.m - 1} {
				wantShard(t, p, parts, long, i, shards[i], api.OK)
			}
		}
	}
}

func TestMorePartsThanNeeded(t *testing.T) {
	p := plan(t, 3, 2)
	s := "the quick brown fox"
	shards := split(t, p, s)
	for _, numbers := range [][]int{{0, 1, 2, 3, 4}, {4, 3, 2, 1, 0}, {3, 0, 4, 1}, {4, 4, 4, 2, 2, 0, 3, 1, 1}} {
		wantJoin(t, p, partsOf(shards, numbers...), len(s), s, api.OK)
		for i, want := range shards {
			wantShard(t, p, partsOf(shards, numbers...), len(s), i, want, api.OK)
		}
	}
}

// P1 and R7: many may ask one plan at once, and all are told the same.
func TestManyAtOnce(t *testing.T) {
	p := plan(t, 3, 3)
	s := some(500, 5)
	want := shardsOf(3, 3, s)
	var all sync.WaitGroup
	for from := range 8 {
		all.Go(func() {
			shards, code := p.Split(s)
			if code != api.OK || !slices.Equal(shards, want) {
				t.Error("other shards")
				return
			}
			parts := partsOf(shards, (from+5)%6, (from+3)%6, (from+4)%6)
			if got, code := p.Join(parts, len(s)); got != s || code != api.OK {
				t.Error("other bytes", int(code))
			}
		})
	}
	all.Wait()
}
