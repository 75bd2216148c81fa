package shard_test

import (
	"crypto/sha256"
	"fmt"
	"hash/crc32"
	"math"
	"slices"
	"strings"
	"sync"
	"testing"

	"garret/api"
	"garret/shard"
	"garret/stripe"
)

// Written out here, so that the edges hang on nothing else.
const (
	maxBytes = 65536
	bare     = 47 // bytes of a shard that has no Data
)

// checkOf is by another's hand.
func checkOf(s string) int {
	return int(crc32.Checksum([]byte(s), crc32.MakeTable(crc32.Castagnoli)))
}

func sumOf(s string) string {
	sum := sha256.Sum256([]byte(s))
	return string(sum[:])
}

// sealed puts the check of s behind it.
func sealed(s string) string {
	n := checkOf(s)
	return s + string([]byte{byte(n), byte(n >> 8), byte(n >> 16), byte(n >> 24)})
}

// bytesOf is a shard's bytes by chapter 6's words, whether it may be or not.
func bytesOf(x shard.S) string {
	numbers := []byte{byte(x.K), byte(x.M), byte(x.Index), byte(x.Long >> 24), byte(x.Long >> 16), byte(x.Long >> 8), byte(x.Long)}
	return sealed("GRT\x01" + string(numbers) + x.Id + x.Data)
}

// some is so many bytes that hang on the seed, all kinds of them.
func some(long, seed int) string {
	x := uint32(seed)*2654435761 + 12345
	out := make([]byte, long)
	for i := range out {
		x = x*1664525 + 1013904223
		out[i] = byte(x >> 24)
	}
	return string(out)
}

// shardsOf is all shards of data.
func shardsOf(t testing.TB, k, m int, data string) []shard.S {
	t.Helper()
	p, code := stripe.New(k, m)
	if code != api.OK {
		t.Fatalf("no plan of %d and %d", k, m)
	}
	shards, code := p.Split(data)
	if code != api.OK {
		t.Fatalf("no shards of %d bytes", len(data))
	}
	var out []shard.S
	for i, s := range shards {
		out = append(out, shard.S{K: k, M: m, Index: i, Long: len(data), Id: sumOf(data), Data: s})
	}
	return out
}

// with is x, changed.
func with(x shard.S, change func(*shard.S)) shard.S {
	change(&x)
	return x
}

func pick(l []shard.S, numbers ...int) []shard.S {
	var out []shard.S
	for _, i := range numbers {
		out = append(out, l[i])
	}
	return out
}

// tell is shards as a test's message shows them.
func tell(l ...shard.S) string {
	var out []string
	for _, x := range l {
		out = append(out, fmt.Sprintf("{%d %d %d %d %.40q %.40q}", x.K, x.M, x.Index, x.Long, x.Id, x.Data))
	}
	return strings.Join(out, " ")
}

// wantShard is that x may be, and what else follows of that.
func wantShard(t *testing.T, x shard.S) {
	t.Helper()
	if code := shard.Check(x); code != api.OK {
		t.Errorf("Check(%s): %d", tell(x), int(code))
	}
	want := bytesOf(x)
	if got, code := shard.Encode(x); got != want || code != api.OK {
		t.Errorf("Encode(%s): %.200q, %d; want %.200q", tell(x), got, int(code), want)
	}
	if got, code := shard.Decode(want); got != x || code != api.OK {
		t.Errorf("Decode(%.200q): %s, %d; want %s", want, tell(got), int(code), tell(x))
	}
}

// wantNone is that x may not be.
func wantNone(t *testing.T, x shard.S) {
	t.Helper()
	if code := shard.Check(x); code != api.ErrShard {
		t.Errorf("Check(%s): %d", tell(x), int(code))
	}
	if got, code := shard.Encode(x); got != "" || code != api.ErrShard {
		t.Errorf("Encode(%s): %.200q, %d", tell(x), got, int(code))
	}
}

// wantNoBytes is that s is no shard's bytes.
func wantNoBytes(t *testing.T, s string) {
	t.Helper()
	if x, code := shard.Decode(s); x != (shard.S{}) || code != api.ErrShard {
		t.Errorf("Decode(%.200q): %s, %d", s, tell(x), int(code))
	}
}

func wantGather(t *testing.T, l []shard.S, want string, wantCode api.Code) {
	t.Helper()
	if got, code := shard.Gather(l); got != want || code != wantCode {
		t.Errorf("Gather(%.600s): %.80q, %d; want %.80q, %d", tell(l...), got, int(code), want, int(wantCode))
	}
}

// choices calls with each list of k of the numbers from 0 to n - 1, in each order.
func choices(n, k int, call func(numbers []int)) {
	var more func(numbers []int)
	more = func(numbers []int) {
		if len(numbers) == k {
			call(numbers)
			return
		}
		for i := range n {
			if !slices.Contains(numbers, i) {
				more(append(slices.Clone(numbers), i))
			}
		}
	}
	more(nil)
}

// Promise 6.1.

func TestCrc(t *testing.T) {
	for _, x := range []struct {
		s    string
		want int
	}{
		{"", 0},
		{"123456789", 3808858755},
		{"a", 0xc1d04330},
		{"\x00", 0x527d5351},
		{strings.Repeat("\x00", 32), 0x8a9136aa},
		{strings.Repeat("\xff", 32), 0x62a8ab43},
	} {
		if got := shard.Crc(x.s); got != x.want {
			t.Errorf("the check of %q: %d, want %d", x.s, got, x.want)
		}
	}
}

func TestCrcByAnothersHand(t *testing.T) {
	for _, long := range []int{0, 1, 2, 3, 4, 5, 31, 64, 255, 1000, maxBytes, 3*maxBytes + 1} {
		for seed := range 4 {
			s := some(long, seed)
			if got, want := shard.Crc(s), checkOf(s); got != want {
				t.Errorf("the check of %d bytes: %d, want %d", long, got, want)
			}
		}
	}
	for b := range 256 {
		s := string([]byte{byte(b)})
		if got, want := shard.Crc(s), checkOf(s); got != want {
			t.Errorf("the check of the byte %d: %d, want %d", b, got, want)
		}
	}
}

func TestShardsThatMayBe(t *testing.T) {
	id := sumOf("abc")
	for _, x := range []shard.S{
		{K: 1, Id: id},
		{K: 1, Long: 1, Id: id, Data: "x"},
		{K: 2, M: 1, Long: 3, Id: id, Data: "ab"},
		{K: 2, M: 1, Index: 1, Long: 3, Id: id, Data: "c\x00"},
		{K: 2, M: 1, Index: 2, Long: 3, Id: id, Data: "\xff\xfe"},
		// What lies behind the bytes is not looked at, nor whose sum the Id is.
		{K: 2, M: 1, Index: 1, Long: 3, Id: strings.Repeat("\x00", 32), Data: "cd"},
		// K and M together 255.
		{K: 1, M: 254, Id: id}, {K: 1, M: 254, Index: 254, Id: id},
		{K: 255, Id: id}, {K: 255, Index: 254, Id: id},
		{K: 254, M: 1, Index: 254, Long: 255, Id: id, Data: "ab"},
		{K: 128, M: 127, Index: 254, Long: 129, Id: id, Data: "ab"},
		// The most.
		{K: 1, Long: maxBytes, Id: id, Data: some(maxBytes, 1)},
		{K: 2, M: 3, Index: 4, Long: maxBytes, Id: id, Data: some(maxBytes/2, 2)},
		{K: 3, Long: maxBytes, Id: id, Data: some(21846, 3)},
		{K: 255, Index: 7, Long: maxBytes, Id: id, Data: some(258, 4)},
		{K: 2, Long: 300, Id: id, Data: some(150, 5)},
	} {
		wantShard(t, x)
	}
}

func TestNumbersOfPlansThatAreNone(t *testing.T) {
	id := sumOf("abc")
	for _, x := range [][2]int{
		{0, 0}, {0, 1}, {0, 255}, {-1, 0}, {-1, 2}, {1, -1}, {2, -1}, {255, -1}, {256, -1}, {256, 0}, {257, 0}, {300, -45},
		{1, 255}, {255, 1}, {128, 128}, {200, 56}, {1, 256}, {257, 257},
		{math.MaxInt, 0}, {1, math.MaxInt}, {math.MaxInt, 1}, {math.MaxInt, math.MaxInt}, {math.MaxInt, math.MinInt},
		{math.MinInt, 0}, {1, math.MinInt}, {math.MinInt, math.MinInt}, {math.MinInt, math.MaxInt},
	} {
		for _, index := range []int{0, 1, -1, 255} {
			wantNone(t, shard.S{K: x[0], M: x[1], Index: index, Id: id})
			wantNone(t, shard.S{K: x[0], M: x[1], Index: index, Long: 1, Id: id, Data: "x"})
		}
	}
}

func TestIndexesThatAreNone(t *testing.T) {
	id := sumOf("abc")
	for _, x := range [][2]int{{1, 0}, {1, 1}, {2, 1}, {3, 2}, {255, 0}, {1, 254}} {
		all := x[0] + x[1]
		for _, index := range []int{0, all - 1} {
			wantShard(t, shard.S{K: x[0], M: x[1], Index: index, Id: id})
		}
		for _, index := range []int{-1, all, all + 1, 256, 256 + all, -255, math.MinInt, math.MaxInt} {
			wantNone(t, shard.S{K: x[0], M: x[1], Index: index, Id: id})
		}
	}
}

func TestLengthsThatAreNone(t *testing.T) {
	id := sumOf("abc")
	for _, k := range []int{1, 2, 3, 255} {
		for _, long := range []int{-1, -k, -maxBytes, math.MinInt, maxBytes + 1, maxBytes + k, 1 << 32, 1<<32 + 1, math.MaxInt} {
			each := 0
			if long > 0 && long < 2*maxBytes {
				each = (long + k - 1) / k
			}
			for _, data := range []string{"", "x", strings.Repeat("x", each)} {
				wantNone(t, shard.S{K: k, M: 0, Long: long, Id: id, Data: data})
			}
		}
	}
}

func TestIdsThatAreNone(t *testing.T) {
	good := shard.S{K: 2, M: 1, Long: 3, Data: "ab"}
	for _, long := range []int{0, 1, 31, 33, 64, maxBytes} {
		wantNone(t, with(good, func(x *shard.S) { x.Id = strings.Repeat("i", long) }))
	}
	wantShard(t, with(good, func(x *shard.S) { x.Id = strings.Repeat("i", 32) }))
	// Together they are as long as they should be.
	wantNone(t, with(good, func(x *shard.S) { x.Id, x.Data = strings.Repeat("i", 31), "abc" }))
	wantNone(t, with(good, func(x *shard.S) { x.Id, x.Data = strings.Repeat("i", 33), "a" }))
}

func TestDataOfAnotherLength(t *testing.T) {
	for _, x := range []struct{ k, long, each int }{
		{1, 0, 0}, {1, 1, 1}, {1, 5, 5}, {2, 0, 0}, {2, 1, 1}, {2, 2, 1}, {2, 3, 2}, {2, 4, 2}, {3, 4, 2}, {3, 6, 2}, {3, 7, 3},
		{255, 0, 0}, {255, 1, 1}, {255, 255, 1}, {255, 256, 2}, {1, maxBytes, maxBytes}, {2, maxBytes, maxBytes / 2}, {255, maxBytes, 258},
	} {
		good := shard.S{K: x.k, Long: x.long, Id: sumOf(""), Data: some(x.each, x.k)}
		wantShard(t, good)
		wantNone(t, with(good, func(y *shard.S) { y.Data += "\x00" }))
		wantNone(t, with(good, func(y *shard.S) { y.Data = some(2*x.each+2, 1) }))
		if x.each > 0 {
			wantNone(t, with(good, func(y *shard.S) { y.Data = y.Data[1:] }))
			wantNone(t, with(good, func(y *shard.S) { y.Data = "" }))
		}
	}
}

func TestNothingIsNoShard(t *testing.T) {
	wantNone(t, shard.S{})
	wantNone(t, shard.S{Id: sumOf("")})
	wantNone(t, shard.S{K: 1})
}

func TestBytesOfAShard(t *testing.T) {
	x := shard.S{K: 3, M: 2, Index: 4, Long: 0x1234, Id: sumOf("x"), Data: some(1554, 1)}
	got, code := shard.Encode(x)
	if code != api.OK || len(got) != bare+1554 {
		t.Fatalf("%d bytes, %d", len(got), int(code))
	}
	if want := "GRT\x01\x03\x02\x04\x00\x00\x12\x34" + x.Id + x.Data; got[:len(got)-4] != want {
		t.Errorf("%.100q", got)
	}
	n := checkOf(got[:len(got)-4])
	for i, b := range []byte(got[len(got)-4:]) {
		if b != byte(n>>(8*i)) {
			t.Errorf("the check %x ends the bytes as %x", n, got[len(got)-4:])
			break
		}
	}
}

func TestDecodeOfTooFewBytes(t *testing.T) {
	wantNoBytes(t, "")
	whole := bytesOf(shard.S{K: 1, Id: sumOf("")})
	if len(whole) != bare {
		t.Fatal(len(whole))
	}
	for long := range len(whole) {
		wantNoBytes(t, whole[:long])
		if long != bare-4 {
			wantNoBytes(t, sealed(whole[:long]))
		}
		wantNoBytes(t, whole[long:len(whole)-1])
		wantNoBytes(t, strings.Repeat("\x00", long))
		wantNoBytes(t, sealed(strings.Repeat("\x00", long)))
		wantNoBytes(t, sealed(strings.Repeat("\x01", long)))
	}
}

func TestDecodeOfAnotherFront(t *testing.T) {
	good := bytesOf(shard.S{K: 2, M: 1, Long: 3, Id: sumOf("abc"), Data: "ab"})
	body := good[4 : len(good)-4]
	for _, front := range []string{
		"grt\x01", "GRt\x01", "GRU\x01", "HRT\x01", "GST\x01", "\x00\x00\x00\x01", "TRG\x01",
		"GRT\x00", "GRT\x02", "GRT\xff", "GRT1", "\x01GRT", "GRT", "GRT\x01\x01", "", "\x01",
	} {
		wantNoBytes(t, sealed(front+body))
	}
	if x, code := shard.Decode(sealed("GRT\x01" + body)); code != api.OK || x.K != 2 {
		t.Errorf("%s, %d", tell(x), int(code))
	}
}

func TestDecodeOfAnotherCheck(t *testing.T) {
	good := bytesOf(shard.S{K: 2, M: 1, Long: 3, Id: sumOf("abc"), Data: "ab"})
	body, check := good[:len(good)-4], []byte(good[len(good)-4:])
	slices.Reverse(check)
	for _, other := range []string{string(check), "\x00\x00\x00\x00", "\xff\xff\xff\xff", good[len(good)-3:] + "\x00"} {
		wantNoBytes(t, body+other)
	}
	for at := range 4 {
		for turn := 1; turn < 256; turn++ {
			other := []byte(good)
			other[len(body)+at] ^= byte(turn)
			wantNoBytes(t, string(other))
		}
	}
	// The check of a part alone is not theirs.
	wantNoBytes(t, body+sealed(body[1:])[len(body)-1:])
	wantNoBytes(t, body+sealed(body[4:])[len(body)-4:])
}

// The check is right, but the shard may not be.
func TestDecodeOfFieldsThatMayNotBe(t *testing.T) {
	good := shard.S{K: 2, M: 1, Index: 1, Long: 3, Id: sumOf("abc"), Data: "c\x00"}
	for _, change := range []func(*shard.S){
		func(x *shard.S) { x.K = 0 },
		func(x *shard.S) { x.K = 1 },
		func(x *shard.S) { x.K = 3 },
		func(x *shard.S) { x.K = 255 },
		func(x *shard.S) { x.M = 254 },
		func(x *shard.S) { x.M = 255 },
		func(x *shard.S) { x.Index = 3 },
		func(x *shard.S) { x.Index = 255 },
		func(x *shard.S) { x.Long = 0 },
		func(x *shard.S) { x.Long = 2 },
		func(x *shard.S) { x.Long = 5 },
		func(x *shard.S) { x.Long = 3 + 1<<16 },
		func(x *shard.S) { x.Long = 3 + 1<<24 },
		func(x *shard.S) { x.Long = 1<<32 - 1 },
		func(x *shard.S) { x.Id = x.Id[1:] },
		func(x *shard.S) { x.Id += "i" },
		func(x *shard.S) { x.Data = "" },
		func(x *shard.S) { x.Data = "c" },
		func(x *shard.S) { x.Data = "cde" },
		func(x *shard.S) { x.K, x.Long, x.Data = 1, maxBytes+1, some(maxBytes+1, 1) },
		func(x *shard.S) { x.K, x.Long, x.Data = 2, maxBytes+1, some(maxBytes/2+1, 1) },
		func(x *shard.S) { x.K, x.M, x.Index, x.Long, x.Data = 0, 1, 0, 0, "" },
		func(x *shard.S) { x.K, x.M, x.Long, x.Data = 255, 1, 0, "" },
		func(x *shard.S) { x.K, x.M, x.Long, x.Data = 128, 128, 0, "" },
	} {
		wantNoBytes(t, bytesOf(with(good, change)))
	}
	wantShard(t, good)
}

func TestDecodeOfAByteMoreOrLess(t *testing.T) {
	for _, x := range append(shardsOf(t, 2, 1, "abc"), shard.S{K: 1, Id: sumOf("")}) {
		good := bytesOf(x)
		body := good[:len(good)-4]
		for _, more := range []string{"\x00", "x", "\xff", "GRT", good} {
			wantNoBytes(t, good+more)
			wantNoBytes(t, more+good)
			wantNoBytes(t, body+more+good[len(body):])
			wantNoBytes(t, sealed(body+more))
			wantNoBytes(t, sealed(more+body))
			wantNoBytes(t, sealed(good+more))
		}
		wantNoBytes(t, sealed(good))
		wantNoBytes(t, good[1:])
		wantNoBytes(t, good[:len(good)-1])
		wantNoBytes(t, sealed(body[:len(body)-1]))
		wantNoBytes(t, sealed(body[1:]))
		for at := range good {
			wantNoBytes(t, good[:at]+good[at+1:])
		}
	}
}

// Promise 6.2.

func TestMake(t *testing.T) {
	for _, x := range [][2]int{{1, 0}, {1, 1}, {2, 0}, {2, 1}, {3, 2}, {5, 7}, {1, 254}, {255, 0}, {128, 127}} {
		for _, long := range []int{0, 1, 2, 3, 7, x[0] - 1, x[0], x[0] + 1, 300} {
			data := some(long, x[0]+long)
			var want []string
			for _, y := range shardsOf(t, x[0], x[1], data) {
				want = append(want, bytesOf(y))
			}
			if got, code := shard.Make(x[0], x[1], data); code != api.OK || !slices.Equal(got, want) {
				t.Errorf("Make of %v, %d bytes: %d shards, %d", x, long, len(got), int(code))
			}
		}
	}
}

func TestMakeOfTheMost(t *testing.T) {
	data := some(maxBytes, 3)
	for _, x := range [][2]int{{1, 1}, {3, 2}, {255, 0}} {
		got, code := shard.Make(x[0], x[1], data)
		if code != api.OK || len(got) != x[0]+x[1] {
			t.Fatalf("%v: %d shards, %d", x, len(got), int(code))
		}
		var l []shard.S
		for i, s := range got {
			y, code := shard.Decode(s)
			if code != api.OK || y.Index != i || y.Long != maxBytes || y.Id != sumOf(data) {
				t.Fatalf("%v: shard %d: %d", x, i, int(code))
			}
			l = append(l, y)
		}
		wantGather(t, l[x[1]:], data, api.OK)
	}
}

func TestMakeRefuses(t *testing.T) {
	long := strings.Repeat("x", maxBytes+1)
	for _, x := range [][2]int{
		{0, 0}, {0, 1}, {-1, 1}, {1, -1}, {256, 0}, {255, 1}, {1, 255}, {128, 128}, {256, -1},
		{math.MaxInt, math.MaxInt}, {math.MaxInt, 1}, {1, math.MaxInt}, {math.MinInt, math.MinInt}, {math.MinInt, math.MaxInt},
	} {
		// A plan that is none goes ahead of too many bytes.
		for _, data := range []string{"", "abc", long} {
			if got, code := shard.Make(x[0], x[1], data); len(got) != 0 || code != api.ErrRange {
				t.Errorf("Make of %v, %d bytes: %d shards, %d", x, len(data), len(got), int(code))
			}
		}
	}
	for _, x := range [][2]int{{1, 0}, {3, 2}, {255, 0}} {
		for _, data := range []string{long, long + long} {
			if got, code := shard.Make(x[0], x[1], data); len(got) != 0 || code != api.ErrLong {
				t.Errorf("Make of %v, %d bytes: %d shards, %d", x, len(data), len(got), int(code))
			}
		}
	}
}

func TestMakeAnswersNewMemory(t *testing.T) {
	a, _ := shard.Make(2, 2, "abc")
	b, _ := shard.Make(2, 2, "abc")
	want := slices.Clone(b)
	_ = append(a[:0], slices.Repeat([]string{"more"}, cap(a))...)
	c, _ := shard.Make(2, 2, "abc")
	if len(want) != 4 || !slices.Equal(b, want) || !slices.Equal(c, want) {
		t.Error("an answer shares memory with another one")
	}
}

func TestFits(t *testing.T) {
	x := shard.S{K: 2, M: 1, Index: 1, Long: 3, Id: sumOf("abc"), Data: "c\x00"}
	for i, change := range []struct {
		to   func(*shard.S)
		fits bool
	}{
		{func(y *shard.S) {}, true},
		{func(y *shard.S) { y.Index = 0 }, true},
		{func(y *shard.S) { y.Index = -9 }, true},
		{func(y *shard.S) { y.Data = "ab" }, true},
		{func(y *shard.S) { y.Data = "" }, true},
		{func(y *shard.S) { y.Index, y.Data = 7, "abcdef" }, true},
		{func(y *shard.S) { y.K = 3 }, false},
		{func(y *shard.S) { y.M = 2 }, false},
		{func(y *shard.S) { y.Long = 4 }, false},
		{func(y *shard.S) { y.Id = sumOf("x") }, false},
		{func(y *shard.S) { y.Id = "" }, false},
		{func(y *shard.S) { y.Id = y.Id[:31] + "?" }, false},
		{func(y *shard.S) { y.K, y.M = 1, 2 }, false},
		{func(y *shard.S) { *y = shard.S{} }, false},
	} {
		y := with(x, change.to)
		if shard.Fits(x, y) != change.fits || shard.Fits(y, x) != change.fits {
			t.Errorf("%d: %s", i, tell(y))
		}
	}
	// Whether they may be is not asked.
	if !shard.Fits(shard.S{}, shard.S{}) || !shard.Fits(shard.S{K: -1, Index: 4}, shard.S{K: -1, Data: "x"}) {
		t.Error("none, but alike")
	}
}

// Promise 6.3.

func TestGather(t *testing.T) {
	for _, x := range [][2]int{{1, 0}, {1, 2}, {2, 1}, {2, 2}, {3, 2}, {3, 0}} {
		for _, long := range []int{0, 1, 2, 5, 6, 7, 20} {
			data := some(long, 7*x[0]+long)
			l := shardsOf(t, x[0], x[1], data)
			for n := range len(l) + 1 {
				choices(len(l), n, func(numbers []int) {
					switch {
					case n == 0:
						wantGather(t, pick(l, numbers...), "", api.ErrShape)
					case n < x[0]:
						wantGather(t, pick(l, numbers...), "", api.ErrFew)
					default:
						wantGather(t, pick(l, numbers...), data, api.OK)
					}
				})
			}
		}
	}
}

func TestGatherOfNoShard(t *testing.T) {
	wantGather(t, nil, "", api.ErrShape)
	wantGather(t, []shard.S{}, "", api.ErrShape)
	wantGather(t, shardsOf(t, 1, 0, "")[:0], "", api.ErrShape)
}

func TestGatherOfMany(t *testing.T) {
	for _, x := range [][2]int{{128, 127}, {255, 0}, {1, 254}, {200, 55}} {
		data := some(3*x[0]-1, x[0])
		l := shardsOf(t, x[0], x[1], data)
		wantGather(t, l, data, api.OK)
		slices.Reverse(l)
		wantGather(t, l, data, api.OK)
		wantGather(t, l[:x[0]], data, api.OK)
		if x[0] > 1 {
			wantGather(t, l[:x[0]-1], "", api.ErrFew)
		}
	}
}

// wrongOnes are shards that may not be, or that do not fit x.
func wrongOnes(x shard.S) []shard.S {
	var out []shard.S
	for _, change := range []func(*shard.S){
		func(y *shard.S) { *y = shard.S{} },
		func(y *shard.S) { y.K = 0 },
		func(y *shard.S) { y.K = 3 },
		func(y *shard.S) { y.M = -1 },
		func(y *shard.S) { y.M++ },
		func(y *shard.S) { y.K, y.M = math.MaxInt, math.MaxInt },
		func(y *shard.S) { y.Index = -1 },
		func(y *shard.S) { y.Index = y.K + y.M },
		func(y *shard.S) { y.Index = math.MaxInt },
		func(y *shard.S) { y.Long = -1 },
		func(y *shard.S) { y.Long = maxBytes + 1 },
		func(y *shard.S) { y.Long++ },
		func(y *shard.S) { y.Id = sumOf("x") },
		func(y *shard.S) { y.Id = y.Id[1:] },
		func(y *shard.S) { y.Id = "" },
		func(y *shard.S) { y.Data = y.Data[1:] },
		func(y *shard.S) { y.Data += "\x00" },
	} {
		out = append(out, with(x, change))
	}
	return out
}

func TestGatherRefusesShapes(t *testing.T) {
	good := shardsOf(t, 2, 2, "abc")
	for _, wrong := range wrongOnes(good[1]) {
		for at := range len(good) + 1 {
			wantGather(t, slices.Insert(slices.Clone(good), at, wrong), "", api.ErrShape)
		}
		// That goes ahead of too few, ..
		wantGather(t, []shard.S{good[0], wrong}, "", api.ErrShape)
		wantGather(t, []shard.S{wrong, good[0]}, "", api.ErrShape)
		wantGather(t, []shard.S{good[0], good[0], wrong}, "", api.ErrShape)
		// .. and of another sum, wherever it stands.
		bad := with(good[0], func(x *shard.S) { x.Data = "??" })
		wantGather(t, []shard.S{bad, good[1], wrong}, "", api.ErrShape)
		wantGather(t, []shard.S{wrong, bad, good[1]}, "", api.ErrShape)
	}
}

// None of these may be, though all fit one another.
func TestGatherOfAllWrong(t *testing.T) {
	for _, change := range []func(*shard.S){
		func(y *shard.S) { y.K = 0 },
		func(y *shard.S) { y.K = 3 },
		func(y *shard.S) { y.K, y.M = 200, 56 },
		func(y *shard.S) { y.M = -1 },
		func(y *shard.S) { y.Index = -1 },
		func(y *shard.S) { y.Index = 4 },
		func(y *shard.S) { y.Long = -1 },
		func(y *shard.S) { y.Long = maxBytes + 1 },
		func(y *shard.S) { y.Id = "" },
		func(y *shard.S) { y.Id = y.Id[1:] },
		func(y *shard.S) { y.Id += "i" },
		func(y *shard.S) { y.Data = "abc" },
	} {
		var l []shard.S
		for _, x := range shardsOf(t, 2, 2, "abc") {
			l = append(l, with(x, change))
			wantGather(t, l, "", api.ErrShape)
		}
	}
}

// They may be, each for itself, but are of two objects, or of two plans.
func TestGatherOfTwoKinds(t *testing.T) {
	a := shardsOf(t, 2, 2, "abc")
	for _, b := range [][]shard.S{shardsOf(t, 2, 2, "abd"), shardsOf(t, 2, 2, "abcd"), shardsOf(t, 2, 1, "abc"), shardsOf(t, 1, 3, "abc"), shardsOf(t, 3, 2, "abc")} {
		wantGather(t, []shard.S{a[0], b[1]}, "", api.ErrShape)
		wantGather(t, []shard.S{b[0], a[1]}, "", api.ErrShape)
		wantGather(t, []shard.S{a[0], a[1], b[2]}, "", api.ErrShape)
		wantGather(t, []shard.S{b[0], a[0], a[1]}, "", api.ErrShape)
	}
}

func TestGatherOfTooFewNumbers(t *testing.T) {
	l := shardsOf(t, 3, 2, "the quick brown fox")
	for _, numbers := range [][]int{{0}, {4}, {0, 1}, {3, 4}, {0, 0, 0}, {2, 2, 4, 4, 2, 2, 4}} {
		wantGather(t, pick(l, numbers...), "", api.ErrFew)
	}
	// Too few goes ahead of another sum.
	bad := with(l[0], func(x *shard.S) { x.Data = strings.Repeat("?", len(x.Data)) })
	wantGather(t, []shard.S{bad, l[1]}, "", api.ErrFew)
	wantGather(t, []shard.S{bad, l[0], l[1]}, "", api.ErrFew)
}

func TestGatherOfAnotherSum(t *testing.T) {
	l := shardsOf(t, 2, 2, "abc")
	bad := func(i int) shard.S { return with(l[i], func(x *shard.S) { x.Data = "??" }) }
	for _, wrong := range [][]shard.S{
		{bad(0), l[1]}, {l[0], bad(1)}, {bad(2), l[3]}, {l[0], bad(3)}, {bad(0), bad(1)},
		// The first ones with unlike numbers count, even if others would do.
		{bad(0), l[1], l[2], l[3]}, {bad(0), l[0], l[1]}, {l[2], bad(1), l[1], l[0]},
	} {
		wantGather(t, wrong, "", api.ErrShard)
	}
	for _, right := range [][]shard.S{
		{l[0], l[1], bad(2)}, {l[0], bad(0), l[1]}, {l[3], l[3], bad(3), l[2], bad(1), bad(0)},
	} {
		wantGather(t, right, "abc", api.OK)
	}
	// All shards are those of the bytes, but the Id is another's.
	for i := range l {
		l[i].Id = sumOf("abd")
	}
	wantGather(t, l, "", api.ErrShard)
	// Of no bytes, too.
	wantGather(t, []shard.S{{K: 1, Id: sumOf("x")}}, "", api.ErrShard)
	wantGather(t, []shard.S{{K: 1, Id: sumOf("")}}, "", api.OK)
}

// What lies in a piece behind the bytes is not told, and has no part in the sum.
func TestGatherOfBytesBehind(t *testing.T) {
	l := shardsOf(t, 2, 1, "abc")
	wantGather(t, []shard.S{l[0], with(l[1], func(x *shard.S) { x.Data = "c?" })}, "abc", api.OK)
}

func TestShardsStayAsTheyAre(t *testing.T) {
	good := shardsOf(t, 2, 2, "abc")
	room := append(pick(good, 3, 3, 1, 0, 2), shard.S{}, good[1])
	before := slices.Clone(room)
	for long := range len(room) + 1 {
		shard.Gather(room[:long])
		shard.Gather(room[long:])
		if !slices.Equal(room, before) {
			t.Fatalf("%d shards: changed to %s", long, tell(room...))
		}
	}
	// What lies behind the list is not read, and nothing of it is kept.
	wantGather(t, room[:2], "", api.ErrFew)
	wantGather(t, room[:5], "abc", api.OK)
	clear(room)
	wantGather(t, room[:5], "", api.ErrShape)
	wantGather(t, good, "abc", api.OK)
}

// Promise 6.4.

func TestThereAndBack(t *testing.T) {
	for _, x := range [][2]int{{1, 0}, {1, 3}, {2, 1}, {4, 2}, {10, 20}, {40, 30}, {200, 0}} {
		for _, long := range []int{0, 1, 2, 255, 256, 257, 1000} {
			data := some(long, x[1]+long)
			made, code := shard.Make(x[0], x[1], data)
			if code != api.OK || len(made) != x[0]+x[1] {
				t.Fatalf("%v, %d bytes: %d", x, long, int(code))
			}
			var l []shard.S
			for i, s := range made {
				y, code := shard.Decode(s)
				if code != api.OK || y.K != x[0] || y.M != x[1] || y.Index != i || y.Long != long || y.Id != sumOf(data) {
					t.Fatalf("%v, %d bytes: %d: %s, %d", x, long, i, tell(y), int(code))
				}
				if again, code := shard.Encode(y); again != s || code != api.OK {
					t.Fatalf("%v, %d bytes: %d is written otherwise", x, long, i)
				}
				l = append(l, y)
			}
			wantGather(t, l[x[1]:], data, api.OK)
		}
	}
}

// turned is s with those bits turned of the 32 from one on that are set in
// the pattern, counted from the lowest bit of the first byte on.
func turned(s string, from int, pattern uint32) string {
	out := []byte(s)
	for i := range 32 {
		if bit := from + i; pattern>>i&1 == 1 && bit < 8*len(s) {
			out[bit/8] ^= 1 << (bit % 8)
		}
	}
	return string(out)
}

func TestTurnedBitsThatFollowOneAnother(t *testing.T) {
	for _, x := range append(shardsOf(t, 2, 1, "abcde"), shard.S{K: 1, Id: sumOf("")}) {
		good := bytesOf(x)
		for from := range 8 * len(good) {
			for long := 1; long <= 32; long++ {
				if from+long <= 8*len(good) {
					wantNoBytes(t, turned(good, from, uint32(1<<long-1)))
				}
			}
		}
	}
}

// Of the bits that follow one another only some are turned, the first one always.
func TestSomeTurnedBitsOfThirtyTwo(t *testing.T) {
	good := bytesOf(shardsOf(t, 2, 1, "abcde")[2])
	x := uint32(1)
	for from := range 8 * len(good) {
		for range 50 {
			x = x*1664525 + 1013904223
			wantNoBytes(t, turned(good, from, x>>8|x<<24|1))
		}
	}
}

// The same, with the bits of a byte counted from the highest on.
func TestTurnedBitsFromTheHighestOn(t *testing.T) {
	good := bytesOf(shardsOf(t, 2, 1, "abcde")[1])
	for from := range 8 * len(good) {
		out := []byte(good)
		for bit := from; bit < from+32 && bit < 8*len(good); bit++ {
			out[bit/8] ^= 128 >> (bit % 8)
			wantNoBytes(t, string(out))
		}
	}
}

func TestAnEndThatIsCutOff(t *testing.T) {
	for _, data := range []string{"", "abc", some(600, 1), strings.Repeat("\x00", 40)} {
		for _, x := range shardsOf(t, 2, 2, data) {
			good := bytesOf(x)
			wantShard(t, x)
			for long := range len(good) {
				wantNoBytes(t, good[:long])
			}
		}
	}
}

// An end is cut off such that what is left has its own check at its end.
func TestAnEndThatIsCutOffBehindACheck(t *testing.T) {
	short := bytesOf(shard.S{K: 1, Long: 4, Id: sumOf("abcd"), Data: "abcd"})
	body := short[11+32 : len(short)-4]
	fields := "GRT\x01\x01\x00\x00\x00\x00\x00\x0c" + sumOf("abcd")
	inner := sealed(fields + body)
	long := sealed(inner + "wxyz")
	if x, code := shard.Decode(long); code != api.OK || x.Long != 12 {
		t.Fatalf("%s, %d", tell(x), int(code))
	}
	wantNoBytes(t, inner)
	for cut := range len(long) {
		wantNoBytes(t, long[:cut])
	}
}

func TestWhatIsGatheredHasItsIdAsItsSum(t *testing.T) {
	for seed := range 2000 {
		bytes := some(40, seed)
		l := shardsOf(t, 2, 2, "abc")
		for i := range l {
			// Data that are right, or nearly so, in any order.
			x := &l[int(bytes[4*i])%len(l)]
			x.Data = string([]byte{x.Data[0] ^ bytes[4*i+1]&1, x.Data[1] ^ bytes[4*i+2]&1})
			l[i], *x = *x, l[i]
		}
		s, code := shard.Gather(l[:2+int(bytes[39])%3])
		if code == api.OK && sumOf(s) != l[0].Id || code != api.OK && (s != "" || code != api.ErrShard) {
			t.Fatalf("%s: %q, %d", tell(l...), s, int(code))
		}
	}
}

// P1: none panics, whatever it is given.
func TestNoArgumentPanics(t *testing.T) {
	numbers := []int{math.MinInt, -1, 0, 1, 2, 254, 255, 256, maxBytes, maxBytes + 1, math.MaxInt}
	for _, k := range numbers {
		for _, m := range numbers {
			shard.Make(k, m, "abc")
			for _, n := range numbers {
				for _, data := range []string{"", "x", "ab"} {
					for _, x := range []shard.S{{K: k, M: m, Index: n, Id: sumOf(""), Data: data}, {K: k, M: m, Long: n, Data: data}} {
						_, encode := shard.Encode(x)
						if encode != shard.Check(x) {
							t.Fatal(tell(x), int(encode))
						}
						shard.Gather([]shard.S{x, x})
					}
				}
			}
		}
	}
	for seed := range 3000 {
		s := some(seed%100, seed)
		wantNoBytes(t, s)
		wantNoBytes(t, "GRT\x01"+s)
		if x, code := shard.Decode(sealed("GRT\x01" + s)); code != api.OK && x != (shard.S{}) {
			t.Fatal(tell(x), int(code))
		}
	}
}

// R7: many may ask at once, and all are told the same.
func TestManyAtOnce(t *testing.T) {
	data := some(500, 5)
	want, _ := shard.Make(3, 2, data)
	var all sync.WaitGroup
	for from := range 8 {
		all.Go(func() {
			made, code := shard.Make(3, 2, data)
			if code != api.OK || !slices.Equal(made, want) {
				t.Error("other shards")
				return
			}
			var l []shard.S
			for i := range 3 {
				x, _ := shard.Decode(made[(from+i)%5])
				l = append(l, x)
			}
			if got, code := shard.Gather(l); got != data || code != api.OK {
				t.Error("other bytes", int(code))
			}
		})
	}
	all.Wait()
}
