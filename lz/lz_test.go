package lz_test

import (
	"math"
	"runtime"
	"slices"
	"strings"
	"sync"
	"testing"
	"unsafe"

	"garret/api"
	"garret/lz"
)

const (
	fox   = "the quick brown fox jumps over the lazy dog; "
	most  = 1 << 20
	ten   = "\x15a\x01\x00\x10b" // the chapter's example
	again = 4                    // bytes that are repeated, if b is 0
)

// read is what a block says, by the chapter's words.
type read struct {
	list []lz.Sequence
	out  []byte
	ok   bool
}

// plainRead reads s byte by byte, and keeps all that it unpacks to.
func plainRead(s string) (r read) {
	at := 0
	next := func() (int, bool) {
		if at >= len(s) {
			return 0, false
		}
		at++
		return int(s[at-1]), true
	}
	added := func(half int) (int, bool) {
		n := half
		for b := 255; half == 15 && b == 255; {
			var ok bool
			if b, ok = next(); !ok {
				return 0, false
			}
			n += b
		}
		return n, true
	}
	for {
		first, ok := next()
		if !ok {
			return read{}
		}
		a, ok := added(first / 16)
		if !ok || at+a > len(s) {
			return read{}
		}
		q := lz.Sequence{Literals: s[at : at+a]}
		at += a
		r.out = append(r.out, q.Literals...)
		if at == len(s) {
			if first%16 != 0 {
				return read{}
			}
			return read{list: append(r.list, q), out: r.out, ok: true}
		}
		low, _ := next()
		high, ok := next()
		if !ok {
			return read{}
		}
		b, ok := added(first % 16)
		q.Distance, q.Long = low+256*high, b+again
		if !ok || q.Distance == 0 || q.Distance > len(r.out) {
			return read{}
		}
		for range q.Long {
			r.out = append(r.out, r.out[len(r.out)-q.Distance])
		}
		r.list = append(r.list, q)
	}
}

// seq is a sequence; one with no distance is written as a last one.
func seq(literals string, distance, long int) lz.Sequence {
	return lz.Sequence{Literals: literals, Distance: distance, Long: long}
}

// block is the bytes of a block of these, by the chapter's words, right or not.
func block(list ...lz.Sequence) string {
	half := func(n int) (int, string) {
		if n < 15 {
			return n, ""
		}
		return 15, strings.Repeat("\xff", (n-15)/255) + string([]byte{byte((n - 15) % 255)})
	}
	var out strings.Builder
	for _, q := range list {
		a, moreA := half(len(q.Literals))
		b, moreB := half(max(q.Long-again, 0))
		out.WriteByte(byte(16*a + b))
		out.WriteString(moreA + q.Literals)
		if q.Long > 0 {
			out.WriteString(string([]byte{byte(q.Distance), byte(q.Distance >> 8)}) + moreB)
		}
	}
	return out.String()
}

// unpack, sequences and pack are the calls, of what must not be refused.
func unpack(t testing.TB, s string, long int) string {
	t.Helper()
	out, code := lz.Unpack(s, long)
	if code != api.OK {
		t.Fatalf("Unpack(%s, %d): %d", short(s), long, code)
	}
	return out
}

func sequences(t testing.TB, s string) []lz.Sequence {
	t.Helper()
	l, code := lz.Sequences(s)
	if code != api.OK {
		t.Fatalf("Sequences(%s): %d", short(s), code)
	}
	return l
}

func pack(t testing.TB, s string) string {
	t.Helper()
	b, code := lz.Pack(s)
	if code != api.OK {
		t.Fatalf("Pack(%s): %d", short(s), code)
	}
	return b
}

// packed packs s, and looks whether it is unpacked to s and short enough.
func packed(t testing.TB, s string) string {
	t.Helper()
	b := pack(t, s)
	if len(b) > len(s)+len(s)/255+16 {
		t.Fatalf("Pack(%s): %d bytes are packed to %d", short(s), len(s), len(b))
	}
	if unpack(t, b, len(s)) != s {
		t.Fatalf("Pack(%s): it is unpacked to others", short(s))
	}
	return b
}

// refusedUnpack looks whether Unpack answers this code, and nothing else.
func refusedUnpack(t testing.TB, s string, long int, want api.Code) {
	t.Helper()
	if out, code := lz.Unpack(s, long); out != "" || code != want {
		t.Errorf("Unpack(%s, %d): %d bytes, %d, not %d", short(s), long, len(out), code, want)
	}
}

func refusedSequences(t testing.TB, s string, want api.Code) {
	t.Helper()
	if l, code := lz.Sequences(s); len(l) != 0 || code != want {
		t.Errorf("Sequences(%s): %d of them, %d, not %d", short(s), len(l), code, want)
	}
}

// noBlock looks whether s is refused whatever it is said to unpack to.
func noBlock(t testing.TB, s string) {
	t.Helper()
	for _, long := range []int{0, 1, 2, 3, 4, 5, 8, 15, 16, len(s), 255, 300, 1000, most - 1, most} {
		refusedUnpack(t, s, long, api.ErrLz)
	}
	refusedSequences(t, s, api.ErrLz)
}

// sameAsPlain holds both calls beside the plain reading.
func sameAsPlain(t testing.TB, s string) bool {
	t.Helper()
	r := plainRead(s)
	if !r.ok {
		noBlock(t, s)
		return false
	}
	if out := unpack(t, s, len(r.out)); out != string(r.out) {
		t.Fatalf("%s: %q, not %q", short(s), out, r.out)
	}
	for _, long := range []int{0, len(r.out) - 1, len(r.out) + 1, 2 * len(r.out), most} {
		if long >= 0 && long != len(r.out) {
			refusedUnpack(t, s, long, api.ErrLz)
		}
	}
	if l := sequences(t, s); !slices.Equal(l, r.list) {
		t.Fatalf("%s: %v, not %v", short(s), l, r.list)
	}
	return true
}

func short(s string) string {
	if len(s) <= 40 {
		return hex(s)
	}
	return hex(s[:40]) + ".."
}

func hex(s string) string {
	var out strings.Builder
	for i := range len(s) {
		out.WriteByte("0123456789abcdef"[s[i]>>4])
		out.WriteByte("0123456789abcdef"[s[i]&15])
	}
	return out.String()
}

// dice is numbers that are the same in each run.
type dice uint32

func (d *dice) upTo(n int) int {
	*d = *d*1664525 + 1013904223
	return int(uint64(*d>>8) * uint64(n) >> 24)
}

// text is n bytes of so many kinds.
func (d *dice) text(n, kinds int) string {
	b := make([]byte, n)
	for i := range b {
		b[i] = byte(d.upTo(kinds))
	}
	return string(b)
}

// unlike is 2^20 bytes of which no four, one behind the other, stand there
// twice: a sequence of de Bruijn of 32 kinds of bytes.
func unlike() string {
	var out []byte
	word := make([]byte, 5)
	var grow func(at, period int)
	grow = func(at, period int) {
		if at > 4 {
			if 4%period == 0 {
				out = append(out, word[1:period+1]...)
			}
			return
		}
		word[at] = word[at-period]
		grow(at+1, period)
		for b := word[at-period] + 1; b < 32; b++ {
			word[at] = b
			grow(at+1, at)
		}
	}
	grow(1, 1)
	return string(out)
}

// Promise 12.1.

func TestBoundAtItsEdges(t *testing.T) {
	for n, want := range map[int]int{0: 16, 1: 17, 254: 270, 255: 272, 256: 273, 509: 526, 510: 528, 511: 529,
		65536: 65809, most - 1: 1052703, most: 1052704} {
		if got, code := lz.Bound(n); got != want || code != api.OK {
			t.Errorf("Bound(%d): %d, %d, not %d", n, got, code, want)
		}
	}
	for _, n := range []int{-1, -2, -255, -most, math.MinInt, most + 1, most + 2, 2 * most, 1 << 32, 1<<32 + 1, math.MaxInt} {
		if got, code := lz.Bound(n); got != 0 || code != api.ErrRange {
			t.Errorf("Bound(%d): %d, %d", n, got, code)
		}
	}
}

func TestBoundOfEveryLength(t *testing.T) {
	for n := range most + 1 {
		if got, code := lz.Bound(n); got != n+16+n/255 || code != api.OK {
			t.Fatalf("Bound(%d): %d, %d", n, got, code)
		}
	}
}

func TestPackOfFewBytes(t *testing.T) {
	for _, s := range []string{"", "a", "\x00", "\xff", "abc", "abcd", "aaaa", "aaaaa", "aaaaaaaaaab", "abcdabcd", "abcdeabcde"} {
		packed(t, s)
	}
	if b := packed(t, ""); b != "\x00" {
		t.Errorf("of no bytes: %s", short(b)) // the only block of them
	}
	for n := 1; n <= 4; n++ {
		if b, s := packed(t, fox[:n]), fox[:n]; b != block(seq(s, 0, 0)) {
			t.Errorf("%q: %s", s, short(b)) // so few bytes repeat nothing
		}
	}
}

func TestPackOfManyBytes(t *testing.T) {
	d := dice(1)
	for _, s := range []string{strings.Repeat("x", most+2), d.text(most+2, 2), d.text(most+2, 16), d.text(most+2, 256)} {
		packed(t, s[:most-1])
		packed(t, s[:most])
		for _, long := range []int{most + 1, most + 2} {
			if b, code := lz.Pack(s[:long]); b != "" || code != api.ErrLong {
				t.Errorf("%d bytes: %d, %d", long, len(b), code)
			}
		}
	}
	if b, code := lz.Pack(strings.Repeat("x", 8*most)); b != "" || code != api.ErrLong {
		t.Errorf("%d, %d", len(b), code)
	}
}

// TestPackOfBytesThatRepeatNothing has literals of every length around which
// one more byte is added.
func TestPackOfBytesThatRepeatNothing(t *testing.T) {
	s := unlike()
	if len(s) != most {
		t.Fatal(len(s))
	}
	for long := range 1100 {
		if b := packed(t, s[:long]); b != block(seq(s[:long], 0, 0)) {
			t.Fatalf("%d bytes: %s", long, short(b))
		}
	}
	for _, long := range []int{15 + 255*255 - 1, 15 + 255*255, 15 + 255*255 + 1, 1 << 16, 1<<16 + 1, 15 + 4111*255, most - 1, most} {
		if b := packed(t, s[:long]); b != block(seq(s[:long], 0, 0)) {
			t.Fatalf("%d bytes: %s", long, short(b))
		}
	}
}

// TestPackOfFewRepeats has four bytes here and there that stood ahead, where a
// block may grow by more than it saves.
func TestPackOfFewRepeats(t *testing.T) {
	d, s := dice(2), unlike()
	for range 300 {
		var b strings.Builder
		for at := 0; b.Len() < 2000; {
			n := 1 + d.upTo([]int{3, 20, 300}[d.upTo(3)])
			b.WriteString(s[at:at+n] + s[:4+d.upTo(2)])
			at += n
		}
		packed(t, b.String())
	}
}

func TestPackOfBytesOfAllKinds(t *testing.T) {
	d := dice(3)
	for range 3000 {
		packed(t, d.text(d.upTo(400), 1+d.upTo(256)))
	}
	for kinds := 1; kinds <= 256; kinds *= 2 {
		packed(t, d.text(70000, kinds))
	}
}

// farApart is a text with one repeat, so far ahead and so long.
func farApart(s string, far, long int) string { return s[:far] + s[:long] + s[far:far+300] }

// TestPackOfWhatStandsFarAhead has repeats up to and above the distance that
// two bytes tell.
func TestPackOfWhatStandsFarAhead(t *testing.T) {
	s := unlike()
	for _, far := range []int{1000, 65533, 65534, 65535, 65536, 65537, 65538, 131071, 131072, 200000} {
		for _, long := range []int{4, 5, 18, 19, 20, 273, 274, 275, 1000} {
			text := farApart(s, far, long)
			b := packed(t, text)
			if far <= 65535 && long > 20 && len(b) > len(text)+len(text)/255-long+20 {
				t.Errorf("%d bytes, %d ahead: packed to %d of %d", long, far, len(b), len(text))
			}
		}
	}
}

func fewAtMost(d, long int) int { return d + 40 + long/200 }

// steady looks at a text from whose place d on each byte is the one d ahead.
func steady(t *testing.T, s string, d int) {
	t.Helper()
	if d < len(s) && s[d:] != s[:len(s)-d] {
		t.Fatalf("%s does not repeat itself from %d on", short(s), d)
	}
	if b := packed(t, s); len(b) > fewAtMost(d, len(s)) {
		t.Fatalf("%s of %d bytes, %d: packed to %d", short(s), len(s), d, len(b))
	}
}

// periods is some texts of d bytes; in many of them a part stands more than once.
func periods(dice *dice, d int) []string {
	l := []string{strings.Repeat("a", d-1) + "b", "b" + strings.Repeat("a", d-1), strings.Repeat("b", d/2+1) + strings.Repeat("a", d-d/2-1)}
	for _, kinds := range []int{2, 3, 4, 256} {
		l = append(l, dice.text(d, kinds))
	}
	half := dice.text((d+1)/2, 256)
	word := dice.text(5, 256)
	return append(l, (half + half)[:d-1]+"!", (strings.Repeat(word, d)[:d-1])+"!")
}

func TestPackOfShortTextsThatRepeatThemselves(t *testing.T) {
	dice := dice(4)
	for d := 1; d <= 64; d++ {
		for _, p := range periods(&dice, d) {
			for _, long := range []int{0, 1, d - 1, d, d + 1, d + 3, d + 4, d + 5, 2*d - 1, 2 * d, 2*d + 1, 3 * d, 199, 200, 201, 1000, 5000} {
				steady(t, strings.Repeat(p, long/d+1)[:long], d)
			}
		}
	}
}

// TestPackOfAllShortPeriods has every text of two kinds of bytes that repeats
// itself from a place up to 10 on.
func TestPackOfAllShortPeriods(t *testing.T) {
	for d := 1; d <= 10; d++ {
		for n := range 1 << d {
			steady(t, strings.Repeat(ofBits(n, d), 40), d)
		}
	}
}

func ofBits(n, long int) string {
	b := make([]byte, long)
	for i := range b {
		b[i] = 'a' + byte(n>>i&1)
	}
	return string(b)
}

func TestPackOfLongTextsThatRepeatThemselves(t *testing.T) {
	dice := dice(5)
	for _, d := range []int{1, 2, 5, 63, 64} {
		for _, p := range periods(&dice, d) {
			steady(t, strings.Repeat(p, most/d+1)[:most], d)
		}
	}
}

// TestPackedTwiceIsTheSame packs other texts between, and at once.
func TestPackedTwiceIsTheSame(t *testing.T) {
	d := dice(6)
	texts := []string{"", "a", strings.Repeat(fox, 100), d.text(5000, 2), d.text(5000, 256), strings.Repeat("x", 70000)}
	var first []string
	for _, s := range texts {
		first = append(first, pack(t, s))
	}
	var wait sync.WaitGroup
	for range 8 {
		wait.Go(func() {
			for i := len(texts) - 1; i >= 0; i-- {
				if b, code := lz.Pack(strings.Clone(texts[i])); b != first[i] || code != api.OK {
					t.Errorf("%s: another block, %d", short(texts[i]), code)
				}
			}
		})
	}
	wait.Wait()
}

// Promise 12.2.

func TestUnpackTheExample(t *testing.T) {
	if s := unpack(t, ten, 11); s != "aaaaaaaaaab" {
		t.Errorf("%q", s)
	}
	for _, long := range []int{0, 1, 9, 10, 12, 13, most} {
		refusedUnpack(t, ten, long, api.ErrLz)
	}
}

// some is blocks that are right, with all that a block may have.
func some() []string {
	x := strings.Repeat("x", 2000)
	l := []string{"\x00", "\x10a", ten, "\xf0\x00" + x[:15], "\xf0\xff\x00" + x[:270], "\xf0\xff\xff\x00" + x[:525],
		"\x1fa\x01\x00\x00\x00", "\x1fa\x01\x00\xff\x00\x00", "\x1fa\x01\x00\xff\xff\x00\x10b", "\x10a\x01\x00\x00\x01\x00\x00"}
	for _, n := range []int{0, 1, 13, 14, 15, 16, 269, 270, 271, 524, 525, 526, 1000} {
		l = append(l, block(seq(x[:n], 0, 0)), block(seq("ab", 2, n+4), seq(x[:n], 0, 0)),
			block(seq(x[:n]+"y", 1, 4), seq(x[:n], n+1, n+4), seq("", 5, 1000), seq("z", 0, 0)))
	}
	return l
}

func TestUnpackOfAllHalves(t *testing.T) {
	for _, s := range some() {
		if !sameAsPlain(t, s) {
			t.Errorf("%s is no block to the test", short(s))
		}
	}
	x := strings.Repeat("x", 600)
	for n := range 600 { // each number of literals, and of bytes repeated
		if out := unpack(t, block(seq(x[:n], 0, 0)), n); out != x[:n] {
			t.Fatalf("%d literals: %q", n, out)
		}
		if out := unpack(t, block(seq("ab", 2, n+4), seq("!", 0, 0)), n+7); out != strings.Repeat("ab", 400)[:n+6]+"!" {
			t.Fatalf("%d repeated: %q", n+4, out)
		}
	}
}

// TestUnpackOfHalvesAndWhatIsAdded tells 14 and 15, with bytes of 0 and of 255
// behind them, apart.
func TestUnpackOfHalvesAndWhatIsAdded(t *testing.T) {
	x := strings.Repeat("x", 600)
	for i, c := range []struct {
		s    string
		long int
		want string
	}{
		{"\xe0" + x[:14], 14, x[:14]},
		{"\xf0\x00" + x[:15], 15, x[:15]},
		{"\xf0\x01" + x[:16], 16, x[:16]},
		{"\xf0\xfe" + x[:269], 269, x[:269]},
		{"\xf0\xff\x00" + x[:270], 270, x[:270]},
		{"\xf0\xff\xff\x00" + x[:525], 525, x[:525]},
		{"\x1ex\x01\x00\x00", 19, x[:19]},
		{"\x1fx\x01\x00\x00\x00", 20, x[:20]},
		{"\x1fx\x01\x00\x01\x00", 21, x[:21]},
		{"\x1fx\x01\x00\xfe\x00", 274, x[:274]},
		{"\x1fx\x01\x00\xff\x00\x00", 275, x[:275]},
		{"\x1fx\x01\x00\xff\xff\x00\x00", 530, x[:530]},
		{"\xff\x00" + x[:15] + "\x0f\x00\x00\x00", 34, x[:34]},
		{"\xee" + x[:14] + "\x0e\x00\xe0" + x[:14], 46, x[:46]},
	} {
		if out, code := lz.Unpack(c.s, c.long); out != c.want || code != api.OK {
			t.Errorf("%d: %d bytes, %d", i, len(out), code)
		}
	}
	for _, s := range []string{"\xe0" + x[:15], "\xe0\x00" + x[:14], "\xf0" + x[:15], "\xf0\x00" + x[:14], "\xf0\xff" + x[:270],
		"\xf0\xff\x00" + x[:269], "\x1ex\x01\x00", "\x1fx\x01\x00\x00", "\x1fx\x01\x00\xff\x00", "\x1fx\x01\x00\xff\xff"} {
		noBlock(t, s)
	}
}

func TestUnpackOfAnyLong(t *testing.T) {
	for _, long := range []int{-1, -2, -most, math.MinInt, most + 1, most + 2, 1 << 32, math.MaxInt} {
		for _, s := range []string{"", "\x00", ten, "\xff", block(seq("a", 1, most))} {
			refusedUnpack(t, s, long, api.ErrRange)
		}
	}
	if out := unpack(t, "\x00", 0); out != "" {
		t.Errorf("%q", out)
	}
	x := unlike()
	for _, long := range []int{most - 1, most} {
		if out := unpack(t, block(seq(x[:long], 0, 0)), long); out != x[:long] {
			t.Error("literals: others")
		}
		if out := unpack(t, block(seq("a", 1, long-1), seq("", 0, 0)), long); out != strings.Repeat("a", long) {
			t.Error("repeated: others")
		}
	}
	for _, s := range []string{block(seq(x+"a", 0, 0)), block(seq("a", 1, most), seq("", 0, 0))} {
		refusedUnpack(t, s, most, api.ErrLz)
		refusedUnpack(t, s, most+1, api.ErrRange)
	}
}

func TestUnpackOfNoBytes(t *testing.T) { noBlock(t, "") }

// TestUnpackOfWhatEndsInTheMidst names each place within a sequence.
func TestUnpackOfWhatEndsInTheMidst(t *testing.T) {
	x := strings.Repeat("x", 300)
	for _, s := range []string{
		"\x10", "\x50", "\xe0", "\x01", "\x1f", // behind the first byte
		"\xf0", "\xf0\xff", "\xf0\xff\xff", "\xff", "\xf0" + strings.Repeat("\xff", 5000), // among what is added to a
		"\x20a", "\x30ab", "\xf0\x00" + x[:14], "\xf0\x01" + x[:15], "\xf0\xff\x00" + x[:269], // among the literals
		"\x10a\x01", "\x1fa\x01", "\x10a\x00", ten + "\x01", "\x00\x01", // within the distance
		"\x1fa\x01\x00", "\x1fa\x01\x00\xff", "\x1fa\x01\x00\xff\xff", "\x1fa\x01\x00" + strings.Repeat("\xff", 5000), // and to b
		"\x15a\x01\x00\x10", "\x15a\x01\x00\x20b", "\x15a\x01\x00\xf0", // in the second one
	} {
		noBlock(t, s)
	}
}

// TestUnpackOfEveryBeginningOfABlock cuts blocks off at each of their places,
// and puts bytes behind them.
func TestUnpackOfEveryBeginningOfABlock(t *testing.T) {
	good := 0
	for _, s := range some() {
		for n := range s {
			if sameAsPlain(t, s[:n]) {
				good++
			}
		}
		for _, behind := range []string{"\x00", "\x01", "\x01\x00", "\x01\x00\x00", "\x10a", "\xff", "a"} {
			sameAsPlain(t, s+behind)
		}
	}
	if good > 20 {
		t.Errorf("%d beginnings are blocks", good)
	}
}

func TestUnpackOfALastSequenceThatHasADistance(t *testing.T) {
	for _, s := range []string{"\x10a\x01\x00", "\x15a\x01\x00", "\x1fa\x01\x00\x00", "\x1fa\x01\x00\xff\x07",
		"\x15a\x01\x00\x10b\x01\x00", "\x10a\x01\x00\x00\x01\x00", block(seq(fox, 7, 30)), block(seq(fox, 7, 30), seq(fox, 45, 4))} {
		noBlock(t, s)
		if !sameAsPlain(t, s+"\x00") {
			t.Errorf("%s is no block with a last sequence, either", short(s))
		}
	}
}

func TestUnpackOfALastSequenceWithB(t *testing.T) {
	for b := range 16 {
		for _, s := range []string{string([]byte{byte(b)}), string([]byte{16 + byte(b), 'a'}), string([]byte{0xf0 + byte(b), 0}) + fox[:15],
			ten[:4] + string([]byte{byte(b)}), ten[:4] + string([]byte{16 + byte(b), 'b'})} {
			if ok := sameAsPlain(t, s); ok != (b == 0) {
				t.Errorf("%s: %v", short(s), ok)
			}
		}
	}
}

func TestUnpackOfDistances(t *testing.T) {
	x := unlike()
	for _, long := range []int{1, 2, 15, 254, 255, 256, 257, 511, 512, 1000, 65279, 65280, 65534, 65535} {
		for _, c := range []struct {
			distance int
			ok       bool
		}{{0, false}, {1, true}, {long - 1, long > 1}, {long, true}, {long + 1, false}, {65535, long == 65535}} {
			if c.distance > 65535 {
				continue
			}
			s := block(seq(x[:long], c.distance, 9), seq("!", 0, 0))
			if ok := sameAsPlain(t, s); ok != c.ok {
				t.Errorf("%d, %d unpacked by then: %v", c.distance, long, ok)
			}
		}
	}
	for _, long := range []int{1 << 16, 1<<16 + 1, 200000} { // more was unpacked than a distance tells
		for _, distance := range []int{0, 1, 255, 256, 65535} {
			s := block(seq(x[:long], distance, 70000), seq("!", 0, 0))
			if ok := sameAsPlain(t, s); ok != (distance > 0) {
				t.Errorf("%d, %d unpacked by then: %v", distance, long, ok)
			}
		}
	}
}

// TestUnpackCountsWhatWasRepeated has distances that reach to the front of
// what was unpacked, behind bytes that were repeated.
func TestUnpackCountsWhatWasRepeated(t *testing.T) {
	for distance := range 20 {
		s := block(seq("ab", 2, 5), seq("c", distance, 4), seq("", 0, 0))
		if ok := sameAsPlain(t, s); ok != (1 <= distance && distance <= 8) {
			t.Errorf("%d: %v", distance, ok)
		}
	}
	noBlock(t, block(seq("", 1, 4), seq("", 0, 0))) // at the front there is nothing
	noBlock(t, block(seq("", 0, 4), seq("", 0, 0)))
}

func TestUnpackOfWhatReachesIntoItself(t *testing.T) {
	for _, distance := range []int{1, 2, 3, 4, 5, 7, 8, 16, 44, 45} {
		for long := again; long < 300; long++ {
			s := block(seq(fox, distance, long), seq("end", 0, 0))
			last := fox[len(fox)-distance:]
			want := fox + strings.Repeat(last, long)[:long] + "end"
			if out := unpack(t, s, len(want)); out != want {
				t.Fatalf("%d bytes, %d ahead: %q, not %q", long, distance, out, want)
			}
		}
	}
}

func TestUnpackOfAnotherLength(t *testing.T) {
	for _, s := range some() {
		long := len(plainRead(s).out)
		for _, other := range []int{long - 1, long + 1, long + 255, long * 2, most} {
			if other >= 0 && other != long {
				refusedUnpack(t, s, other, api.ErrLz)
			}
		}
	}
}

// Promise 12.3.

func TestSequencesOfTheExample(t *testing.T) {
	if l := sequences(t, ten); !slices.Equal(l, []lz.Sequence{{"a", 1, 9}, {"b", 0, 0}}) {
		t.Errorf("%v", l)
	}
	for _, s := range []string{"\x00", "\xf0\x00" + fox[:15], "\x10a"} {
		if l := sequences(t, s); len(l) != 1 || l[0] != seq(string(plainRead(s).out), 0, 0) {
			t.Errorf("%s: %v", short(s), l)
		}
	}
}

func TestSequencesOfAnyNumbers(t *testing.T) {
	d := dice(7)
	for range 500 {
		list := anySequences(&d)
		if l := sequences(t, block(list...)); !slices.Equal(l, list) {
			t.Fatalf("%v, not %v", l, list)
		}
		sameAsPlain(t, block(list...))
	}
}

// anySequences is sequences that are right, some of them long.
func anySequences(d *dice) []lz.Sequence {
	var list []lz.Sequence
	done := 0
	long := func() int { return d.upTo([]int{3, 20, 600}[d.upTo(3)]) }
	for range d.upTo(8) {
		q := seq(d.text(long(), 256), 0, again+long())
		if done += len(q.Literals); done == 0 {
			q.Literals, done = "a", 1
		}
		q.Distance = 1 + d.upTo(min(done, 65535))
		done += q.Long
		list = append(list, q)
	}
	return append(list, seq(d.text(long(), 256), 0, 0))
}

func TestSequencesOfManyBytes(t *testing.T) {
	x := unlike()
	for _, c := range []struct {
		list []lz.Sequence
		want api.Code
	}{
		{[]lz.Sequence{seq(x, 0, 0)}, api.OK},
		{[]lz.Sequence{seq(x+"a", 0, 0)}, api.ErrLong},
		{[]lz.Sequence{seq("a", 1, most-1), seq("", 0, 0)}, api.OK},
		{[]lz.Sequence{seq("a", 1, most-2), seq("b", 0, 0)}, api.OK},
		{[]lz.Sequence{seq("a", 1, most), seq("", 0, 0)}, api.ErrLong},
		{[]lz.Sequence{seq("a", 1, most-1), seq("b", 0, 0)}, api.ErrLong},
		{[]lz.Sequence{seq("a", 1, most/2), seq("b", 1, most/2-2), seq("", 0, 0)}, api.OK},
		{[]lz.Sequence{seq("a", 1, most/2), seq("b", 1, most/2-1), seq("", 0, 0)}, api.ErrLong},
		{[]lz.Sequence{seq(x, 1, 4), seq("", 0, 0)}, api.ErrLong},
		{[]lz.Sequence{seq("a", 1, most), seq("b", 2, most), seq(fox, 3, most), seq("", 0, 0)}, api.ErrLong},
	} {
		l, code := lz.Sequences(block(c.list...))
		if code != c.want || code == api.OK && !slices.Equal(l, c.list) || code != api.OK && len(l) != 0 {
			t.Errorf("%d sequences: %d, %d, not %d", len(c.list), len(l), code, c.want)
		}
	}
	many := slices.Repeat([]lz.Sequence{seq("", 1, 4)}, most/again)
	many[0] = seq("a", 1, 4)
	for last, want := range map[int]api.Code{len(many) - 1: api.OK, len(many): api.ErrLong} {
		l, code := lz.Sequences(block(append(slices.Clone(many[:last]), seq("", 0, 0))...))
		if code != want || code == api.OK && len(l) != last+1 {
			t.Errorf("%d sequences: %d, %d, not %d", last+1, len(l), code, want)
		}
	}
}

// Rule R1: what is named first is answered.

func TestTheFirstThingThatIsWrong(t *testing.T) {
	long := block(seq("a", 1, most)) // it unpacks to too many bytes by then
	for _, s := range []string{long, long + "\x01", long + "\x10", long + "\xf0\xff", long + "\x10b\x00\x00\x00", long + "\x10b\x01",
		long + block(seq("b", 1, most)), block(seq(unlike()+"a", 0, 4)) + "\x00"} {
		refusedSequences(t, s, api.ErrLz) // it is no block, however many bytes they are
		refusedUnpack(t, s, most, api.ErrLz)
		refusedUnpack(t, s, most+1, api.ErrRange)
		refusedUnpack(t, s, -1, api.ErrRange)
	}
	refusedSequences(t, long+"\x00", api.ErrLong)
	refusedSequences(t, long+"\x10b", api.ErrLong)
}

// P1: hostile bytes.

func TestEveryTextOfFewBytes(t *testing.T) {
	good := 0
	try := func(s string) {
		if sameAsPlain(t, s) {
			good++
		}
	}
	for a := range 256 {
		try(string([]byte{byte(a)}))
		for b := range 256 {
			try(string([]byte{byte(a), byte(b)}))
		}
	}
	bytes := []byte{0, 1, 2, 0x0f, 0x10, 0x11, 0x1f, 0x20, 0xf0, 0xff}
	for long := 3; long <= 5; long++ {
		b := make([]byte, long)
		for n := range int(math.Pow(float64(len(bytes)), float64(long))) {
			for i := range b {
				b[i] = bytes[n%len(bytes)]
				n /= len(bytes)
			}
			try(string(b))
		}
	}
	if good < 300 {
		t.Errorf("only %d are blocks", good)
	}
}

func TestHostileBytes(t *testing.T) {
	d := dice(8)
	good := 0
	for range 6000 {
		b := []byte(block(anySequences(&d)...))
		if len(b) > 400 {
			continue
		}
		for range d.upTo(4) {
			at := d.upTo(len(b))
			switch d.upTo(4) {
			case 0:
				b[at] ^= 1 << d.upTo(8)
			case 1:
				b[at] = []byte{0, 1, 0x0f, 0xf0, 0xff}[d.upTo(5)]
			case 2:
				b = slices.Delete(b, at, at+1)
			case 3:
				b = slices.Insert(b, at, byte(d.upTo(256)))
			}
			if len(b) == 0 {
				b = []byte{0}
			}
		}
		if sameAsPlain(t, string(b)) {
			good++
		}
	}
	if good < 500 {
		t.Errorf("only %d are blocks", good)
	}
	for range 6000 {
		sameAsPlain(t, d.text(d.upTo(60), 256))
	}
}

// TestWhatFewBytesSayCostsLittle has bytes that say that they unpack to very many.
func TestWhatFewBytesSayCostsLittle(t *testing.T) {
	full := strings.Repeat("\xff", 4*most) // a billion bytes
	for i, s := range []string{"\x1fa\x01\x00" + full + "\x00\x00", "\x1fa\x01\x00" + full, "\xf0" + full, "\xf0" + full + "\x00abc",
		"\x1fa\x01\x00" + full + "\x00\x1fb\x01\x00" + full + "\x00\x00", "\x1fa\x01\x00" + full[:5000] + "\x00\x00"} {
		took := taken(func() {
			lz.Sequences(s)
			for _, long := range []int{0, 1, 1000, most} {
				refusedUnpack(t, s, long, api.ErrLz)
			}
		})
		if took > 8*most {
			t.Errorf("%d: %d bytes of memory", i, took)
		}
	}
	refusedSequences(t, "\x1fa\x01\x00"+full+"\x00\x00", api.ErrLong)
	refusedSequences(t, "\xf0"+full, api.ErrLz)
}

// taken is how much memory was asked for meanwhile.
func taken(do func()) uint64 {
	var before, after runtime.MemStats
	runtime.ReadMemStats(&before)
	do()
	runtime.ReadMemStats(&after)
	return after.TotalAlloc - before.TotalAlloc
}

// Rules R4 and R7.

func TestAnswersAreNewMemory(t *testing.T) {
	s := strings.Clone(block(seq(fox, 45, 100), seq(fox, 0, 0)))
	want := plainRead(s).list
	l := sequences(t, s)
	for _, q := range l {
		if within(q.Literals, s) {
			t.Error("literals are a piece of what was handed in")
		}
	}
	room := l[:cap(l)]
	for i := range room {
		room[i] = seq("other", 1, 1)
	}
	if again := sequences(t, s); !slices.Equal(again, want) {
		t.Errorf("%v, not %v", again, want)
	}
}

// within tells whether a lies in the memory of b.
func within(a, b string) bool {
	at, from := uintptr(unsafe.Pointer(unsafe.StringData(a))), uintptr(unsafe.Pointer(unsafe.StringData(b)))
	return from <= at && at < from+uintptr(len(b))
}

// Promise 12.4.

func TestWhatIsPackedIsUnpacked(t *testing.T) {
	d := dice(9)
	for range 2000 {
		var b strings.Builder
		for range d.upTo(30) { // parts that are new, and parts that stood ahead
			if s := b.String(); s != "" && d.upTo(2) == 0 {
				at := d.upTo(len(s))
				b.WriteString(s[at : at+d.upTo(len(s)-at+1)])
			}
			b.WriteString(d.text(d.upTo(20), 1+d.upTo(256)))
		}
		s := b.String()[:min(b.Len(), 5000)]
		block := packed(t, s)
		if r := plainRead(block); !r.ok || string(r.out) != s {
			t.Fatalf("%s is no block of %s", short(block), short(s))
		}
		sameAsPlain(t, block)
	}
}

func TestWhatRepeatsItselfIsPackedToLess(t *testing.T) {
	for long := 5; long <= 11; long++ { // every text of two kinds of bytes, twice
		for n := range 1 << long {
			less(t, strings.Repeat(ofBits(n, long), 2))
		}
	}
	d := dice(10)
	for range 3000 {
		s := d.text(8+d.upTo(500), 1+d.upTo(256))
		less(t, s+s)
		less(t, s+s+s)
	}
	for _, s := range []string{strings.Repeat("a", 8), "abcdeabcde", fox + fox, strings.Repeat(fox, 1000), "aaaabaaaaaba"} {
		less(t, s)
	}
	if b := packed(t, strings.Repeat(fox, 1000)); len(b) > 300 {
		t.Errorf("%d", len(b))
	}
}

func less(t *testing.T, s string) {
	t.Helper()
	if b := packed(t, s); len(b) >= len(s) {
		t.Fatalf("%s: %d bytes are packed to %d", short(s), len(s), len(b))
	}
}
