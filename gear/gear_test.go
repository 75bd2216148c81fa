package gear_test

import (
	"math"
	"math/big"
	"slices"
	"strings"
	"testing"

	"garret/api"
	"garret/gear"
)

const (
	fox  = "the quick brown fox jumps over the lazy dog; "
	most = 1 << 20
)

var (
	word  = new(big.Int).Lsh(big.NewInt(1), 64)
	gears = plainGears()
)

// plainGear is the gear of b by the chapter's words, with numbers of any size.
func plainGear(b int) *big.Int {
	number := func(s string) *big.Int { n, _ := new(big.Int).SetString(s, 10); return n }
	times := func(x, y *big.Int) *big.Int { return new(big.Int).Mod(new(big.Int).Mul(x, y), word) }
	mixed := func(x *big.Int, down uint) *big.Int { return new(big.Int).Xor(x, new(big.Int).Rsh(x, down)) }
	x := times(big.NewInt(int64(b)+1), number("11400714819323198485"))
	x = times(mixed(x, 31), number("13787848793156543929"))
	return mixed(x, 29)
}

func plainGears() (l [256]uint64) {
	for b := range l {
		l[b] = plainGear(b).Uint64()
	}
	return l
}

// ends tells whether a chunk that began to count at the front of s ends behind it.
func ends(bits int, s string) bool {
	h := new(big.Int)
	for i := range len(s) {
		h.Mod(h.Add(h.Lsh(h, 1), new(big.Int).SetUint64(gears[s[i]])), word)
	}
	return h.Rsh(h, uint(64-bits)).Sign() == 0
}

// plainFirst tries every length that the first chunk may have.
func plainFirst(x gear.Setup, s string) int {
	if len(s) <= x.Least {
		return len(s)
	}
	for n := x.Least; ; n++ {
		if n == x.Most || n == len(s) || ends(x.Bits, s[x.Least-1:n]) {
			return n
		}
	}
}

func plainChunks(x gear.Setup, s string) []string {
	var l []string
	for s != "" {
		n := plainFirst(x, s)
		l, s = append(l, s[:n]), s[n:]
	}
	return l
}

func longs(l []string) []int {
	var out []int
	for _, s := range l {
		out = append(out, len(s))
	}
	return out
}

// first and chunks are the calls, of what must not be refused.
func first(t testing.TB, x gear.Setup, s string) int {
	t.Helper()
	n, code := gear.First(x, s)
	if code != api.OK {
		t.Fatalf("First(%+v, %d bytes): %d", x, len(s), code)
	}
	return n
}

func chunks(t testing.TB, x gear.Setup, s string) []string {
	t.Helper()
	l, code := gear.Chunks(x, s)
	if code != api.OK {
		t.Fatalf("Chunks(%+v, %d bytes): %d", x, len(s), code)
	}
	return l
}

// dice is numbers that are the same in each run.
type dice uint32

func (d *dice) upTo(n int) int {
	*d = *d*1664525 + 1013904223
	return int(uint64(*d>>8) * uint64(n) >> 24)
}

// text is n bytes of so many kinds.
func (d *dice) text(n, kinds int) string {
	b := make([]byte, n)
	for i := range b {
		b[i] = byte(d.upTo(kinds) * 255 / max(kinds-1, 1))
	}
	return string(b)
}

func (d *dice) setup(least, bits, most int) gear.Setup {
	x := gear.Setup{Least: 1 + d.upTo(least), Bits: 1 + d.upTo(bits)}
	x.Most = x.Least + d.upTo(most)
	return x
}

// sameTop is bytes whose gear has, or has not, a highest bit of 0.
func sameTop(zero bool) []byte {
	var l []byte
	for b, g := range gears {
		if (g>>63 == 0) == zero {
			l = append(l, byte(b))
		}
	}
	return l
}

// Promise 11.1.

var edges = []int{math.MinInt, math.MinInt + 1, -16384, -1, 0, 1, 2, 15, 16, 17, 4095, 4096, 4097,
	16383, 16384, 16385, 1 << 32, math.MaxInt - 1, math.MaxInt}

func TestCheckAtAllEdges(t *testing.T) {
	good := 0
	for _, least := range edges {
		for _, bits := range edges {
			for _, most := range edges {
				x := gear.Setup{Least: least, Bits: bits, Most: most}
				want := api.ErrRange
				if least > 0 && least < 4097 && bits > 0 && bits < 17 && most >= least && most < 16385 {
					want = api.OK
					good++
				}
				if got := gear.Check(x); got != want {
					t.Errorf("Check(%+v): %d, not %d", x, got, want)
				}
				refused(t, x, want)
			}
		}
	}
	if good == 0 {
		t.Error("no setup was good")
	}
}

// refused asks the calls that take a setup for what Check tells of it.
func refused(t *testing.T, x gear.Setup, want api.Code) {
	t.Helper()
	for _, s := range []string{"", "a", "abc"} {
		n, code := gear.First(x, s)
		if code != want || want != api.OK && n != 0 {
			t.Errorf("First(%+v, %q): %d, %d, not %d", x, s, n, code, want)
		}
		l, code := gear.Chunks(x, s)
		if code != want || want != api.OK && len(l) != 0 {
			t.Errorf("Chunks(%+v, %q): %q, %d, not %d", x, s, l, code, want)
		}
	}
}

func TestCheckOfMostBesideEveryLeast(t *testing.T) {
	for least := 1; least <= 4096; least++ {
		for most, want := range map[int]api.Code{least - 1: api.ErrRange, least: api.OK, least + 1: api.OK,
			16384: api.OK, 16385: api.ErrRange} {
			if got := gear.Check(gear.Setup{Least: least, Bits: 8, Most: most}); got != want {
				t.Fatalf("Least %d, Most %d: %d, not %d", least, most, got, want)
			}
		}
	}
}

func TestGearOfEveryByte(t *testing.T) {
	seen := map[uint64]int{}
	for b := range 256 {
		got, code := gear.Gear(b)
		if want := plainGear(b); code != api.OK || want.Cmp(new(big.Int).SetUint64(got)) != 0 {
			t.Errorf("Gear(%d): %x, %d, not %x", b, got, code, want)
		}
		if other, there := seen[got]; there {
			t.Errorf("%d and %d have one gear", other, b)
		}
		seen[got] = b
	}
}

func TestGearsThatAreKnown(t *testing.T) {
	for b, want := range map[int]uint64{
		0: 0x642b3651143776fe, 1: 0xc1787f858c01928b, 'a': 0xe5e26f9228dd6b7f, 127: 0xd7ac606cb1932d17,
		128: 0x6bc518476c00054e, 254: 0x4948b7eaf7a8ab25, 255: 0xaf58c0d163265a2e,
	} {
		if got, code := gear.Gear(b); got != want || code != api.OK {
			t.Errorf("Gear(%d): %x, %d, not %x", b, got, code, want)
		}
	}
}

func TestGearOfWhatIsNoByte(t *testing.T) {
	for _, b := range []int{math.MinInt, math.MinInt + 255, -256, -255, -1, 256, 257, 511, 1 << 32, math.MaxInt} {
		if got, code := gear.Gear(b); got != 0 || code != api.ErrRange {
			t.Errorf("Gear(%d): %x, %d", b, got, code)
		}
	}
}

// Promise 11.2.

func TestTheExample(t *testing.T) {
	for bits := 1; bits <= 16; bits++ {
		x := gear.Setup{Least: 2, Bits: bits, Most: 2}
		if l := chunks(t, x, "abcde"); !slices.Equal(l, []string{"ab", "cd", "e"}) {
			t.Errorf("Bits %d: %q", bits, l)
		}
	}
}

func TestChunksThatAreKnown(t *testing.T) {
	var all strings.Builder
	for b := range 256 {
		all.WriteByte(byte(b))
	}
	for _, c := range []struct {
		x    gear.Setup
		s    string
		want []int
	}{
		{gear.Setup{Least: 8, Bits: 4, Most: 64}, strings.Repeat(fox, 8), []int{19, 13, 17, 14, 9, 10, 12, 14,
			9, 10, 12, 14, 9, 10, 12, 14, 9, 10, 12, 14, 9, 10, 12, 14, 9, 10, 12, 14, 9, 10, 8}},
		{gear.Setup{Least: 4, Bits: 3, Most: 20}, strings.Repeat(fox, 2), []int{5, 4, 6, 6, 4, 8, 7, 7, 4, 6, 8, 20, 5}},
		{gear.Setup{Least: 16, Bits: 6, Most: 400}, strings.Repeat(fox, 8), []int{59, 67, 32, 36, 67, 32, 36, 31}},
		{gear.Setup{Least: 1, Bits: 16, Most: 16384}, strings.Repeat(fox, 8), []int{360}},
		{gear.Setup{Least: 7, Bits: 5, Most: 100}, all.String(), []int{92, 8, 10, 24, 20, 8, 8, 32, 7, 23, 24}},
	} {
		if got := longs(chunks(t, c.x, c.s)); !slices.Equal(got, c.want) {
			t.Errorf("%+v: %v, not %v", c.x, got, c.want)
		}
	}
}

func TestFirstOfFewBytes(t *testing.T) {
	d := dice(1)
	for _, least := range []int{1, 2, 3, 8, 100, 4096} {
		for _, long := range []int{0, 1, least / 2, least - 1, least} {
			x := gear.Setup{Least: least, Bits: 1, Most: least + d.upTo(100)}
			if n := first(t, x, d.text(long, 256)); n != long {
				t.Errorf("%+v: %d of %d bytes", x, n, long)
			}
		}
	}
}

func TestFirstCutsBehindTheByteAtLeastItself(t *testing.T) {
	d := dice(2)
	for _, least := range []int{1, 2, 3, 64, 65, 4096} {
		ahead := d.text(least-1, 256)
		x := gear.Setup{Least: least, Bits: 1, Most: 16384}
		for _, b := range sameTop(true) {
			for _, behind := range []string{"\x00", "\xff", "more"} {
				if n := first(t, x, ahead+string([]byte{b})+behind); n != least {
					t.Fatalf("Least %d, byte %d: %d", least, b, n)
				}
			}
		}
		for _, b := range sameTop(false) {
			if n := first(t, x, ahead+string([]byte{b})+"x"); n != least+1 {
				t.Fatalf("Least %d, byte %d: %d", least, b, n)
			}
		}
	}
}

func TestFirstDoesNotCountBytesAheadOfLeast(t *testing.T) {
	d := dice(3)
	for range 400 {
		x := d.setup(40, 8, 200)
		s := d.text(x.Least+d.upTo(250), 256)
		want := first(t, x, s)
		for range 4 {
			other := d.text(x.Least-1, 256) + s[x.Least-1:]
			if n := first(t, x, other); n != want {
				t.Fatalf("%+v: %d, and %d with other bytes ahead", x, want, n)
			}
		}
	}
}

// TestFirstAtMost has bytes that say nowhere that a chunk ends.
func TestFirstAtMost(t *testing.T) {
	still := string(slices.Repeat([]byte{stillByte(t)}, 40000))
	for _, x := range []gear.Setup{{1, 16, 1}, {1, 16, 2}, {7, 16, 7}, {7, 16, 8}, {7, 16, 100}, {4096, 16, 4096},
		{4096, 16, 4097}, {1, 16, 16383}, {1, 16, 16384}, {4096, 16, 16384}} {
		for _, long := range []int{0, 1, x.Least - 1, x.Least, x.Least + 1, x.Most - 1, x.Most, x.Most + 1, 2 * x.Most, 40000} {
			if n, want := first(t, x, still[:long]), min(long, x.Most); n != want {
				t.Errorf("%+v, %d bytes: %d, not %d", x, long, n, want)
			}
		}
	}
}

// stillByte is a byte of which no number in a row ends a chunk with Bits 16.
func stillByte(t *testing.T) byte {
	t.Helper()
bytes:
	for b, g := range gears {
		var h uint64
		for range 100 { // behind 64 of them h stays as it is
			if h = h*2 + g; h>>48 == 0 {
				continue bytes
			}
		}
		return byte(b)
	}
	t.Fatal("every byte ends a chunk")
	return 0
}

// TestFirstLooksAtJustTheHighestBits takes pairs of bytes behind which h has
// just so many highest bits of 0.
func TestFirstLooksAtJustTheHighestBits(t *testing.T) {
	seen := map[int]int{}
	for a, f := range gears {
		for b, g := range gears {
			zeros := 0
			for h := f*2 + g; zeros < 64 && h>>(63-zeros) == 0; {
				zeros++
			}
			if seen[zeros] >= 20 {
				continue
			}
			seen[zeros]++
			for bits := 1; bits <= 16; bits++ {
				pairEnds(t, bits, string([]byte{byte(a), byte(b)}), zeros >= bits)
			}
		}
	}
	for zeros := range 16 {
		if seen[zeros] == 0 {
			t.Errorf("no pair with %d zeros", zeros)
		}
	}
}

func pairEnds(t *testing.T, bits int, pair string, want bool) {
	t.Helper()
	if gears[pair[0]]>>(64-bits) == 0 { // it ends behind the first of them already
		return
	}
	for _, ahead := range []string{"", "x", "yyyyy"} {
		x := gear.Setup{Least: len(ahead) + 1, Bits: bits, Most: len(ahead) + 3}
		if n := first(t, x, ahead+pair+"zz"); (n == len(ahead)+2) != want {
			t.Fatalf("Bits %d, % x: %d", bits, pair, n)
		}
	}
}

// TestFirstOfAllBits takes texts of three bytes whose h has 16 highest bits of 0.
func TestFirstOfAllBits(t *testing.T) {
	found := 0
	for n := 0; n < 1<<24 && found < 20; n++ {
		s := []byte{byte(n >> 16), byte(n >> 8), byte(n)}
		if h := gears[s[0]]*4 + gears[s[1]]*2 + gears[s[2]]; h>>48 != 0 {
			continue
		}
		found++
		x := gear.Setup{Least: 1, Bits: 16, Most: 100}
		whole := string(s) + strings.Repeat("x", 200)
		if n, want := first(t, x, whole), plainFirst(x, whole); n != want || n > 3 {
			t.Errorf("% x: %d, not %d", s, n, want)
		}
	}
	if found == 0 {
		t.Error("no text ends a chunk")
	}
}

// TestFirstBehindManyBytes has cuts that hang on more than 64 bytes.
func TestFirstBehindManyBytes(t *testing.T) {
	d := dice(4)
	far := 0
	for range 30 {
		x := gear.Setup{Least: 1 + d.upTo(300), Bits: 8 + d.upTo(4), Most: 900}
		s := d.text(1000, 256)
		n, want := first(t, x, s), plainFirst(x, s)
		if n != want {
			t.Errorf("%+v: %d, not %d", x, n, want)
		}
		if n > x.Least+64 && n < x.Most {
			far++
		}
	}
	if far < 5 {
		t.Errorf("only %d cuts were far behind", far)
	}
}

func TestFirstAndChunksBesideThePlainOnes(t *testing.T) {
	d := dice(5)
	for range 1500 {
		x := d.setup(12, 7, 60)
		s := d.text(d.upTo(200), 1+d.upTo(256))
		want := plainChunks(x, s)
		if got := chunks(t, x, s); !slices.Equal(got, want) {
			t.Fatalf("%+v, % x: %v, not %v", x, s, longs(got), longs(want))
		}
		if n, want := first(t, x, s), plainFirst(x, s); n != want {
			t.Fatalf("%+v, % x: %d, not %d", x, s, n, want)
		}
	}
}

// TestEveryShortText tries all texts of up to seven of two bytes, one of which
// ends a chunk by itself.
func TestEveryShortText(t *testing.T) {
	two := []byte{sameTop(true)[0], sameTop(false)[0]}
	for long := range 8 {
		for n := range 1 << long {
			b := make([]byte, long)
			for i := range b {
				b[i] = two[n>>i&1]
			}
			for least := 1; least <= 4; least++ {
				for most := least; most <= least+4; most++ {
					x := gear.Setup{Least: least, Bits: 1, Most: most}
					if got, want := chunks(t, x, string(b)), plainChunks(x, string(b)); !slices.Equal(got, want) {
						t.Fatalf("%+v, % x: %q, not %q", x, b, got, want)
					}
				}
			}
		}
	}
}

func TestChunksOfNoBytes(t *testing.T) {
	for _, x := range []gear.Setup{{1, 1, 1}, {4096, 16, 16384}} {
		if l := chunks(t, x, ""); len(l) != 0 {
			t.Errorf("%+v: %q", x, l)
		}
		if n := first(t, x, ""); n != 0 {
			t.Errorf("%+v: %d", x, n)
		}
	}
}

func TestChunksOfManyBytes(t *testing.T) {
	d := dice(6)
	s := d.text(most+1, 256)
	for _, x := range []gear.Setup{{1, 1, 1}, {1, 1, 16384}, {64, 8, 1024}, {4096, 16, 16384}} {
		for _, long := range []int{most - 1, most} {
			if l := chunks(t, x, s[:long]); strings.Join(l, "") != s[:long] {
				t.Errorf("%+v, %d bytes: joined they are others", x, long)
			}
		}
		if l, code := gear.Chunks(x, s); len(l) != 0 || code != api.ErrLong {
			t.Errorf("%+v: %d chunks, %d", x, len(l), code)
		}
		if n := first(t, x, s+s); n != first(t, x, s[:x.Most]) {
			t.Errorf("%+v: First of many bytes: %d", x, n)
		}
	}
}

func TestTheSetupIsLookedAtAheadOfTheBytes(t *testing.T) {
	s := strings.Repeat("x", most+1)
	for _, x := range []gear.Setup{{}, {0, 1, 1}, {4097, 1, 5000}, {1, 0, 1}, {1, 17, 1}, {2, 1, 1}, {2, 1, 16385},
		{-1, -1, -1}, {math.MinInt, 1, math.MaxInt}, {math.MaxInt, math.MaxInt, math.MinInt}} {
		if l, code := gear.Chunks(x, s); len(l) != 0 || code != api.ErrRange {
			t.Errorf("%+v: %d chunks, %d", x, len(l), code)
		}
		if n, code := gear.First(x, s); n != 0 || code != api.ErrRange {
			t.Errorf("%+v: %d, %d", x, n, code)
		}
	}
}

// R4 and R7: no call hangs on another one, and no answer shares memory with
// another.
func TestAnswersAreNewMemory(t *testing.T) {
	x := gear.Setup{Least: 4, Bits: 3, Most: 20}
	s := strings.Repeat(fox, 4)
	want := plainChunks(x, s)
	l := chunks(t, x, s)
	room := l[:cap(l)]
	for i := range room {
		room[i] = "other"
	}
	if again := chunks(t, x, s); !slices.Equal(again, want) {
		t.Errorf("%q, not %q", again, want)
	}
}

// Promise 11.3.

func TestChunksJoinedAreTheBytes(t *testing.T) {
	d := dice(7)
	for range 600 {
		x := d.setup(100, 16, 300)
		s := d.text(d.upTo(3000), 1+d.upTo(256))
		l := chunks(t, x, s)
		if strings.Join(l, "") != s {
			t.Fatalf("%+v: joined they are others", x)
		}
		for i, c := range l {
			if c == "" || len(c) > x.Most || len(c) < x.Least && i < len(l)-1 {
				t.Fatalf("%+v: chunk %d of %d has %d bytes", x, i, len(l), len(c))
			}
		}
	}
}

func TestBehindACutOfBothTextsAreCutTheSame(t *testing.T) {
	d := dice(8)
	for range 300 {
		x := d.setup(30, 6, 150)
		same := d.text(d.upTo(2000), 256)
		want := chunks(t, x, same)
		for range 3 {
			ahead := wholeChunks(t, &d, x)
			got := chunks(t, x, ahead+same)
			if n := len(got) - len(want); n < 0 || !slices.Equal(got[n:], want) || strings.Join(got[:n], "") != ahead {
				t.Fatalf("%+v: %v, not %v behind %d bytes", x, longs(got), longs(want), len(ahead))
			}
		}
	}
}

// wholeChunks is bytes behind which a cut is, whatever stands behind them.
func wholeChunks(t *testing.T, d *dice, x gear.Setup) string {
	t.Helper()
	l := chunks(t, x, d.text(d.upTo(2000), 256))
	if len(l) > 0 {
		l = l[:d.upTo(len(l))]
	}
	return strings.Join(l, "")
}

// TestAChangeMovesFewCuts is what the package is for: soon behind a byte that
// is put in, the chunks are those from before.
func TestAChangeMovesFewCuts(t *testing.T) {
	d := dice(9)
	x := gear.Setup{Least: 16, Bits: 9, Most: 16384} // chunks mostly longer than the 64 bytes that count
	s := d.text(100000, 256)
	before := map[string]int{}
	for _, c := range chunks(t, x, s) {
		before[c]++
	}
	for range 50 {
		at := d.upTo(len(s))
		moved := 0
		for _, c := range chunks(t, x, s[:at]+"!"+s[at:]) {
			if before[c] == 0 {
				moved++
			}
		}
		if moved == 0 || moved > 8 {
			t.Errorf("a byte at %d: %d chunks are others", at, moved)
		}
	}
}
