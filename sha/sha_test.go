package sha_test

import (
	"crypto/sha256"
	"encoding/hex"
	"math"
	"math/big"
	"math/rand"
	"slices"
	"strings"
	"testing"

	"garret/api"
	"garret/sha"
)

// known is the sum as the library of the tests' language tells it.
func known(s string) string {
	sum := sha256.Sum256([]byte(s))
	return string(sum[:])
}

// bytesOf makes so many bytes, of all values, without any period that a block has.
func bytesOf(long int) string {
	out := make([]byte, long)
	for i := range out {
		out[i] = byte(i*167 + i/251 + 13)
	}
	return string(out)
}

// edges are lengths on both sides of where another block begins to be needed.
func edges() []int {
	out := []int{0, 1, 2, 3, 31, 32, 33, 54, 55, 56, 57, 62, 63, 64, 65, 118, 119, 120, 121, 127, 128, 129, 183, 184, 191, 192, 193}
	return append(out, 1000, 4095, 4096, 4097, api.MaxBytes)
}

func primes(count int) []int64 {
	var out []int64
	for n := int64(2); len(out) < count; n++ {
		if !slices.ContainsFunc(out, func(p int64) bool { return n%p == 0 }) {
			out = append(out, n)
		}
	}
	return out
}

// cubeRoot is the greatest whole number whose third power is at most n.
func cubeRoot(n *big.Int) *big.Int {
	root := new(big.Int)
	for bit := n.BitLen()/3 + 1; bit >= 0; bit-- {
		greater := new(big.Int).SetBit(root, bit, 1)
		if new(big.Int).Exp(greater, big.NewInt(3), nil).Cmp(n) <= 0 {
			root = greater
		}
	}
	return root
}

// Promise 2.1.

func TestConstantIsOfItsPrime(t *testing.T) {
	for i, p := range primes(64) {
		root := cubeRoot(new(big.Int).Lsh(big.NewInt(p), 96))
		want := int(root.Uint64() & math.MaxUint32)
		if n, e := sha.Constant(i); n != want || e != api.OK {
			t.Errorf("Constant(%d) = %#x %d, want %#x", i, n, int(e), want)
		}
	}
}

func TestConstantOfNoPlace(t *testing.T) {
	for _, i := range []int{-1, 64, 65, -64, 1 << 32, math.MaxInt, math.MinInt} {
		if n, e := sha.Constant(i); n != 0 || e != api.ErrRange {
			t.Errorf("Constant(%d) = %d %d", i, n, int(e))
		}
	}
}

func TestSumsThatAreKnown(t *testing.T) {
	for _, x := range [][2]string{
		{"", "e3b0c44298fc1c149afbf4c8996fb92427ae41e4649b934ca495991b7852b855"},
		{"abc", "ba7816bf8f01cfea414140de5dae2223b00361a396177a9cb410ff61f20015ad"},
		{"abcdbcdecdefdefgefghfghighijhijkijkljklmklmnlmnomnopnopq", "248d6a61d20638b8e5c026930c3e6039a33ce45964ff2167f6ecedd419db06c1"},
		{strings.Repeat("a", 1000000), "cdc76e5c9914fb9281a1c7e284d73e67f1809a48a497200e046d39ccc7112cd0"},
	} {
		if got := sha.Hex(sha.Sum(x[0])); got != x[1] {
			t.Errorf("the sum of %d bytes: %s, want %s", len(x[0]), got, x[1])
		}
	}
}

func TestSumAtEveryLength(t *testing.T) {
	all := bytesOf(300)
	for long := range len(all) + 1 {
		if got := sha.Sum(all[:long]); got != known(all[:long]) {
			t.Errorf("the sum of %d bytes: %s", long, sha.Hex(got))
		}
	}
	for _, long := range edges() {
		for _, s := range []string{bytesOf(long), strings.Repeat("\x00", long), strings.Repeat("\xff", long)} {
			if got := sha.Sum(s); got != known(s) {
				t.Errorf("the sum of %d bytes: %s", long, sha.Hex(got))
			}
		}
	}
}

func TestSumOfPieces(t *testing.T) {
	for _, pieces := range [][]string{
		nil,
		{},
		{""},
		{"", "", ""},
		{"abc"},
		{"a", "bc"},
		{"", "ab", "", "c", ""},
		{bytesOf(63), "a"},
		{bytesOf(64), "a"},
		{bytesOf(64), bytesOf(64)},
		{"a", bytesOf(200), "b"},
		{bytesOf(55), "", bytesOf(56)},
	} {
		before := slices.Clone(pieces)
		if got := sha.Sum(pieces...); got != known(strings.Join(pieces, "")) {
			t.Errorf("the sum of %q: %s", pieces, sha.Hex(got))
		}
		if !slices.Equal(pieces, before) {
			t.Errorf("the pieces %q are now %q", before, pieces)
		}
	}
	if got := sha.Sum(); got != known("") {
		t.Errorf("the sum of no piece: %s", sha.Hex(got))
	}
}

func TestSumReadsNothingBehindThePieces(t *testing.T) {
	room := []string{"a", "b", "c", "d"}
	if got := sha.Sum(room[:2]...); got != known("ab") {
		t.Errorf("the sum of a, b: %s", sha.Hex(got))
	}
	if !slices.Equal(room, []string{"a", "b", "c", "d"}) {
		t.Errorf("the room is now %q", room)
	}
}

// Promise 2.2.

func hold(t *testing.T, what string, h *sha.Hash, written string) {
	t.Helper()
	if got := h.Len(); got != len(written) {
		t.Errorf("%s: %d bytes were written, Len is %d", what, len(written), got)
	}
	if got := h.Sum(); got != known(written) {
		t.Errorf("%s: the sum of %d bytes is %s, want %s", what, len(written), sha.Hex(got), sha.Hex(known(written)))
	}
}

func TestNewHasNothing(t *testing.T) {
	hold(t, "new", sha.New(), "")
	used := sha.New()
	used.Write("abc")
	hold(t, "new, with another one written into", sha.New(), "")
	hold(t, "the other one", used, "abc")
}

func TestWriteNothing(t *testing.T) {
	h := sha.New()
	h.Write("")
	hold(t, "nothing", h, "")
	h.Write("abc")
	h.Write("")
	hold(t, "nothing behind", h, "abc")
}

func TestSumInBetween(t *testing.T) {
	for _, first := range edges() {
		for _, second := range []int{0, 1, 8, 9, 63, 64, 65, 120} {
			h, a, b := sha.New(), bytesOf(first), strings.Repeat("x", second)
			h.Write(a)
			hold(t, "once", h, a)
			hold(t, "and again", h, a)
			h.Write(b)
			hold(t, "with more behind", h, a+b)
		}
	}
}

func TestForkGoesItsOwnWay(t *testing.T) {
	for _, long := range edges() {
		same := bytesOf(long)
		h := sha.New()
		h.Write(same)
		f := h.Fork()
		if f == h {
			t.Fatalf("%d bytes: the fork is the hash itself", long)
		}
		hold(t, "the fork, at first", f, same)
		hold(t, "what was forked of, at first", h, same)
		f.Write("the fork's")
		hold(t, "the fork, written into", f, same+"the fork's")
		hold(t, "what was forked of, behind that", h, same)
		h.Write("another " + bytesOf(70))
		hold(t, "what was forked of, written into", h, same+"another "+bytesOf(70))
		hold(t, "the fork, behind that", f, same+"the fork's")
		g := f.Fork()
		g.Write(bytesOf(64))
		hold(t, "the fork's fork", g, same+"the fork's"+bytesOf(64))
		hold(t, "and the fork once more", f, same+"the fork's")
	}
}

func TestForkOfNothing(t *testing.T) {
	h := sha.New()
	f := h.Fork()
	h.Write("abc")
	hold(t, "the fork", f, "")
	f.Write("abd")
	hold(t, "what was forked of", h, "abc")
	hold(t, "the fork, written into", f, "abd")
}

// Promise 2.3.

func TestHexAndBack(t *testing.T) {
	all := make([]byte, 256)
	for i := range all {
		all[i] = byte(i)
	}
	for _, s := range []string{"", "\x00", "\x00\xaf", "\x0f", "\xf0", "abc", "\xff\xff", string(all), bytesOf(1000)} {
		want := hex.EncodeToString([]byte(s))
		if got := sha.Hex(s); got != want {
			t.Errorf("Hex(%q) = %q, want %q", s, got, want)
		}
		if got, e := sha.Unhex(want); got != s || e != api.OK {
			t.Errorf("Unhex(%q) = %q %d", want, got, int(e))
		}
	}
}

func TestUnhexRefuses(t *testing.T) {
	for _, s := range []string{
		"0", "a", "g", "000", "00af0", "abcde",
		"0g", "g0", "0A", "A0", "aF", "Fa", "a ", " a", "0x", "0x00", "-1", "+1",
		"00\n", "00\n\n", "00af0g", "0g00af", "00A0", "00 af0", "é", "\xff\xff", "\x00\x00", "00\x00\x00",
		strings.Repeat("0", 63), strings.Repeat("0", 63) + "G",
	} {
		if got, e := sha.Unhex(s); got != "" || e != api.ErrForm {
			t.Errorf("Unhex(%q) = %q %d", s, got, int(e))
		}
	}
}

func TestUnhexKnowsJustTheDigits(t *testing.T) {
	const digits = "0123456789abcdef"
	for c := range 256 {
		value := strings.IndexByte(digits, byte(c))
		for high, s := range []string{"0" + string([]byte{byte(c)}), string([]byte{byte(c)}) + "0"} {
			got, e := sha.Unhex(s)
			if value < 0 {
				if got != "" || e != api.ErrForm {
					t.Errorf("Unhex(%q) = %q %d", s, got, int(e))
				}
			} else if want := string([]byte{byte(value << (4 * high))}); got != want || e != api.OK {
				t.Errorf("Unhex(%q) = %q %d, want %q", s, got, int(e), want)
			}
		}
	}
}

func TestIsId(t *testing.T) {
	for long := range 70 {
		if got := sha.IsId(bytesOf(long)); got != (long == 32) {
			t.Errorf("IsId of %d bytes: %v", long, got)
		}
	}
	if sha.IsId(sha.Hex(sha.Sum("abc"))) || !sha.IsId(sha.Sum("abc")) || !sha.IsId(strings.Repeat("\x00", 32)) {
		t.Error("a sum is an id, its digits are none")
	}
}

// Promise 2.4.

func TestPiecesDoNotMatter(t *testing.T) {
	for _, long := range []int{1, 55, 56, 63, 64, 65, 119, 120, 129} {
		s := bytesOf(long)
		for cut := range long + 1 {
			h := sha.New()
			h.Write(s[:cut])
			h.Write(s[cut:])
			hold(t, "two pieces", h, s)
		}
		h := sha.New()
		for i := range long {
			h.Write(s[i : i+1])
		}
		hold(t, "byte by byte", h, s)
	}
}

func TestPiecesByChance(t *testing.T) {
	chance := rand.New(rand.NewSource(2))
	for range 200 {
		s := bytesOf(chance.Intn(2000))
		h := sha.New()
		var pieces []string
		for left := s; left != ""; {
			n := min(chance.Intn(150), len(left))
			pieces = append(pieces, left[:n])
			h.Write(left[:n])
			left = left[n:]
			if chance.Intn(4) == 0 {
				h.Sum()
			}
			if chance.Intn(4) == 0 {
				h = h.Fork()
			}
		}
		hold(t, "pieces by chance", h, s)
		if got := sha.Sum(pieces...); got != known(s) {
			t.Errorf("the sum of %d pieces: %s", len(pieces), sha.Hex(got))
		}
	}
}
