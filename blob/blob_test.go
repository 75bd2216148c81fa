package blob_test

import (
	"crypto/sha256"
	"math"
	"runtime"
	"strings"
	"sync"
	"testing"
	"unsafe"

	"garret/api"
	"garret/blob"
	"garret/lz"
)

const (
	fox    = "the quick brown fox jumps over the lazy dog; "
	packed = 16 // what a first byte has more, if the text is packed
)

var (
	kinds    = []int{api.BData, api.BTree}
	badKinds = []int{0, -1, -2, 3, 4, 15, 16, 17, 18, 19, 33, 34, 255, 256, 257, 258, -254, -255, -256,
		1 << 32, 1<<32 + 1, 1<<32 + 2, math.MinInt, math.MinInt + 1, math.MaxInt}
)

// plainShort is n by the words of chapter 1.
func plainShort(n int) string {
	var b []byte
	for ; n >= 128; n /= 128 {
		b = append(b, byte(128+n%128))
	}
	return string(append(b, byte(n)))
}

// blobOf is a first byte, a length and what stands behind, right or not.
func blobOf(first, long int, body string) string {
	return string([]byte{byte(first)}) + plainShort(long) + body
}

func plainId(kind int, text string) string {
	sum := sha256.Sum256([]byte(string([]byte{byte(kind)}) + text))
	return string(sum[:])
}

// plainHead reads a first byte and a length by the chapter's words.
func plainHead(s string) (first, long int, rest string, ok bool) {
	if s == "" || strings.IndexByte("\x01\x02\x11\x12", s[0]) < 0 {
		return 0, 0, "", false
	}
	for i := 1; i < len(s) && i <= 9; i++ {
		long += int(s[i]&127) << (7 * (i - 1))
		if s[i] < 128 {
			right := plainShort(long) == s[1:i+1] && long <= 65536
			return int(s[0]), long, s[i+1:], right
		}
	}
	return 0, 0, "", false
}

func plainDecode(s string) (kind int, text string, ok bool) {
	first, long, rest, ok := plainHead(s)
	if !ok {
		return 0, "", false
	}
	if first < packed {
		return first, rest, len(rest) == long
	}
	text, code := lz.Unpack(rest, long)
	return first - packed, text, code == api.OK
}

// encode is the call, of what must not be refused.
func encode(t testing.TB, kind int, text string) string {
	t.Helper()
	s, code := blob.Encode(kind, text)
	if code != api.OK {
		t.Fatalf("Encode(%d, %s): %d", kind, short(text), code)
	}
	return s
}

// decodes looks whether s is a blob's bytes of just this, for all three calls.
func decodes(t testing.TB, s string, kind int, text string) {
	t.Helper()
	if k, x, code := blob.Decode(s); k != kind || x != text || code != api.OK {
		t.Fatalf("Decode(%s): %d, %s, %d", short(s), k, short(x), code)
	}
	if k, x, code := blob.Open(s, plainId(kind, text)); k != kind || x != text || code != api.OK {
		t.Fatalf("Open(%s): %d, %s, %d", short(s), k, short(x), code)
	}
	if n, code := blob.Size(s); n != len(text) || code != api.OK {
		t.Fatalf("Size(%s): %d, %d, not %d", short(s), n, code, len(text))
	}
}

// refused looks whether s is no blob's bytes to Decode, and to Open with
// whatever id.
func refused(t testing.TB, s string, ids ...string) {
	t.Helper()
	if k, x, code := blob.Decode(s); k != 0 || x != "" || code != api.ErrBlob {
		t.Errorf("Decode(%s): %d, %s, %d", short(s), k, short(x), code)
	}
	for _, id := range append(ids, "", plainId(0, ""), plainId(1, s), strings.Repeat("x", 32)) {
		refusedOpen(t, s, id)
	}
}

func refusedOpen(t testing.TB, s, id string) {
	t.Helper()
	if k, x, code := blob.Open(s, id); k != 0 || x != "" || code != api.ErrBlob {
		t.Errorf("Open(%s, %s): %d, %s, %d", short(s), short(id), k, short(x), code)
	}
}

func noSize(t testing.TB, s string) {
	t.Helper()
	if n, code := blob.Size(s); n != 0 || code != api.ErrBlob {
		t.Errorf("Size(%s): %d, %d", short(s), n, code)
	}
}

func size(t testing.TB, s string, want int) {
	t.Helper()
	if n, code := blob.Size(s); n != want || code != api.OK {
		t.Errorf("Size(%s): %d, %d, not %d", short(s), n, code, want)
	}
}

// sameAsPlain holds the calls beside the plain reading, and tells whether s is
// a blob's bytes.
func sameAsPlain(t testing.TB, s string) bool {
	t.Helper()
	if _, long, _, ok := plainHead(s); ok {
		size(t, s, long)
	} else {
		noSize(t, s)
	}
	kind, text, ok := plainDecode(s)
	if ok {
		decodes(t, s, kind, text)
	} else {
		refused(t, s)
	}
	return ok
}

func short(s string) string {
	const digits = "0123456789abcdef"
	var out strings.Builder
	for i := range min(len(s), 40) {
		out.WriteByte(digits[s[i]>>4])
		out.WriteByte(digits[s[i]&15])
	}
	if len(s) > 40 {
		out.WriteString("..")
	}
	return out.String()
}

// dice is numbers that are the same in each run.
type dice uint32

func (d *dice) upTo(n int) int {
	*d = *d*1664525 + 1013904223
	return int(uint64(*d>>8) * uint64(n) >> 24)
}

// text is n bytes of so many kinds.
func (d *dice) text(n, kinds int) string {
	b := make([]byte, n)
	for i := range b {
		b[i] = byte(d.upTo(kinds))
	}
	return string(b)
}

// block is lz's of a text.
func block(t testing.TB, text string) string {
	t.Helper()
	b, code := lz.Pack(text)
	if code != api.OK {
		t.Fatalf("Pack(%s): %d", short(text), code)
	}
	return b
}

// Promise 13.1.

func TestId(t *testing.T) {
	d := dice(1)
	texts := []string{"", "\x00", "\x01", "\x02", "ab", "\x02ab", "\x01\x01", fox, strings.Repeat(fox, 1000),
		d.text(api.MaxBytes-1, 256), d.text(api.MaxBytes, 256)}
	for long := range 130 { // the sums' blocks are 64 bytes
		texts = append(texts, d.text(long, 256))
	}
	seen := map[string]bool{}
	for _, kind := range kinds {
		for _, text := range texts {
			id, code := blob.Id(kind, text)
			if id != plainId(kind, text) || code != api.OK {
				t.Errorf("Id(%d, %s): %s, %d", kind, short(text), short(id), code)
			}
			seen[id] = true
		}
	}
	if len(seen) < 2*130 { // some short texts are there twice
		t.Errorf("%d ids", len(seen))
	}
}

// TestIdOfATextThatIsTooLong: it is Encode alone that refuses it.
func TestIdOfATextThatIsTooLong(t *testing.T) {
	for _, long := range []int{api.MaxBytes + 1, api.MaxBytes + 2, 1<<20 + 1} {
		text := strings.Repeat("x", long)
		for _, kind := range kinds {
			if id, code := blob.Id(kind, text); id != plainId(kind, text) || code != api.OK {
				t.Errorf("Id(%d, %d bytes): %s, %d", kind, long, short(id), code)
			}
		}
	}
}

func TestKindsThatAreNone(t *testing.T) {
	for _, kind := range badKinds {
		for _, text := range []string{"", "ab", strings.Repeat(fox, 100), strings.Repeat("x", api.MaxBytes),
			strings.Repeat("x", api.MaxBytes+1), strings.Repeat("x", 1<<20+1)} {
			if id, code := blob.Id(kind, text); id != "" || code != api.ErrRange {
				t.Errorf("Id(%d, %d bytes): %s, %d", kind, len(text), short(id), code)
			}
			if s, code := blob.Encode(kind, text); s != "" || code != api.ErrRange {
				t.Errorf("Encode(%d, %d bytes): %s, %d", kind, len(text), short(s), code)
			}
		}
	}
}

func TestEncodeTheExample(t *testing.T) {
	if s := encode(t, api.BData, "ab"); s != "\x01\x02ab" {
		t.Error(short(s))
	}
	if s := encode(t, api.BTree, "ab"); s != "\x02\x02ab" {
		t.Error(short(s))
	}
	if s := encode(t, api.BData, ""); s != "\x01\x00" {
		t.Error(short(s))
	}
	if s := encode(t, api.BTree, ""); s != "\x02\x00" {
		t.Error(short(s))
	}
}

// TestEncodeOfEveryLength has lengths that take one byte, two and three, of
// texts that are packed to more.
func TestEncodeOfEveryLength(t *testing.T) {
	d := dice(2)
	for _, long := range []int{0, 1, 2, 3, 4, 5, 16, 126, 127, 128, 129, 255, 256, 300, 16382, 16383, 16384, 16385} {
		text := d.text(long, 256)
		for _, kind := range kinds {
			want := blobOf(kind, long, text)
			if len(block(t, text)) < long {
				want = blobOf(kind+packed, long, block(t, text))
			}
			s := encode(t, kind, text)
			if s != want {
				t.Errorf("Encode(%d, %d bytes): %s", kind, long, short(s))
			}
			decodes(t, s, kind, text)
		}
	}
}

func TestEncodePacks(t *testing.T) {
	for _, long := range []int{20, 127, 128, 300, 16383, 16384, api.MaxBytes - 1, api.MaxBytes} {
		text := strings.Repeat(fox, long/len(fox)+1)[:long]
		if long <= len(fox) {
			text = strings.Repeat("a", long)
		}
		for _, kind := range kinds {
			s := encode(t, kind, text)
			if s != blobOf(kind+packed, long, block(t, text)) {
				t.Errorf("Encode(%d, %d bytes): %s", kind, long, short(s))
			}
			if len(s) >= long {
				t.Errorf("%d bytes are %d", long, len(s))
			}
			decodes(t, s, kind, text)
		}
	}
}

// TestPackedJustIfThatIsFewer has blocks that are one byte shorter than the
// text, as long, and one byte longer.
func TestPackedJustIfThatIsFewer(t *testing.T) {
	d := dice(3)
	seen := map[int]int{}
	for range 3000 {
		fresh := d.text(d.upTo(60), 256)
		text := fresh + fresh[:min(len(fresh), d.upTo(12))] + d.text(d.upTo(10), 256)
		more := len(block(t, text)) - len(text)
		seen[more]++
		for _, kind := range kinds {
			want := blobOf(kind, len(text), text)
			if more < 0 {
				want = blobOf(kind+packed, len(text), block(t, text))
			}
			if s := encode(t, kind, text); s != want {
				t.Fatalf("Encode(%d, %s), whose block has %d bytes more: %s", kind, short(text), more, short(s))
			}
		}
	}
	for more := -2; more <= 2; more++ {
		if seen[more] < 20 {
			t.Errorf("only %d texts have a block of %d bytes more", seen[more], more)
		}
	}
}

func TestEncodeOfManyBytes(t *testing.T) {
	d := dice(4)
	for _, text := range []string{strings.Repeat("x", 1<<20+1), d.text(1<<20+1, 2), d.text(1<<20+1, 256)} {
		for _, kind := range kinds {
			for _, long := range []int{api.MaxBytes - 1, api.MaxBytes} {
				decodes(t, encode(t, kind, text[:long]), kind, text[:long])
			}
			for _, long := range []int{api.MaxBytes + 1, api.MaxBytes + 2, 2 * api.MaxBytes, 1 << 20, 1<<20 + 1} {
				if s, code := blob.Encode(kind, text[:long]); s != "" || code != api.ErrLong {
					t.Errorf("Encode(%d, %d bytes): %s, %d", kind, long, short(s), code)
				}
			}
		}
	}
}

// Promise 13.2.

func TestDecodeOfFewBytes(t *testing.T) {
	for _, c := range []struct {
		s, text string
		kind    int
	}{
		{"\x01\x00", "", 1},
		{"\x02\x00", "", 2},
		{"\x01\x02ab", "ab", 1},
		{"\x02\x03abc", "abc", 2},
		{"\x11\x00\x00", "", 1}, // packed, though that is not shorter
		{"\x12\x01\x10z", "z", 2},
		{"\x12\x04\x40abcd", "abcd", 2},
		{"\x11\x0b\x15a\x01\x00\x10b", "aaaaaaaaaab", 1},
		{"\x12\x0a\x15a\x01\x00\x00", "aaaaaaaaaa", 2},
		{"\x11\x05\x10a\x01\x00\x00", "aaaaa", 1},
		{"\x11\x02\x20ab", "ab", 1},
	} {
		decodes(t, c.s, c.kind, c.text)
	}
}

// TestDecodeOfBlocksThatAreNotShorter has texts that lie packed, however many
// bytes that takes, in blocks that lz would not make.
func TestDecodeOfBlocksThatAreNotShorter(t *testing.T) {
	d := dice(5)
	for range 300 {
		text := d.text(d.upTo(300), 256)
		for _, kind := range kinds {
			decodes(t, blobOf(kind+packed, len(text), block(t, text)), kind, text)
			decodes(t, blobOf(kind, len(text), text), kind, text) // also of one that could be packed
		}
	}
	text := strings.Repeat(fox, 20)
	decodes(t, blobOf(api.BData, len(text), text), api.BData, text)
	decodes(t, "\x12\x06\x10a\x01\x00\x10b", api.BTree, "aaaaab")
	decodes(t, "\x12\x0b\x10a\x01\x00\x01\x01\x00\x10b", api.BTree, "aaaaaaaaaab")
}

// some is blobs' bytes of all sorts.
func some(t testing.TB) []string {
	d := dice(6)
	var l []string
	for _, kind := range kinds {
		for _, text := range []string{"", "a", "ab", "abc", fox, fox + fox, strings.Repeat("a", 300), strings.Repeat(fox, 10),
			d.text(127, 256), d.text(128, 256), d.text(300, 2), d.text(300, 256), strings.Repeat("x", 20000)} {
			l = append(l, encode(t, kind, text), blobOf(kind+packed, len(text), block(t, text)))
		}
	}
	return l
}

func TestDecodeOfBytesThatAreCutShort(t *testing.T) {
	for _, s := range some(t) {
		kind, text, ok := plainDecode(s)
		if !ok {
			t.Fatalf("%s is none to the test", short(s))
		}
		decodes(t, s, kind, text)
		id := plainId(kind, text)
		for long := range len(s) {
			if long < 2000 || len(s)-long < 100 {
				refused(t, s[:long], id)
			}
		}
		for _, more := range []string{"\x00", "\x01", "\x10", "\xff", "a", s, "\x00\x00"} {
			refused(t, s+more, id)
		}
		refused(t, s[1:], id)
		refused(t, "\x00"+s, id)
	}
}

func TestDecodeOfEachFirstByte(t *testing.T) {
	for first := range 256 {
		plain, pack := blobOf(first, 2, "ab"), blobOf(first, 2, "\x20ab")
		switch first {
		case 1, 2:
			decodes(t, plain, first, "ab")
			refused(t, pack)
			size(t, pack, 2)
		case 17, 18:
			decodes(t, pack, first-packed, "ab")
			refused(t, plain)
			size(t, plain, 2)
		default:
			for _, s := range []string{plain, pack} {
				refused(t, s, plainId(first, "ab"), plainId(first&^packed, "ab"), plainId(1, "ab"), plainId(2, "ab"))
				noSize(t, s)
			}
		}
	}
}

// midst is bytes that end in the midst of a length.
var midst = []string{"", "\x80", "\xff", "\x82", "\x80\x80", "\x80\x80\x80", "\xff\xff\xff\xff\xff\xff\xff\xff"}

// noLengths is lengths that may not be: written with a byte more than they
// need, above api.MaxBytes, or with more than nine bytes.
var noLengths = []string{"\x80\x00", "\x81\x00", "\x82\x00", "\x80\x80\x00", "\x82\x80\x00", "\x80\x80\x80\x00", "\x80\x80\x84\x00",
	"\x81\x80\x04", "\x82\x80\x04", "\x80\x80\x05", "\x80\x80\x08", "\xff\xff\x7f", "\x80\x80\x80\x01", "\x82\x80\x80\x80\x80\x01",
	"\x82\x80\x80\x80\x10", "\xff\xff\xff\xff\xff\xff\xff\xff\x7f", "\x82\x80\x80\x80\x80\x80\x80\x80\x80\x01",
	"\x80\x80\x80\x80\x80\x80\x80\x80\x80\x00", "\x80\x80\x80\x80\x80\x80\x80\x80\x80\x02", "\xff\xff\xff\xff\xff\xff\xff\xff\xff\x01"}

func TestLengthsThatMayNotBe(t *testing.T) {
	for _, first := range []string{"\x01", "\x02", "\x11", "\x12"} {
		for _, long := range midst {
			refused(t, first+long)
			noSize(t, first+long)
		}
		for _, long := range noLengths {
			for _, body := range []string{"", "\x00", "ab", "\x20ab", fox, "\x00ab"} {
				refused(t, first+long+body)
				noSize(t, first+long+body)
			}
		}
	}
}

func TestTheGreatestLength(t *testing.T) {
	x := strings.Repeat("x", api.MaxBytes+1)
	for _, kind := range kinds {
		most, above := x[:api.MaxBytes], x
		decodes(t, blobOf(kind, len(most), most), kind, most)
		decodes(t, blobOf(kind+packed, len(most), block(t, most)), kind, most)
		for _, s := range []string{blobOf(kind, len(above), above), blobOf(kind+packed, len(above), block(t, above))} {
			refused(t, s, plainId(kind, above))
			noSize(t, s)
		}
		for _, s := range []string{blobOf(kind, len(most), above), blobOf(kind+packed, len(most), block(t, above)),
			blobOf(kind, len(most), most[1:]), blobOf(kind+packed, len(most), block(t, most[1:]))} {
			refused(t, s, plainId(kind, most), plainId(kind, above), plainId(kind, most[1:]))
			size(t, s, api.MaxBytes)
		}
	}
}

func TestLengthsThatAreNotTheText(t *testing.T) {
	for _, text := range []string{"a", "ab", fox, strings.Repeat("a", 300), strings.Repeat(fox, 20)} {
		for _, kind := range kinds {
			for _, more := range []int{-1, 1, 2, 255, 256, 1 << 15} {
				long := len(text) + more
				for _, s := range []string{blobOf(kind, long, text), blobOf(kind+packed, long, block(t, text))} {
					refused(t, s, plainId(kind, text))
					size(t, s, long)
				}
			}
		}
	}
}

func TestBodiesThatAreNoBlock(t *testing.T) {
	for _, s := range []string{"\x11\x00", "\x12\x00\x01", "\x11\x00\x0f", "\x11\x02", "\x11\x02ab", "\x11\x02\x20a", "\x11\x02\x21ab",
		"\x11\x05\x10a\x00\x00\x00", "\x11\x05\x10a\x02\x00\x00", "\x11\x05\x10a\x01\x00", "\x11\x05\x10a\x01\x00\x01",
		"\x11\x0f\xf0", "\x11\x0f\xf0\xff", "\x11\x03abc", "\x12\x05hello", "\x11\x04\x00\x01\x00\x00"} {
		refused(t, s)
		_, long, _, ok := plainHead(s)
		if !ok {
			t.Fatalf("%s has no head to the test", short(s))
		}
		size(t, s, long)
	}
}

func TestOpenWithAnId(t *testing.T) {
	for _, kind := range kinds {
		for _, text := range []string{"", "ab", fox, strings.Repeat(fox, 20), strings.Repeat("x", api.MaxBytes)} {
			id, other := plainId(kind, text), plainId(3-kind, text)
			for _, s := range []string{encode(t, kind, text), blobOf(kind+packed, len(text), block(t, text)), blobOf(kind, len(text), text)} {
				if k, x, code := blob.Open(s, id); k != kind || x != text || code != api.OK {
					t.Errorf("Open(%s): %d, %s, %d", short(s), k, short(x), code)
				}
				for _, no := range []string{other, "", id[:31], id[1:], id + "\x00", id + id, plainId(kind, text+"a"), plainId(kind, s),
					plainId(kind+packed, text), plainId(0, text), strings.Repeat("\x00", 32), strings.Repeat("x", 31), strings.Repeat("x", 33)} {
					refusedOpen(t, s, no)
				}
				for bit := range 256 {
					turned := []byte(id)
					turned[bit/8] ^= 1 << (bit % 8)
					refusedOpen(t, s, string(turned))
				}
			}
		}
	}
	sum := sha256.Sum256([]byte("ab")) // without the kind
	refusedOpen(t, "\x01\x02ab", string(sum[:]))
}

func TestSizeWhateverStandsBehind(t *testing.T) {
	for _, first := range []int{1, 2, 17, 18} {
		for _, long := range []int{0, 1, 2, 127, 128, 16383, 16384, api.MaxBytes - 1, api.MaxBytes} {
			for _, body := range []string{"", "a", "\x00", "\x80", "\xff\xff", fox, strings.Repeat("\xff", 1000)} {
				size(t, blobOf(first, long, body), long)
			}
		}
		for _, long := range []int{api.MaxBytes + 1, api.MaxBytes + 2, 2 * api.MaxBytes, 1 << 20, 1 << 32, 1<<32 + 1, math.MaxInt} {
			for _, body := range []string{"", "a", fox} {
				noSize(t, blobOf(first, long, body))
			}
		}
	}
	for _, s := range []string{"", "\x01", "\x02", "\x11", "\x12", "\x00", "\x00\x00", "\x03\x00", "\x10\x00", "\x13\x00", "\x21\x00", "\xff\x00", "ab"} {
		noSize(t, s)
	}
}

// Promise 13.3.

func TestThereAndBack(t *testing.T) {
	d := dice(7)
	for range 3000 {
		var b strings.Builder
		for range d.upTo(10) {
			if s := b.String(); s != "" && d.upTo(2) == 0 {
				at := d.upTo(len(s))
				b.WriteString(s[at:])
			}
			b.WriteString(d.text(d.upTo(30), 1+d.upTo(256)))
		}
		thereAndBack(t, 1+d.upTo(2), b.String())
	}
	for long := api.MaxBytes - 20; long <= api.MaxBytes; long++ {
		thereAndBack(t, 1+long%2, d.text(long, 256))
		thereAndBack(t, 1+long%2, d.text(long, 3))
	}
	for long := range 600 {
		thereAndBack(t, 1+long%2, d.text(long, 256))
	}
}

func thereAndBack(t *testing.T, kind int, text string) {
	t.Helper()
	s := encode(t, kind, text)
	if len(s) > len(text)+6 {
		t.Fatalf("%d bytes are %d", len(text), len(s))
	}
	decodes(t, s, kind, text)
	if k, x, ok := plainDecode(s); k != kind || x != text || !ok {
		t.Fatalf("%s is no blob of %s", short(s), short(text))
	}
	id, code := blob.Id(kind, text)
	if code != api.OK {
		t.Fatal(code)
	}
	if k, x, code := blob.Open(s, id); k != kind || x != text || code != api.OK {
		t.Fatalf("Open(%s): %d, %s, %d", short(s), k, short(x), code)
	}
}

// P1: hostile bytes.

func TestEveryTextOfFewBytes(t *testing.T) {
	good := 0
	try := func(s string) {
		if sameAsPlain(t, s) {
			good++
		}
	}
	try("")
	for a := range 256 {
		try(string([]byte{byte(a)}))
		for b := range 256 {
			try(string([]byte{byte(a), byte(b)}))
		}
	}
	bytes := []byte{0, 1, 2, 4, 0x10, 0x11, 0x12, 0x20, 0x80, 0xff}
	for _, long := range []int{3, 4, 5} {
		total := 1
		for range long {
			total *= len(bytes)
		}
		b := make([]byte, long)
		for n := range total {
			for i := range b {
				b[i] = bytes[n%len(bytes)]
				n /= len(bytes)
			}
			try(string(b))
		}
	}
	if good < 300 {
		t.Errorf("only %d are blobs' bytes", good)
	}
}

func TestHostileBytes(t *testing.T) {
	d := dice(8)
	all := some(t)
	good := 0
	for range 6000 {
		b := []byte(all[d.upTo(len(all))])
		for range d.upTo(4) {
			at := d.upTo(min(len(b), 60))
			switch d.upTo(3) {
			case 0:
				b[at] ^= 1 << d.upTo(8)
			case 1:
				b[at] = []byte{0, 1, 2, 16, 17, 18, 127, 128, 255}[d.upTo(9)]
			case 2:
				b = append(b[:at:at], b[at+d.upTo(2):]...)
			}
			if len(b) == 0 {
				b = []byte{1}
			}
		}
		if sameAsPlain(t, string(b)) {
			good++
		}
	}
	if good < 1000 {
		t.Errorf("only %d are blobs' bytes", good)
	}
	for range 3000 {
		sameAsPlain(t, d.text(d.upTo(40), 256))
	}
}

// TestWhatFewBytesSayCostsLittle has bytes that say that they are very many,
// and very many that say that they are few.
func TestWhatFewBytesSayCostsLittle(t *testing.T) {
	full := strings.Repeat("\xff", 4<<20) // as a half of a block: a billion bytes
	many := strings.Repeat("x", 8<<20)
	head := "\x80\x80\x04" // 65536
	for i, s := range []string{"\x01" + head, "\x02" + head + "abc", "\x11" + head, "\x11" + head + "\x00", "\x12" + head + "\x1fa\x01\x00\x00\x00",
		"\x11" + head + "\x1fa\x01\x00" + full + "\x00\x00", "\x11" + head + "\xf0" + full, "\x11" + head + "\x1fa\x01\x00" + full,
		"\x01\x01" + many, "\x11\x01" + many, "\x02" + head + many, "\x03\x01" + many, "\x01" + full, "\x01" + strings.Repeat("\x80", 1<<20),
		"\x11\xff\xff\xff\xff\xff\xff\xff\xff\x7f" + full} {
		took := taken(func() {
			_, text, code := blob.Decode(s)
			if text != "" || code != api.ErrBlob {
				t.Errorf("Decode(%s): %d bytes, %d", short(s), len(text), code)
			}
			refusedOpen(t, s, "")
			blob.Size(s)
		})
		if took > 1<<20 {
			t.Errorf("%d: %d bytes of memory", i, took)
		}
	}
}

// taken is how much memory was asked for meanwhile.
func taken(do func()) uint64 {
	var before, after runtime.MemStats
	runtime.ReadMemStats(&before)
	do()
	runtime.ReadMemStats(&after)
	return after.TotalAlloc - before.TotalAlloc
}

// Rules R4 and R7.

func TestAnswersAreNewMemory(t *testing.T) {
	for _, text := range []string{"ab", fox, strings.Repeat(fox, 20)} {
		for _, kind := range kinds {
			given := strings.Clone(text)
			s := strings.Clone(encode(t, kind, given))
			if within(encode(t, kind, given), given) {
				t.Error("Encode answers a piece of the text")
			}
			for _, s := range []string{s, blobOf(kind, len(text), text), blobOf(kind+packed, len(text), block(t, text))} {
				if _, x, _ := blob.Decode(s); within(x, s) {
					t.Error("Decode answers a piece of what was handed in")
				}
				if _, x, _ := blob.Open(s, plainId(kind, text)); within(x, s) {
					t.Error("Open answers a piece of what was handed in")
				}
			}
		}
	}
}

// within tells whether a lies in the memory of b.
func within(a, b string) bool {
	at, from := uintptr(unsafe.Pointer(unsafe.StringData(a))), uintptr(unsafe.Pointer(unsafe.StringData(b)))
	return from <= at && at < from+uintptr(len(b))
}

// TestTheSameAgain asks the same at once, with other things between.
func TestTheSameAgain(t *testing.T) {
	d := dice(9)
	texts := []string{"", "ab", strings.Repeat(fox, 50), d.text(3000, 2), d.text(3000, 256)}
	var first []string
	for i, text := range texts {
		first = append(first, encode(t, kinds[i%2], text))
	}
	var wait sync.WaitGroup
	for range 8 {
		wait.Go(func() {
			for i := len(texts) - 1; i >= 0; i-- {
				s, code := blob.Encode(kinds[i%2], strings.Clone(texts[i]))
				if s != first[i] || code != api.OK {
					t.Errorf("%d: %s, %d", i, short(s), code)
				}
				blob.Encode(3, texts[i])
				blob.Decode(s + "a")
				if kind, text, code := blob.Open(s, plainId(kinds[i%2], texts[i])); kind != kinds[i%2] || text != texts[i] || code != api.OK {
					t.Errorf("%d: %d, %s, %d", i, kind, short(text), code)
				}
			}
		})
	}
	wait.Wait()
}
