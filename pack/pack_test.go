package pack_test

import (
	"crypto/sha256"
	"encoding/binary"
	"encoding/hex"
	"math"
	"runtime"
	"slices"
	"strings"
	"sync"
	"testing"
	"unsafe"

	"garret/api"
	"garret/blob"
	"garret/pack"
)

const fox = "the quick brown fox jumps over the lazy dog; "

var (
	kinds    = []int{api.BData, api.BTree}
	badKinds = []int{0, -1, 3, 4, 16, 17, 18, 255, 256, 257, 258, -255, -254, 1<<32 + 1, 1<<32 + 2, math.MinInt, math.MaxInt}
)

// plainShort is n by the words of chapter 1.
func plainShort(n int) string {
	var b []byte
	for ; n >= 128; n /= 128 {
		b = append(b, byte(128+n%128))
	}
	return string(append(b, byte(n)))
}

func plainSum(s string) string {
	sum := sha256.Sum256([]byte(s))
	return string(sum[:])
}

func oneByte(n int) string { return string([]byte{byte(n)}) }

func plainId(kind int, text string) string { return plainSum(oneByte(kind) + text) }

// row is a row of a directory, right or not.
func row(id string, kind, long, size int) string {
	return id + oneByte(kind) + plainShort(long) + plainShort(size)
}

// packOf is a pack's bytes by the words of the chapter, of a directory that is
// right or not.
func packOf(blobs, directory string) string { return packSaying(blobs, directory, len(directory)) }

func packSaying(blobs, directory string, long int) string {
	four := binary.BigEndian.AppendUint32(nil, uint32(long))
	return "GRTP\x01" + blobs + directory + string(four) + "PEND"
}

// one is a text of a kind.
type one struct {
	kind int
	text string
}

// encoded is the bytes of a blob, as the layer below makes them.
func (o one) encoded(t testing.TB) string {
	t.Helper()
	s, code := blob.Encode(o.kind, o.text)
	if code != api.OK {
		t.Fatalf("blob.Encode(%d, %s): %d", o.kind, brief(o.text), code)
	}
	return s
}

// plainPack is the bytes and the items of a pack of these.
func plainPack(t testing.TB, list []one) (string, []api.Item) {
	t.Helper()
	blobs, directory := "", plainShort(len(list))
	var items []api.Item
	for _, o := range list {
		s, id := o.encoded(t), plainId(o.kind, o.text)
		items = append(items, api.Item{Id: id, At: api.Place{Kind: o.kind, Off: 5 + len(blobs), Long: len(s), Size: len(o.text)}})
		blobs += s
		directory += row(id, o.kind, len(s), len(o.text))
	}
	all := packOf(blobs, directory)
	for i := range items {
		items[i].At.Pack = plainSum(all)
	}
	return all, items
}

// plainParse reads a pack's bytes by the words of the chapter.
func plainParse(s string) (items []api.Item, ok bool) {
	if len(s) > 65536 || len(s) < 13 || s[:5] != "GRTP\x01" || s[len(s)-4:] != "PEND" {
		return nil, false
	}
	end := len(s) - 8
	from := end - int(binary.BigEndian.Uint32([]byte(s[end:])))
	if from < 5 {
		return nil, false
	}
	rest := s[from:end]
	right := true
	short := func(most int) int {
		for long := 1; long <= 9 && long <= len(rest); long++ {
			n := 0
			for i := range long {
				n |= int(rest[i]&127) << (7 * i)
			}
			if plainShort(n) == rest[:long] && n <= most {
				rest = rest[long:]
				return n
			}
		}
		right = false
		return 0
	}
	off := 5
	for range short(4096) {
		if len(rest) < 33 || !right {
			return nil, false
		}
		x := api.Item{Id: rest[:32], At: api.Place{Pack: plainSum(s), Kind: int(rest[32]), Off: off}}
		rest = rest[33:]
		x.At.Long, x.At.Size = short(65536), short(65536)
		if x.At.Kind < 1 || x.At.Kind > 2 || x.At.Long < 1 || slices.ContainsFunc(items, func(y api.Item) bool { return x.Id == y.Id }) {
			return nil, false
		}
		off += x.At.Long
		items = append(items, x)
	}
	return items, right && rest == "" && off == from
}

func brief(s string) string {
	if len(s) > 40 {
		return hex.EncodeToString([]byte(s[:40])) + ".."
	}
	return hex.EncodeToString([]byte(s))
}

// dice is numbers that are the same in each run.
type dice uint32

func (d *dice) upTo(n int) int {
	*d = *d*1664525 + 1013904223
	return int(uint64(*d>>8) * uint64(n) >> 24)
}

// text is n bytes of so many kinds.
func (d *dice) text(n, kinds int) string {
	b := make([]byte, n)
	for i := range b {
		b[i] = byte(d.upTo(kinds))
	}
	return string(b)
}

// builder is a new one, of a limit that may be.
func builder(t testing.TB, limit int) *pack.Builder {
	t.Helper()
	b, code := pack.New(limit)
	if b == nil || code != api.OK {
		t.Fatalf("New(%d): %v, %d", limit, b, code)
	}
	return b
}

// add adds what must not be refused.
func add(t testing.TB, b *pack.Builder, list ...one) {
	t.Helper()
	for _, o := range list {
		if id, code := b.Add(o.kind, o.text); id != plainId(o.kind, o.text) || code != api.OK {
			t.Fatalf("Add(%d, %s), behind %d: %s, %d", o.kind, brief(o.text), b.Len(), brief(id), code)
		}
	}
}

// has looks whether just these are in the builder.
func has(t testing.TB, b *pack.Builder, list []one) {
	t.Helper()
	all, _ := plainPack(t, list)
	if b.Len() != len(list) || b.Bytes() != len(all) {
		t.Fatalf("Len %d, Bytes %d, not %d, %d", b.Len(), b.Bytes(), len(list), len(all))
	}
	for _, o := range list {
		if text, ok := b.Has(plainId(o.kind, o.text)); text != o.text || !ok {
			t.Fatalf("Has of %d, %s: %s, %v", o.kind, brief(o.text), brief(text), ok)
		}
	}
}

// hasNot looks whether none of these ids is there.
func hasNot(t testing.TB, b *pack.Builder, ids ...string) {
	t.Helper()
	for _, id := range append(ids, "", "\x00", strings.Repeat("\x00", 32), strings.Repeat("x", 31)) {
		if text, ok := b.Has(id); text != "" || ok {
			t.Errorf("Has(%s): %s, %v", brief(id), brief(text), ok)
		}
	}
}

// refuses looks whether the builder refuses this, and is as it was.
func refuses(t testing.TB, b *pack.Builder, o one, want api.Code, there []one) {
	t.Helper()
	if id, code := b.Add(o.kind, o.text); id != "" || code != want {
		t.Errorf("Add(%d, %s), behind %d: %s, %d, not %d", o.kind, brief(o.text), len(there), brief(id), code, want)
	}
	has(t, b, there)
	if slices.Contains(kinds, o.kind) && !slices.Contains(there, o) {
		hasNot(t, b, plainId(o.kind, o.text))
	}
}

// finishes looks whether the builder comes to the pack of these, and has none
// then.
func finishes(t testing.TB, b *pack.Builder, list []one) (string, []api.Item) {
	t.Helper()
	all, want := plainPack(t, list)
	s, items := b.Finish()
	if s != all {
		t.Fatalf("Finish of %d: %d bytes %s, not %d", len(list), len(s), brief(s), len(all))
	}
	if !slices.Equal(items, want) {
		t.Fatalf("Finish of %d: the items %v", len(list), items)
	}
	isEmpty(t, b)
	for _, o := range list {
		hasNot(t, b, plainId(o.kind, o.text))
	}
	return s, items
}

func isEmpty(t testing.TB, b *pack.Builder) {
	t.Helper()
	if b.Len() != 0 || b.Bytes() != 14 {
		t.Errorf("Len %d, Bytes %d, without blobs", b.Len(), b.Bytes())
	}
	hasNot(t, b, plainId(1, ""), plainId(2, ""), plainId(1, "ab"))
	if s, items := b.Finish(); s != "" || len(items) != 0 {
		t.Errorf("Finish of none: %s, %v", brief(s), items)
	}
}

// sameAsPlain holds Parse beside the plain reading, and tells whether s is a
// pack's bytes.
func sameAsPlain(t testing.TB, s string) bool {
	t.Helper()
	want, ok := plainParse(s)
	items, code := pack.Parse(s)
	if !slices.Equal(items, want) && ok || !ok && len(items) != 0 || ok != (code == api.OK) || !ok && code != api.ErrPack {
		t.Fatalf("Parse(%s): %v, %d, not %v, %v", brief(s), items, code, want, ok)
	}
	return ok
}

// isNone looks whether s is no pack's bytes, to the plain reading, too.
func isNone(t testing.TB, s string) {
	t.Helper()
	if sameAsPlain(t, s) {
		t.Errorf("%s is a pack's bytes", brief(s))
	}
}

func isPack(t testing.TB, s string) {
	t.Helper()
	if !sameAsPlain(t, s) {
		t.Errorf("%s is no pack's bytes", brief(s))
	}
}

// Promise 14.1.

func TestNew(t *testing.T) {
	for _, limit := range []int{64, 65, 100, 1000, api.MaxBytes - 1, api.MaxBytes} {
		isEmpty(t, builder(t, limit))
	}
	for _, limit := range []int{63, 62, 1, 0, -1, -64, -65, api.MaxBytes + 1, api.MaxBytes + 64, 1<<32 + 64, math.MaxInt, math.MinInt, math.MinInt + 64} {
		if b, code := pack.New(limit); b != nil || code != api.ErrRange {
			t.Errorf("New(%d): %v, %d", limit, b, code)
		}
	}
}

func TestTheExample(t *testing.T) {
	b := builder(t, 64)
	add(t, b, one{api.BData, "ab"})
	if b.Bytes() != 53 {
		t.Error(b.Bytes())
	}
	s, items := finishes(t, b, []one{{api.BData, "ab"}})
	id := plainSum("\x01ab")
	if s != "GRTP\x01\x01\x02ab\x01"+id+"\x01\x04\x02\x00\x00\x00\x24PEND" || len(s) != 53 {
		t.Error(brief(s))
	}
	if items[0] != (api.Item{Id: id, At: api.Place{Pack: plainSum(s), Kind: 1, Off: 5, Long: 4, Size: 2}}) {
		t.Error(items)
	}
}

func TestAddSome(t *testing.T) {
	d := dice(1)
	list := []one{{1, "ab"}, {2, "ab"}, {2, ""}, {1, ""}, {1, "\x00"}, {1, fox}, {2, strings.Repeat(fox, 100)},
		{1, d.text(127, 256)}, {2, d.text(128, 256)}, {1, d.text(300, 2)}, {1, strings.Repeat("x", api.MaxBytes)}, {2, d.text(20000, 256)}}
	b := builder(t, api.MaxBytes)
	for i, o := range list {
		has(t, b, list[:i])
		hasNot(t, b, plainId(o.kind, o.text))
		add(t, b, o)
	}
	has(t, b, list)
	finishes(t, b, list)
}

func TestHasByIdsAlone(t *testing.T) {
	b := builder(t, 1000)
	add(t, b, one{1, "ab"}, one{2, "abc"})
	id := plainId(1, "ab")
	hasNot(t, b, id[:31], id[1:], id+"\x00", id+id, strings.ToUpper(hex.EncodeToString([]byte(id))), hex.EncodeToString([]byte(id)),
		plainId(2, "ab"), plainId(1, "abc"), plainSum("ab"), "ab", "\x01\x02ab")
	for bit := range 256 {
		turned := []byte(id)
		turned[bit/8] ^= 1 << (bit % 8)
		hasNot(t, b, string(turned))
	}
	has(t, b, []one{{1, "ab"}, {2, "abc"}})
}

func TestAddOfKindsThatAreNone(t *testing.T) {
	b := builder(t, 100)
	for _, there := range [][]one{nil, {{1, "ab"}}} {
		add(t, b, there...)
		for _, kind := range badKinds {
			for _, text := range []string{"", "ab", "ac", strings.Repeat(fox, 100), strings.Repeat("x", api.MaxBytes), strings.Repeat("x", api.MaxBytes+1)} {
				refuses(t, b, one{kind, text}, api.ErrRange, there)
			}
		}
	}
	finishes(t, b, []one{{1, "ab"}})
}

func TestAddOfTextsThatAreTooLong(t *testing.T) {
	for _, limit := range []int{64, 1000, api.MaxBytes} {
		b := builder(t, limit)
		var there []one
		for range 2 {
			for _, kind := range kinds {
				for _, long := range []int{api.MaxBytes + 1, api.MaxBytes + 2, 1 << 20, 1<<20 + 1} {
					refuses(t, b, one{kind, strings.Repeat("x", long)}, api.ErrLong, there)
				}
			}
			if there == nil {
				there = []one{{1, "ab"}}
				add(t, b, there...)
			}
		}
		finishes(t, b, there)
	}
}

func TestAddTwice(t *testing.T) {
	b := builder(t, 2000)
	var there []one
	for _, text := range []string{"", "ab", strings.Repeat(fox, 50)} {
		for _, kind := range kinds {
			o := one{kind, text}
			add(t, b, o)
			there = append(there, o)
			for _, again := range there {
				refuses(t, b, again, api.ErrThere, there)
			}
		}
	}
	finishes(t, b, there)
}

// TestThereAheadOfTooMany has blobs that are there in packs that have no room
// for any.
func TestThereAheadOfTooMany(t *testing.T) {
	d := dice(2)
	for _, o := range []one{{1, d.text(300, 256)}, {2, d.text(65479, 256)}} {
		b := builder(t, 64)
		add(t, b, o)
		there := []one{o}
		refuses(t, b, o, api.ErrThere, there)
		refuses(t, b, one{3 - o.kind, o.text}, api.ErrLong, there)
		refuses(t, b, one{1, ""}, api.ErrLong, there)
		refuses(t, b, one{0, o.text}, api.ErrRange, there)
		refuses(t, b, o, api.ErrThere, there)
		finishes(t, b, there)
	}
}

// byChance is some texts, all of them unlike.
func (d *dice) byChance() []one {
	var list []one
	for range 2 + d.upTo(6) {
		o := one{1 + d.upTo(2), d.text(1+d.upTo(200), 1+d.upTo(256))}
		if !slices.Contains(list, o) {
			list = append(list, o)
		}
	}
	return list
}

// TestTheLimit has packs with just limit bytes, and with one more.
func TestTheLimit(t *testing.T) {
	d := dice(3)
	for range 300 {
		list := d.byChance()
		last := len(list) - 1
		all, _ := plainPack(t, list)
		if last == 0 || len(all) < 65 {
			continue
		}
		b := builder(t, len(all))
		add(t, b, list...)
		refuses(t, b, one{1, "x" + fox}, api.ErrLong, list)
		finishes(t, b, list)

		b = builder(t, len(all)-1)
		add(t, b, list[:last]...)
		refuses(t, b, list[last], api.ErrLong, list[:last])
		refuses(t, b, list[last], api.ErrLong, list[:last])
		finishes(t, b, list[:last])
		add(t, b, list[last]) // it is the first one now
		finishes(t, b, list[last:])
	}
}

// TestALesserOneBehind has a text that finds room behind one that did not.
func TestALesserOneBehind(t *testing.T) {
	b := builder(t, 92)
	add(t, b, one{1, "ab"})
	refuses(t, b, one{1, "abc"}, api.ErrLong, []one{{1, "ab"}})
	add(t, b, one{2, "ab"})
	refuses(t, b, one{1, ""}, api.ErrLong, []one{{1, "ab"}, {2, "ab"}})
	finishes(t, b, []one{{1, "ab"}, {2, "ab"}})
}

// TestTheFirstOneAboveTheLimit has texts that a builder without blobs takes
// whatever its limit is.
func TestTheFirstOneAboveTheLimit(t *testing.T) {
	d := dice(4)
	for _, limit := range []int{64, 65, 1000, api.MaxBytes - 1, api.MaxBytes} {
		for _, long := range []int{10, 11, 12, 13, 14, 64, 1000, 60000, 65478, 65479} {
			b, o := builder(t, limit), one{1 + long%2, d.text(long, 256)}
			add(t, b, o)
			if all, _ := plainPack(t, []one{o}); len(all) >= limit {
				refuses(t, b, one{1, ""}, api.ErrLong, []one{o})
			}
			s, _ := finishes(t, b, []one{o})
			if long == 65479 && len(s) != api.MaxBytes {
				t.Errorf("%d bytes", len(s))
			}
		}
		for _, long := range []int{65480, 65481, 65535, 65536} {
			b, o := builder(t, limit), one{1 + long%2, d.text(long, 256)}
			refuses(t, b, o, api.ErrLong, nil)
			isEmpty(t, b)
			add(t, b, one{1, "ab"})
			refuses(t, b, o, api.ErrLong, []one{{1, "ab"}})
			finishes(t, b, []one{{1, "ab"}})
			refuses(t, b, o, api.ErrLong, nil)
		}
	}
}

// numbered is so many unlike texts.
func numbered(n int) []one {
	var list []one
	for i := range n {
		list = append(list, one{1 + i%2, plainShort(i)})
	}
	return list
}

// TestTheCountGrows has the blob at which the number of blobs takes a byte more.
func TestTheCountGrows(t *testing.T) {
	list := numbered(129)
	for _, count := range []int{126, 127, 128, 129} {
		all, _ := plainPack(t, list[:count])
		b := builder(t, len(all))
		add(t, b, list[:count]...)
		refuses(t, b, one{1, "one more"}, api.ErrLong, list[:count])
		finishes(t, b, list[:count])

		b = builder(t, len(all)-1)
		add(t, b, list[:count-1]...)
		refuses(t, b, list[count-1], api.ErrLong, list[:count-1])
		finishes(t, b, list[:count-1])
	}
}

// TestNumbersGrow has lengths, of blobs and of texts, that take a byte more.
func TestNumbersGrow(t *testing.T) {
	d := dice(5)
	for _, edge := range []int{128, 1 << 14} {
		for more := -8; more <= 2; more++ {
			for _, text := range []string{d.text(edge+more, 256), strings.Repeat("x", edge+more)} {
				list := []one{{1, "ab"}, {2, text}}
				all, _ := plainPack(t, list)
				b := builder(t, len(all))
				add(t, b, list...)
				has(t, b, list)
				finishes(t, b, list)
				b = builder(t, max(64, len(all)-1))
				add(t, b, list[0])
				refuses(t, b, list[1], api.ErrLong, list[:1])
			}
		}
	}
}

// TestTheGreatestPack has as many blobs as there is room for.
func TestTheGreatestPack(t *testing.T) {
	list := numbered(3000)
	b := builder(t, api.MaxBytes)
	n := 0
	for {
		id, code := b.Add(list[n].kind, list[n].text)
		if code == api.ErrLong && id == "" {
			break
		}
		if id != plainId(list[n].kind, list[n].text) || code != api.OK {
			t.Fatalf("the blob %d: %s, %d", n, brief(id), code)
		}
		n++
	}
	if all, _ := plainPack(t, list[:n+1]); len(all) <= api.MaxBytes || n < 1600 {
		t.Errorf("%d blobs, and no room", n)
	}
	has(t, b, list[:n])
	s, items := finishes(t, b, list[:n])
	isPack(t, s)
	found(t, s, items, list[:n])
}

// Promise 14.2.

func TestFinishAndOn(t *testing.T) {
	lists := [][]one{{{1, "ab"}}, {{2, "ab"}, {1, "ab"}}, {{1, "ab"}, {2, "ab"}}, {{2, ""}}, numbered(20), {{1, strings.Repeat(fox, 300)}, {1, "ab"}}, numbered(3)}
	b := builder(t, 3000)
	isEmpty(t, b)
	for _, list := range lists {
		add(t, b, list...)
		has(t, b, list)
		s, items := finishes(t, b, list)
		found(t, s, items, list)
	}
}

func TestFinishTellsTheOrder(t *testing.T) {
	list := numbered(300)
	slices.Reverse(list)
	b := builder(t, api.MaxBytes)
	add(t, b, list...)
	_, items := finishes(t, b, list)
	off := 5
	for i, x := range items {
		if x.At.Off != off || x.Id != plainId(list[i].kind, list[i].text) {
			t.Errorf("%d: %v", i, x)
		}
		off += x.At.Long
	}
}

func TestBuildersGoTheirOwnWays(t *testing.T) {
	a, b := builder(t, 64), builder(t, 200)
	add(t, a, one{1, "ab"})
	hasNot(t, b, plainId(1, "ab"))
	add(t, b, one{1, "ab"}, one{2, "ab"}, one{1, "c"})
	has(t, a, []one{{1, "ab"}})
	finishes(t, a, []one{{1, "ab"}})
	has(t, b, []one{{1, "ab"}, {2, "ab"}, {1, "c"}})
	add(t, a, one{1, "c"})
	finishes(t, b, []one{{1, "ab"}, {2, "ab"}, {1, "c"}})
	finishes(t, a, []one{{1, "c"}})
}

// Promise 14.3.

func TestParseOfNoBlobs(t *testing.T) {
	isNone(t, "")
	s := packOf("", "\x00")
	if s != "GRTP\x01\x00\x00\x00\x00\x01PEND" {
		t.Fatal(brief(s))
	}
	if items, code := pack.Parse(s); len(items) != 0 || code != api.OK {
		t.Error(items, code)
	}
	isPack(t, s)
	for _, none := range []string{packOf("", ""), packOf("", "\x01"), packOf("", "\x80"), packOf("", "\x80\x00"), packOf("", "\x00\x00"),
		packOf("a", "\x00"), packOf("\x00", "\x00"), packSaying("", "\x00", 0), packSaying("", "\x00", 2), "GRTP\x01PEND", "GRTP\x01\x00PEND",
		"GRTP\x01\x00\x00\x00PEND", "GRTP\x01\x00\x00\x00\x00PEND", "GRTPEND", "PEND", "GRTP", "GRTP\x01", strings.Repeat("\x00", 14)} {
		isNone(t, none)
	}
}

// some is the bytes of packs of all sorts.
func some(t testing.TB) []string {
	d := dice(6)
	var l []string
	for _, list := range [][]one{nil, {{1, "ab"}}, {{1, ""}}, {{2, ""}, {1, ""}}, {{1, "ab"}, {2, "ab"}}, numbered(20), {{1, strings.Repeat(fox, 5)}, {2, d.text(300, 256)}, {1, d.text(300, 3)}}} {
		s, _ := plainPack(t, list)
		l = append(l, s)
	}
	return l
}

func TestParseSome(t *testing.T) {
	for _, s := range some(t) {
		isPack(t, s)
	}
	for _, count := range []int{127, 128, 129, 300} {
		s, want := plainPack(t, numbered(count))
		isPack(t, s)
		if items, _ := pack.Parse(s); !slices.Equal(items, want) {
			t.Errorf("%d items", len(items))
		}
	}
}

func TestParseOfBytesThatAreCutOrMore(t *testing.T) {
	for _, s := range some(t) {
		for at := range s {
			isNone(t, s[:at])
			if at > 0 {
				isNone(t, s[at:])
			}
			isNone(t, s[:at]+s[at+1:])
			for _, more := range []string{"\x00", "\x01", "\x80", "P", "\xff"} {
				isNone(t, s[:at]+more+s[at:])
			}
		}
		for _, more := range []string{"\x00", "\x01", "G", "PEND", s} {
			isNone(t, more+s)
			isNone(t, s+more)
		}
	}
}

func TestParseOfTurnedBytes(t *testing.T) {
	good := 0
	for _, s := range some(t) {
		for at := range s {
			for bit := range 8 {
				b := []byte(s)
				b[at] ^= 1 << bit
				if sameAsPlain(t, string(b)) {
					good++
				}
			}
		}
		for at := range 5 {
			for c := range 256 {
				if x := s[:at] + oneByte(c) + s[at+1:]; x != s {
					isNone(t, x)
				}
			}
		}
		for at := len(s) - 8; at < len(s); at++ {
			for c := range 256 {
				if x := s[:at] + oneByte(c) + s[at+1:]; x != s {
					isNone(t, x)
				}
			}
		}
	}
	if good < 1000 { // in blobs, ids, sizes
		t.Errorf("only %d are packs", good)
	}
}

func TestTheLengthOfTheDirectory(t *testing.T) {
	id := plainId(1, "ab")
	directory := "\x01" + row(id, 1, 4, 2)
	isPack(t, packOf("\x01\x02ab", directory))
	for _, long := range []int{0, 1, 35, 37, 39, 40, 41, 42, 43, 44, 45, 46, 49, 50, 53, 54, 1 << 8, 1<<8 + 36, 1 << 16, 1<<16 + 36, 1<<24 + 36, 1<<31 + 36, 1<<31 - 1, 1<<32 - 1, 1<<32 - 36} {
		isNone(t, packSaying("\x01\x02ab", directory, long))
	}
	isPack(t, packOf("GRTP\x01", "\x01"+row(id, 1, 5, 0)))
	isNone(t, packSaying("", "\x00", 6)) // the head would be the directory's
	isNone(t, packSaying("", "\x00", 2))
}

// TestNumbersOfTheDirectory has each of its numbers as it may not be written.
func TestNumbersOfTheDirectory(t *testing.T) {
	id, blobs := plainId(1, "ab"), "\x01\x02ab"
	isPack(t, packOf(blobs, "\x01"+id+"\x01\x04\x02"))
	for _, count := range []string{"", "\x00", "\x02", "\x81", "\x81\x00", "\x81\x80\x00", "\x81\x20", "\x80\x01", "\x81\x80\x80\x80\x10",
		"\xff\xff\xff\xff\xff\xff\xff\xff\x7f", "\x81\x80\x80\x80\x80\x80\x80\x80\x80\x00", "\x81\x80\x80\x80\x80\x80\x80\x80\x80\x01"} {
		isNone(t, packOf(blobs, count+id+"\x01\x04\x02"))
	}
	for _, long := range []string{"", "\x00", "\x03", "\x05", "\x84", "\x84\x00", "\x84\x80\x00", "\x84\x01", "\x80\x80\x04", "\x81\x80\x04", "\x84\x80\x80\x80\x10",
		"\xff\xff\xff\xff\xff\xff\xff\xff\x7f", "\x84\x80\x80\x80\x80\x80\x80\x80\x80\x00", "\x84\x80\x80\x80\x80\x80\x80\x80\x80\x02"} {
		isNone(t, packOf(blobs, "\x01"+id+"\x01"+long+"\x02"))
	}
	for _, size := range []string{"", "\x82", "\x82\x00", "\x82\x80\x00", "\x81\x80\x04", "\x80\x80\x05", "\xff\xff\x7f", "\x82\x80\x80\x80\x10",
		"\xff\xff\xff\xff\xff\xff\xff\xff\x7f", "\x82\x80\x80\x80\x80\x80\x80\x80\x80\x00", "\x82\x80\x80\x80\x80\x80\x80\x80\x80\x02"} {
		isNone(t, packOf(blobs, "\x01"+id+"\x01\x04"+size))
	}
	for _, size := range []int{0, 1, 2, 3, 127, 128, 16383, 16384, api.MaxBytes - 1, api.MaxBytes} {
		isPack(t, packOf(blobs, "\x01"+row(id, 1, 4, size)))
	}
	isNone(t, packOf(blobs, "\x01"+row(id, 1, 4, api.MaxBytes+1)))
	for long := range 32 {
		isNone(t, packOf(blobs, "\x01"+id[:long]+"\x01\x04\x02"))
	}
}

func TestManyBlobsAreSaid(t *testing.T) {
	for _, count := range []int{2, 127, 128, 4095, 4096, 4097, 1 << 16, 1 << 32, math.MaxInt} {
		isNone(t, packOf("", plainShort(count)))
		isNone(t, packOf("\x01\x02ab", plainShort(count)+row(plainId(1, "ab"), 1, 4, 2)))
	}
}

func TestKindsOfTheDirectory(t *testing.T) {
	for kind := range 256 {
		s := packOf("\x01\x02ab", "\x01"+row(plainId(1, "ab"), kind, 4, 2))
		if kind == 1 || kind == 2 {
			isPack(t, s)
		} else {
			isNone(t, s)
		}
		second := packOf("\x01\x02ab", "\x02"+row(plainId(1, "ab"), 1, 2, 2)+row(plainId(2, "ab"), kind, 2, 2))
		if kind == 1 || kind == 2 {
			isPack(t, second)
		} else {
			isNone(t, second)
		}
	}
}

func TestBlobsOfNoBytes(t *testing.T) {
	a, b, c := plainId(1, "a"), plainId(1, "b"), plainId(1, "c")
	isNone(t, packOf("", "\x01"+row(a, 1, 0, 0)))
	isNone(t, packOf("ab", "\x02"+row(a, 1, 0, 0)+row(b, 1, 2, 0)))
	isNone(t, packOf("ab", "\x02"+row(a, 1, 2, 0)+row(b, 1, 0, 0)))
	isNone(t, packOf("ab", "\x03"+row(a, 1, 1, 0)+row(b, 1, 0, 0)+row(c, 1, 1, 0)))
	isPack(t, packOf("ab", "\x02"+row(a, 1, 1, 0)+row(b, 1, 1, 0)))
	isPack(t, packOf("\x00", "\x01"+row(a, 1, 1, 0)))
}

func TestTwoBlobsOfOneId(t *testing.T) {
	a, b, c := row(plainId(1, "a"), 1, 1, 0), row(plainId(1, "b"), 1, 1, 0), row(plainId(1, "c"), 1, 1, 0)
	isPack(t, packOf("abc", "\x03"+a+b+c))
	for _, rows := range []string{a + a + b, a + b + a, b + a + a, a + a + a} {
		isNone(t, packOf("abc", "\x03"+rows))
	}
	isNone(t, packOf("ab", "\x02"+row(plainId(1, "a"), 1, 1, 0)+row(plainId(1, "a"), 2, 1, 1)))
	isPack(t, packOf("ab", "\x02"+row(strings.Repeat("\x00", 32), 1, 1, 0)+row(strings.Repeat("\x00", 31)+"\x01", 2, 1, 1)))
}

func TestLengthsOfBlobs(t *testing.T) {
	a, b := plainId(1, "a"), plainId(1, "b")
	for first := 1; first < 12; first++ {
		for second := 1; second < 12; second++ {
			s := packOf("0123456789", "\x02"+row(a, 1, first, 0)+row(b, 2, second, 0))
			if first+second == 10 {
				isPack(t, s)
			} else {
				isNone(t, s)
			}
		}
	}
	for _, long := range []int{11, 128, 16384, api.MaxBytes, api.MaxBytes + 1} {
		isNone(t, packOf("0123456789", "\x02"+row(a, 1, long, 0)+row(b, 1, 1, 0)))
		isNone(t, packOf("0123456789", "\x02"+row(a, 1, long, 0)+row(b, 1, math.MaxInt-long, 0)))
		isNone(t, packOf("0123456789", "\x02"+row(a, 1, long, 0)+row(b, 1, math.MaxInt-long+11, 0)))
	}
	for long := 1; long < 20; long++ { // the sum wraps round
		isNone(t, packOf("0123456789", "\x03"+row(a, 1, math.MaxInt, 0)+row(b, 1, math.MaxInt, 0)+row(plainId(1, "c"), 1, long, 0)))
	}
}

// TestNothingIsAskedOfBlobs has bytes that are no blob, or another one.
func TestNothingIsAskedOfBlobs(t *testing.T) {
	for _, bytes := range []string{"x", "\x00\x00", "PEND", "GRTP\x01", "\x01\x02cd", "\x02\x02ab", "\xff\xff\xff\xff", strings.Repeat("\xff", 1000)} {
		for _, kind := range kinds {
			for _, size := range []int{0, 2, len(bytes), api.MaxBytes} {
				s := packOf(bytes, "\x01"+row(plainId(1, "ab"), kind, len(bytes), size))
				isPack(t, s)
				items, _ := pack.Parse(s)
				want := api.Item{Id: plainId(1, "ab"), At: api.Place{Pack: plainSum(s), Kind: kind, Off: 5, Long: len(bytes), Size: size}}
				if len(items) != 1 || items[0] != want {
					t.Errorf("%s: %v", brief(bytes), items)
				}
			}
		}
	}
}

func TestPacksOfMostBytes(t *testing.T) {
	blobs := strings.Repeat("x", api.MaxBytes)
	for more := -2; more <= 2; more++ {
		long := api.MaxBytes - 51 + more
		s := packOf(blobs[:long], "\x01"+row(plainId(1, "ab"), 1, long, 7))
		if len(s) != api.MaxBytes+more {
			t.Fatal(len(s))
		}
		if more <= 0 {
			isPack(t, s)
		} else {
			isNone(t, s)
		}
	}
	// two blobs, none of which is too long by itself
	half := blobs[:1<<15]
	isNone(t, packOf(half+half, "\x02"+row(plainId(1, "a"), 1, 1<<15, 7)+row(plainId(1, "b"), 1, 1<<15, 7)))
}

// found looks whether each of these is found by its item, whole.
func found(t testing.TB, s string, items []api.Item, list []one) {
	t.Helper()
	if len(items) != len(list) {
		t.Fatalf("%d items, not %d", len(items), len(list))
	}
	for i, x := range items {
		isThere(t, s, x.At, x.Id, list[i])
	}
}

func isThere(t testing.TB, s string, at api.Place, id string, o one) {
	t.Helper()
	if kind, text, code := pack.Blob(s, at, id); kind != o.kind || text != o.text || code != api.OK {
		t.Errorf("Blob(%s, %v): %d, %s, %d", brief(s), at, kind, brief(text), code)
	}
}

func isNotThere(t testing.TB, s string, at api.Place, id string, want api.Code) {
	t.Helper()
	if kind, text, code := pack.Blob(s, at, id); kind != 0 || text != "" || code != want {
		t.Errorf("Blob(%s, %v): %d, %s, %d, not %d", brief(s), at, kind, brief(text), code, want)
	}
}

// TestBlobOfAnyBytes has blobs in bytes that need not be a pack's.
func TestBlobOfAnyBytes(t *testing.T) {
	id := plainId(1, "ab")
	at := api.Place{Kind: 1, Off: 0, Long: 4, Size: 2}
	isThere(t, "\x01\x02ab", at, id, one{1, "ab"})
	at.Pack = "any"
	isThere(t, "\x01\x02ab", at, id, one{1, "ab"})
	isThere(t, "\x01\x02abc", at, id, one{1, "ab"})
	at.Off = 3
	isThere(t, "xyz\x01\x02ab", at, id, one{1, "ab"})
	isThere(t, "xyz\x11\x02\x20ab", api.Place{Kind: 1, Off: 3, Long: 5, Size: 2}, id, one{1, "ab"})
	long := strings.Repeat("x", 2*api.MaxBytes) + "\x02\x00" + strings.Repeat("y", api.MaxBytes)
	isThere(t, long, api.Place{Kind: 2, Off: 2 * api.MaxBytes, Long: 2}, plainId(2, ""), one{2, ""})
}

func TestPlacesThatAreNotWithin(t *testing.T) {
	s, items := plainPack(t, []one{{1, "ab"}, {2, fox}})
	id := items[1].Id
	n := len(s)
	for _, x := range [][2]int{{-1, 4}, {-1, 0}, {-1, 1}, {5, -1}, {0, -1}, {n, -1}, {-5, 5}, {-5, n + 5}, {n, 1}, {n - 1, 2}, {n + 1, 0}, {n + 1, -1}, {0, n + 1}, {1, n}, {5, n - 4},
		{math.MaxInt, 0}, {math.MaxInt, 1}, {math.MaxInt, math.MaxInt}, {0, math.MaxInt}, {1, math.MaxInt}, {5, math.MaxInt}, {5, math.MaxInt - 4}, {n, math.MaxInt}, {math.MaxInt, n},
		{math.MaxInt - 3, 4}, {math.MaxInt - 4, 9}, {math.MinInt, 0}, {math.MinInt, 4}, {math.MinInt, math.MinInt}, {0, math.MinInt}, {5, math.MinInt}, {math.MaxInt, math.MinInt}, {math.MinInt, math.MaxInt},
		{math.MinInt + 9, math.MaxInt}, {-4, 9}, {1 << 32, 4}, {5, 1 << 32}, {1<<32 + 5, 4}} {
		for _, y := range []api.Place{items[0].At, items[1].At, {}} {
			y.Off, y.Long = x[0], x[1]
			isNotThere(t, s, y, id, api.ErrNone)
			isNotThere(t, s, y, "", api.ErrNone)
			isNotThere(t, "", y, id, api.ErrNone)
		}
	}
	for _, x := range [][2]int{{n, 0}, {0, 0}, {5, 0}, {0, n}, {1, n - 1}, {n - 1, 1}, {n - 4, 4}, {5, n - 5}, {5, 3}, {5, 5}, {4, 4}, {6, 4}, {6, 3}} {
		y := items[0].At
		y.Off, y.Long = x[0], x[1]
		isNotThere(t, s, y, items[0].Id, api.ErrBlob)
	}
	isNotThere(t, "", api.Place{}, "", api.ErrBlob)
	isNotThere(t, "", api.Place{Kind: 1}, plainId(1, ""), api.ErrBlob)
}

// TestThePlaceEndsAtTheEnd has a blob that ends just where the bytes end.
func TestThePlaceEndsAtTheEnd(t *testing.T) {
	bytes := "xyz" + one{2, fox}.encoded(t)
	at := api.Place{Kind: 2, Off: 3, Long: len(bytes) - 3, Size: len(fox)}
	isThere(t, bytes, at, plainId(2, fox), one{2, fox})
	isNotThere(t, bytes[:len(bytes)-1], at, plainId(2, fox), api.ErrNone)
	at.Long++
	isNotThere(t, bytes, at, plainId(2, fox), api.ErrNone)
	at.Long -= 2
	isNotThere(t, bytes, at, plainId(2, fox), api.ErrBlob)
	at.Off, at.Long = 4, at.Long+1
	isNotThere(t, bytes, at, plainId(2, fox), api.ErrNone)
}

func TestBytesThatAreNoBlob(t *testing.T) {
	for _, bytes := range []string{"\x01", "\x03\x02ab", "\x00\x02ab", "\x01\x03ab", "\x01\x01ab", "\x01\x82\x00ab", "\x11\x02ab", "\x21\x02ab", "abcd", "\x01\x81\x80\x04a"} {
		at := api.Place{Kind: 1, Off: 0, Long: len(bytes), Size: 2}
		isNotThere(t, bytes, at, plainId(1, "ab"), api.ErrBlob)
	}
}

func TestBlobOfAnotherId(t *testing.T) {
	list := []one{{1, "ab"}, {2, "ab"}, {1, ""}, {2, strings.Repeat(fox, 20)}}
	s, items := plainPack(t, list)
	for i, x := range items {
		for _, y := range items {
			if x.Id != y.Id {
				isNotThere(t, s, x.At, y.Id, api.ErrBlob)
			}
		}
		for _, no := range []string{"", x.Id[:31], x.Id[1:], x.Id + "\x00", hex.EncodeToString([]byte(x.Id)), x.At.Pack, plainSum(list[i].text), strings.Repeat("\x00", 32)} {
			isNotThere(t, s, x.At, no, api.ErrBlob)
		}
		isThere(t, s, x.At, x.Id, list[i])
	}
}

func TestBlobOfAnotherKindOrSize(t *testing.T) {
	list := []one{{1, "ab"}, {2, "ab"}, {1, ""}, {2, strings.Repeat(fox, 20)}}
	s, items := plainPack(t, list)
	for i, x := range items {
		for _, kind := range append([]int{3 - list[i].kind, list[i].kind + 16}, badKinds...) {
			at := x.At
			at.Kind = kind
			isNotThere(t, s, at, x.Id, api.ErrPack)
			isNotThere(t, s, at, plainId(3-list[i].kind, list[i].text), api.ErrBlob)
		}
		for _, size := range []int{len(list[i].text) - 1, len(list[i].text) + 1, -len(list[i].text) - 1, x.At.Long, math.MaxInt, math.MinInt, len(list[i].text) + 1<<32} {
			at := x.At
			at.Size = size
			isNotThere(t, s, at, x.Id, api.ErrPack)
			at.Pack = ""
			isNotThere(t, s, at, x.Id, api.ErrPack)
			isNotThere(t, s, at, "", api.ErrBlob)
			at.Kind = 0
			isNotThere(t, s, at, x.Id, api.ErrPack)
			at.Off = -1
			isNotThere(t, s, at, x.Id, api.ErrNone)
		}
	}
}

// Promise 14.4.

func TestName(t *testing.T) {
	d := dice(7)
	for long := range 70 {
		id := d.text(long, 256)
		name := "pack/" + hex.EncodeToString([]byte(id))
		if got := pack.Name(id); got != name {
			t.Errorf("Name(%s): %s", brief(id), got)
		}
		got, code := pack.IdOf(name)
		if long == 32 && (got != id || code != api.OK) || long != 32 && (got != "" || code != api.ErrNone) {
			t.Errorf("IdOf(%s): %s, %d", name, brief(got), code)
		}
	}
	if got := pack.Name(""); got != "pack/" {
		t.Error(got)
	}
}

func TestNamesThatAreNone(t *testing.T) {
	d := dice(8)
	digits := hex.EncodeToString([]byte("\x0a\xbc" + d.text(30, 256)))
	refuse := func(name string) {
		t.Helper()
		if id, code := pack.IdOf(name); id != "" || code != api.ErrNone {
			t.Errorf("IdOf(%q): %s, %d", name, brief(id), code)
		}
	}
	for _, head := range []string{"", "pack", "/", "Pack/", "PACK/", "pack//", "/pack/", "pack/pack/", " pack/", "pack\x00", "index/", "snap/", "lock/", "packs", "back/", "pac/", "ack/", "p", "pack/ "} {
		refuse(head + digits)
		refuse(head)
	}
	for _, tail := range []string{"0", "00", " ", "\n", "\x00", "/", "g"} {
		refuse("pack/" + digits + tail)
		refuse("pack/" + digits[:64-len(tail)] + tail + digits)
	}
	for long := range 64 {
		refuse("pack/" + digits[:long])
		refuse("pack/" + digits[long+1:])
		refuse("pack/" + strings.ToUpper(digits[:3]) + digits[3:])
	}
	refuse(strings.ToUpper("pack/" + digits))
	for at := range 64 {
		for c := range 256 {
			name := "pack/" + digits[:at] + oneByte(c) + digits[at+1:]
			if strings.IndexByte("0123456789abcdef", byte(c)) < 0 {
				refuse(name)
			} else if id, code := pack.IdOf(name); hex.EncodeToString([]byte(id)) != name[5:] || code != api.OK {
				t.Errorf("IdOf(%q): %s, %d", name, brief(id), code)
			}
		}
	}
}

// Promise 14.5.

func TestThereAndBack(t *testing.T) {
	d := dice(9)
	for range 200 {
		b := builder(t, 64+d.upTo(6000))
		var list []one
		for range d.upTo(40) {
			o := one{1 + d.upTo(2), d.text(d.upTo(3), 4)}
			if d.upTo(3) > 0 {
				o.text = d.text(d.upTo(400), 1+d.upTo(256))
			}
			id, code := b.Add(o.kind, o.text)
			switch {
			case slices.Contains(list, o):
				if id != "" || code != api.ErrThere {
					t.Fatalf("Add of what is there: %s, %d", brief(id), code)
				}
			case code == api.OK:
				list = append(list, o)
			case code != api.ErrLong || id != "":
				t.Fatalf("Add: %s, %d", brief(id), code)
			}
			has(t, b, list)
		}
		if len(list) == 0 {
			isEmpty(t, b)
			continue
		}
		s, items := finishes(t, b, list)
		found(t, s, items, list)
		again, code := pack.Parse(s)
		if code != api.OK || !slices.Equal(again, items) {
			t.Fatalf("Parse: %v, %d", again, code)
		}
		if id, code := pack.IdOf(pack.Name(items[0].At.Pack)); id != plainSum(s) || code != api.OK {
			t.Fatalf("the pack's id: %s, %d", brief(id), code)
		}
	}
}

func TestEachBlobOnce(t *testing.T) {
	b := builder(t, api.MaxBytes)
	list := numbered(50)
	for range 3 {
		for _, o := range list {
			b.Add(o.kind, o.text)
		}
	}
	s, items := finishes(t, b, list)
	seen := map[string]bool{}
	for _, x := range items {
		if seen[x.Id] {
			t.Errorf("%s is there twice", brief(x.Id))
		}
		seen[x.Id] = true
	}
	found(t, s, items, list)
}

// P1: hostile bytes.

func TestHostileBytes(t *testing.T) {
	d := dice(10)
	all := some(t)
	bytes := []byte{0, 1, 2, 3, 36, 127, 128, 129, 255}
	good := 0
	for range 20000 {
		b := []byte(all[d.upTo(len(all))])
		for range 1 + d.upTo(3) {
			at := d.upTo(len(b))
			if d.upTo(3) == 0 { // near the end of the directory
				at = max(0, len(b)-1-d.upTo(12))
			}
			switch d.upTo(4) {
			case 0:
				b[at] ^= 1 << d.upTo(8)
			case 1:
				b[at] = bytes[d.upTo(len(bytes))]
			case 2:
				b = append(b[:at:at], b[at+d.upTo(2):]...)
			case 3:
				b = slices.Insert(b, at, bytes[d.upTo(len(bytes))])
			}
			if len(b) == 0 {
				b = []byte{1}
			}
		}
		s := string(b)
		if sameAsPlain(t, s) {
			good++
		}
		items, _ := pack.Parse(s)
		for _, x := range items {
			if kind, text, code := pack.Blob(s, x.At, x.Id); code == api.OK && (plainId(kind, text) != x.Id || kind != x.At.Kind || len(text) != x.At.Size) || code != api.OK && (kind != 0 || text != "") {
				t.Fatalf("Blob: %d, %s, %d", kind, brief(text), code)
			}
		}
	}
	if good < 1000 {
		t.Errorf("only %d are packs", good)
	}
	for range 3000 {
		sameAsPlain(t, d.text(d.upTo(80), 256))
		sameAsPlain(t, packOf(d.text(d.upTo(20), 256), d.text(d.upTo(80), 3)))
	}
}

// TestWhatFewBytesSayCostsLittle has bytes that say that they are very many,
// and very many that say that they are few.
func TestWhatFewBytesSayCostsLittle(t *testing.T) {
	id, full := plainId(1, "ab"), strings.Repeat("\xff", 8<<20)
	for i, s := range []string{packOf("", "\x80\x20"), packOf("", "\xff\xff\xff\xff\xff\xff\xff\xff\x7f"), packSaying("", "\x00", 1<<32-1),
		packOf("ab", "\x01"+row(id, 1, 1<<40, 1<<40)), packOf(full, "\x01"+row(id, 1, len(full), 2)), packOf("ab", full), full, "GRTP\x01" + full + "PEND"} {
		took := taken(func() {
			if items, code := pack.Parse(s); len(items) != 0 || code != api.ErrPack {
				t.Errorf("%d: %v, %d", i, items, code)
			}
		})
		if took > 1<<16 {
			t.Errorf("%d: %d bytes of memory", i, took)
		}
	}
	at := api.Place{Kind: 1, Off: 3, Long: len(full), Size: 1 << 40}
	bomb := "\x11\x80\x80\x04\x1fa\x01\x00" + full
	for _, s := range []string{"xyz" + full, "xyz" + bomb, "xyz\x01\x01" + full, "xyz\x01\xff\xff\xff\x7f" + full} {
		took := taken(func() { isNotThere(t, s, at, id, api.ErrBlob) })
		if took > 1<<20 {
			t.Errorf("%d bytes of memory", took)
		}
	}
}

// taken is how much memory was asked for meanwhile.
func taken(do func()) uint64 {
	var before, after runtime.MemStats
	runtime.ReadMemStats(&before)
	do()
	runtime.ReadMemStats(&after)
	return after.TotalAlloc - before.TotalAlloc
}

// Rules R4 and R7.

func TestAnswersAreNewMemory(t *testing.T) {
	list := []one{{1, "ab"}, {2, strings.Repeat(fox, 3)}}
	b := builder(t, 1000)
	add(t, b, list...)
	text, _ := b.Has(plainId(1, "ab"))
	again, _ := b.Has(plainId(1, "ab"))
	if within(text, again) {
		t.Error("Has answers the same memory twice")
	}
	s, items := b.Finish()
	want := slices.Clone(items)
	parsed, _ := pack.Parse(s)
	for i := range items {
		if within(items[i].Id, s) || within(parsed[i].Id, s) {
			t.Error("an id is a piece of the pack")
		}
		if _, text, _ := pack.Blob(s, parsed[i].At, parsed[i].Id); within(text, s) {
			t.Error("Blob answers a piece of the pack")
		}
		parsed[i] = api.Item{}
	}
	if !slices.Equal(items, want) {
		t.Error("Parse's list is Finish's")
	}
	clear(items[:cap(items)])
	items = append(items[:0], api.Item{}, api.Item{}, api.Item{})
	if more, _ := pack.Parse(s); !slices.Equal(more, want) {
		t.Error("a list that was answered is kept", items)
	}
	add(t, b, list...)
	if s, items := b.Finish(); !slices.Equal(items, want) || plainSum(s) != want[0].At.Pack {
		t.Error("another Finish of the same tells other items")
	}
}

// within tells whether a lies in the memory of b.
func within(a, b string) bool {
	at, from := uintptr(unsafe.Pointer(unsafe.StringData(a))), uintptr(unsafe.Pointer(unsafe.StringData(b)))
	return from <= at && at < from+uintptr(len(b))
}

// TestTheSameAgain asks the same at once, with other things between.
func TestTheSameAgain(t *testing.T) {
	list := numbered(200)
	s, items := plainPack(t, list)
	var wait sync.WaitGroup
	for range 8 {
		wait.Go(func() {
			b, _ := pack.New(api.MaxBytes)
			for _, o := range list {
				b.Add(o.kind, o.text)
				b.Add(0, o.text)
				b.Has(o.text)
				b.Bytes()
			}
			got, l := b.Finish()
			if got != s || !slices.Equal(l, items) {
				t.Errorf("%d bytes, %d items", len(got), len(l))
			}
			pack.Parse(s[1:])
			if l, code := pack.Parse(s); !slices.Equal(l, items) || code != api.OK {
				t.Errorf("%d items, %d", len(l), code)
			}
			for i, x := range items {
				if kind, text, code := pack.Blob(s, x.At, x.Id); kind != list[i].kind || text != list[i].text || code != api.OK {
					t.Errorf("%d: %d, %s, %d", i, kind, brief(text), code)
				}
			}
		})
	}
	wait.Wait()
}
