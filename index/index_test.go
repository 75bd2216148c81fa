package index_test

import (
	"crypto/sha256"
	"encoding/hex"
	"math"
	"runtime"
	"slices"
	"strings"
	"sync"
	"testing"
	"unsafe"

	"garret/api"
	"garret/index"
	"garret/lookup"
	"garret/pack"
)

// dice is numbers that are the same in each run.
type dice uint32

func (d *dice) upTo(n int) int {
	*d = *d*1664525 + 1013904223
	return int(uint64(*d>>8) * uint64(n) >> 24)
}

// text is n bytes of so many kinds.
func (d *dice) text(n, kinds int) string {
	b := make([]byte, n)
	for i := range b {
		b[i] = byte(d.upTo(kinds))
	}
	return string(b)
}

func oneByte(n int) string { return string([]byte{byte(n)}) }

// filled is 32 bytes that are all the same.
func filled(c byte) string { return strings.Repeat(oneByte(int(c)), 32) }

// put is s with the byte at a place put in place of the one that is there.
func put(s string, at int, c byte) string { return s[:at] + oneByte(int(c)) + s[at+1:] }

func item(id, pack string, kind, off, long, size int) api.Item {
	return api.Item{Id: id, At: api.Place{Pack: pack, Kind: kind, Off: off, Long: long, Size: size}}
}

// some is an item of an id and a pack that are all the same byte.
func some(id, pack byte, off int) api.Item { return item(filled(id), filled(pack), 1, off, 2, 3) }

func brief(s string) string {
	if len(s) > 40 {
		return hex.EncodeToString([]byte(s[:40])) + ".."
	}
	return hex.EncodeToString([]byte(s))
}

func plainSum(s string) string {
	sum := sha256.Sum256([]byte(s))
	return string(sum[:])
}

// plainShort is n by the words of chapter 1.
func plainShort(n int) string {
	var b []byte
	for ; n >= 128; n /= 128 {
		b = append(b, byte(128+n%128))
	}
	return string(append(b, byte(n)))
}

// plainText is -1, 0 or 1 by the bytes' values, shorter ones that begin others first.
func plainText(a, b string) int {
	for i := range len(a) {
		if i == len(b) || b[i] < a[i] {
			return 1
		}
		if a[i] < b[i] {
			return -1
		}
	}
	if len(a) < len(b) {
		return -1
	}
	return 0
}

// plainOrder is -1, 0 or 1 by the words of chapter 15.
func plainOrder(x, y api.Item) int {
	if c := plainText(x.Id, y.Id); c != 0 {
		return c
	}
	if c := plainText(x.At.Pack, y.At.Pack); c != 0 {
		return c
	}
	a, b := []int{x.At.Off, x.At.Long, x.At.Size, x.At.Kind}, []int{y.At.Off, y.At.Long, y.At.Size, y.At.Kind}
	for i := range a {
		if a[i] < b[i] {
			return -1
		}
		if a[i] > b[i] {
			return 1
		}
	}
	return 0
}

// plainMay tells whether x may be, by the words of chapter 15.
func plainMay(x api.Item) bool {
	at := x.At
	return len(x.Id) == 32 && len(at.Pack) == 32 && (at.Kind == 1 || at.Kind == 2) &&
		at.Off >= 0 && at.Off <= 65536 && at.Long >= 1 && at.Long <= 65536 && at.Size >= 0 && at.Size <= 65536
}

// plainRow is an item's bytes, right or not.
func plainRow(x api.Item) string {
	at := x.At
	return x.Id + at.Pack + oneByte(at.Kind) + plainShort(at.Off) + plainShort(at.Long) + plainShort(at.Size)
}

// plainFile is the bytes of these by the words of the chapter, right or not.
func plainFile(f index.File) string {
	s := "GRTI\x01" + plainShort(len(f.Supersedes)) + strings.Join(f.Supersedes, "") + plainShort(len(f.Items))
	var rows strings.Builder
	for _, x := range f.Items {
		rows.WriteString(plainRow(x))
	}
	return s + rows.String()
}

// plainCheck is what is wrong with f, but for how long it is.
func plainCheck(f index.File) api.Code {
	for _, id := range f.Supersedes {
		if len(id) != 32 {
			return api.ErrRange
		}
	}
	for _, x := range f.Items {
		if !plainMay(x) {
			return api.ErrRange
		}
	}
	for i := range f.Supersedes {
		if i > 0 && plainText(f.Supersedes[i-1], f.Supersedes[i]) >= 0 {
			return api.ErrShape
		}
	}
	for i := range f.Items {
		if i > 0 && plainOrder(f.Items[i-1], f.Items[i]) >= 0 {
			return api.ErrShape
		}
	}
	return api.OK
}

func plainFits(f index.File) bool {
	return len(f.Supersedes) <= 4096 && len(f.Items) <= 4096 && len(plainFile(f)) <= 65536
}

func plainEncode(f index.File) (string, api.Code) {
	if code := plainCheck(f); code != api.OK {
		return "", code
	}
	if !plainFits(f) {
		return "", api.ErrLong
	}
	return plainFile(f), api.OK
}

// plainDecode reads a file's bytes by the words of the chapter.
func plainDecode(s string) (f index.File, ok bool) {
	if len(s) > 65536 || len(s) < 5 || s[:5] != "GRTI\x01" {
		return index.File{}, false
	}
	rest, right := s[5:], true
	bytes := func(n int) string {
		if len(rest) < n {
			right = false
			return ""
		}
		b := rest[:n]
		rest = rest[n:]
		return b
	}
	short := func() int {
		for long := 1; long <= 9 && long <= len(rest); long++ {
			n := 0
			for i := range long {
				n |= int(rest[i]&127) << (7 * i)
			}
			if plainShort(n) == rest[:long] {
				rest = rest[long:]
				return n
			}
		}
		right = false
		return 0
	}
	for i, n := 0, short(); i < n && right; i++ {
		f.Supersedes = append(f.Supersedes, bytes(32))
	}
	for i, n := 0, short(); i < n && right; i++ {
		x := api.Item{Id: bytes(32), At: api.Place{Pack: bytes(32)}}
		for _, c := range []byte(bytes(1)) {
			x.At.Kind = int(c)
		}
		x.At.Off, x.At.Long, x.At.Size = short(), short(), short()
		f.Items = append(f.Items, x)
	}
	if !right || rest != "" || plainCheck(f) != api.OK || !plainFits(f) {
		return index.File{}, false
	}
	return f, true
}

// plainSplit is the files that f takes, by the words of the chapter: each is
// made greater as long as it may be.
func plainSplit(f index.File) ([]string, api.Code) {
	if code := plainCheck(f); code != api.OK {
		return nil, code
	}
	if !plainFits(index.File{Supersedes: f.Supersedes}) {
		return nil, api.ErrLong
	}
	var files []string
	for {
		n := 0
		for bytes := len(plainFile(index.File{Supersedes: f.Supersedes})) - 1; n < len(f.Items); n++ {
			bytes += len(plainRow(f.Items[n]))
			if n+1 > 4096 || bytes+len(plainShort(n+1)) > 65536 {
				break
			}
		}
		files = append(files, plainFile(index.File{Supersedes: f.Supersedes, Items: f.Items[:n]}))
		f = index.File{Items: f.Items[n:]}
		if len(f.Items) == 0 {
			return files, api.OK
		}
	}
}

// plainMerge is the items and the ids that count, by the words of the chapter.
func plainMerge(files []string) (items []api.Item, counted []string, ok bool) {
	for _, s := range files {
		if _, ok := plainDecode(s); !ok {
			return nil, nil, false
		}
	}
	for _, s := range files {
		id := plainSum(s)
		if slices.ContainsFunc(files, func(other string) bool {
			f, _ := plainDecode(other)
			return slices.Contains(f.Supersedes, id)
		}) {
			continue
		}
		if !slices.Contains(counted, id) {
			counted = append(counted, id)
		}
		f, _ := plainDecode(s)
		items = append(items, f.Items...)
	}
	slices.SortFunc(counted, plainText)
	return items, counted, true
}

func sameFile(f, g index.File) bool {
	return slices.Equal(f.Supersedes, g.Supersedes) && slices.Equal(f.Items, g.Items)
}

func isNothing(f index.File) bool { return len(f.Supersedes) == 0 && len(f.Items) == 0 }

// encodes holds Encode beside the plain one, and what it tells beside Decode.
func encodes(t testing.TB, f index.File) string {
	t.Helper()
	want, code := plainEncode(f)
	s, e := index.Encode(f)
	if s != want || e != code {
		t.Fatalf("Encode of %d, %d: %d bytes %s, %d, not %d bytes %s, %d", len(f.Supersedes), len(f.Items), len(s), brief(s), e, len(want), brief(want), code)
	}
	if e == api.OK {
		isFile(t, s, f)
	}
	return s
}

// isFile looks whether Decode tells that s is f.
func isFile(t testing.TB, s string, f index.File) {
	t.Helper()
	if g, code := index.Decode(s); !sameFile(f, g) || code != api.OK {
		t.Fatalf("Decode(%d bytes %s): %v, %d, not %v", len(s), brief(s), g, code, f)
	}
	if again, code := index.Encode(f); again != s || code != api.OK {
		t.Fatalf("Encode of what was decoded: %s, %d, not %s", brief(again), code, brief(s))
	}
}

// decodes holds Decode beside the plain one, and tells whether s is a file.
func decodes(t testing.TB, s string) bool {
	t.Helper()
	want, ok := plainDecode(s)
	if ok {
		isFile(t, s, want)
	} else if f, code := index.Decode(s); !isNothing(f) || code != api.ErrIndex {
		t.Fatalf("Decode(%d bytes %s): %v, %d", len(s), brief(s), f, code)
	}
	return ok
}

// isNone looks whether s is no file's bytes, to the plain reading, too.
func isNone(t testing.TB, s string) {
	t.Helper()
	if decodes(t, s) {
		t.Errorf("%d bytes %s are a file", len(s), brief(s))
	}
}

// refuses looks whether Encode and Split refuse f with that code.
func refuses(t testing.TB, f index.File, code api.Code) {
	t.Helper()
	if want, e := plainEncode(f); want != "" || e != code {
		t.Fatalf("by the chapter it is %d", e)
	}
	if s, e := index.Encode(f); s != "" || e != code {
		t.Errorf("Encode of %d, %d: %s, %d, not %d", len(f.Supersedes), len(f.Items), brief(s), e, code)
	}
	if code == api.ErrLong {
		return
	}
	if l, e := index.Split(f); len(l) != 0 || e != code {
		t.Errorf("Split of %d, %d: %d, %d, not %d", len(f.Supersedes), len(f.Items), len(l), e, code)
	}
}

// splits holds Split beside the plain one.
func splits(t testing.TB, f index.File) []string {
	t.Helper()
	want, code := plainSplit(f)
	files, e := index.Split(f)
	if !slices.Equal(files, want) || e != code {
		t.Fatalf("Split of %d, %d: %d files, %d, not %d, %d", len(f.Supersedes), len(f.Items), len(files), e, len(want), code)
	}
	return files
}

// table is a new one, of these items.
func table(t testing.TB, items ...api.Item) *lookup.Table {
	t.Helper()
	x := lookup.New()
	if code := x.Add(items...); code != api.OK {
		t.Fatalf("Add: %d", code)
	}
	return x
}

// tellsTheSame looks whether two tables tell the same by every call.
func tellsTheSame(t testing.TB, x, y *lookup.Table) {
	t.Helper()
	if x == nil {
		t.Fatal("there is no table")
	}
	if x.Len() != y.Len() || !slices.Equal(x.All(), y.All()) || !slices.Equal(x.Ids(), y.Ids()) || !slices.Equal(x.Packs(), y.Packs()) {
		t.Fatalf("%d items, not %d, or others: %v, not %v", x.Len(), y.Len(), x.All(), y.All())
	}
	for _, id := range append(y.Ids(), "", filled(0), filled('x'), filled(255)) {
		at, ok := x.Get(id)
		if want, is := y.Get(id); at != want || ok != is || !slices.Equal(x.Places(id), y.Places(id)) {
			t.Fatalf("Get(%x): %v, %v, not %v, %v; or Places: %v, not %v", id, at, ok, want, is, x.Places(id), y.Places(id))
		}
	}
	packs := y.Packs()
	for _, p := range append(packs[:min(3, len(packs))], filled('x')) {
		f, g := x.Fork(), y.Fork()
		if n, want := f.Drop(p), g.Drop(p); n != want || !slices.Equal(f.All(), g.All()) {
			t.Fatalf("Drop(%x): %d, not %d, or others are left", p, n, want)
		}
	}
}

// merges holds Merge beside the plain one.
func merges(t testing.TB, files ...string) (*lookup.Table, []string) {
	t.Helper()
	items, want, ok := plainMerge(files)
	x, counted, code := index.Merge(files)
	if !ok {
		if x != nil || len(counted) != 0 || code != api.ErrIndex {
			t.Fatalf("Merge of %d: %v, %x, %d", len(files), x, counted, code)
		}
		return nil, nil
	}
	if code != api.OK || !slices.Equal(counted, want) {
		t.Fatalf("Merge of %d: %x, %d, not %x", len(files), counted, code, want)
	}
	tellsTheSame(t, x, table(t, items...))
	return x, counted
}

// file is the bytes of a file of these, which must not be refused.
func file(t testing.TB, supersedes []string, items ...api.Item) string {
	t.Helper()
	s, code := index.Encode(index.File{Supersedes: supersedes, Items: items})
	if code != api.OK {
		t.Fatalf("Encode: %d", code)
	}
	return s
}

// ids is n ids that rise.
func ids(n int) []string {
	var l []string
	for i := range n {
		l = append(l, oneByte(i>>8)+oneByte(i)+filled('s')[2:])
	}
	return l
}

// items is n items that rise, of 68 bytes each.
func items(n int) []api.Item {
	var l []api.Item
	for i := range n {
		l = append(l, item(filled('a'), oneByte(i>>8)+oneByte(i)+filled('p')[2:], 1, 0, 1, 0))
	}
	return l
}

// filling is n items that rise, and have together so many bytes.
func filling(t testing.TB, n, bytes int) []api.Item {
	t.Helper()
	l := items(n)
	more := bytes - 68*n
	for i := range l {
		at := &l[i].At
		for _, number := range []*int{&at.Off, &at.Long, &at.Size} {
			*number = []int{100, 200, 20000}[max(0, min(2, more))]
			more -= len(plainShort(*number)) - 1
		}
	}
	if more != 0 {
		t.Fatalf("%d items can't have %d bytes", n, bytes)
	}
	return l
}

// Promise 16.1.

func TestTheExample(t *testing.T) {
	for _, f := range []index.File{{}, {Supersedes: []string{}}, {Items: []api.Item{}}, {Supersedes: []string{}, Items: []api.Item{}}} {
		if s := encodes(t, f); s != "GRTI\x01\x00\x00" || len(s) != 7 {
			t.Errorf("%q", s)
		}
	}
}

func TestEncodeWordByWord(t *testing.T) {
	f := index.File{Supersedes: []string{filled('a'), filled('b')}, Items: []api.Item{item(filled('x'), filled('p'), 2, 5, 200, 65536), item(filled('y'), filled('o'), 1, 0, 1, 0)}}
	want := "GRTI\x01" + "\x02" + filled('a') + filled('b') + "\x02" + filled('x') + filled('p') + "\x02\x05\xc8\x01\x80\x80\x04" + filled('y') + filled('o') + "\x01\x00\x01\x00"
	if s := encodes(t, f); s != want {
		t.Error(brief(s))
	}
	if s := encodes(t, index.File{Supersedes: f.Supersedes[:1]}); s != "GRTI\x01\x01"+filled('a')+"\x00" {
		t.Error(brief(s))
	}
	if s := encodes(t, index.File{Items: f.Items[1:]}); s != "GRTI\x01\x00\x01"+filled('y')+filled('o')+"\x01\x00\x01\x00" {
		t.Error(brief(s))
	}
}

func TestEncodeSome(t *testing.T) {
	d := dice(1)
	for _, n := range []int{0, 1, 2, 3, 127, 128, 129, 300} {
		for _, m := range []int{0, 1, 2, 3, 127, 128, 129, 300} {
			f := index.File{Supersedes: ids(n), Items: items(m)}
			for i := range f.Items {
				f.Items[i].At.Kind = 1 + d.upTo(2)
				f.Items[i].At.Off, f.Items[i].At.Long, f.Items[i].At.Size = d.number(), 1+d.number(), d.number()
			}
			if encodes(t, f) == "" {
				t.Error(n, m)
			}
		}
	}
}

// number is one of few or many bits, below api.MaxBytes.
func (d *dice) number() int { return d.upTo(1 << d.upTo(17)) }

func TestNumbersOfItems(t *testing.T) {
	numbers := []int{0, 1, 127, 128, 129, 255, 256, 16383, 16384, api.MaxBytes - 1, api.MaxBytes}
	for _, n := range numbers {
		for _, x := range []api.Item{item(filled('a'), filled('p'), 1, n, 1, 0), item(filled('a'), filled('p'), 2, 0, max(1, n), 0), item(filled('a'), filled('p'), 1, 0, 1, n)} {
			s := encodes(t, index.File{Items: []api.Item{x}})
			if f, _ := index.Decode(s); f.Items[0] != x {
				t.Error(f, x)
			}
		}
	}
}

func TestSupersedesOfOtherLengths(t *testing.T) {
	for _, id := range []string{"", "b", filled('b')[:31], filled('b') + "b", filled('b') + filled('b'), strings.Repeat("b", 1<<20)} {
		for _, l := range [][]string{{id}, {id, filled('c')}, {filled('a'), id, filled('c')}, {filled('a'), filled('b')[:31] + "a", id}, {id, id}} {
			refuses(t, index.File{Supersedes: l}, api.ErrRange)
			refuses(t, index.File{Supersedes: l, Items: items(2)}, api.ErrRange)
		}
	}
	encodes(t, index.File{Supersedes: []string{filled('b')}})
	encodes(t, index.File{Supersedes: []string{filled(0), filled('b'), filled(255)}})
}

// bad is items that may not be, each for one thing alone.
func bad() []api.Item {
	var l []api.Item
	with := func(change func(x *api.Item)) {
		x := some('b', 'p', 5)
		change(&x)
		l = append(l, x)
	}
	for _, s := range []string{"", "b", filled('b')[:31], filled('b') + "b", strings.Repeat("b", 1<<16)} {
		with(func(x *api.Item) { x.Id = s })
		with(func(x *api.Item) { x.At.Pack = s })
	}
	for _, kind := range []int{0, -1, 3, 4, 17, 18, 255, 257, 258, 1<<32 + 1, math.MinInt, math.MinInt + 1, math.MaxInt} {
		with(func(x *api.Item) { x.At.Kind = kind })
	}
	for _, n := range []int{-1, math.MinInt, math.MinInt + 1, api.MaxBytes + 1, 1 << 32, 1<<32 + 1, math.MaxInt} {
		with(func(x *api.Item) { x.At.Off = n })
		with(func(x *api.Item) { x.At.Long = n })
		with(func(x *api.Item) { x.At.Size = n })
	}
	with(func(x *api.Item) { x.At.Long = 0 })
	with(func(x *api.Item) { *x = api.Item{} })
	return l
}

func TestItemsThatMayNotBe(t *testing.T) {
	a, c, d := some('a', 'p', 1), some('c', 'p', 1), some('d', 'p', 1)
	for _, x := range bad() {
		for _, l := range [][]api.Item{{x}, {x, c}, {a, x, c}, {a, x}, {x, x}, {c, d, x}, {d, c, x}} {
			refuses(t, index.File{Items: l}, api.ErrRange)
			refuses(t, index.File{Supersedes: ids(3), Items: l}, api.ErrRange)
		}
	}
}

func TestSupersedesThatDoNotRise(t *testing.T) {
	for _, pair := range [][2]string{{filled('b'), filled('b')}, {filled('b'), filled('a')}, {filled(128), filled(127)}, {filled(255), filled(0)},
		{put(filled('b'), 31, 'c'), filled('b')}, {put(filled('b'), 31, 200), filled('b')}, {put(filled('b'), 0, 'c'), put(filled('b'), 31, 'c')}} {
		x, y := pair[0], pair[1]
		for _, l := range [][]string{{x, y}, {filled(0)[1:] + "\x01", x, y}, {x, y, filled(255)[1:] + "\xfe"}, {x, x, x}, {y, x, y}, {y, x, x}} {
			if slices.Equal(l, []string{y, x, y}) || plainCheck(index.File{Supersedes: l}) != api.OK {
				refuses(t, index.File{Supersedes: l}, api.ErrShape)
				refuses(t, index.File{Supersedes: l, Items: items(2)}, api.ErrShape)
			}
		}
		if x != y {
			encodes(t, index.File{Supersedes: []string{y, x}})
		}
	}
	for at := range 10 { // one falls at each place, or stands there twice
		l := ids(11)
		l[at], l[at+1] = l[at+1], l[at]
		refuses(t, index.File{Supersedes: l}, api.ErrShape)
		l = ids(11)
		refuses(t, index.File{Supersedes: slices.Insert(l, at, l[at])}, api.ErrShape)
	}
}

// ordered is items that rise, each unlike the one ahead in as much as it may.
func ordered() []api.Item {
	a, p := filled('a'), filled('p')
	return []api.Item{item(a, p, 1, 3, 3, 3), item(a, p, 2, 3, 3, 3), item(a, p, 1, 3, 3, 4), item(a, p, 1, 3, 4, 2), item(a, p, 1, 4, 1, 1), item(a, p, 1, 200, 1, 1), item(a, p, 1, 256, 1, 1),
		item(a, put(p, 31, 'q'), 1, 0, 1, 0), item(a, put(p, 31, 200), 1, 0, 1, 0), item(a, filled(255), 1, 0, 1, 0), item(put(a, 31, 'b'), filled(0), 1, 0, 1, 0), item(put(a, 31, 255), filled(0), 1, 0, 1, 0), item(filled('b'), filled(0), 1, 0, 1, 0), item(filled(128), filled(0), 1, 0, 1, 0)}
}

func TestItemsThatDoNotRise(t *testing.T) {
	all := ordered()
	encodes(t, index.File{Items: all})
	for i, x := range all {
		refuses(t, index.File{Items: []api.Item{x, x}}, api.ErrShape)
		refuses(t, index.File{Items: slices.Insert(slices.Clone(all), i, x)}, api.ErrShape)
		for _, y := range all[i+1:] {
			encodes(t, index.File{Items: []api.Item{x, y}})
			refuses(t, index.File{Items: []api.Item{y, x}}, api.ErrShape)
			refuses(t, index.File{Supersedes: ids(2), Items: []api.Item{x, y, x}}, api.ErrShape)
		}
		if i > 0 {
			l := slices.Clone(all)
			l[i-1], l[i] = l[i], l[i-1]
			refuses(t, index.File{Items: l}, api.ErrShape)
		}
	}
}

// TestBothFaultsAtOnce has files that are wrong in more than one way, wherever
// the ways stand: the one that the chapter names first is told.
func TestBothFaultsAtOnce(t *testing.T) {
	falling := []string{filled('b'), filled('a')}
	wrong := []string{filled('a'), filled('b'), "c"}
	fallingItems := []api.Item{some('b', 'p', 1), some('a', 'p', 1)}
	wrongItems := []api.Item{some('a', 'p', 1), some('b', 'p', 1), {}}
	for _, x := range []struct {
		f    index.File
		code api.Code
	}{
		{index.File{Supersedes: []string{filled('b'), filled('a'), ""}}, api.ErrRange},
		{index.File{Supersedes: []string{"", filled('b'), filled('a')}}, api.ErrRange},
		{index.File{Supersedes: falling, Items: wrongItems}, api.ErrRange},
		{index.File{Supersedes: wrong, Items: fallingItems}, api.ErrRange},
		{index.File{Items: append(fallingItems[:2:2], api.Item{})}, api.ErrRange},
		{index.File{Supersedes: wrong, Items: wrongItems}, api.ErrRange},
		{index.File{Supersedes: falling, Items: fallingItems}, api.ErrShape},
		{index.File{Supersedes: falling, Items: items(5000)}, api.ErrShape},
		{index.File{Supersedes: append(ids(5000), filled(0))}, api.ErrShape},
		{index.File{Supersedes: append(ids(5000), "")}, api.ErrRange},
		{index.File{Supersedes: ids(5000), Items: fallingItems}, api.ErrShape},
		{index.File{Supersedes: ids(5000), Items: wrongItems}, api.ErrRange},
		{index.File{Items: append(items(5000), api.Item{})}, api.ErrRange},
		{index.File{Items: append(items(5000), some('a', 0, 0))}, api.ErrShape},
		{index.File{Supersedes: wrong, Items: items(5000)}, api.ErrRange},
		{index.File{Supersedes: ids(5000), Items: items(5000)}, api.ErrLong},
	} {
		refuses(t, x.f, x.code)
	}
}

func TestTooMany(t *testing.T) {
	for _, n := range []int{api.MaxItems - 1, api.MaxItems, api.MaxItems + 1, 2 * api.MaxItems, 20000} {
		refuses(t, index.File{Supersedes: ids(n)}, api.ErrLong)
		refuses(t, index.File{Items: items(n)}, api.ErrLong)
		refuses(t, index.File{Supersedes: ids(n), Items: items(1)}, api.ErrLong)
		refuses(t, index.File{Supersedes: ids(1), Items: items(n)}, api.ErrLong)
		refuses(t, index.File{Supersedes: ids(n), Items: items(n)}, api.ErrLong)
	}
}

// TestBytesOfJustTheMost has files of api.MaxBytes bytes, and of one more.
func TestBytesOfJustTheMost(t *testing.T) {
	for _, supersedes := range []int{0, 1, 100, 127, 128, 1000, 2000, 2040, 2045} {
		ahead := 5 + len(plainShort(supersedes)) + 32*supersedes
		for _, n := range []int{1, 3, 20, 22, 127, 128, 400, 445, 463, 847, 886, 900, 962, 963} {
			for off := -2; off <= 2; off++ {
				bytes := api.MaxBytes + off - ahead - len(plainShort(n))
				if bytes < 68*n || bytes > 74*n {
					continue
				}
				f := index.File{Supersedes: ids(supersedes), Items: filling(t, n, bytes)}
				s := encodes(t, f)
				if off <= 0 && len(s) != api.MaxBytes+off {
					t.Errorf("%d, %d: %d bytes", supersedes, n, len(s))
				}
				if off > 0 {
					refuses(t, f, api.ErrLong)
					isNone(t, plainFile(f))
				}
			}
		}
	}
	if s := encodes(t, index.File{Supersedes: ids(2047)}); len(s) != api.MaxBytes-24 {
		t.Error(len(s))
	}
	refuses(t, index.File{Supersedes: ids(2048)}, api.ErrLong)
	encodes(t, index.File{Items: items(963)})
	refuses(t, index.File{Items: items(964)}, api.ErrLong)
}

// someFiles is files of all kinds.
func someFiles() []index.File {
	l := []index.File{{}, {Supersedes: ids(1)}, {Supersedes: ids(2)}, {Items: ordered()}, {Items: ordered()[:1]}, {Supersedes: ids(3), Items: ordered()[:3]}, {Supersedes: ids(200), Items: items(200)}}
	return append(l, index.File{Supersedes: []string{filled(0), filled(255)}, Items: []api.Item{item(filled(0), filled(0), 1, 0, 1, 0), item(filled(255), filled(255), 2, api.MaxBytes, api.MaxBytes, api.MaxBytes)}})
}

func TestDecodeOfAnEndCutOff(t *testing.T) {
	for _, f := range someFiles() {
		s := encodes(t, f)
		for long := range len(s) {
			isNone(t, s[:long])
			isNone(t, s[long+1:])
		}
		for _, c := range []byte{0, 1, 'x', 127, 128, 255} {
			isNone(t, s+oneByte(int(c)))
			isNone(t, oneByte(int(c))+s)
		}
		isNone(t, s+s)
	}
}

func TestDecodeOfOtherHeads(t *testing.T) {
	isNone(t, "")
	isNone(t, "GRTI")
	isNone(t, "GRTI\x01")
	isNone(t, "GRTI\x01\x00")
	for _, f := range someFiles() {
		s := encodes(t, f)
		for c := range 256 {
			for at := range 5 {
				if byte(c) != s[at] {
					isNone(t, put(s, at, byte(c)))
				}
			}
		}
		for _, head := range []string{"", "GRTI", "GRTI\x01\x01", "GRTP\x01", "grti\x01", "GRTI\x02", "GRTI\x81\x00", " GRTI\x01", "IGRT\x01", "GRTS\x01", "GRT\x01"} {
			isNone(t, head+s[5:])
		}
	}
}

func TestDecodeOfCountsThatAreWrong(t *testing.T) {
	id, row := filled('a'), plainRow(some('x', 'p', 5))
	for n := range 400 {
		count := plainShort(n)
		is := decodes(t, "GRTI\x01"+count+id+"\x00")
		if is != (n == 1) {
			t.Error(n, is)
		}
		is = decodes(t, "GRTI\x01\x00"+count+row)
		if is != (n == 1) {
			t.Error(n, is)
		}
		is = decodes(t, "GRTI\x01"+count+strings.Join(ids(128), "")+"\x01"+row)
		if is != (n == 128) {
			t.Error(n, is)
		}
		if is := decodes(t, "GRTI\x01"+count+"\x00"); is != (n == 0) {
			t.Error(n, is)
		}
	}
	for _, n := range []int{api.MaxItems - 1, api.MaxItems, api.MaxItems + 1, api.MaxBytes, 1 << 32, 1<<32 + 1, 1<<58 + 1, 1<<59 + 1, math.MaxInt - 1, math.MaxInt} {
		isNone(t, "GRTI\x01"+plainShort(n)+id+"\x00")
		isNone(t, "GRTI\x01"+plainShort(n)+id+"\x01"+row)
		isNone(t, "GRTI\x01\x00"+plainShort(n)+row)
		isNone(t, "GRTI\x01"+plainShort(n))
		isNone(t, "GRTI\x01\x00"+plainShort(n))
	}
	isNone(t, "GRTI\x01"+strings.Repeat("\xff", 9)+id+"\x00")
	isNone(t, "GRTI\x01"+strings.Repeat("\xff", 100))
	isNone(t, "GRTI\x01\x00"+strings.Repeat("\xff", 9)+row)
	isNone(t, "GRTI\x01"+strings.Repeat("\x80", 8)+"\x01"+id+"\x00")
}

func TestDecodeOfNumbersThatAreNotTheShortest(t *testing.T) {
	ahead, x := "GRTI\x01\x00\x01", filled('x')+filled('p')+"\x01"
	if !decodes(t, ahead+x+"\x05\x06\x07") {
		t.Error("this is one")
	}
	for n := range 3 {
		numbers := []string{"\x05", "\x06", "\x07"}
		for _, other := range []string{"\x85\x00", "\x85\x80\x00", "\x80\x00", "\x85" + strings.Repeat("\x80", 7) + "\x00", "\xff\x00", "\x80\x80\x00"} {
			numbers[n] = other
			isNone(t, ahead+x+strings.Join(numbers, ""))
		}
	}
	isNone(t, "GRTI\x01\x80\x00\x00")
	isNone(t, "GRTI\x01\x00\x80\x00")
	isNone(t, "GRTI\x01\x81\x00"+filled('a')+"\x00")
	isNone(t, "GRTI\x01\x00\x81\x00"+x+"\x05\x06\x07")
}

func TestDecodeOfItemsThatMayNotBe(t *testing.T) {
	for kind := range 256 {
		is := decodes(t, "GRTI\x01\x00\x01"+filled('x')+filled('p')+oneByte(kind)+"\x05\x06\x07")
		if is != (kind == 1 || kind == 2) {
			t.Errorf("the kind %d: %v", kind, is)
		}
	}
	for _, x := range []struct {
		off, long, size int
		is              bool
	}{{0, 1, 0, true}, {api.MaxBytes, api.MaxBytes, api.MaxBytes, true}, {0, 0, 0, false}, {api.MaxBytes + 1, 1, 1, false}, {1, api.MaxBytes + 1, 1, false}, {1, 1, api.MaxBytes + 1, false},
		{math.MaxInt, 1, 1, false}, {1, math.MaxInt, 1, false}, {1, 1, math.MaxInt, false}, {1 << 32, 1, 1, false}, {1, 1<<32 + 1, 1, false}, {1, 1, 1 << 32, false}} {
		for _, l := range [][]api.Item{{item(filled('x'), filled('p'), 1, x.off, x.long, x.size)}, {some('a', 'p', 1), item(filled('x'), filled('p'), 2, x.off, x.long, x.size), some('y', 'p', 1)}} {
			if is := decodes(t, plainFile(index.File{Supersedes: ids(1), Items: l})); is != x.is {
				t.Error(l, is)
			}
		}
	}
}

func TestDecodeOfListsThatDoNotRise(t *testing.T) {
	all := ordered()
	for i, x := range all {
		isNone(t, plainFile(index.File{Items: []api.Item{x, x}}))
		for _, y := range all[i+1:] {
			isNone(t, plainFile(index.File{Items: []api.Item{y, x}}))
			isNone(t, plainFile(index.File{Supersedes: ids(2), Items: []api.Item{x, y, x}}))
		}
	}
	for at := range 10 {
		l := ids(11)
		l[at], l[at+1] = l[at+1], l[at]
		isNone(t, plainFile(index.File{Supersedes: l}))
		isNone(t, plainFile(index.File{Supersedes: l, Items: all}))
		l[at] = l[at+1]
		isNone(t, plainFile(index.File{Supersedes: l}))
	}
	isNone(t, plainFile(index.File{Supersedes: []string{filled(200), filled(100)}}))
}

func TestDecodeOfTooMany(t *testing.T) {
	for _, n := range []int{2048, api.MaxItems, api.MaxItems + 1, 20000} {
		isNone(t, plainFile(index.File{Supersedes: ids(n)}))
		isNone(t, plainFile(index.File{Items: items(n)}))
	}
	if !decodes(t, plainFile(index.File{Supersedes: ids(2047)})) || !decodes(t, plainFile(index.File{Items: items(963)})) {
		t.Error("as many there may be")
	}
	isNone(t, plainFile(index.File{Items: items(964)}))
}

func TestName(t *testing.T) {
	d := dice(2)
	for _, id := range []string{filled(0), filled('a'), filled(255), d.text(32, 256), d.text(32, 256)} {
		name := index.Name(id)
		if name != "index/"+hex.EncodeToString([]byte(id)) {
			t.Error(name)
		}
		if got, code := index.IdOf(name); got != id || code != api.OK {
			t.Error(brief(got), code)
		}
	}
	for _, id := range []string{"", "a", filled('a')[:31], filled('a') + "a", filled('a') + filled('a')} {
		if name := index.Name(id); name != "index/"+hex.EncodeToString([]byte(id)) {
			t.Error(name)
		}
	}
}

func TestIdOfOfOtherNames(t *testing.T) {
	digits := strings.Repeat("1a", 32)
	if id, code := index.IdOf("index/" + digits); id != filled(0x1a) || code != api.OK {
		t.Error(brief(id), code)
	}
	names := []string{"", "index/", "index", digits, "/" + digits, "index" + digits, "index//" + digits, "Index/" + digits, "INDEX/" + digits, "pack/" + digits, "snap/" + digits, "indexes/" + digits, "ndex/" + digits, " index/" + digits, "a/index/" + digits,
		"index/" + digits[1:], "index/" + digits[2:], "index/" + digits + "a", "index/" + digits + "1a", "index/" + digits + digits, "index/" + strings.ToUpper(digits), "index/" + digits[1:] + "A", "index/" + digits[1:] + "g", "index/" + digits[1:] + "/", "index/" + digits[1:] + "`",
		"index/" + digits[1:] + ":", "index/" + digits[1:] + " ", "index/ " + digits, "index/" + digits + "/", "index/index/" + digits, "index/" + filled(0x1a), "index/" + digits[1:] + "\x00", "index/" + digits + "\n", "index/-" + digits[1:], "index/0x" + digits[2:]}
	for _, long := range []int{0, 1, 30, 31, 33, 34, 64, 1 << 16} {
		names = append(names, index.Name(strings.Repeat("a", long)))
	}
	for _, name := range names {
		if id, code := index.IdOf(name); id != "" || code != api.ErrNone {
			t.Errorf("IdOf(%.100s): %s, %d", name, brief(id), code)
		}
	}
}

// Promise 16.2.

func TestSplitOfFew(t *testing.T) {
	for _, f := range someFiles() {
		if files := splits(t, f); len(files) != 1 || files[0] != encodes(t, f) {
			t.Errorf("%d files", len(files))
		}
	}
}

// TestSplitOfNoItems has one file, though there is nothing in it.
func TestSplitOfNoItems(t *testing.T) {
	if files := splits(t, index.File{}); !slices.Equal(files, []string{"GRTI\x01\x00\x00"}) {
		t.Errorf("%q", files)
	}
	for _, n := range []int{1, 2, 128, 2046, 2047} {
		f := index.File{Supersedes: ids(n)}
		if files := splits(t, f); len(files) != 1 || files[0] != plainFile(f) {
			t.Errorf("%d: %d files", n, len(files))
		}
	}
}

// TestSplitOfJustAsManyAsFit has files that are just full, and one item more.
func TestSplitOfJustAsManyAsFit(t *testing.T) {
	for _, supersedes := range []int{0, 1, 127, 128, 1000, 2040, 2043, 2044, 2045, 2046, 2047} {
		ahead := 5 + len(plainShort(supersedes)) + 32*supersedes
		for _, n := range []int{0, 1, 2, 3, 126, 127, 128, 129, 480, 500, 960, 961, 962, 963} {
			for off := -1; off <= 1; off++ {
				bytes := api.MaxBytes + off - ahead - len(plainShort(n))
				if bytes < 68*n || bytes > 74*n {
					continue
				}
				f := index.File{Supersedes: ids(supersedes), Items: filling(t, n, bytes)}
				files := splits(t, f)
				if len(files) != 1 && off <= 0 || len(files) != 2 && off > 0 {
					t.Errorf("%d, %d, %d: %d files", supersedes, n, off, len(files))
				}
				f.Items = append(f.Items, item(filled('z'), filled('z'), 1, 0, 1, 0))
				if files := splits(t, f); len(files) != 2 {
					t.Errorf("%d, %d, %d: %d files of one more", supersedes, n, off, len(files))
				}
			}
		}
	}
	if files := splits(t, index.File{Items: items(963)}); len(files) != 1 {
		t.Errorf("%d files", len(files))
	}
	if files := splits(t, index.File{Items: items(964)}); len(files) != 2 || files[1] != plainFile(index.File{Items: items(964)[963:]}) {
		t.Errorf("%d files", len(files))
	}
	if files := splits(t, index.File{Items: items(2 * 963)}); len(files) != 2 {
		t.Errorf("%d files", len(files))
	}
}

// TestSplitWhereTheCountGrows has files that would have room for an item more,
// if only its number did not take a byte more.
func TestSplitWhereTheCountGrows(t *testing.T) {
	for more := range 4 {
		for supersedes := 1765; supersedes < 1780; supersedes++ {
			ahead := 5 + 2 + 32*supersedes
			bytes := api.MaxBytes - ahead - 1 - more // all 128 have as many as fit behind a count of one byte
			if bytes < 128*68 || bytes > 128*74 {
				continue
			}
			f := index.File{Supersedes: ids(supersedes), Items: filling(t, 128, bytes)}
			if files := splits(t, f); (len(files) == 1) != (more > 0) {
				t.Errorf("%d, %d: %d files", supersedes, more, len(files))
			}
		}
	}
}

// TestSplitWhereNoItemFitsFirst has so much superseded that all items stand in
// the files behind.
func TestSplitWhereNoItemFitsFirst(t *testing.T) {
	f := index.File{Supersedes: ids(2047), Items: items(970)}
	files := splits(t, f)
	if len(files) != 3 || files[0] != plainFile(index.File{Supersedes: f.Supersedes}) || files[1] != plainFile(index.File{Items: f.Items[:963]}) || files[2] != plainFile(index.File{Items: f.Items[963:]}) {
		t.Errorf("%d files", len(files))
	}
}

func TestSplitOfSupersedesThatAreTooMany(t *testing.T) {
	for _, n := range []int{2048, 2049, 3000, api.MaxItems, api.MaxItems + 1, 20000} {
		for _, l := range [][]api.Item{nil, items(1), items(970)} {
			f := index.File{Supersedes: ids(n), Items: l}
			if files, code := index.Split(f); len(files) != 0 || code != api.ErrLong {
				t.Errorf("%d: %d files, %d", n, len(files), code)
			}
			splits(t, f)
		}
	}
	for _, f := range []index.File{{Supersedes: append(ids(3000), "")}, {Supersedes: ids(3000), Items: []api.Item{{}}}} {
		refuses(t, f, api.ErrRange)
	}
	for _, f := range []index.File{{Supersedes: append(ids(3000), filled(0))}, {Supersedes: ids(3000), Items: []api.Item{some('b', 'p', 1), some('a', 'p', 1)}}} {
		refuses(t, f, api.ErrShape)
	}
}

// TestSplitOfVeryMany has more items than a file may have, whatever their bytes.
func TestSplitOfVeryMany(t *testing.T) {
	for _, n := range []int{api.MaxItems - 1, api.MaxItems, api.MaxItems + 1, 3 * api.MaxItems, 50000} {
		for _, supersedes := range []int{0, 1, 1000, 2047} {
			f := index.File{Supersedes: ids(supersedes), Items: items(n)}
			files := splits(t, f)
			var all []api.Item
			for i, s := range files {
				g, code := index.Decode(s)
				if code != api.OK || i > 0 && len(g.Supersedes) != 0 || i == 0 && !slices.Equal(g.Supersedes, f.Supersedes) {
					t.Fatalf("the file %d: %d, %d", i, len(g.Supersedes), code)
				}
				if i > 0 && i < len(files)-1 && len(g.Items) != 963 {
					t.Errorf("the file %d has %d items", i, len(g.Items))
				}
				all = append(all, g.Items...)
			}
			if !slices.Equal(all, f.Items) {
				t.Errorf("%d items, not %d", len(all), n)
			}
		}
	}
}

// byChance is a file of so many, which rise.
func (d *dice) byChance(supersedes, items int) index.File {
	var f index.File
	for range supersedes {
		f.Supersedes = append(f.Supersedes, d.text(32, 256))
	}
	for range items {
		id := d.text(32, 256)
		if d.upTo(4) == 0 {
			id = filled(byte(d.upTo(3)))
		}
		f.Items = append(f.Items, item(id, filled(byte(d.upTo(4))), 1+d.upTo(2), d.number(), 1+d.number(), d.number()))
	}
	slices.SortFunc(f.Supersedes, plainText)
	slices.SortFunc(f.Items, plainOrder)
	f.Items = slices.Compact(f.Items)
	return f
}

func TestSplitByChance(t *testing.T) {
	d := dice(3)
	for range 60 {
		f := d.byChance(d.upTo(1<<d.upTo(12)), d.upTo(1<<d.upTo(14)))
		files := splits(t, f)
		for i, s := range files {
			g, code := index.Decode(s)
			if code != api.OK {
				t.Fatal(code)
			}
			if i < len(files)-1 { // the next item does not fit
				next, _ := index.Decode(files[i+1])
				g.Items = append(g.Items, next.Items[0])
				refuses(t, g, api.ErrLong)
			}
		}
		encodes(t, f)
	}
}

// Promise 16.3.

func TestMergeOfNone(t *testing.T) {
	for _, l := range [][]string{nil, {}} {
		x, counted, code := index.Merge(l)
		if code != api.OK || len(counted) != 0 {
			t.Error(counted, code)
		}
		tellsTheSame(t, x, lookup.New())
	}
}

func TestMergeOfOne(t *testing.T) {
	for _, f := range someFiles() {
		s := encodes(t, f)
		for _, l := range [][]string{{s}, {s, s}, {s, s, s}} {
			x, counted := merges(t, l...)
			if !slices.Equal(counted, []string{plainSum(s)}) {
				t.Errorf("%x", counted)
			}
			tellsTheSame(t, x, table(t, f.Items...))
		}
	}
}

// orders is l in all orders.
func orders(l []string, each func(l []string)) {
	var from func(at int)
	from = func(at int) {
		if at == len(l) {
			each(slices.Clone(l))
		}
		for i := at; i < len(l); i++ {
			l[at], l[i] = l[i], l[at]
			from(at + 1)
			l[at], l[i] = l[i], l[at]
		}
	}
	from(0)
}

func risingIds(files ...string) []string {
	var l []string
	for _, s := range files {
		l = append(l, plainSum(s))
	}
	slices.Sort(l)
	return l
}

func TestMergeInAllOrders(t *testing.T) {
	a := file(t, nil, some('a', 'p', 1), some('b', 'p', 2))
	b := file(t, nil, some('b', 'p', 2), some('b', 'q', 2))
	c := file(t, risingIds(a), some('c', 'r', 1))
	d := file(t, risingIds(a, filled('n')), some('a', 'r', 1))
	e := file(t, []string{filled('n'), filled('o')})
	for _, x := range []struct{ files, counted []string }{
		{[]string{a, b}, []string{a, b}},
		{[]string{a, b, e}, []string{a, b, e}},
		{[]string{a, b, c}, []string{b, c}},
		{[]string{a, b, c, d}, []string{b, c, d}},
		{[]string{a, b, c, d, e}, []string{b, c, d, e}},
		{[]string{b, c}, []string{b, c}},
		{[]string{a, c}, []string{c}},
		{[]string{a, a, c}, []string{c}},
		{[]string{a, c, c}, []string{c}},
	} {
		orders(x.files, func(l []string) {
			_, counted := merges(t, l...)
			if !slices.Equal(counted, risingIds(x.counted...)) {
				t.Errorf("%x, not %x", counted, x.counted)
			}
		})
	}
}

// TestMergeOfAChain has files that are superseded by such as are superseded
// themselves: none of them counts but the last.
func TestMergeOfAChain(t *testing.T) {
	a := file(t, nil, some('a', 'p', 1))
	b := file(t, risingIds(a), some('b', 'p', 1))
	c := file(t, risingIds(b), some('c', 'p', 1))
	d := file(t, risingIds(c), some('d', 'p', 1))
	orders([]string{a, b, c, d}, func(l []string) {
		x, counted := merges(t, l...)
		if !slices.Equal(counted, risingIds(d)) || x.Len() != 1 {
			t.Errorf("%x", counted)
		}
	})
	if _, counted := merges(t, a, b, d); !slices.Equal(counted, risingIds(b, d)) {
		t.Errorf("%x", counted)
	}
	if _, counted := merges(t, a, c, d); !slices.Equal(counted, risingIds(a, d)) {
		t.Errorf("%x", counted)
	}
}

// TestMergeOfTheSameItems has items that stand in files that count and in one
// that does not: they are there.
func TestMergeOfTheSameItems(t *testing.T) {
	a := file(t, nil, some('a', 'p', 1), some('b', 'p', 1))
	b := file(t, risingIds(a), some('a', 'p', 1))
	c := file(t, nil, some('a', 'p', 1), some('a', 'p', 2))
	x, _ := merges(t, a, b, c)
	tellsTheSame(t, x, table(t, some('a', 'p', 1), some('a', 'p', 2)))
}

func TestMergeOfWhatIsNone(t *testing.T) {
	a := file(t, nil, some('a', 'p', 1))
	b := file(t, risingIds(a), some('b', 'p', 1))
	p, _ := pack.New(1000)
	p.Add(api.BData, "ab")
	packed, _ := p.Finish()
	for _, none := range []string{"", "x", a[1:], a[:len(a)-1], a + "\x00", packed, plainFile(index.File{Supersedes: []string{filled('b'), filled('a')}})} {
		for _, l := range [][]string{{none}, {none, a, b}, {a, none, b}, {a, b, none}, {none, none}, {b, a, none, "y"}} {
			if x, counted, code := index.Merge(l); x != nil || len(counted) != 0 || code != api.ErrIndex {
				t.Errorf("%s: %v, %x, %d", brief(none), x, counted, code)
			}
			merges(t, l...)
		}
	}
	// what is none makes Merge fail, also where a file supersedes its sum
	c := file(t, []string{plainSum("x")}, some('c', 'p', 1))
	if x, counted, code := index.Merge([]string{c, "x"}); x != nil || len(counted) != 0 || code != api.ErrIndex {
		t.Error(x, counted, code)
	}
}

func TestMergeByChance(t *testing.T) {
	d := dice(4)
	for range 150 {
		var files []string
		for range d.upTo(8) {
			f := d.byChance(d.upTo(2), d.upTo(30))
			for _, s := range files {
				if d.upTo(4) == 0 {
					f.Supersedes = append(f.Supersedes, plainSum(s))
				}
			}
			slices.Sort(f.Supersedes)
			f.Supersedes = slices.Compact(f.Supersedes)
			files = slices.Insert(files, d.upTo(len(files)+1), encodes(t, f))
			if d.upTo(4) == 0 {
				files = append(files, files[d.upTo(len(files))])
			}
		}
		merges(t, files...)
		if d.upTo(4) == 0 && len(files) > 0 {
			at := d.upTo(len(files))
			files[at] = files[at][:d.upTo(len(files[at]))]
			merges(t, files...)
		}
	}
}

// TestMergeOfVeryMany has very many files, of ids that begin the same: with
// steps that go over all items for each file it would not end in time.
func TestMergeOfVeryMany(t *testing.T) {
	var files []string
	var all []api.Item
	for i := range 3000 {
		f := index.File{Supersedes: ids(i % 3)}
		for n := range 30 {
			f.Items = append(f.Items, item(oneByte(0)+oneByte(n)+oneByte(i>>8)+oneByte(i)+filled('a')[4:], filled('p'), 1, 0, 1, 0))
		}
		files = append(files, file(t, f.Supersedes, f.Items...))
		all = append(all, f.Items...)
	}
	x, counted, code := index.Merge(files)
	if code != api.OK || len(counted) != 3000 || !slices.IsSorted(counted) {
		t.Error(len(counted), code)
	}
	slices.SortFunc(all, plainOrder)
	if !slices.Equal(x.All(), all) {
		t.Errorf("%d items, not %d", x.Len(), len(all))
	}
}

// Promise 16.4.

// packed is a pack of these texts, and its items.
func packed(t testing.TB, kind int, texts ...string) (string, []api.Item) {
	t.Helper()
	b, code := pack.New(api.MaxBytes)
	for _, text := range texts {
		if _, e := b.Add(kind, text); e != api.OK {
			code = e
		}
	}
	s, items := b.Finish()
	if code != api.OK || len(items) != len(texts) {
		t.Fatalf("a pack: %d items, %d", len(items), code)
	}
	return s, items
}

// rebuilds looks whether Rebuild tells a table of these items, and these
// places.
func rebuilds(t testing.TB, packs []string, items []api.Item, places ...int) {
	t.Helper()
	x, bad := index.Rebuild(packs)
	if !slices.Equal(bad, places) {
		t.Fatalf("Rebuild of %d: bad are %v, not %v", len(packs), bad, places)
	}
	tellsTheSame(t, x, table(t, items...))
}

func TestRebuild(t *testing.T) {
	a, aItems := packed(t, api.BData, "one", "two")
	b, bItems := packed(t, api.BTree, "one", "three", "")
	c, cItems := packed(t, api.BData, "two", "four", strings.Repeat("five", 1000))
	all := slices.Concat(aItems, bItems, cItems)
	rebuilds(t, nil, nil)
	rebuilds(t, []string{}, nil)
	rebuilds(t, []string{a}, aItems)
	rebuilds(t, []string{a, a}, aItems)
	rebuilds(t, []string{a, b, c}, all)
	rebuilds(t, []string{c, a, b, a, c}, all)
	for _, none := range []string{"", "x", a[1:], a[:len(a)-1], a + "\x00", "GRTI\x01\x00\x00"} {
		rebuilds(t, []string{none}, nil, 0)
		rebuilds(t, []string{none, a, b}, slices.Concat(aItems, bItems), 0)
		rebuilds(t, []string{a, none, b}, slices.Concat(aItems, bItems), 1)
		rebuilds(t, []string{a, b, none}, slices.Concat(aItems, bItems), 2)
		rebuilds(t, []string{none, a, none, none, b, c, none}, all, 0, 2, 3, 6)
		rebuilds(t, []string{none, none}, nil, 0, 1)
	}
	x, _ := index.Rebuild([]string{a, b, c})
	for _, y := range all {
		if !slices.Contains(x.Places(y.Id), y.At) {
			t.Errorf("Places(%x): %v", y.Id, x.Places(y.Id))
		}
	}
}

// TestRebuildOfOddPacks has what a pack may be though no builder makes it: one
// without blobs, one of which a blob's bytes are none, one that says that a
// text has api.MaxBytes bytes.
func TestRebuildOfOddPacks(t *testing.T) {
	ending := func(directory string) string { return directory + "\x00\x00\x00" + oneByte(len(directory)) + "PEND" }
	rebuilds(t, []string{"GRTP\x01" + ending("\x00")}, nil)
	odd := "GRTP\x01???" + ending("\x01"+filled('o')+"\x02\x03\x80\x80\x04")
	rebuilds(t, []string{"", odd}, []api.Item{item(filled('o'), plainSum(odd), 2, 5, 3, api.MaxBytes)}, 0)
}

func TestRebuildOfVeryMany(t *testing.T) {
	var packs []string
	var all []api.Item
	var places []int
	for i := range 300 {
		if i%7 == 3 {
			packs = append(packs, "no pack")
			places = append(places, i)
			continue
		}
		var texts []string
		for n := range 100 {
			texts = append(texts, oneByte(n)+oneByte(i>>8)+oneByte(i))
		}
		s, items := packed(t, api.BData, texts...)
		packs = append(packs, s)
		all = append(all, items...)
	}
	x, bad := index.Rebuild(packs)
	slices.SortFunc(all, plainOrder)
	if !slices.Equal(bad, places) || !slices.Equal(x.All(), all) {
		t.Errorf("%v, %d items", bad, x.Len())
	}
}

// Promise 16.5.

func TestThereAndBack(t *testing.T) {
	d := dice(5)
	for range 300 {
		f := d.byChance(d.upTo(40), d.upTo(40))
		s := encodes(t, f)
		if g, code := index.Decode(s); !sameFile(f, g) || code != api.OK {
			t.Fatalf("%v, %d, not %v", g, code, f)
		}
		if id, code := index.IdOf(index.Name(plainSum(s))); id != plainSum(s) || code != api.OK {
			t.Fatal(brief(id), code)
		}
	}
}

func TestWhatIsSplitIsMerged(t *testing.T) {
	d := dice(6)
	for _, supersedes := range []int{0, 1, 500, 2047} {
		for _, n := range []int{0, 1, 10, 900, 1000, 2500} {
			f := d.byChance(supersedes, n)
			files := splits(t, f)
			slices.Reverse(files)
			x, counted, code := index.Merge(files)
			if code != api.OK || !slices.Equal(counted, risingIds(files...)) {
				t.Fatalf("%d, %d: %d, not %d", supersedes, n, len(counted), len(files))
			}
			tellsTheSame(t, x, table(t, f.Items...))
		}
	}
}

// TestOldFilesAreSuperseded has a table whose files are put in place of those
// that were there.
func TestOldFilesAreSuperseded(t *testing.T) {
	d := dice(7)
	old := splits(t, d.byChance(3, 2000))
	f := d.byChance(0, 1500)
	f.Supersedes = risingIds(old...)
	files := splits(t, f)
	x, counted, code := index.Merge(slices.Concat(old, files))
	if code != api.OK || !slices.Equal(counted, risingIds(files...)) {
		t.Fatalf("%d files count, %d", len(counted), code)
	}
	tellsTheSame(t, x, table(t, f.Items...))
}

// TestAFileBehindThatIsSuperseded has, behind the first one, a file whose id
// the first one supersedes: by the words of Merge it counts no more.
func TestAFileBehindThatIsSuperseded(t *testing.T) {
	all := items(1200)
	behind := plainFile(index.File{Items: all[963:]})
	f := index.File{Supersedes: risingIds(behind), Items: all}
	files := splits(t, f)
	if len(files) != 2 || files[1] != behind {
		t.Fatalf("%d files", len(files))
	}
	x, counted := merges(t, files...)
	if !slices.Equal(counted, risingIds(files[0])) || x.Len() != 963 {
		t.Errorf("%d count, %d items", len(counted), x.Len())
	}
}

// P1: hostile bytes.

func TestHostileBytes(t *testing.T) {
	d := dice(8)
	var all []string
	for _, f := range someFiles() {
		if s := encodes(t, f); len(s) < 2000 {
			all = append(all, s)
		}
	}
	bytes := []byte{0, 1, 2, 3, 32, 127, 128, 129, 255}
	good := 0
	for range 20000 {
		b := []byte(all[d.upTo(len(all))])
		for range 1 + d.upTo(2) {
			at := d.upTo(len(b))
			if d.upTo(3) == 0 { // at the end of the last item
				at = max(0, len(b)-1-d.upTo(5))
			}
			switch d.upTo(4) {
			case 0:
				b[at] ^= 1 << d.upTo(8)
			case 1:
				b[at] = bytes[d.upTo(len(bytes))]
			case 2:
				b = append(b[:at:at], b[at+d.upTo(2):]...)
			case 3:
				b = slices.Insert(b, at, bytes[d.upTo(len(bytes))])
			}
			if len(b) == 0 {
				b = []byte{1}
			}
		}
		s := string(b)
		if decodes(t, s) {
			good++
		}
		merges(t, s, all[d.upTo(len(all))])
	}
	if good < 1000 {
		t.Errorf("only %d are files", good)
	}
	for range 3000 {
		decodes(t, d.text(d.upTo(80), 256))
		decodes(t, "GRTI\x01"+d.text(d.upTo(80), 3))
		rebuilds(t, []string{"GRTP\x01" + d.text(d.upTo(40), 3) + "PEND"}, nil, 0)
	}
}

// TestEachBitTurned has each bit of a file turned: what comes of it is
// a file, or none, as the chapter says.
func TestEachBitTurned(t *testing.T) {
	s := file(t, ids(2), ordered()[:3]...)
	for bit := range 8 * len(s) {
		decodes(t, put(s, bit/8, s[bit/8]^1<<(bit%8)))
	}
}

// TestWhatFewBytesSayCostsLittle has bytes that say that they are very many,
// and very many that say that they are few.
func TestWhatFewBytesSayCostsLittle(t *testing.T) {
	full := strings.Repeat("\xff", 8<<20)
	for i, s := range []string{"GRTI\x01\x80\x20", "GRTI\x01\x00\x80\x20", "GRTI\x01" + plainShort(math.MaxInt), "GRTI\x01\x00" + plainShort(math.MaxInt), full, "GRTI\x01\x00\x00" + full, "GRTI\x01\x01" + full} {
		took := taken(func() {
			if f, code := index.Decode(s); !isNothing(f) || code != api.ErrIndex {
				t.Errorf("%d: %v, %d", i, f, code)
			}
			if x, counted, code := index.Merge([]string{s}); x != nil || len(counted) != 0 || code != api.ErrIndex {
				t.Errorf("%d: %v, %d", i, counted, code)
			}
		})
		if took > 1<<16 {
			t.Errorf("%d: %d bytes of memory", i, took)
		}
	}
	for i, f := range []index.File{{Supersedes: ids(50000)}, {Items: items(50000)}} {
		took := taken(func() {
			if s, code := index.Encode(f); s != "" || code != api.ErrLong {
				t.Errorf("%d: %s, %d", i, brief(s), code)
			}
		})
		if took > 1<<20 {
			t.Errorf("%d: Encode takes %d bytes of memory", i, took)
		}
	}
}

// taken is how much memory was asked for meanwhile.
func taken(do func()) uint64 {
	var before, after runtime.MemStats
	runtime.ReadMemStats(&before)
	do()
	runtime.ReadMemStats(&after)
	return after.TotalAlloc - before.TotalAlloc
}

// Rules R4 and R7.

// spoil writes over all of a list, and over the room behind it.
func spoil[T any](l []T, with T) {
	l = l[:cap(l)]
	for i := range l {
		l[i] = with
	}
}

func TestWhatIsGivenIsNotChanged(t *testing.T) {
	supersedes := append(ids(5), filled('z'), "")
	rows := append(ordered()[:5:5], some('z', 'z', 9), api.Item{})
	wasIds, wasRows := slices.Clone(supersedes), slices.Clone(rows)
	f := index.File{Supersedes: supersedes[:5], Items: rows[:5]}
	s := encodes(t, f)
	files := splits(t, f)
	if len(files) != 1 || files[0] != s {
		t.Error("what lies behind a list is read")
	}
	for _, wrong := range []index.File{{Supersedes: supersedes, Items: rows[:5]}, {Supersedes: supersedes[:5], Items: rows}} {
		refuses(t, wrong, api.ErrRange)
	}
	if !slices.Equal(supersedes, wasIds) || !slices.Equal(rows, wasRows) {
		t.Error("the lists, or what lies behind them, were changed")
	}
	a, b := file(t, nil, some('b', 'p', 1)), file(t, nil, some('a', 'p', 1))
	p, _ := packed(t, api.BData, "one")
	room := []string{b, a, s, a, p, "x"}
	was := slices.Clone(room)
	merges(t, room[:4]...)
	merges(t, room...)
	index.Rebuild(room[3:5])
	index.Rebuild(room)
	if !slices.Equal(room, was) {
		t.Error("the files, or what lies behind them, were changed")
	}
	spoil(supersedes, "x")
	spoil(rows, api.Item{})
	isFile(t, s, index.File{Supersedes: wasIds[:5], Items: wasRows[:5]})
}

func TestAnswersMayBeOverwritten(t *testing.T) {
	f := index.File{Supersedes: ids(5), Items: ordered()}
	s := encodes(t, f)
	p, _ := packed(t, api.BData, "one", "two")
	packs := []string{"x", p, "y"}
	for range 3 {
		g, _ := index.Decode(s)
		isFile(t, s, g)
		spoil(g.Supersedes, "x")
		spoil(g.Items, api.Item{})
		files := splits(t, f)
		spoil(files, "x")
		x, counted, _ := index.Merge([]string{s, "GRTI\x01\x00\x00"})
		tellsTheSame(t, x, table(t, f.Items...))
		if !slices.Equal(counted, risingIds(s, "GRTI\x01\x00\x00")) {
			t.Errorf("%x", counted)
		}
		spoil(counted, "x")
		tellsTheSame(t, x, table(t, f.Items...))
		x.Drop(filled('p'))
		x, bad := index.Rebuild(packs)
		if x.Len() != 2 || !slices.Equal(bad, []int{0, 2}) {
			t.Error(x.Len(), bad)
		}
		spoil(bad, 9)
		spoil(x.All(), api.Item{})
	}
}

// TestAnswersAreNewMemory has ids that would hold on to a whole file, if they
// were pieces of it.
func TestAnswersAreNewMemory(t *testing.T) {
	s := file(t, ids(2), ordered()...)
	f, _ := index.Decode(s)
	pieces := slices.Clone(f.Supersedes)
	x, counted, _ := index.Merge([]string{s})
	for _, y := range append(f.Items, x.All()...) {
		pieces = append(pieces, y.Id, y.At.Pack)
	}
	name := index.Name(counted[0])
	id, _ := index.IdOf(name)
	for i, piece := range append(pieces, counted...) {
		if within(piece, s) {
			t.Errorf("%d is a piece of the file", i)
		}
	}
	if within(id, name) || within(name, counted[0]) {
		t.Error("a name and an id share memory")
	}
	p, _ := packed(t, api.BData, "one", "two")
	z, _ := index.Rebuild([]string{p})
	for _, y := range z.All() {
		if within(y.Id, p) || within(y.At.Pack, p) {
			t.Error("an id is a piece of the pack")
		}
	}
}

// within tells whether a lies in the memory of b.
func within(a, b string) bool {
	at, from := uintptr(unsafe.Pointer(unsafe.StringData(a))), uintptr(unsafe.Pointer(unsafe.StringData(b)))
	return from <= at && at < from+uintptr(len(b))
}

// TestTheSameAgain asks the same at once, with other things between.
func TestTheSameAgain(t *testing.T) {
	d := dice(9)
	f := d.byChance(20, 2000)
	want, _ := plainSplit(f)
	p, _ := packed(t, api.BData, "one", "two")
	wantIds, wantItems := risingIds(want...), table(t, f.Items...)
	var wait sync.WaitGroup
	for range 8 {
		wait.Go(func() {
			index.Split(index.File{Supersedes: []string{""}})
			files, code := index.Split(f)
			if !slices.Equal(files, want) || code != api.OK {
				t.Errorf("%d files, %d", len(files), code)
			}
			index.Merge(append(files[:1:1], "x"))
			x, counted, code := index.Merge(files)
			if code != api.OK || !slices.Equal(counted, wantIds) || !slices.Equal(x.All(), wantItems.All()) {
				t.Errorf("%d count, %d items, %d", len(counted), x.Len(), code)
			}
			if x, bad := index.Rebuild([]string{p, "x", p}); x.Len() != 2 || !slices.Equal(bad, []int{1}) {
				t.Error(x.Len(), bad)
			}
		})
	}
	wait.Wait()
}
