package lookup_test

import (
	"math"
	"slices"
	"strings"
	"sync"
	"testing"
	"unsafe"

	"garret/api"
	"garret/lookup"
)

// dice is numbers that are the same in each run.
type dice uint32

func (d *dice) upTo(n int) int {
	*d = *d*1664525 + 1013904223
	return int(uint64(*d>>8) * uint64(n) >> 24)
}

// text is n bytes of so many kinds.
func (d *dice) text(n, kinds int) string {
	b := make([]byte, n)
	for i := range b {
		b[i] = byte(d.upTo(kinds))
	}
	return string(b)
}

var long = strings.Repeat("a", 1<<20)

// filled is 32 bytes that are all the same.
func filled(c byte) string { return strings.Repeat(string([]byte{c}), 32) }

// put is s with the byte at a place put in place of the one that is there.
func put(s string, at int, c byte) string { return s[:at] + string([]byte{c}) + s[at+1:] }

func item(id, pack string, kind, off, long, size int) api.Item {
	return api.Item{Id: id, At: api.Place{Pack: pack, Kind: kind, Off: off, Long: long, Size: size}}
}

// some is an item of a short id and a short pack, which are filled up.
func some(id, pack byte, off int) api.Item { return item(filled(id), filled(pack), 1, off, 2, 3) }

// plainText is -1, 0 or 1 by the bytes' values, shorter ones that begin others first.
func plainText(a, b string) int {
	for i := range len(a) {
		if i == len(b) || b[i] < a[i] {
			return 1
		}
		if a[i] < b[i] {
			return -1
		}
	}
	if len(a) < len(b) {
		return -1
	}
	return 0
}

// plainOrder is -1, 0 or 1 by the words of the chapter.
func plainOrder(x, y api.Item) int {
	if c := plainText(x.Id, y.Id); c != 0 {
		return c
	}
	if c := plainText(x.At.Pack, y.At.Pack); c != 0 {
		return c
	}
	a, b := []int{x.At.Off, x.At.Long, x.At.Size, x.At.Kind}, []int{y.At.Off, y.At.Long, y.At.Size, y.At.Kind}
	for i := range a {
		if a[i] < b[i] {
			return -1
		}
		if a[i] > b[i] {
			return 1
		}
	}
	return 0
}

// plain is what a table of these items has, by the words of the chapter.
func plain(items []api.Item) []api.Item {
	var l []api.Item
	for _, x := range items {
		if !slices.Contains(l, x) {
			l = append(l, x)
		}
	}
	slices.SortFunc(l, plainOrder)
	return l
}

// tells looks whether x tells by every call what a table of these items does.
func tells(t testing.TB, x *lookup.Table, items []api.Item) {
	t.Helper()
	want := plain(items)
	var ids, packs []string
	for _, y := range want {
		if !slices.Contains(ids, y.Id) {
			ids = append(ids, y.Id)
		}
		if !slices.Contains(packs, y.At.Pack) {
			packs = append(packs, y.At.Pack)
		}
	}
	slices.SortFunc(ids, plainText)
	slices.SortFunc(packs, plainText)
	if n := x.Len(); n != len(want) {
		t.Fatalf("Len %d, not %d", n, len(want))
	}
	if l := x.All(); !slices.Equal(l, want) {
		t.Fatalf("All: %d items, not %d, or others: %v", len(l), len(want), l)
	}
	if l := x.Ids(); !slices.Equal(l, ids) {
		t.Fatalf("Ids: %d, not %d, or others: %x", len(l), len(ids), l)
	}
	if l := x.Packs(); !slices.Equal(l, packs) {
		t.Fatalf("Packs: %d, not %d, or others: %x", len(l), len(packs), l)
	}
	for _, id := range ids {
		var places []api.Place
		for _, y := range want {
			if y.Id == id {
				places = append(places, y.At)
			}
		}
		if at, ok := x.Get(id); at != places[0] || !ok {
			t.Fatalf("Get(%x): %v, %v, not %v", id, at, ok, places[0])
		}
		if l := x.Places(id); !slices.Equal(l, places) {
			t.Fatalf("Places(%x): %v, not %v", id, l, places)
		}
		hasNot(t, x, ids, id[:31], id[1:], id[:1], id+"\x00", id+id, put(id, 31, id[31]+1), put(id, 31, id[31]-1), put(id, 0, id[0]+1))
	}
	hasNot(t, x, ids, "", "\x00", "\xff", "a", filled(0), filled(255), filled(128), filled('a')[:31], filled('a')+"a", long)
}

// hasNot looks whether none of these is there, but for those that are.
func hasNot(t testing.TB, x *lookup.Table, there []string, ids ...string) {
	t.Helper()
	for _, id := range ids {
		if slices.Contains(there, id) {
			continue
		}
		if at, ok := x.Get(id); at != (api.Place{}) || ok {
			t.Fatalf("Get(%.40x): %v, %v", id, at, ok)
		}
		if l := x.Places(id); len(l) != 0 {
			t.Fatalf("Places(%.40x): %v", id, l)
		}
	}
}

// table is a new one, of these items.
func table(t testing.TB, items ...api.Item) *lookup.Table {
	t.Helper()
	x := lookup.New()
	add(t, x, items...)
	return x
}

// add adds what must not be refused.
func add(t testing.TB, x *lookup.Table, items ...api.Item) {
	t.Helper()
	if code := x.Add(items...); code != api.OK {
		t.Fatalf("Add of %d: %d", len(items), code)
	}
}

// drops looks whether Drop lets so many go, and which are left.
func drops(t testing.TB, x *lookup.Table, pack string, n int, left ...api.Item) {
	t.Helper()
	if got := x.Drop(pack); got != n {
		t.Fatalf("Drop(%x): %d, not %d", pack, got, n)
	}
	tells(t, x, left)
}

// Promise 15.1.

var (
	good     = item(filled('a'), filled('p'), 1, 5, 4, 2)
	badTexts = []string{"", "a", filled('a')[:31], filled('a') + "a", filled('a') + filled('a'), strings.Repeat("a", 1<<16)}
	badKinds = []int{0, -1, 3, 4, 16, 17, 18, 255, 257, 258, 1<<32 + 1, 1<<32 + 2, math.MinInt, math.MinInt + 1, math.MaxInt}
	tooMuch  = []int{api.MaxBytes + 1, api.MaxBytes + 2, 1 << 17, 1 << 32, 1<<32 + 1, math.MaxInt}
	tooFew   = []int{-1, -2, -api.MaxBytes, math.MinInt, math.MinInt + 1}
)

// bad is items that may not be, each for one thing alone.
func bad() []api.Item {
	var l []api.Item
	with := func(change func(x *api.Item)) {
		x := good
		change(&x)
		l = append(l, x)
	}
	for _, s := range badTexts {
		with(func(x *api.Item) { x.Id = s })
		with(func(x *api.Item) { x.At.Pack = s })
	}
	for _, kind := range badKinds {
		with(func(x *api.Item) { x.At.Kind = kind })
	}
	for _, n := range append(tooMuch, tooFew...) {
		with(func(x *api.Item) { x.At.Off = n })
		with(func(x *api.Item) { x.At.Long = n })
		with(func(x *api.Item) { x.At.Size = n })
	}
	with(func(x *api.Item) { x.At.Long = 0 })
	with(func(x *api.Item) { *x = api.Item{} })
	return l
}

func TestCheck(t *testing.T) {
	for _, kind := range []int{api.BData, api.BTree} {
		for _, off := range []int{0, 1, 5, api.MaxBytes - 1, api.MaxBytes} {
			for _, long := range []int{1, 2, api.MaxBytes - 1, api.MaxBytes} {
				for _, size := range []int{0, 1, api.MaxBytes - 1, api.MaxBytes} {
					for _, c := range []byte{0, 1, 'a', 127, 128, 255} {
						for _, x := range []api.Item{item(filled(c), filled('p'), kind, off, long, size), item(filled('a'), filled(c), kind, off, long, size)} {
							if code := lookup.Check(x); code != api.OK {
								t.Errorf("Check(%v): %d", x, code)
							}
							if code := lookup.New().Add(x); code != api.OK {
								t.Errorf("Add(%v): %d", x, code)
							}
						}
					}
				}
			}
		}
	}
}

func TestCheckOfWhatMayNotBe(t *testing.T) {
	for _, x := range bad() {
		if code := lookup.Check(x); code != api.ErrRange {
			t.Errorf("Check(%.40x, %.40x, %d, %d, %d, %d): %d", x.Id, x.At.Pack, x.At.Kind, x.At.Off, x.At.Long, x.At.Size, code)
		}
	}
	for _, id := range badTexts {
		for _, n := range tooFew {
			if code := lookup.Check(item(id, id, n, n, n, n)); code != api.ErrRange {
				t.Errorf("Check of all wrong: %d", code)
			}
		}
	}
}

// stands looks whether x stands ahead of y, and y not ahead of x.
func stands(t *testing.T, x, y api.Item) {
	t.Helper()
	if !lookup.Less(x, y) || lookup.Less(y, x) {
		t.Errorf("Less: %v, %v; the other way about: %v", x, y, lookup.Less(y, x))
	}
	alike(t, x, x)
	alike(t, y, y)
}

func alike(t *testing.T, x, y api.Item) {
	t.Helper()
	if lookup.Less(x, y) || lookup.Less(y, x) {
		t.Errorf("Less: %v, %v: like ones", x, y)
	}
}

// rising is numbers, and each pair of them that rises.
func rising(pair func(less, more int)) {
	numbers := []int{math.MinInt, math.MinInt + 1, -1 << 32, -api.MaxBytes, -2, -1, 0, 1, 2, 3, 9, 10, 127, 128, 255, 256, api.MaxBytes, api.MaxBytes + 1, 1 << 32, math.MaxInt - 1, math.MaxInt}
	for i, less := range numbers {
		for _, more := range numbers[i+1:] {
			pair(less, more)
		}
	}
}

// pairs is texts of which the first stands ahead of the second.
func pairs() [][2]string {
	l := [][2]string{{"", "\x00"}, {"", "a"}, {"", filled(0)}, {"a", "b"}, {"a", "aa"}, {"aa", "b"}, {"a\xff", "b"}, {"a", "a\x00"},
		{filled('a')[:31], filled('a')}, {filled('a'), filled('a') + "\x00"}, {filled('a'), filled('b')[:31]}, {filled('a') + "z", filled('b')},
		{filled('a'), filled('b')}, {filled(127), filled(128)}, {filled(128), filled(255)}, {filled(127), filled(255)}, {filled(0), filled(128)}, {"A", "a"}, {"Z", "a"}, {"9", "A"}}
	for _, at := range []int{0, 1, 15, 30, 31} {
		for _, c := range [][2]byte{{0, 1}, {'a', 'b'}, {126, 127}, {127, 128}, {127, 255}, {128, 129}, {128, 255}, {254, 255}, {0, 255}} {
			l = append(l, [2]string{put(filled('m'), at, c[0]), put(filled('m'), at, c[1])})
		}
	}
	return l
}

func TestLessById(t *testing.T) {
	for _, p := range pairs() {
		stands(t, item(p[0], "p", 1, 1, 1, 1), item(p[1], "p", 1, 1, 1, 1))
		stands(t, item(p[0], "q", 2, 2, 2, 2), item(p[1], "p", 1, 1, 1, 1))
		stands(t, item(p[0], p[1], 2, 2, 2, 2), item(p[1], p[0], 1, 1, 1, 1))
	}
}

func TestLessByPack(t *testing.T) {
	for _, p := range pairs() {
		stands(t, item("a", p[0], 1, 1, 1, 1), item("a", p[1], 1, 1, 1, 1))
		stands(t, item("a", p[0], 2, 2, 2, 2), item("a", p[1], 1, 1, 1, 1))
		alike(t, item("a", p[0], 1, 1, 1, 1), item("a", p[0], 1, 1, 1, 1))
	}
}

func TestLessByOff(t *testing.T) {
	rising(func(less, more int) {
		stands(t, item("a", "p", 1, less, 1, 1), item("a", "p", 1, more, 1, 1))
		stands(t, item("a", "p", 2, less, 2, 2), item("a", "p", 1, more, 1, 1))
	})
}

func TestLessByLong(t *testing.T) {
	rising(func(less, more int) {
		stands(t, item("a", "p", 1, 1, less, 1), item("a", "p", 1, 1, more, 1))
		stands(t, item("a", "p", 2, 1, less, 2), item("a", "p", 1, 1, more, 1))
	})
}

func TestLessBySize(t *testing.T) {
	rising(func(less, more int) {
		stands(t, item("a", "p", 1, 1, 1, less), item("a", "p", 1, 1, 1, more))
		stands(t, item("a", "p", 2, 1, 1, less), item("a", "p", 1, 1, 1, more))
	})
}

func TestLessByKind(t *testing.T) {
	rising(func(less, more int) {
		stands(t, item("a", "p", less, 1, 1, 1), item("a", "p", more, 1, 1, 1))
	})
}

// few is an item of few kinds, so that many are alike in some things.
func (d *dice) few() api.Item {
	return item(d.text(d.upTo(3), 2), d.text(d.upTo(3), 2), d.upTo(3)-1, d.upTo(3)-1, d.upTo(3)-1, d.upTo(3)-1)
}

func TestLessByChance(t *testing.T) {
	d := dice(1)
	alikes := 0
	for range 100000 {
		x, y := d.few(), d.few()
		if d.upTo(2) == 0 {
			y.Id, y.At.Pack = x.Id, x.At.Pack
		}
		if got := lookup.Less(x, y); got != (plainOrder(x, y) < 0) {
			t.Fatalf("Less(%v, %v): %v", x, y, got)
		}
		if x == y {
			alikes++
		}
		z := d.few()
		if lookup.Less(x, y) && lookup.Less(y, z) && !lookup.Less(x, z) {
			t.Fatal(x, y, z)
		}
	}
	if alikes < 100 {
		t.Error(alikes)
	}
}

// Promise 15.2.

func TestTheExample(t *testing.T) {
	x := table(t, some('a', 'q', 1), some('a', 'p', 9))
	if at, ok := x.Get(filled('a')); at != some('a', 'p', 9).At || !ok {
		t.Error(at, ok)
	}
	drops(t, x, filled('p'), 1, some('a', 'q', 1))
	if at, ok := x.Get(filled('a')); at != some('a', 'q', 1).At || !ok {
		t.Error(at, ok)
	}
}

func TestATableWithoutItems(t *testing.T) {
	x := lookup.New()
	if x == nil {
		t.Fatal("New is nil")
	}
	tells(t, x, nil)
	tells(t, x.Fork(), nil)
	drops(t, x, "", 0)
	drops(t, x, filled('p'), 0)
	add(t, x)
	tells(t, x, nil)
	add(t, x, []api.Item{}...)
	tells(t, x, nil)
	add(t, x, good)
	tells(t, x, []api.Item{good})
	add(t, x)
	tells(t, x, []api.Item{good})
	drops(t, x, good.At.Pack, 1)
	tells(t, lookup.New(), nil)
}

func TestAddOfWhatMayNotBe(t *testing.T) {
	there := []api.Item{some('a', 'p', 1), some('b', 'q', 2), some('b', 'p', 3)}
	news := []api.Item{some('a', 'p', 4), some('c', 'r', 5), some('a', 'p', 1)}
	for _, was := range [][]api.Item{nil, there} {
		x := table(t, was...)
		for _, no := range bad() {
			for at := range len(news) + 1 {
				if code := x.Add(slices.Insert(slices.Clone(news), at, no)...); code != api.ErrRange {
					t.Errorf("Add with %v at %d: %d", no, at, code)
				}
			}
			if code := x.Add(no); code != api.ErrRange {
				t.Errorf("Add(%v): %d", no, code)
			}
			if code := x.Add(no, no); code != api.ErrRange {
				t.Errorf("Add(%v) twice: %d", no, code)
			}
		}
		tells(t, x, was)
		tells(t, x.Fork(), was)
		add(t, x, news...)
		tells(t, x, append(news, was...))
	}
}

func TestAddTwice(t *testing.T) {
	x := table(t, good, good)
	tells(t, x, []api.Item{good})
	add(t, x, good)
	add(t, x, good, good, good)
	tells(t, x, []api.Item{good})
	other := some('b', 'p', 1)
	add(t, x, other, good, other)
	add(t, x, other)
	tells(t, x, []api.Item{good, other})
	add(t, x, x.All()...)
	tells(t, x, []api.Item{good, other})
	drops(t, x, good.At.Pack, 2)
	add(t, x, good, good)
	tells(t, x, []api.Item{good})
}

// alikeButForOne is items that differ from the good one in just one thing.
func alikeButForOne() []api.Item {
	l := []api.Item{good}
	for _, s := range []string{filled('b'), put(filled('a'), 0, 'b'), put(filled('a'), 31, 'b'), put(filled('a'), 31, 200), put(filled('a'), 0, 0)} {
		x := good
		x.Id = s
		l = append(l, x)
		x = good
		x.At.Pack = s
		l = append(l, x)
	}
	for _, n := range []int{1, 3, 6, 100, api.MaxBytes} {
		x := good
		x.At.Off = n
		l = append(l, x)
		x = good
		x.At.Long = n
		l = append(l, x)
		x = good
		x.At.Size = n
		l = append(l, x)
	}
	x := good
	x.At.Kind = 2
	return append(l, x)
}

func TestItemsThatDifferInOneThing(t *testing.T) {
	l := alikeButForOne()
	for _, y := range l[1:] {
		for _, both := range [][]api.Item{{good, y}, {y, good}, {good, y, good}, {y, good, y}} {
			x := table(t, both...)
			if x.Len() != 2 {
				t.Errorf("%v: %d", y, x.Len())
			}
			tells(t, x, both)
			x = lookup.New()
			for _, z := range both {
				add(t, x, z)
			}
			tells(t, x, both)
		}
	}
	tells(t, table(t, l...), l)
	slices.Reverse(l)
	tells(t, table(t, l...), l)
}

func TestIdsBeginningWithEachByte(t *testing.T) {
	d := dice(2)
	var all []api.Item
	x := lookup.New()
	for c := range 256 {
		first := byte(c * 37)
		l := []api.Item{item(put(d.text(32, 256), 0, first), filled(byte(c)), 1, 0, 1, 0), item(filled(first), filled(byte(c)), 2, 0, 1, 0)}
		add(t, x, l...)
		all = append(all, l...)
	}
	tells(t, x, all)
	for c, y := range all {
		if c%2 == 0 {
			drops(t, x.Fork(), y.At.Pack, 2, slices.Delete(slices.Clone(all), c, c+2)...)
		}
		if c > 20 {
			break
		}
	}
	tells(t, table(t, all...), all)
}

func TestIdsThatBeginTheSame(t *testing.T) {
	for _, long := range []int{0, 1, 31} {
		var all []api.Item
		for c := range 256 {
			id := put(filled('a'), long, byte(c*91))
			all = append(all, item(id, filled('p'), 1, c, 1, 0))
		}
		one := lookup.New()
		for _, x := range all {
			add(t, one, x)
		}
		tells(t, one, all)
		tells(t, table(t, all...), all)
		half := table(t, all[:128]...)
		add(t, half, all[100:]...)
		tells(t, half, all)
	}
}

func TestPlacesInSeveralPacks(t *testing.T) {
	id := filled('b')
	all := []api.Item{some('b', 'r', 1), some('a', 'a', 0), some('b', 'q', 9), some('b', 'q', 8), item(id, filled('q'), 2, 8, 2, 3), item(id, filled('q'), 1, 8, 1, 9),
		some('c', 'a', 0), some('b', 'p', api.MaxBytes), item(id, filled('q'), 1, 8, 2, 2), some('b', 255, 0), some('b', 0, 7), some('b', 128, 1), some('b', 127, 2)}
	x := table(t, all...)
	tells(t, x, all)
	want := []api.Place{some('b', 0, 7).At, some('b', 'p', api.MaxBytes).At, item(id, filled('q'), 1, 8, 1, 9).At, item(id, filled('q'), 1, 8, 2, 2).At,
		some('b', 'q', 8).At, item(id, filled('q'), 2, 8, 2, 3).At, some('b', 'q', 9).At, some('b', 'r', 1).At, some('b', 127, 2).At, some('b', 128, 1).At, some('b', 255, 0).At}
	if got := x.Places(id); !slices.Equal(got, want) {
		t.Errorf("%v", got)
	}
	var l []string
	for _, at := range want {
		l = append(l, at.Pack)
		if got, ok := x.Get(id); !ok || got.Pack < at.Pack {
			t.Errorf("Get: %v, %v, ahead of the drop of %x", got, ok, at.Pack)
		}
		x.Drop(at.Pack)
	}
	if len(l) != 11 || x.Len() != 2 {
		t.Error(len(l), x.Len())
	}
	hasNot(t, x, nil, id)
}

func TestDrop(t *testing.T) {
	all := []api.Item{some('a', 'p', 1), some('a', 'q', 2), some('b', 'p', 3), some('c', 'p', 4), some('c', 'r', 5), some('c', 'p', 6), some(255, 'q', 7), some(0, 'p', 8)}
	x := table(t, all...)
	for _, none := range []string{"", "p", filled('p')[:31], filled('p') + "p", filled('a'), filled('o'), filled('s'), filled(0), filled(255), put(filled('p'), 0, 'q'), put(filled('p'), 31, 'q'), strings.Repeat("p", 1<<16)} {
		drops(t, x, none, 0, all...)
	}
	drops(t, x, filled('q'), 2, all[0], all[2], all[3], all[4], all[5], all[7])
	drops(t, x, filled('q'), 0, all[0], all[2], all[3], all[4], all[5], all[7])
	drops(t, x, filled('p'), 5, all[4])
	drops(t, x, filled('r'), 1)
	drops(t, x, filled('r'), 0)
	add(t, x, all...)
	tells(t, x, all)
	drops(t, x, filled('p'), 5, all[1], all[4], all[6])
	add(t, x, all[7], all[0])
	drops(t, x, filled('q'), 2, all[0], all[4], all[7])
}

func TestForksGoTheirOwnWays(t *testing.T) {
	all := []api.Item{some('a', 'p', 1), some('a', 'q', 2), some('b', 'p', 3), some('c', 'p', 4)}
	more := []api.Item{some('a', 'o', 0), some('b', 'p', 1), some('z', 'r', 1)}
	x := table(t, all...)
	f := x.Fork()
	g := f.Fork()
	tells(t, f, all)
	add(t, x, more...)
	tells(t, f, all)
	tells(t, g, all)
	tells(t, x, append(more, all...))
	drops(t, f, filled('p'), 3, all[1])
	tells(t, x, append(more, all...))
	tells(t, g, all)
	add(t, g, more[1])
	tells(t, x, append(more, all...))
	tells(t, f, all[1:2])
	drops(t, x, filled('q'), 1, all[0], all[2], all[3], more[0], more[1], more[2])
	tells(t, f, all[1:2])
	tells(t, g, append(all, more[1]))
	add(t, f, more[2])
	tells(t, x, []api.Item{all[0], all[2], all[3], more[0], more[1], more[2]})
	tells(t, g, append(all, more[1]))
	tells(t, f, []api.Item{all[1], more[2]})
}

// TestForksWithRoom has a fork of lists that grew, or shrank, so that both have
// room behind them.
func TestForksWithRoom(t *testing.T) {
	for n := range 40 {
		x := lookup.New()
		var all []api.Item
		for i := range n {
			y := some('a', byte('p'+i%3), i)
			add(t, x, y)
			all = append(all, y)
		}
		if n%4 == 3 {
			x.Drop(filled('p'))
			all = slices.DeleteFunc(all, func(y api.Item) bool { return y.At.Pack == filled('p') })
		}
		f := x.Fork()
		a, b, c := some('a', 'z', 1), some('a', 'z', 2), some('a', 'b', 3)
		add(t, x, a)
		add(t, f, b)
		tells(t, x, append(slices.Clone(all), a))
		tells(t, f, append(slices.Clone(all), b))
		add(t, f, c)
		drops(t, x, filled('z'), 1, all...)
		tells(t, f, append(slices.Clone(all), b, c))
	}
}

// Promise 15.3.

// close is an item of which others are alike in much.
func (d *dice) close() api.Item {
	ids := []string{filled('a'), filled('b'), put(filled('a'), 31, 'b'), put(filled('a'), 0, 200), filled(0), filled(255)}
	packs := []string{filled('p'), filled('q'), put(filled('p'), 31, 200), filled(255)}
	return item(ids[d.upTo(len(ids))], packs[d.upTo(len(packs))], 1+d.upTo(2), d.upTo(2), 1+d.upTo(2), d.upTo(2))
}

// shuffled is l in an order by chance, some of it twice.
func (d *dice) shuffled(l []api.Item) []api.Item {
	var s []api.Item
	for _, x := range l {
		s = slices.Insert(s, d.upTo(len(s)+1), x)
		if d.upTo(4) == 0 {
			s = slices.Insert(s, d.upTo(len(s)+1), l[d.upTo(len(l))])
		}
	}
	return s
}

func TestWhateverTheOrder(t *testing.T) {
	d := dice(3)
	for range 200 {
		var all []api.Item
		for range d.upTo(50) {
			all = append(all, d.close())
		}
		tells(t, table(t, all...), all)
		for range 3 {
			x := lookup.New()
			for rest := d.shuffled(all); len(rest) > 0; {
				n := 1 + d.upTo(min(len(rest), 1+d.upTo(20)))
				add(t, x, rest[:n]...)
				rest = rest[n:]
			}
			tells(t, x, all)
			pack := d.close().At.Pack
			left := slices.DeleteFunc(slices.Clone(all), func(x api.Item) bool { return x.At.Pack == pack })
			drops(t, x, pack, len(plain(all))-len(plain(left)), left...)
		}
	}
}

// TestAHistory holds a table beside a plain list, step by step.
func TestAHistory(t *testing.T) {
	d := dice(4)
	x, forked := lookup.New(), lookup.New()
	var all, was []api.Item
	for range 2000 {
		switch d.upTo(10) {
		case 0:
			pack := d.close().At.Pack
			left := slices.DeleteFunc(slices.Clone(all), func(x api.Item) bool { return x.At.Pack == pack })
			drops(t, x, pack, len(all)-len(left), left...)
			all = left
		case 1:
			tells(t, forked, was)
			forked, was = x, all
			x = x.Fork()
		case 2:
			no := d.close()
			no.At.Long = 0
			if code := x.Add(d.close(), no, d.close()); code != api.ErrRange {
				t.Fatal(code)
			}
		default:
			var l []api.Item
			for range 1 + d.upTo(4) {
				l = append(l, d.close())
			}
			add(t, x, l...)
			all = plain(append(slices.Clone(all), l...))
		}
		tells(t, x, all)
	}
	tells(t, forked, was)
}

// TestVeryMany has as many items as a whole repository, in one list and in
// all, in one call and in many: with steps that go over all items for each of
// them it would not end in time.
func TestVeryMany(t *testing.T) {
	const many = 50000
	d := dice(5)
	for _, first := range []int{1, 256} {
		var all []api.Item
		for i := range many {
			all = append(all, item(put(d.text(32, 256), 0, byte(d.upTo(first))), filled(byte(d.upTo(50))), 1, i, 1, 0))
		}
		x := table(t, all...)
		y := lookup.New()
		for at := 0; at < many; at += 100 {
			add(t, y, all[at:at+100]...)
		}
		slices.SortFunc(all, plainOrder)
		if !slices.Equal(x.All(), all) || !slices.Equal(y.All(), all) {
			t.Error("other items")
		}
		for _, want := range all {
			if at, ok := x.Get(want.Id); at != want.At || !ok {
				t.Fatal(at, ok)
			}
		}
	}
}

// Rules R4 and R7.

func TestWhatIsToldChangesNothing(t *testing.T) {
	all := []api.Item{some('a', 'p', 1), some('a', 'q', 2), some('b', 'p', 3), some('c', 'p', 4)}
	x := table(t, all...)
	wrong := some('x', 'x', 1)
	for range 2 {
		spoil(x.All(), wrong)
		spoil(x.Ids(), "wrong")
		spoil(x.Packs(), "wrong")
		spoil(x.Places(filled('a')), wrong.At)
		spoil(x.Places(filled('b')), wrong.At)
		spoil(x.Places(filled('n')), wrong.At)
		tells(t, x, all)
		x = x.Fork()
	}
	spoil(lookup.New().All(), wrong)
	tells(t, lookup.New(), nil)
}

// spoil writes over all of a list, and over the room behind it.
func spoil[T any](l []T, with T) {
	l = l[:cap(l)]
	for i := range l {
		l[i] = with
	}
}

func TestWhatIsGivenIsNeitherChangedNorKept(t *testing.T) {
	room := []api.Item{some('c', 'p', 4), some('a', 'q', 2), some('c', 'p', 4), some('a', 'p', 1), some('b', 'p', 3), some('z', 'z', 9), {}}
	was := slices.Clone(room)
	given := room[:5]
	x := table(t, given...)
	if !slices.Equal(room, was) {
		t.Error("the list, or what lies behind it, was changed")
	}
	add(t, x, given...)
	if !slices.Equal(room, was) {
		t.Error("the list, or what lies behind it, was changed by items that are there")
	}
	room[4] = api.Item{}
	if code := x.Add(room[:6]...); code != api.ErrRange {
		t.Error(code)
	}
	room[4] = was[4]
	if !slices.Equal(room, was) {
		t.Error("the list was changed by a call that refused it")
	}
	spoil(room, some('x', 'x', 1))
	tells(t, x, was[:5])
	add(t, x, some('d', 'p', 1))
	drops(t, x, filled('q'), 1, was[0], was[3], was[4], some('d', 'p', 1))
	if room[0] != some('x', 'x', 1) || room[6] != room[0] {
		t.Error("the list is the table's")
	}
}

func TestAnswersAreNewMemory(t *testing.T) {
	x := table(t, some('a', 'p', 1), some('b', 'q', 2), some('b', 'q', 3))
	if unsafe.SliceData(x.All()) == unsafe.SliceData(x.All()) || unsafe.SliceData(x.Ids()) == unsafe.SliceData(x.Ids()) ||
		unsafe.SliceData(x.Packs()) == unsafe.SliceData(x.Packs()) || unsafe.SliceData(x.Places(filled('b'))) == unsafe.SliceData(x.Places(filled('b'))) || x.Fork() == x {
		t.Error("two answers share memory")
	}
}

// TestTheSameAgain asks a table by many at once, whose forks go their own ways.
func TestTheSameAgain(t *testing.T) {
	d := dice(6)
	var all []api.Item
	for range 60 {
		all = append(all, d.close())
	}
	x := table(t, all...)
	var wait sync.WaitGroup
	for n := range 8 {
		wait.Go(func() {
			f := x.Fork()
			if code := f.Add(some(byte(n), byte(n), n)); code != api.OK {
				t.Error(code)
			}
			f.Drop(filled('p'))
			for range 3 {
				tells(noFatal{t}, x, all)
			}
		})
	}
	wait.Wait()
	tells(t, x, all)
}

// noFatal is a test that does not end the goroutine it is told in.
type noFatal struct{ testing.TB }

func (n noFatal) Fatalf(format string, args ...any) { n.Errorf(format, args...) }
