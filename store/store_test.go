package store_test

import (
	"fmt"
	"math"
	"slices"
	"sort"
	"strings"
	"sync"
	"testing"

	"garret/api"
	"garret/store"
)

// Written out here, so that the edges hang on nothing else.
const (
	maxQuota = 1073741824
	maxFails = 1048576
	maxData  = 131072
	maxName  = 96
)

func fresh(t testing.TB, quota int) *store.Store {
	t.Helper()
	s, code := store.New(quota)
	if s == nil || code != api.OK {
		t.Fatalf("New(%d): %v, %d", quota, s, int(code))
	}
	return s
}

// filled is a store that has the pairs of name and data.
func filled(t testing.TB, quota int, pairs ...string) *store.Store {
	t.Helper()
	s := fresh(t, quota)
	for i := 0; i < len(pairs); i += 2 {
		wantPut(t, s, pairs[i], pairs[i+1], api.OK)
	}
	return s
}

func put(name, data string) api.Req { return api.Req{Kind: api.RPut, Name: name, Data: data} }
func get(name string) api.Req       { return api.Req{Kind: api.RGet, Name: name} }
func list(begin string) api.Req     { return api.Req{Kind: api.RList, Name: begin} }
func del(name string) api.Req       { return api.Req{Kind: api.RDel, Name: name} }

func same(a, b api.Resp) bool {
	return a.Code == b.Code && a.Data == b.Data && slices.Equal(a.Names, b.Names)
}

func tell(r api.Resp) string {
	return fmt.Sprintf("{%d %.40q (%d bytes) %.200q}", int(r.Code), r.Data, len(r.Data), r.Names)
}

func wantDo(t testing.TB, s *store.Store, r api.Req, want api.Resp) {
	t.Helper()
	if got := s.Do(r); !same(got, want) {
		t.Errorf("Do of kind %d, %.100q, %d bytes: %s, want %s", r.Kind, r.Name, len(r.Data), tell(got), tell(want))
	}
}

func wantPut(t testing.TB, s *store.Store, name, data string, code api.Code) {
	t.Helper()
	wantDo(t, s, put(name, data), api.Resp{Code: code})
}

func wantCode(t testing.TB, what string, got, want api.Code) {
	t.Helper()
	if got != want {
		t.Errorf("%s: %d, want %d", what, int(got), int(want))
	}
}

// quotaOf is the quota of s, as far as one put can find it out.
func quotaOf(s *store.Store) int {
	f := s.Fork()
	f.Wipe()
	f.Down(false)
	f.Fail(0)
	return sort.Search(maxData+1, func(long int) bool {
		return f.Do(put("q", strings.Repeat("x", long))).Code == api.ErrQuota
	})
}

// failsOf is how many calls are to fail, at most 100.
func failsOf(s *store.Store) int {
	f := s.Fork()
	f.Down(false)
	n := 0
	for n < 100 && f.Do(list("")).Code == api.ErrFail {
		n++
	}
	return n
}

// whole is all that can be told of a store.
func whole(s *store.Store) string {
	var out []string
	for _, name := range s.Names() {
		data, ok := s.Get(name)
		out = append(out, fmt.Sprintf("%q: %q %t", name, data, ok))
	}
	down := s.Fork().Do(list("")).Code == api.ErrDown
	return fmt.Sprintf("%s; used %d, calls %d, quota %d, fails %d, down %t", strings.Join(out, ", "), s.Used(), s.Calls(), quotaOf(s), failsOf(s), down)
}

func wantWhole(t testing.TB, s *store.Store, want string) {
	t.Helper()
	if got := whole(s); got != want {
		t.Errorf("it has %s\nwant   %s", got, want)
	}
}

// Promise 7.1.

func TestNew(t *testing.T) {
	for _, quota := range []int{-1, -2, -maxQuota, maxQuota + 1, maxQuota + 2, 1 << 31, 1 << 32, 1<<32 + 1, math.MinInt, math.MaxInt} {
		if s, code := store.New(quota); s != nil || code != api.ErrRange {
			t.Errorf("New(%d): %v, %d", quota, s, int(code))
		}
	}
	for _, quota := range []int{0, 1, 2, 1000, maxQuota - 1, maxQuota} {
		s, code := store.New(quota)
		if s == nil || code != api.OK {
			t.Fatalf("New(%d): %v, %d", quota, s, int(code))
		}
		if len(s.Names()) != 0 || s.Used() != 0 || s.Calls() != 0 {
			t.Errorf("New(%d): %q, %d, %d", quota, s.Names(), s.Used(), s.Calls())
		}
		wantDo(t, s, list(""), api.Resp{})
		wantDo(t, s, get("a"), api.Resp{Code: api.ErrNone})
	}
	wantWhole(t, fresh(t, 0), "; used 0, calls 0, quota 0, fails 0, down false")
	wantWhole(t, fresh(t, 1), "; used 0, calls 0, quota 1, fails 0, down false")
	wantWhole(t, fresh(t, 77), "; used 0, calls 0, quota 77, fails 0, down false")
}

func TestNewOnesAreApart(t *testing.T) {
	a, b := fresh(t, 10), fresh(t, 10)
	wantPut(t, a, "a", "x", api.OK)
	a.Fail(3)
	wantWhole(t, b, "; used 0, calls 0, quota 10, fails 0, down false")
}

func TestNamesRise(t *testing.T) {
	s := fresh(t, 1000)
	want := []string{"!", "-", "/", "0", "10", "9", "A", "Z", "a", "a!", "a-b", "a/b", "aa", "ab", "b", "~", "~~"}
	for i := range want {
		wantPut(t, s, want[(i*7+3)%len(want)], "", api.OK)
	}
	if got := s.Names(); !slices.Equal(got, want) {
		t.Errorf("%q, want %q", got, want)
	}
	wantDo(t, s, list(""), api.Resp{Names: want})
	for range 20 {
		if !slices.Equal(s.Names(), want) {
			t.Fatal("another time it tells another order")
		}
	}
}

func TestGet(t *testing.T) {
	s := filled(t, 100, "a", "bcd", "e", "")
	for _, x := range []struct {
		name, data string
		ok         bool
	}{{"a", "bcd", true}, {"e", "", true}, {"b", "", false}, {"", "", false}, {"aa", "", false}, {"A", "", false}, {"a b", "", false}, {strings.Repeat("a", 200), "", false}} {
		if data, ok := s.Get(x.name); data != x.data || ok != x.ok {
			t.Errorf("Get(%q): %q, %t", x.name, data, ok)
		}
	}
	// Neither being down nor calls that are to fail matter to it, nor does it count.
	s.Down(true)
	s.Fail(1)
	if data, ok := s.Get("a"); data != "bcd" || !ok {
		t.Errorf("%q, %t", data, ok)
	}
	wantWhole(t, s, `"a": "bcd" true, "e": "" true; used 5, calls 2, quota 100, fails 1, down true`)
}

func TestUsed(t *testing.T) {
	s := fresh(t, 100)
	for i, x := range []struct {
		r    api.Req
		want int
	}{
		{put("abc", ""), 3}, {put("d", "12345"), 9}, {put("d", "1"), 5}, {put("d", "1234"), 8}, {put("", "12345"), 8},
		{put("d", strings.Repeat("x", 98)), 8}, {get("d"), 8}, {list(""), 8}, {del("x"), 8}, {del("d"), 3}, {del("d"), 3},
		{put("e", "\x00\xff"), 6}, {del("abc"), 3}, {del("e"), 0},
	} {
		s.Do(x.r)
		if s.Used() != x.want {
			t.Errorf("%d: %d, want %d", i, s.Used(), x.want)
		}
	}
}

func TestCallsCountsAll(t *testing.T) {
	s := fresh(t, 10)
	for i, r := range []api.Req{
		put("a", "b"), get("a"), list(""), get("x"), del("x"), put("", ""), put("a", strings.Repeat("x", maxData+1)),
		put("a", "too much of it"), {}, {Kind: 5}, {Kind: -1}, del("a"),
	} {
		s.Do(r)
		if s.Calls() != i+1 {
			t.Errorf("behind %d calls: %d", i+1, s.Calls())
		}
	}
	before := s.Calls()
	s.Fail(2)
	s.Down(true)
	s.Do(get("a"))
	s.Down(false)
	s.Do(get("a"))
	s.Do(get("a"))
	if s.Calls() != before+3 {
		t.Error("one that fails, or comes while it is down, is not counted", s.Calls())
	}
	// But only Do is.
	s.Set("a", "b")
	s.Torn(put("b", "c"), 1)
	s.Get("a")
	s.Names()
	s.Used()
	s.Calls()
	s.Wipe()
	s.Fork()
	if s.Calls() != before+3 {
		t.Error("others are counted, too", s.Calls())
	}
}

func TestForkIsTheSame(t *testing.T) {
	s := filled(t, 40, "a", "bcd", "e", "")
	s.Set("big", strings.Repeat("x", 50))
	s.Fail(3)
	s.Do(get("a"))
	want := `"a": "bcd" true, "big": "` + strings.Repeat("x", 50) + `" true, "e": "" true; used 58, calls 3, quota 40, fails 2, down `
	wantWhole(t, s, want+"false")
	wantWhole(t, s.Fork(), want+"false")
	s.Down(true)
	f := s.Fork()
	wantWhole(t, f, want+"true")
	wantWhole(t, f.Fork(), want+"true")
	wantWhole(t, fresh(t, 7).Fork(), "; used 0, calls 0, quota 7, fails 0, down false")
}

// Each change to one of both leaves the other as it was.
func TestForkGoesItsOwnWay(t *testing.T) {
	for i, change := range []func(*store.Store){
		func(s *store.Store) { s.Do(put("n", "x")) },
		func(s *store.Store) { s.Do(put("a", "y")) },
		func(s *store.Store) { s.Do(del("a")) },
		func(s *store.Store) { s.Do(get("a")) },
		func(s *store.Store) { s.Set("a", "y") },
		func(s *store.Store) { s.Set("n", strings.Repeat("y", 100)) },
		func(s *store.Store) { s.Torn(put("a", "xy"), 1) },
		func(s *store.Store) { s.Torn(put("n", "xy"), 1) },
		func(s *store.Store) { s.Wipe() },
		func(s *store.Store) { s.Fail(5) },
		func(s *store.Store) { s.Down(true) },
	} {
		s := filled(t, 40, "a", "bcd", "e", "")
		f := s.Fork()
		before := whole(s)
		wantWhole(t, f, before)
		change(f)
		wantWhole(t, s, before)
		after := whole(f)
		if after == before {
			t.Errorf("%d changes nothing", i)
		}
		f = s.Fork()
		change(s)
		wantWhole(t, f, before)
		wantWhole(t, s, after)
	}
}

func TestListsAreTheCallers(t *testing.T) {
	s := filled(t, 100, "a", "1", "ab", "2", "b", "3")
	want := []string{"a", "ab", "b"}
	spoil := func(l []string) {
		_ = append(l, slices.Repeat([]string{"more"}, cap(l)-len(l))...)
		for i := range l {
			l[i] = "spoilt"
		}
	}
	names, again, listed := s.Names(), s.Names(), s.Do(list("")).Names
	spoil(names)
	if !slices.Equal(again, want) || !slices.Equal(listed, want) || !slices.Equal(s.Names(), want) {
		t.Error("Names shares memory")
	}
	some := s.Do(list("a")).Names
	spoil(listed)
	if !slices.Equal(some, want[:2]) || !slices.Equal(s.Names(), want) {
		t.Error("a list shares memory")
	}
	spoil(some)
	wantDo(t, s, list("a"), api.Resp{Names: want[:2]})
	wantDo(t, s.Fork(), list(""), api.Resp{Names: want})
}

// Promise 7.2.

func TestExample(t *testing.T) {
	s := fresh(t, 4)
	wantPut(t, s, "a", "bcd", api.OK)
	wantPut(t, s, "a", "bcde", api.ErrQuota)
	wantDo(t, s, get("a"), api.Resp{Data: "bcd"})
}

func TestNamesThatMayBe(t *testing.T) {
	for _, name := range []string{
		"a", "!", "~", strings.Repeat("n", maxName-1), strings.Repeat("n", maxName), "lock/s-7", "..", "/", "a!b", "a~b", "\"\\", strings.Repeat("~", maxName),
	} {
		s := fresh(t, 1000)
		wantPut(t, s, name, "x", api.OK)
		wantDo(t, s, get(name), api.Resp{Data: "x"})
		wantCode(t, "Set", s.Set(name, "y"), api.OK)
		wantCode(t, "Torn", s.Torn(put(name, "xyz"), 2), api.OK)
		if data, ok := s.Get(name); data != "xy" || !ok {
			t.Errorf("%q: %q, %t", name, data, ok)
		}
	}
}

func TestNamesThatMayNotBe(t *testing.T) {
	names := []string{
		"", strings.Repeat("n", maxName+1), strings.Repeat("n", 2*maxName), strings.Repeat("n", 256+1), " ", "\x7f", "\x00", "\xff",
		"a b", " a", "a ", "a\x7fb", "a\x7f", "\x7fa", "a\n", "\x1f", "\x80", "ü", "a\xffb", strings.Repeat("n", maxName-1) + " ", strings.Repeat("n", maxName) + " ",
	}
	s := filled(t, 1000, "a", "b")
	for _, name := range names {
		wantPut(t, s, name, "x", api.ErrForm)
		wantCode(t, "Set", s.Set(name, "x"), api.ErrForm)
		wantCode(t, "Torn", s.Torn(put(name, "x"), 1), api.ErrForm)
		wantCode(t, "Torn", s.Torn(put(name, "x"), -1), api.ErrForm)
		// To ask for them is no fault of form: there are none.
		wantDo(t, s, get(name), api.Resp{Code: api.ErrNone})
		wantDo(t, s, del(name), api.Resp{Code: api.ErrNone})
		if name != "" {
			wantDo(t, s, list(name), api.Resp{})
		}
	}
	wantWhole(t, s, fmt.Sprintf(`"a": "b" true; used 2, calls %d, quota 1000, fails 0, down false`, s.Calls()))
}

func TestEachByteOfAName(t *testing.T) {
	for b := range 256 {
		want := api.ErrForm
		if b >= 33 && b <= 126 {
			want = api.OK
		}
		for _, name := range []string{string([]byte{byte(b)}), string([]byte{byte(b), 'x'}), string([]byte{'x', byte(b)}), string([]byte{'x', byte(b), 'x'})} {
			s := fresh(t, 10)
			wantPut(t, s, name, "", want)
			wantCode(t, "Set", s.Set(name, ""), want)
			wantCode(t, "Torn", s.Torn(put(name, ""), 0), want)
		}
	}
}

func TestLongData(t *testing.T) {
	whole, more := strings.Repeat("x", maxData), strings.Repeat("x", maxData+1)
	s := fresh(t, maxQuota)
	wantPut(t, s, "a", more, api.ErrLong)
	wantPut(t, s, "a", more+more, api.ErrLong)
	wantDo(t, s, get("a"), api.Resp{Code: api.ErrNone})
	wantPut(t, s, "a", whole, api.OK)
	wantDo(t, s, get("a"), api.Resp{Data: whole})
	wantPut(t, s, "a", more, api.ErrLong)
	if s.Used() != maxData+1 {
		t.Error(s.Used())
	}
	// Only a put has data: to the others they do not matter.
	for _, kind := range []int{api.RGet, api.RList, api.RDel} {
		if got := s.Do(api.Req{Kind: kind, Name: "a", Data: more}); got.Code != api.OK {
			t.Errorf("kind %d: %d", kind, int(got.Code))
		}
	}
}

func TestAnyBytesAreData(t *testing.T) {
	s := fresh(t, 10000)
	var all []byte
	for b := range 256 {
		all = append(all, byte(b))
	}
	for _, data := range []string{"", "\x00", string(all), "\xff\xfe", " \n"} {
		wantPut(t, s, "a", data, api.OK)
		wantDo(t, s, get("a"), api.Resp{Data: data})
	}
}

func TestQuota(t *testing.T) {
	s := filled(t, 20, "ab", "12345678") // 10 are left
	for _, x := range []struct {
		name, data string
		want       api.Code
	}{
		{"c", "1234567890", api.ErrQuota}, // one byte more, ..
		{"cde", "12345678", api.ErrQuota},
		{"c", "123456789", api.OK}, // .. and just the quota
		{"d", "", api.ErrQuota},
		// Of one that is there: what it had counts no more.
		{"c", "123456789", api.OK},
		{"c", "1234567890", api.ErrQuota},
		{"ab", "abcdefgh", api.OK},
		{"ab", "abcdefghi", api.ErrQuota},
		{"ab", "", api.OK},
		{"c", strings.Repeat("x", 17), api.OK},
		{"c", strings.Repeat("x", 18), api.ErrQuota},
		{"ab", "x", api.ErrQuota},
	} {
		wantPut(t, s, x.name, x.data, x.want)
	}
	wantWhole(t, s, `"ab": "" true, "c": "xxxxxxxxxxxxxxxxx" true; used 20, calls 13, quota 20, fails 0, down false`)
	// Room that was let go is there again.
	wantDo(t, s, del("ab"), api.Resp{})
	wantPut(t, s, "d", "x", api.OK)
	s.Wipe()
	wantPut(t, s, "e", strings.Repeat("x", 19), api.OK)
}

func TestSmallQuotas(t *testing.T) {
	s := fresh(t, 0)
	wantPut(t, s, "a", "", api.ErrQuota)
	s = fresh(t, 1)
	wantPut(t, s, "a", "x", api.ErrQuota)
	wantPut(t, s, "ab", "", api.ErrQuota)
	wantPut(t, s, "a", "", api.OK)
	wantPut(t, s, "b", "", api.ErrQuota)
	wantPut(t, s, "a", "", api.OK)
}

// All of the greatest quota is used, by one text that lies under many names.
func TestGreatestQuota(t *testing.T) {
	s := fresh(t, maxQuota)
	data := strings.Repeat("x", maxData-4)
	for i := range maxQuota / maxData {
		wantPut(t, s, fmt.Sprintf("%04d", i), data, api.OK)
	}
	if s.Used() != maxQuota {
		t.Error(s.Used())
	}
	wantPut(t, s, "a", "", api.ErrQuota)
	wantPut(t, s, "0000", data+"x", api.ErrQuota)
	wantPut(t, s, "0000", data, api.OK)
}

func TestWhatIsNotThere(t *testing.T) {
	s := filled(t, 100, "ab", "1", "b", "")
	for _, name := range []string{"a", "abc", "B", "", "ab ", "c"} {
		wantDo(t, s, get(name), api.Resp{Code: api.ErrNone})
		wantDo(t, s, del(name), api.Resp{Code: api.ErrNone})
	}
	wantDo(t, s, get("b"), api.Resp{})
	wantDo(t, s, del("b"), api.Resp{})
	wantDo(t, s, get("b"), api.Resp{Code: api.ErrNone})
	wantDo(t, s, del("b"), api.Resp{Code: api.ErrNone})
	wantWhole(t, s, `"ab": "1" true; used 3, calls 18, quota 100, fails 0, down false`)
}

func TestList(t *testing.T) {
	s := filled(t, 1000, "xb", "1", "xab", "2", "xa", "3", "x", "4", "xa/b", "5", "xa-b", "6")
	for _, x := range []struct {
		begin string
		want  []string
	}{
		{"", []string{"x", "xa", "xa-b", "xa/b", "xab", "xb"}},
		{"x", []string{"x", "xa", "xa-b", "xa/b", "xab", "xb"}},
		{"xa", []string{"xa", "xa-b", "xa/b", "xab"}},
		{"xab", []string{"xab"}},
		{"xb", []string{"xb"}},
		{"xa/", []string{"xa/b"}},
		{"y", nil}, {"a", nil}, {"b", nil}, {"X", nil}, {"xbc", nil}, {"xabc", nil}, {" ", nil}, {"x\x00", nil}, {strings.Repeat("x", 300), nil},
	} {
		wantDo(t, s, list(x.begin), api.Resp{Names: x.want})
	}
}

func TestKindsThatAreNone(t *testing.T) {
	s := filled(t, 100, "a", "b")
	for i, kind := range []int{0, -1, 5, 6, -4, 1 << 8, 1<<8 + 1, 1<<32 + 1, math.MinInt, math.MaxInt} {
		for _, name := range []string{"a", "", "x"} {
			wantDo(t, s, api.Req{Kind: kind, Name: name, Data: "c"}, api.Resp{Code: api.ErrForm})
		}
		wantWhole(t, s, fmt.Sprintf(`"a": "b" true; used 2, calls %d, quota 100, fails 0, down false`, 1+3*(i+1)))
	}
}

func TestStoreDoesNotMatter(t *testing.T) {
	for _, place := range []int{0, 1, -1, 255, math.MinInt, math.MaxInt} {
		s := fresh(t, 10)
		for _, x := range []struct {
			r    api.Req
			want api.Resp
		}{
			{put("a", "b"), api.Resp{}}, {get("a"), api.Resp{Data: "b"}}, {list("a"), api.Resp{Names: []string{"a"}}}, {del("a"), api.Resp{}},
			{del("a"), api.Resp{Code: api.ErrNone}}, {api.Req{}, api.Resp{Code: api.ErrForm}},
		} {
			x.r.Store = place
			wantDo(t, s, x.r, x.want)
		}
		s.Torn(api.Req{Store: place, Kind: api.RPut, Name: "a", Data: "bc"}, 1)
		wantDo(t, s, get("a"), api.Resp{Data: "b"})
	}
}

// Where more than one thing is wrong: down, fails, and then form, length, quota.
func TestWhichComesFirst(t *testing.T) {
	long := strings.Repeat("x", maxData+1)
	s := filled(t, 3, "a", "b")
	wrong := []api.Req{put("", long), put("a b", "x"), put("a", long), put("a", "bcd"), get("x"), del("x"), {}, {Kind: 9, Name: "", Data: long}}
	codes := []api.Code{api.ErrForm, api.ErrForm, api.ErrLong, api.ErrQuota, api.ErrNone, api.ErrNone, api.ErrForm, api.ErrForm}
	for i, r := range wrong {
		s.Down(true)
		s.Fail(1)
		wantDo(t, s, r, api.Resp{Code: api.ErrDown})
		s.Down(false)
		wantDo(t, s, r, api.Resp{Code: api.ErrFail})
		wantDo(t, s, r, api.Resp{Code: codes[i]})
	}
	wantCode(t, "Set", s.Set("a b", long), api.ErrForm)
	wantCode(t, "Torn", s.Torn(put("a b", long), 1), api.ErrForm)
	wantCode(t, "Torn", s.Torn(api.Req{Kind: api.RGet, Name: "a", Data: long}, 1), api.ErrForm)
	wantWhole(t, s, fmt.Sprintf(`"a": "b" true; used 2, calls %d, quota 3, fails 0, down false`, 1+3*len(wrong)))
}

func TestManyAskAtOnce(t *testing.T) {
	s := filled(t, 100, "a", "b", "ab", "c")
	const workers, times = 8, 200
	wrong := make([]int, workers)
	var all sync.WaitGroup
	for i := range wrong {
		all.Go(func() {
			for range times {
				if !same(s.Do(get("a")), api.Resp{Data: "b"}) || !same(s.Do(list("a")), api.Resp{Names: []string{"a", "ab"}}) {
					wrong[i]++
				}
			}
		})
	}
	all.Wait()
	if slices.Max(wrong) != 0 || s.Calls() != 2+2*workers*times {
		t.Error(wrong, s.Calls())
	}
}

// Promise 7.3.

func TestFailRefuses(t *testing.T) {
	s := fresh(t, 10)
	s.Fail(2)
	for _, n := range []int{-1, -2, maxFails + 1, 1 << 21, 1 << 32, math.MinInt, math.MaxInt} {
		wantCode(t, "Fail", s.Fail(n), api.ErrRange)
		if failsOf(s) != 2 {
			t.Errorf("Fail(%d) was refused, but %d calls fail", n, failsOf(s))
		}
	}
}

func TestFail(t *testing.T) {
	s := filled(t, 10, "a", "b")
	for _, n := range []int{1, 2, 7} {
		wantCode(t, "Fail", s.Fail(n), api.OK)
		for i := range n {
			wantDo(t, s, []api.Req{get("a"), put("a", "c"), del("a"), list(""), {Kind: 7}}[i%5], api.Resp{Code: api.ErrFail})
		}
		wantDo(t, s, get("a"), api.Resp{Data: "b"})
	}
	// So many, not so many more; with 0 none.
	s.Fail(5)
	s.Fail(3)
	if failsOf(s) != 3 {
		t.Error("fewer:", failsOf(s))
	}
	s.Fail(4)
	if failsOf(s) != 4 {
		t.Error("more:", failsOf(s))
	}
	wantCode(t, "Fail", s.Fail(0), api.OK)
	if failsOf(s) != 0 {
		t.Error("none:", failsOf(s))
	}
}

func TestMostFails(t *testing.T) {
	s := filled(t, 10, "a", "b")
	wantCode(t, "Fail", s.Fail(maxFails), api.OK)
	for i := range maxFails {
		if code := s.Do(get("a")).Code; code != api.ErrFail {
			t.Fatal(i, int(code))
		}
	}
	wantDo(t, s, get("a"), api.Resp{Data: "b"})
}

func TestDown(t *testing.T) {
	s := filled(t, 10, "a", "b")
	all := []api.Req{put("a", "c"), put("d", ""), get("a"), list(""), del("a"), {}}
	s.Fail(2)
	for range 2 {
		s.Down(true)
		for _, r := range all {
			wantDo(t, s, r, api.Resp{Code: api.ErrDown})
		}
	}
	// Calls that are to fail are as many as before.
	wantWhole(t, s, `"a": "b" true; used 2, calls 13, quota 10, fails 2, down true`)
	s.Down(false)
	wantDo(t, s, get("a"), api.Resp{Code: api.ErrFail})
	s.Down(true)
	wantDo(t, s, get("a"), api.Resp{Code: api.ErrDown})
	s.Down(false)
	s.Down(false)
	wantDo(t, s, get("a"), api.Resp{Code: api.ErrFail})
	wantDo(t, s, get("a"), api.Resp{Data: "b"})
	// What is told to fail while it is down fails once it is up.
	s.Down(true)
	s.Fail(1)
	wantDo(t, s, get("a"), api.Resp{Code: api.ErrDown})
	s.Down(false)
	wantDo(t, s, get("a"), api.Resp{Code: api.ErrFail})
	wantDo(t, s, get("a"), api.Resp{Data: "b"})
}

func TestWipe(t *testing.T) {
	s := filled(t, 10, "a", "b", "c", "d")
	s.Fail(3)
	s.Down(true)
	s.Wipe()
	wantWhole(t, s, "; used 0, calls 2, quota 10, fails 3, down true")
	s.Down(false)
	wantDo(t, s, list(""), api.Resp{Code: api.ErrFail})
	s.Wipe()
	wantWhole(t, s, "; used 0, calls 3, quota 10, fails 2, down false")
	s.Fail(0)
	wantDo(t, s, get("a"), api.Resp{Code: api.ErrNone})
	wantDo(t, s, list(""), api.Resp{})
	wantPut(t, s, "a", "123456789", api.OK)
	wantPut(t, s, "b", "", api.ErrQuota)
	wantWhole(t, s, `"a": "123456789" true; used 10, calls 7, quota 10, fails 0, down false`)
}

func TestSet(t *testing.T) {
	whole, more := strings.Repeat("x", maxData), strings.Repeat("x", maxData+1)
	s := filled(t, 4, "a", "bcd")
	wantCode(t, "Set too long", s.Set("a", more), api.ErrLong)
	wantCode(t, "Set too long, new", s.Set("n", more), api.ErrLong)
	wantWhole(t, s, `"a": "bcd" true; used 4, calls 1, quota 4, fails 0, down false`)
	// Above the quota, with calls that are to fail, and while it is down.
	wantCode(t, "Set above the quota", s.Set("n", "123"), api.OK)
	wantWhole(t, s, `"a": "bcd" true, "n": "123" true; used 8, calls 1, quota 4, fails 0, down false`)
	s.Fail(1)
	wantCode(t, "Set with a fail", s.Set("a", "12345"), api.OK)
	wantWhole(t, s, `"a": "12345" true, "n": "123" true; used 10, calls 1, quota 4, fails 1, down false`)
	s.Down(true)
	wantCode(t, "Set while down", s.Set("m", ""), api.OK)
	wantCode(t, "Set while down", s.Set("n", "1"), api.OK)
	wantWhole(t, s, `"a": "12345" true, "m": "" true, "n": "1" true; used 9, calls 1, quota 4, fails 1, down true`)
	wantCode(t, "Set of the most", s.Set("a", whole), api.OK)
	if data, ok := s.Get("a"); data != whole || !ok || s.Used() != maxData+4 {
		t.Error(len(data), ok, s.Used())
	}
}

// What lies above the quota is no room for a put, though it would be less than before.
func TestPutAboveTheQuota(t *testing.T) {
	s := fresh(t, 10)
	s.Set("a", strings.Repeat("x", 20))
	s.Set("b", "12345")
	wantPut(t, s, "a", "1234", api.ErrQuota)
	wantDo(t, s, get("a"), api.Resp{Data: strings.Repeat("x", 20)})
	wantPut(t, s, "b", "", api.ErrQuota)
	wantPut(t, s, "a", "123", api.OK)
	wantWhole(t, s, `"a": "123" true, "b": "12345" true; used 10, calls 4, quota 10, fails 0, down false`)
}

func TestTornRefuses(t *testing.T) {
	more := strings.Repeat("x", maxData+1)
	s := filled(t, 100, "a", "bcd")
	before := whole(s)
	for _, keep := range []int{-1, 0, 1, 3, maxData, maxData + 1, math.MinInt, math.MaxInt} {
		for _, kind := range []int{0, -1, api.RGet, api.RList, api.RDel, 5, 1<<32 + 1, math.MinInt, math.MaxInt} {
			for _, name := range []string{"a", "n", ""} {
				wantCode(t, "Torn of no put", s.Torn(api.Req{Kind: kind, Name: name, Data: "xyz"}, keep), api.ErrForm)
			}
		}
		wantCode(t, "Torn without a name", s.Torn(put("", "xyz"), keep), api.ErrForm)
		wantCode(t, "Torn of no name", s.Torn(put("a b", "xyz"), keep), api.ErrForm)
		wantCode(t, "Torn of too much", s.Torn(put("a", more), keep), api.ErrLong)
		wantCode(t, "Torn of too much, new", s.Torn(put("n", more), keep), api.ErrLong)
		wantWhole(t, s, before)
	}
}

func TestTorn(t *testing.T) {
	for _, x := range []struct {
		keep int
		want string
	}{{0, ""}, {1, "1"}, {4, "1234"}, {5, "12345"}, {6, "12345"}, {7, "12345"}, {maxData + 1, "12345"}, {1 << 32, "12345"}, {math.MaxInt, "12345"}} {
		s := filled(t, 10, "a", "bcdefgh")
		for _, name := range []string{"a", "n"} {
			wantCode(t, "Torn", s.Torn(put(name, "12345"), x.keep), api.OK)
			wantDo(t, s, get(name), api.Resp{Data: x.want})
		}
		if want := 2 + 2*len(x.want); s.Used() != want {
			t.Errorf("keep %d: used %d, want %d", x.keep, s.Used(), want)
		}
	}
	for _, keep := range []int{-1, -2, -5, math.MinInt} {
		s := filled(t, 10, "a", "b")
		before := whole(s)
		for _, name := range []string{"a", "n"} {
			wantCode(t, "Torn of nothing", s.Torn(put(name, "12345"), keep), api.OK)
			wantWhole(t, s, before)
		}
	}
	s := fresh(t, 10)
	wantCode(t, "Torn without data", s.Torn(put("a", ""), 3), api.OK)
	wantWhole(t, s, `"a": "" true; used 1, calls 0, quota 10, fails 0, down false`)
	wantCode(t, "Torn of the most", s.Torn(put("a", strings.Repeat("x", maxData)), 2), api.OK)
	wantWhole(t, s, `"a": "xx" true; used 3, calls 0, quota 10, fails 0, down false`)
}

// What is torn lies there, whatever the quota, being down, or calls that are to fail.
func TestTornWhateverBefalls(t *testing.T) {
	s := filled(t, 4, "a", "bcd")
	s.Fail(2)
	s.Down(true)
	wantCode(t, "Torn", s.Torn(put("n", "12345"), 3), api.OK)
	wantCode(t, "Torn", s.Torn(put("a", "12345"), 4), api.OK)
	wantWhole(t, s, `"a": "1234" true, "n": "123" true; used 9, calls 1, quota 4, fails 2, down true`)
}

// Promise 7.4.

func TestWhatWasPutIsGot(t *testing.T) {
	s := fresh(t, 30)
	wantPut(t, s, "a", "bcd", api.OK)
	keeps := func() {
		t.Helper()
		f := s.Fork()
		f.Down(false)
		f.Fail(0)
		wantDo(t, f, get("a"), api.Resp{Data: "bcd"})
	}
	for _, r := range []api.Req{
		put("aa", "x"), put("b", "y"), get("a"), get("b"), list("a"), del("b"), del("x"), del("aa"), put("", "x"),
		put("a", strings.Repeat("x", maxData+1)), put("a", strings.Repeat("x", 30)), put("z", strings.Repeat("x", 30)), {Name: "a", Data: "x"}, {Kind: 5, Name: "a"},
	} {
		s.Do(r)
		keeps()
	}
	s.Fail(3)
	s.Do(put("a", "x"))
	s.Do(del("a"))
	keeps()
	s.Down(true)
	s.Do(put("a", "x"))
	s.Do(del("a"))
	keeps()
	s.Set("b", strings.Repeat("x", 100))
	keeps()
	s.Torn(put("a", "xyz"), -1)
	s.Torn(put("c", "xyz"), 2)
	keeps()
	s.Down(false)
	s.Do(get("a"))
	s.Do(del("b"))
	wantPut(t, s, "a", "anew", api.OK)
	wantDo(t, s, get("a"), api.Resp{Data: "anew"})
	wantDo(t, s, del("a"), api.Resp{})
	wantDo(t, s, get("a"), api.Resp{Code: api.ErrNone})
	wantPut(t, s, "a", "again", api.OK)
	s.Wipe()
	wantDo(t, s, get("a"), api.Resp{Code: api.ErrNone})
}

func TestWhatIsRefusedChangesNothing(t *testing.T) {
	long := strings.Repeat("x", maxData+1)
	for _, r := range []api.Req{put("", "x"), put("a", long), put("a", "123456789"), put("n", "12345"), get("x"), del("x"), {}, {Kind: 5}} {
		s := filled(t, 10, "a", "bcd", "e", "")
		s.Do(r)
		wantWhole(t, s, `"a": "bcd" true, "e": "" true; used 5, calls 3, quota 10, fails 0, down false`)
	}
	for _, r := range []api.Req{put("a", ""), put("n", "x"), get("a"), list(""), del("a"), put("", long), {}} {
		s := filled(t, 10, "a", "bcd", "e", "")
		s.Fail(2)
		wantDo(t, s, r, api.Resp{Code: api.ErrFail})
		wantWhole(t, s, `"a": "bcd" true, "e": "" true; used 5, calls 3, quota 10, fails 1, down false`)
		s.Down(true)
		wantDo(t, s, r, api.Resp{Code: api.ErrDown})
		wantWhole(t, s, `"a": "bcd" true, "e": "" true; used 5, calls 4, quota 10, fails 1, down true`)
	}
}

// plain is a store by the chapter's words, without any sum or map.
type plain struct {
	names, datas        []string
	quota, fails, calls int
	down                bool
}

func (p *plain) used() int { return len(strings.Join(p.names, "") + strings.Join(p.datas, "")) }

func (p *plain) without(name string) {
	if i := slices.Index(p.names, name); i >= 0 {
		p.names, p.datas = slices.Delete(p.names, i, i+1), slices.Delete(p.datas, i, i+1)
	}
}

func (p *plain) with(name, data string) {
	p.without(name)
	p.names, p.datas = append(p.names, name), append(p.datas, data)
}

func (p *plain) fork() *plain {
	f := *p
	f.names, f.datas = slices.Clone(p.names), slices.Clone(p.datas)
	return &f
}

func (p *plain) whole() string {
	var out []string
	for _, name := range slices.Sorted(slices.Values(p.names)) {
		out = append(out, fmt.Sprintf("%q: %q true", name, p.datas[slices.Index(p.names, name)]))
	}
	return fmt.Sprintf("%s; used %d, calls %d, quota %d, fails %d, down %t", strings.Join(out, ", "), p.used(), p.calls, p.quota, p.fails, p.down)
}

func (p *plain) do(r api.Req) api.Resp {
	p.calls++
	at := slices.Index(p.names, r.Name)
	switch {
	case p.down:
		return api.Resp{Code: api.ErrDown}
	case p.fails > 0:
		p.fails--
		return api.Resp{Code: api.ErrFail}
	case r.Kind == api.RPut && r.Name == "":
		return api.Resp{Code: api.ErrForm}
	case r.Kind == api.RPut:
		after := p.fork()
		after.with(r.Name, r.Data)
		if after.used() > p.quota {
			return api.Resp{Code: api.ErrQuota}
		}
		*p = *after
	case r.Kind == api.RList:
		var out []string
		for _, name := range slices.Sorted(slices.Values(p.names)) {
			if strings.HasPrefix(name, r.Name) {
				out = append(out, name)
			}
		}
		return api.Resp{Names: out}
	case at < 0:
		return api.Resp{Code: api.ErrNone}
	case r.Kind == api.RGet:
		return api.Resp{Data: p.datas[at]}
	default:
		p.without(r.Name)
	}
	return api.Resp{}
}

// Whatever befalls both, in whatever order, a store tells what a plain one does.
func TestByAnothersHand(t *testing.T) {
	x := uint32(1)
	upTo := func(n int) int {
		x = x*1664525 + 1013904223
		return int(x>>8) % n
	}
	for quota := range 60 {
		s, p := fresh(t, quota), &plain{quota: quota}
		for range 300 {
			name := []string{"", "a", "ab", "abc", "b", "ba"}[upTo(6)]
			data := strings.Repeat(string([]byte{byte(upTo(256))}), upTo(20))
			r := api.Req{Store: upTo(3), Kind: 1 + upTo(4), Name: name, Data: data}
			switch n := upTo(20); {
			case n < 13:
				wantDo(t, s, r, p.do(r))
			case n == 13:
				p.fails = upTo(4)
				s.Fail(p.fails)
			case n == 14 || n == 15:
				p.down = upTo(3) == 0
				s.Down(p.down)
			case n == 16 && upTo(4) == 0:
				p.names, p.datas = nil, nil
				s.Wipe()
			case n == 17 && name != "":
				p.with(name, data)
				s.Set(name, data)
			case n == 18 && name != "":
				keep := upTo(len(data)+3) - 1
				if keep >= 0 {
					p.with(name, data[:min(keep, len(data))])
				}
				s.Torn(put(name, data), keep)
			case n == 19:
				left, right := s.Fork(), p.fork()
				wantDo(t, s, r, p.do(r)) // goes its own way, ..
				s, p = left, right       // .. and is left behind
			}
			wantWhole(t, s, p.whole())
			if t.Failed() {
				t.FailNow()
			}
		}
	}
}
