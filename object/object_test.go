package object_test

import (
	"math"
	"reflect"
	"slices"
	"strconv"
	"strings"
	"testing"

	"garret/api"
	"garret/object"
	"garret/port"
	"garret/sha"
	"garret/shard"
	"garret/store"
)

var small = object.Kit{K: 2, M: 1}

// some is n stores with room.
func some(t testing.TB, n int) []*store.Store {
	t.Helper()
	var stores []*store.Store
	for range n {
		s, code := store.New(1 << 20)
		if code != api.OK {
			t.Fatal(int(code))
		}
		stores = append(stores, s)
	}
	return stores
}

// shards is the bytes of all shards of data.
func shards(t testing.TB, k object.Kit, data string) []string {
	t.Helper()
	l, code := shard.Make(k.K, k.M, data)
	if code != api.OK {
		t.Fatal(int(code))
	}
	return l
}

// laid is stores that have data under the name a.
func laid(t testing.TB, k object.Kit, data string) []*store.Store {
	t.Helper()
	stores := some(t, k.K+k.M)
	for i, s := range shards(t, k, data) {
		stores[i].Set("a", s)
	}
	return stores
}

// forged is the bytes of a shard that fits those of data, but is none of them.
func forged(t testing.TB, k object.Kit, index int, data string) string {
	t.Helper()
	each := (len(data) + k.K - 1) / k.K
	s, code := shard.Encode(shard.S{K: k.K, M: k.M, Index: index, Long: len(data), Id: sha.Sum(data),
		Data: strings.Repeat(string(rune('A'+index%26)), each)})
	if code != api.OK {
		t.Fatal(int(code))
	}
	return s
}

// turned is s with so many bytes turned from one on.
func turned(s string, from, bytes int) string {
	b := []byte(s)
	for i := from; i < from+bytes; i++ {
		b[i] ^= 0xff
	}
	return string(b)
}

// plain is a result with nil in place of lists without an element.
func plain(r api.Result) api.Result {
	if len(r.Ids) == 0 {
		r.Ids = nil
	}
	if len(r.Texts) == 0 {
		r.Texts = nil
	}
	if len(r.Entries) == 0 {
		r.Entries = nil
	}
	if len(r.Snaps) == 0 {
		r.Snaps = nil
	}
	return r
}

func wantOver(t testing.TB, j *port.Job, want api.Result, steps int) {
	t.Helper()
	if j == nil {
		t.Fatal("no job")
	}
	if r, waits := j.Next(); waits || !j.Over() || j.Steps() != steps {
		t.Errorf("waits for %v (%t), over %t, steps %d, want %d", r, waits, j.Over(), j.Steps(), steps)
	}
	if got := j.Result(); !reflect.DeepEqual(plain(got), plain(want)) {
		t.Errorf("result %v, %d, want %v, %d", got, int(got.Code), want, int(want.Code))
	}
}

// wantRun is a job that ends behind so many steps, with that result.
func wantRun(t testing.TB, j *port.Job, stores []*store.Store, steps int, want api.Result) {
	t.Helper()
	if n, code := port.Run(j, stores, steps); n != steps || code != api.OK {
		t.Errorf("Run: %d steps, %d, want %d", n, int(code), steps)
	}
	wantOver(t, j, want, steps)
}

// wantLaid is that the stores have all shards of data under the name a.
func wantLaid(t testing.TB, stores []*store.Store, k object.Kit, data string) {
	t.Helper()
	for i, want := range shards(t, k, data) {
		if s, ok := stores[i].Get("a"); s != want || !ok {
			t.Errorf("the store %d has %q (%t), want %q", i, s, ok, want)
		}
	}
}

// record plays j till it is over, and tells what it asked.
func record(t testing.TB, j *port.Job, answer func(step int, r api.Req) api.Resp) []api.Req {
	t.Helper()
	var asked []api.Req
	for !j.Over() {
		r, waits := j.Next()
		if !waits || len(asked) > 1000 {
			t.Fatalf("no end behind %d steps", len(asked))
		}
		asked = append(asked, r)
		j.Give(answer(len(asked)-1, r))
	}
	return asked
}

// row answers by a list, which begins anew behind its end.
func row(l []api.Resp) func(int, api.Req) api.Resp {
	return func(step int, _ api.Req) api.Resp { return l[step%len(l)] }
}

// dice is a row of numbers that is the same in every run.
type dice uint32

func (d *dice) upTo(n int) int {
	*d = *d*1664525 + 1013904223
	return int(uint32(*d)>>8) % n
}

// each calls do with all lists of so many numbers below n.
func each(long, n int, do func(l []int)) {
	l := make([]int, long)
	var fill func(at int)
	fill = func(at int) {
		if at == long {
			do(l)
			return
		}
		for i := range n {
			l[at] = i
			fill(at + 1)
		}
	}
	fill(0)
}

// What the document asks, worked out by its words as plainly as may be.

// goodShards is the good shards of answers to gets; the others' places have false.
func goodShards(k object.Kit, answers []api.Resp) ([]shard.S, []bool) {
	l, is := make([]shard.S, len(answers)), make([]bool, len(answers))
	for i, a := range answers {
		x, code := shard.Decode(a.Data)
		l[i] = x
		is[i] = a.Code == api.OK && code == api.OK && x.K == k.K && x.M == k.M && x.Index == i
	}
	return l, is
}

// firstGathered is what the first of the choices that begin with chosen comes to.
func firstGathered(chosen, rest []shard.S, k int, tries *int) (string, bool) {
	if *tries >= 1000 {
		return "", false
	}
	if len(chosen) == k {
		*tries++
		data, code := shard.Gather(chosen)
		return data, code == api.OK
	}
	for i, x := range rest {
		if data, ok := firstGathered(append(slices.Clone(chosen), x), rest[i+1:], k, tries); ok {
			return data, true
		}
	}
	return "", false
}

// finding is what is found: data, and which stores had a good shard of its family.
type finding struct {
	data string
	had  []bool
	code api.Code
}

func found(k object.Kit, want string, answers []api.Resp) finding {
	l, is := goodShards(k, answers)
	for i := range l {
		first := is[i]
		had := make([]bool, len(l))
		var family []shard.S
		for j := range l {
			if is[i] && is[j] && shard.Fits(l[i], l[j]) {
				first = first && j >= i
				had[j] = true
				family = append(family, l[j])
			}
		}
		if !first || len(family) < k.K || want != "" && l[i].Id != want {
			continue
		}
		tries := 0
		if data, ok := firstGathered(nil, family, k.K, &tries); ok {
			return finding{data, had, api.OK}
		}
	}
	return finding{code: refusal(k, answers)}
}

func refusal(k object.Kit, answers []api.Resp) api.Code {
	var absent, rot int
	var away []api.Code
	for _, a := range answers {
		if a.Code == api.ErrNone {
			absent++
		} else if a.Code == api.OK {
			rot++
		} else {
			away = append(away, a.Code)
		}
	}
	if len(away) > 0 && !(absent+rot > k.M) {
		return away[0]
	}
	if rot > 0 {
		return api.ErrLost
	}
	return api.ErrNone
}

// asks is the same request to each of n stores, with data of its own if there are some.
func asks(n, kind int, name string, data []string) []api.Req {
	var l []api.Req
	for i := range n {
		r := api.Req{Store: i, Kind: kind, Name: name}
		if data != nil {
			r.Data = data[i]
		}
		l = append(l, r)
	}
	return l
}

// script is what a job is to ask, and its result, if its answers are those.
type script func(answer func(step int, r api.Req) api.Resp) ([]api.Req, api.Result)

// given is the answers to some requests that come behind so many.
func given(behind int, l []api.Req, answer func(int, api.Req) api.Resp) []api.Resp {
	var out []api.Resp
	for i, r := range l {
		out = append(out, answer(behind+i, r))
	}
	return out
}

func codesOf(answers []api.Resp) []api.Code {
	var l []api.Code
	for _, a := range answers {
		l = append(l, a.Code)
	}
	return l
}

// firstFault is the first code that is not OK, and how many are OK.
func firstFault(codes []api.Code) (first api.Code, fine int) {
	for _, c := range codes {
		if c == api.OK {
			fine++
		} else if first == api.OK {
			first = c
		}
	}
	return first, fine
}

func getScript(k object.Kit, name, want string) script {
	return func(answer func(int, api.Req) api.Resp) ([]api.Req, api.Result) {
		gets := asks(k.K+k.M, api.RGet, name, nil)
		f := found(k, want, given(0, gets, answer))
		if f.code != api.OK {
			return gets, api.Result{Code: f.code}
		}
		return gets, api.Result{Texts: []string{f.data}}
	}
}

func scrubScript(t testing.TB, k object.Kit, name, want string) script {
	return func(answer func(int, api.Req) api.Resp) ([]api.Req, api.Result) {
		gets := asks(k.K+k.M, api.RGet, name, nil)
		f := found(k, want, given(0, gets, answer))
		if f.code != api.OK {
			return gets, api.Result{Code: f.code}
		}
		var puts []api.Req
		for i, r := range asks(k.K+k.M, api.RPut, name, shards(t, k, f.data)) {
			if !f.had[i] {
				puts = append(puts, r)
			}
		}
		first, fine := firstFault(codesOf(given(len(gets), puts, answer)))
		return append(gets, puts...), api.Result{Code: first, N: fine}
	}
}

func putScript(t testing.TB, k object.Kit, name, data string) script {
	return func(answer func(int, api.Req) api.Resp) ([]api.Req, api.Result) {
		gets := asks(k.K+k.M, api.RGet, name, nil)
		f := found(k, "", given(0, gets, answer))
		switch {
		case f.code == api.OK && f.data == data:
			return gets, api.Result{}
		case f.code == api.OK:
			return gets, api.Result{Code: api.ErrClash}
		case f.code != api.ErrNone && f.code != api.ErrLost:
			return gets, api.Result{Code: f.code}
		}
		puts := asks(k.K+k.M, api.RPut, name, shards(t, k, data))
		put := codesOf(given(len(gets), puts, answer))
		all := append(gets, puts...)
		first, _ := firstFault(put)
		if first == api.OK {
			return all, api.Result{}
		}
		dels := asks(k.K+k.M, api.RDel, name, nil)
		left := 0
		for i, a := range given(len(all), dels, answer) {
			if put[i] == api.OK && a.Code != api.OK && a.Code != api.ErrNone {
				left++
			}
		}
		return append(all, dels...), api.Result{Code: first, N: left}
	}
}

func delScript(k object.Kit, name string) script {
	return func(answer func(int, api.Req) api.Resp) ([]api.Req, api.Result) {
		dels := asks(k.K+k.M, api.RDel, name, nil)
		none := 0
		for _, a := range given(0, dels, answer) {
			if a.Code == api.ErrNone {
				none++
			} else if a.Code != api.OK {
				return dels, api.Result{Code: a.Code}
			}
		}
		if none == len(dels) {
			return dels, api.Result{Code: api.ErrNone}
		}
		return dels, api.Result{}
	}
}

func listScript(k object.Kit, begin string) script {
	return func(answer func(int, api.Req) api.Resp) ([]api.Req, api.Result) {
		lists := asks(k.K+k.M, api.RList, begin, nil)
		answers := given(0, lists, answer)
		first, fine := firstFault(codesOf(answers))
		if len(lists)-fine > k.M {
			return lists, api.Result{Code: first}
		}
		var names []string
		for _, a := range answers {
			names = append(names, a.Names...)
		}
		slices.Sort(names)
		return lists, api.Result{Ids: slices.Compact(names)}
	}
}

// wantScript is that the job does as the script says, with such answers.
func wantScript(t testing.TB, j *port.Job, s script, answer func(int, api.Req) api.Resp) {
	t.Helper()
	asked, want := s(answer)
	if got := record(t, j, answer); !slices.Equal(got, asked) {
		t.Errorf("asked %v, want %v", got, asked)
	}
	wantOver(t, j, want, len(asked))
}

// Promise 10.1.

func mayBe(k object.Kit) bool { return k.K >= 1 && k.M >= 0 && k.K+k.M <= 255 }

func TestCheckAndSingle(t *testing.T) {
	for k := -3; k < 260; k++ {
		for m := -3; m < 260; m++ {
			kit, code, single := object.Kit{K: k, M: m}, api.ErrRange, object.Kit{}
			if mayBe(kit) {
				code, single = api.OK, object.Kit{K: 1, M: k + m - 1}
			}
			if got := object.Check(kit); got != code {
				t.Errorf("Check(%v): %d, want %d", kit, int(got), int(code))
			}
			if got := object.Single(kit); got != single {
				t.Errorf("Single(%v): %v, want %v", kit, got, single)
			}
		}
	}
}

// noKits is kits that may not be.
func noKits() []object.Kit {
	return []object.Kit{{}, {K: 0, M: 1}, {K: 0, M: 255}, {K: -1, M: 3}, {K: 1, M: -1}, {K: 2, M: -1}, {K: 256}, {K: 255, M: 1},
		{K: 1, M: 255}, {K: 200, M: 56}, {K: 300, M: -100}, {K: -100, M: 300}, {K: math.MaxInt, M: math.MaxInt},
		{K: math.MaxInt, M: 1}, {K: 1, M: math.MaxInt}, {K: math.MinInt, M: math.MinInt}, {K: math.MinInt, M: math.MaxInt},
		{K: math.MaxInt, M: math.MinInt}, {K: 1 << 32, M: 1}, {K: 1<<32 + 2, M: 1}, {K: 1, M: 1 << 32}}
}

func TestKitsThatMayNotBe(t *testing.T) {
	long := strings.Repeat("x", api.MaxBytes+1)
	for _, k := range noKits() {
		if object.Check(k) != api.ErrRange || object.Single(k) != (object.Kit{}) {
			t.Errorf("%v: %d, %v", k, int(object.Check(k)), object.Single(k))
		}
		// The kit comes ahead of data that are too long and of a name that may not be.
		for _, j := range []*port.Job{object.PutJob(k, "a", "x"), object.PutJob(k, "", long), object.GetJob(k, "a", ""),
			object.DelJob(k, "a"), object.ListJob(k, ""), object.ScrubJob(k, "a", "")} {
			wantOver(t, j, api.Result{Code: api.ErrRange}, 0)
		}
		// Nothing is asked, so that it does not matter that nobody could be.
		wantCallsAtOnce(t, nil, k)
		j := port.Start(func(io *port.IO) {
			wantCallsAtOnce(t, io, k)
			io.End(api.Result{N: 7})
			wantCallsAtOnce(t, io, k)
		})
		wantOver(t, j, api.Result{N: 7}, 0)
	}
}

// wantCallsAtOnce is that every call goes on at once, once, with ErrRange and noughts.
func wantCallsAtOnce(t *testing.T, io *port.IO, k object.Kit) {
	t.Helper()
	times := 0
	is := func(e api.Code, noughts bool) {
		times++
		if e != api.ErrRange || !noughts {
			t.Errorf("%v: %d, noughts %t", k, int(e), noughts)
		}
	}
	object.Put(io, k, "a", "x", func(e api.Code, left int) { is(e, left == 0) })
	object.Get(io, k, "a", "", func(data string, e api.Code) { is(e, data == "") })
	object.Del(io, k, "a", func(e api.Code) { is(e, true) })
	object.List(io, k, "", func(names []string, e api.Code) { is(e, len(names) == 0) })
	object.Scrub(io, k, "a", "", func(fixed int, e api.Code) { is(e, fixed == 0) })
	if times != 5 {
		t.Errorf("%v: then was called %d times at once, want 5", k, times)
	}
}

func TestKitsAtTheEdges(t *testing.T) {
	for _, k := range []object.Kit{{K: 1}, {K: 2}, {K: 3}, {K: 1, M: 1}, {K: 1, M: 4}, {K: 255}, {K: 254, M: 1}, {K: 1, M: 254},
		{K: 128, M: 127}, {K: 4, M: 2}} {
		n := k.K + k.M
		texts := []string{"", "x", "abc", strings.Repeat("text", 300)}
		if n == api.MaxShards {
			texts = texts[3:] // so many shards take their time
		}
		for _, data := range texts {
			stores := some(t, n)
			wantRun(t, object.PutJob(k, "a", data), stores, 2*n, api.Result{})
			wantLaid(t, stores, k, data)
			wantRun(t, object.GetJob(k, "a", sha.Sum(data)), stores, n, api.Result{Texts: []string{data}})
			for i := range k.M {
				stores[i].Wipe()
			}
			wantRun(t, object.GetJob(k, "a", ""), stores, n, api.Result{Texts: []string{data}})
			wantRun(t, object.ListJob(k, ""), stores, n, api.Result{Ids: []string{"a"}})
			wantRun(t, object.ScrubJob(k, "a", ""), stores, n+k.M, api.Result{N: k.M})
			wantLaid(t, stores, k, data)
			for i := range k.M + 1 {
				stores[i].Wipe()
			}
			lost := api.ErrLost
			if k.K == 1 {
				lost = api.ErrNone
			}
			wantRun(t, object.GetJob(k, "a", ""), stores, n, api.Result{Code: lost})
			wantRun(t, object.ScrubJob(k, "a", ""), stores, n, api.Result{Code: lost})
		}
	}
}

func TestAnyStoreOfASingleKitIsEnough(t *testing.T) {
	k := object.Single(object.Kit{K: 3, M: 2})
	for i := range 5 {
		stores := some(t, 5)
		wantRun(t, object.PutJob(k, "a", "name"), stores, 10, api.Result{})
		for at, s := range stores {
			if at != i {
				s.Wipe()
			}
		}
		wantRun(t, object.GetJob(k, "a", ""), stores, 5, api.Result{Texts: []string{"name"}})
		// Another kit of as many stores does not take the shard for its own.
		wantRun(t, object.GetJob(object.Kit{K: 3, M: 2}, "a", ""), stores, 5, api.Result{Code: api.ErrLost})
	}
}

// Promise 10.2.

func TestExample(t *testing.T) {
	stores := some(t, 3)
	wantRun(t, object.PutJob(small, "a", "abc"), stores, 6, api.Result{})
	wantLaid(t, stores, small, "abc")
	for i := range stores {
		now := slices.Clone(stores)
		now[i] = stores[i].Fork()
		now[i].Wipe()
		wantRun(t, object.GetJob(small, "a", ""), now, 3, api.Result{Texts: []string{"abc"}})
	}
}

func TestPutAsksInOrder(t *testing.T) {
	j := object.PutJob(small, "a", "abc")
	want := slices.Concat(asks(3, api.RGet, "a", nil), asks(3, api.RPut, "a", shards(t, small, "abc")), asks(3, api.RDel, "a", nil))
	answers := slices.Concat(slices.Repeat([]api.Resp{{Code: api.ErrNone}}, 3), []api.Resp{{}, {Code: api.ErrFail}, {}}, make([]api.Resp, 3))
	if asked := record(t, j, row(answers)); !slices.Equal(asked, want) {
		t.Errorf("asked %v, want %v", asked, want)
	}
	wantOver(t, j, api.Result{Code: api.ErrFail}, 9)
}

func TestPutOfWhatIsThere(t *testing.T) {
	for _, k := range []object.Kit{small, {K: 1, M: 2}, {K: 3, M: 2}, {K: 2}, {K: 1}} {
		n := k.K + k.M
		stores := laid(t, k, "abc")
		for i := range k.M + 1 {
			if i > 0 {
				stores[i-1].Wipe()
			}
			// What is found counts, however many shards it has; nothing is put.
			wantRun(t, object.PutJob(k, "a", "abc"), stores, n, api.Result{})
			for _, other := range []string{"", "ab", "abd", "abcd", "abc\x00"} {
				wantRun(t, object.PutJob(k, "a", other), stores, n, api.Result{Code: api.ErrClash})
			}
		}
		wantRun(t, object.GetJob(k, "a", ""), stores, n, api.Result{Texts: []string{"abc"}})
		wantRun(t, object.PutJob(k, "b", "other"), stores, 2*n, api.Result{})
		wantRun(t, object.GetJob(k, "b", sha.Sum("other")), stores, n, api.Result{Texts: []string{"other"}})
	}
}

func TestPutOfNoDataThatAreThere(t *testing.T) {
	stores := some(t, 3)
	wantRun(t, object.PutJob(small, "a", ""), stores, 6, api.Result{})
	wantRun(t, object.PutJob(small, "a", ""), stores, 3, api.Result{})
	wantRun(t, object.PutJob(small, "a", "x"), stores, 3, api.Result{Code: api.ErrClash})
	wantRun(t, object.GetJob(small, "a", ""), stores, 3, api.Result{Texts: []string{""}})
}

func TestPutOfAsManyBytesAsMayBe(t *testing.T) {
	most := strings.Repeat("0123456789abcdef", api.MaxBytes/16)
	for _, k := range []object.Kit{small, {K: 1}, {K: 1, M: 1}, {K: 3, M: 1}} {
		n := k.K + k.M
		stores := some(t, n)
		wantRun(t, object.PutJob(k, "a", most), stores, 2*n, api.Result{})
		for i := range k.M {
			stores[i].Wipe()
		}
		wantRun(t, object.GetJob(k, "a", ""), stores, n, api.Result{Texts: []string{most}})
		wantOver(t, object.PutJob(k, "b", most+"x"), api.Result{Code: api.ErrLong}, 0)
		wantOver(t, object.PutJob(k, "", most+"x"), api.Result{Code: api.ErrLong}, 0)
		wantOver(t, object.PutJob(k, "a", most+most), api.Result{Code: api.ErrLong}, 0)
		times := 0
		object.Put(nil, k, "b", most+"x", func(e api.Code, left int) {
			times++
			if e != api.ErrLong || left != 0 {
				t.Errorf("%d, %d", int(e), left)
			}
		})
		if times != 1 {
			t.Errorf("then was called %d times", times)
		}
	}
}

func TestNamesThatMayNotBe(t *testing.T) {
	// No store has such a name, and each refuses to be given one.
	for _, name := range []string{"", "a b", "\x7f", "é", strings.Repeat("n", 97)} {
		stores := some(t, 3)
		wantRun(t, object.PutJob(small, name, "abc"), stores, 9, api.Result{Code: api.ErrForm})
		wantRun(t, object.GetJob(small, name, ""), stores, 3, api.Result{Code: api.ErrNone})
		wantRun(t, object.DelJob(small, name), stores, 3, api.Result{Code: api.ErrNone})
		wantRun(t, object.ScrubJob(small, name, ""), stores, 3, api.Result{Code: api.ErrNone})
	}
	stores := some(t, 3)
	wantRun(t, object.PutJob(small, strings.Repeat("n", 96), "abc"), stores, 6, api.Result{})
}

func TestPutWhereFindingIsRefused(t *testing.T) {
	stores := some(t, 3)
	stores[1].Down(true)
	stores[2].Down(true)
	// One that has nothing, two that are away: it may be there.
	wantRun(t, object.PutJob(small, "a", "abc"), stores, 3, api.Result{Code: api.ErrDown})
	stores[2].Down(false)
	stores[2].Fail(1)
	stores[0].Fail(1)
	wantRun(t, object.PutJob(small, "a", "abc"), stores, 3, api.Result{Code: api.ErrFail})
	// Two that have nothing: it is not there, but the third refuses its shard.
	wantRun(t, object.PutJob(small, "a", "abc"), stores, 9, api.Result{Code: api.ErrDown})
	for i, s := range stores {
		if len(s.Names()) != 0 {
			t.Errorf("at %d: %q", i, s.Names())
		}
	}
}

func TestPutOverWhatIsLost(t *testing.T) {
	stores := laid(t, small, "abc")
	stores[0].Set("a", "junk")
	stores[1].Set("a", "")
	wantRun(t, object.PutJob(small, "a", "another"), stores, 6, api.Result{})
	wantLaid(t, stores, small, "another")
	// One torn put is what is left of a crash.
	stores = some(t, 3)
	stores[0].Torn(api.Req{Kind: api.RPut, Name: "a", Data: shards(t, small, "abc")[0]}, 20)
	wantRun(t, object.PutJob(small, "a", "abc"), stores, 6, api.Result{})
	wantLaid(t, stores, small, "abc")
}

func TestPutThatFindsNoRoom(t *testing.T) {
	long := len(shards(t, small, "abc")[0]) + 1
	for i := range 3 {
		for _, x := range []struct {
			room  int
			steps int
			code  api.Code
		}{{long - 1, 9, api.ErrQuota}, {long, 6, api.OK}} {
			stores := some(t, 3)
			stores[i], _ = store.New(x.room)
			wantRun(t, object.PutJob(small, "a", "abc"), stores, x.steps, api.Result{Code: x.code})
			for at, s := range stores {
				if _, there := s.Get("a"); there != (x.code == api.OK) {
					t.Errorf("room %d at %d: at %d there: %t", x.room, i, at, there)
				}
			}
		}
	}
}

// failing answers as stores do, but with that code to such requests to some stores.
func failing(stores []*store.Store, code map[api.Req]api.Code) func(int, api.Req) api.Resp {
	return func(_ int, r api.Req) api.Resp {
		if c := code[api.Req{Store: r.Store, Kind: r.Kind}]; c != api.OK {
			return api.Resp{Code: c}
		}
		return port.Answer(stores, r)
	}
}

func TestPutThatFailsTellsWhatIsLeft(t *testing.T) {
	put := func(i int) api.Req { return api.Req{Store: i, Kind: api.RPut} }
	del := func(i int) api.Req { return api.Req{Store: i, Kind: api.RDel} }
	for i, x := range []struct {
		faults map[api.Req]api.Code
		want   api.Result
		there  []bool
	}{
		{map[api.Req]api.Code{put(2): api.ErrFail}, api.Result{Code: api.ErrFail}, []bool{false, false, false}},
		{map[api.Req]api.Code{put(2): api.ErrFail, del(2): api.ErrFail}, api.Result{Code: api.ErrFail}, []bool{false, false, false}},
		{map[api.Req]api.Code{put(2): api.ErrFail, del(0): api.ErrDown}, api.Result{Code: api.ErrFail, N: 1}, []bool{true, false, false}},
		{map[api.Req]api.Code{put(0): api.ErrDown, del(1): api.ErrDown, del(2): api.ErrFail}, api.Result{Code: api.ErrDown, N: 2}, []bool{false, true, true}},
		{map[api.Req]api.Code{put(1): api.ErrQuota, put(2): api.ErrDown}, api.Result{Code: api.ErrQuota}, []bool{false, false, false}},
		{map[api.Req]api.Code{put(0): api.ErrFail, put(1): api.ErrDown, put(2): api.ErrQuota}, api.Result{Code: api.ErrFail}, []bool{false, false, false}},
		// What a deletion says was not there is no longer there.
		{map[api.Req]api.Code{put(0): api.ErrFail, del(1): api.ErrNone}, api.Result{Code: api.ErrFail}, []bool{false, true, false}},
		// A fault of a put may be any code, ErrNone too.
		{map[api.Req]api.Code{put(1): api.ErrNone}, api.Result{Code: api.ErrNone}, []bool{false, false, false}},
	} {
		stores := some(t, 3)
		j := object.PutJob(small, "a", "abc")
		if asked := record(t, j, failing(stores, x.faults)); len(asked) != 9 {
			t.Errorf("%d: asked %v", i, asked)
		}
		wantOver(t, j, x.want, 9)
		for at, s := range stores {
			if _, there := s.Get("a"); there != x.there[at] {
				t.Errorf("%d: at %d there: %t", i, at, there)
			}
		}
	}
}

func TestPutByAllCodes(t *testing.T) {
	codes := []api.Code{api.OK, api.ErrNone, api.ErrFail, api.ErrDown}
	for _, k := range []object.Kit{{K: 1}, {K: 1, M: 1}, {K: 2}} {
		n := k.K + k.M
		each(3*n, len(codes), func(l []int) {
			var answers []api.Resp
			for _, c := range l {
				answers = append(answers, api.Resp{Code: codes[c]})
			}
			wantScript(t, object.PutJob(k, "a", "abc"), putScript(t, k, "a", "abc"), row(answers))
		})
	}
}

// Promise 10.3, and what it is to find a name.

// sorts is answers of all sorts that the store i may give to a get.
func sorts(t testing.TB, k object.Kit, i int) []api.Resp {
	n := k.K + k.M
	one, two := shards(t, k, "one"), shards(t, k, "other")
	other := func(k, m int) api.Resp { return api.Resp{Data: shards(t, object.Kit{K: k, M: m}, "one")[i]} }
	return []api.Resp{
		{Data: one[i]},
		{Data: two[i]},
		{Data: forged(t, k, i, "one")},
		{Code: api.ErrNone},
		{Code: api.ErrDown},
		{Code: api.ErrFail, Data: one[i], Names: []string{"a"}},
		{Data: one[(i+1)%n]},
		{Data: turned(two[i], 20, 2)},
		other(k.M+1, k.K-1),
		other(k.K, k.M+1),
		other(k.K+1, k.M),
		{},
	}
}

// kits is the kits of so many stores.
func kits(n int) []object.Kit {
	var l []object.Kit
	for k := 1; k <= n; k++ {
		l = append(l, object.Kit{K: k, M: n - k})
	}
	return l
}

func TestFindingByAllAnswers(t *testing.T) {
	wants := []string{"", sha.Sum("one"), sha.Sum("other"), sha.Sum("none of them"), "one"}
	for n := 1; n <= 3; n++ {
		for _, k := range kits(n) {
			var all [][]api.Resp
			for i := range n {
				all = append(all, sorts(t, k, i))
			}
			each(n, len(all[0]), func(l []int) {
				answers := make([]api.Resp, n)
				for i, sort := range l {
					answers[i] = all[i][sort]
				}
				for _, want := range wants {
					wantScript(t, object.GetJob(k, "a", want), getScript(k, "a", want), row(answers))
					wantScript(t, object.ScrubJob(k, "a", want), scrubScript(t, k, "a", want), row(answers))
				}
				wantScript(t, object.PutJob(k, "a", "one"), putScript(t, k, "a", "one"), row(answers))
			})
		}
	}
}

func TestFindingByManyAnswers(t *testing.T) {
	d := dice(10)
	for n := 4; n <= 9; n++ {
		for _, k := range kits(n) {
			var all [][]api.Resp
			for i := range n {
				all = append(all, sorts(t, k, i))
			}
			for range 150 {
				// Good shards are more, so that something may be found.
				rare := 1 + d.upTo(6)
				answers := make([]api.Resp, 3*n)
				for i := range answers {
					answers[i] = all[i%n][0]
					if d.upTo(rare) != 0 || i >= n {
						answers[i] = all[i%n][d.upTo(len(all[0]))]
					}
				}
				want := []string{"", "", sha.Sum("one"), sha.Sum("other")}[d.upTo(4)]
				data := []string{"one", "other", "a third"}[d.upTo(3)]
				wantScript(t, object.GetJob(k, "a", want), getScript(k, "a", want), row(answers))
				wantScript(t, object.ScrubJob(k, "a", want), scrubScript(t, k, "a", want), row(answers))
				wantScript(t, object.PutJob(k, "a", data), putScript(t, k, "a", data), row(answers))
			}
		}
	}
}

func TestWhyNothingIsFound(t *testing.T) {
	none, junk, down, fail := api.Resp{Code: api.ErrNone}, api.Resp{Data: "junk"}, api.Resp{Code: api.ErrDown}, api.Resp{Code: api.ErrFail}
	two := object.Kit{K: 2, M: 2}
	for _, x := range []struct {
		k       object.Kit
		answers []api.Resp
		want    api.Code
	}{
		{small, []api.Resp{none, none, none}, api.ErrNone},
		{small, []api.Resp{junk, none, none}, api.ErrLost},
		{small, []api.Resp{junk, junk, junk}, api.ErrLost},
		{small, []api.Resp{down, fail, down}, api.ErrDown},
		{small, []api.Resp{none, fail, down}, api.ErrFail},
		{small, []api.Resp{down, fail, junk}, api.ErrDown},
		{small, []api.Resp{none, down, none}, api.ErrNone},
		{small, []api.Resp{none, down, junk}, api.ErrLost},
		{small, []api.Resp{junk, junk, fail}, api.ErrLost},
		{two, []api.Resp{none, none, down, fail}, api.ErrDown},
		{two, []api.Resp{junk, none, fail, down}, api.ErrFail},
		{two, []api.Resp{fail, junk, junk, down}, api.ErrFail},
		{two, []api.Resp{none, none, none, fail}, api.ErrNone},
		{two, []api.Resp{none, junk, none, fail}, api.ErrLost},
		{object.Kit{K: 2}, []api.Resp{none, down}, api.ErrNone},
		{object.Kit{K: 2}, []api.Resp{down, junk}, api.ErrLost},
		{object.Kit{K: 2}, []api.Resp{down, fail}, api.ErrDown},
		{object.Kit{K: 1, M: 2}, []api.Resp{none, junk, fail}, api.ErrFail},
		{object.Kit{K: 1, M: 2}, []api.Resp{none, none, junk}, api.ErrLost},
		{object.Kit{K: 1}, []api.Resp{none}, api.ErrNone},
		{object.Kit{K: 1}, []api.Resp{junk}, api.ErrLost},
		{object.Kit{K: 1}, []api.Resp{fail}, api.ErrFail},
		// Any other code is one of a store that is away.
		{small, []api.Resp{{Code: -1}, {Code: api.ErrRange}, none}, -1},
		{small, []api.Resp{none, {Code: 999}, {Code: api.ErrForm}}, 999},
	} {
		for _, j := range []*port.Job{object.GetJob(x.k, "a", ""), object.ScrubJob(x.k, "a", ""), object.GetJob(x.k, "a", sha.Sum("abc"))} {
			record(t, j, row(x.answers))
			wantOver(t, j, api.Result{Code: x.want}, len(x.answers))
		}
	}
}

func TestTooFewGoodShardsAreRot(t *testing.T) {
	// One good shard of three, the others away: it may be there.
	stores := laid(t, small, "abc")
	stores[0].Down(true)
	stores[2].Fail(1)
	wantRun(t, object.GetJob(small, "a", ""), stores, 3, api.Result{Code: api.ErrDown})
	stores[2].Wipe()
	wantRun(t, object.GetJob(small, "a", ""), stores, 3, api.Result{Code: api.ErrLost})
}

func TestFamilies(t *testing.T) {
	k := object.Kit{K: 2, M: 4}
	one, two, three := shards(t, k, "one"), shards(t, k, "other"), shards(t, k, "third")
	for i, x := range []struct {
		at   []string
		want string
		data string
		code api.Code
	}{
		// The family whose first shard comes first, not the one with the most.
		{[]string{two[0], one[1], one[2], one[3], one[4], two[5]}, "", "other", api.OK},
		{[]string{one[0], two[1], two[2], two[3], two[4], one[5]}, "", "one", api.OK},
		{[]string{"", "", two[2], one[3], two[4], one[5]}, "", "other", api.OK},
		// But those with fewer than K are passed over.
		{[]string{two[0], three[1], one[2], "junk", "", one[5]}, "", "one", api.OK},
		{[]string{two[0], three[1], "", "junk", "", one[5]}, "", "", api.ErrLost},
		// And those of another Id than the wanted one.
		{[]string{two[0], two[1], two[2], two[3], one[4], one[5]}, sha.Sum("one"), "one", api.OK},
		{[]string{two[0], two[1], two[2], two[3], one[4], one[5]}, sha.Sum("other"), "other", api.OK},
		{[]string{two[0], two[1], two[2], two[3], one[4], one[5]}, sha.Sum("third"), "", api.ErrLost},
		{[]string{two[0], two[1], two[2], two[3], two[4], one[5]}, sha.Sum("one"), "", api.ErrLost},
		{[]string{two[0], two[1], two[2], two[3], two[4], one[5]}, "other", "", api.ErrLost},
		// Good shards lie where they belong.
		{[]string{one[1], one[0], one[3], one[2], one[5], one[4]}, "", "", api.ErrLost},
		{[]string{one[0], one[0], one[0], one[0], one[0], one[0]}, "", "", api.ErrLost},
		{[]string{one[0], one[0], one[0], one[0], one[0], one[5]}, "", "one", api.OK},
	} {
		stores := some(t, 6)
		for at, s := range x.at {
			if s != "" {
				stores[at].Set("a", s)
			}
		}
		want := api.Result{Code: x.code}
		if x.code == api.OK {
			want.Texts = []string{x.data}
		}
		j := object.GetJob(k, "a", x.want)
		wantRun(t, j, stores, 6, want)
		if t.Failed() {
			t.Fatalf("row %d", i)
		}
	}
}

func TestLaterChoicesAndLaterFamilies(t *testing.T) {
	k := object.Kit{K: 2, M: 3}
	one, two := shards(t, k, "one"), shards(t, k, "two")
	for _, x := range []struct {
		at   []string
		want api.Result
	}{
		// Any two that belong together count, whatever comes ahead of them.
		{[]string{forged(t, k, 0, "one"), one[1], one[2], one[3], one[4]}, api.Result{Texts: []string{"one"}}},
		{[]string{forged(t, k, 0, "one"), forged(t, k, 1, "one"), forged(t, k, 2, "one"), one[3], one[4]}, api.Result{Texts: []string{"one"}}},
		{[]string{one[0], forged(t, k, 1, "one"), forged(t, k, 2, "one"), forged(t, k, 3, "one"), one[4]}, api.Result{Texts: []string{"one"}}},
		// Of a family that comes to nothing the next one is looked at.
		{[]string{forged(t, k, 0, "one"), forged(t, k, 1, "one"), two[2], one[3], two[4]}, api.Result{Texts: []string{"two"}}},
		{[]string{forged(t, k, 0, "one"), two[1], two[2], one[3], forged(t, k, 4, "one")}, api.Result{Texts: []string{"two"}}},
		{[]string{forged(t, k, 0, "one"), forged(t, k, 1, "one"), forged(t, k, 2, "two"), one[3], two[4]}, api.Result{Code: api.ErrLost}},
	} {
		stores := some(t, 5)
		for at, s := range x.at {
			stores[at].Set("a", s)
		}
		wantRun(t, object.GetJob(k, "a", ""), stores, 5, x.want)
	}
}

func TestAThousandChoicesOfAFamily(t *testing.T) {
	// Of 60 stores the choices 0 1 to 19 59 are 990; 20 30 is the thousandth.
	k := object.Kit{K: 2, M: 58}
	one, two := shards(t, k, "one"), shards(t, k, "two")
	at := func(from int, others bool) []*store.Store {
		stores := some(t, 60)
		for i, s := range stores {
			switch {
			case others && i >= 50:
				s.Set("a", two[i])
			case i == 20 || i >= from:
				s.Set("a", one[i])
			default:
				s.Set("a", forged(t, k, i, "one"))
			}
		}
		return stores
	}
	wantRun(t, object.GetJob(k, "a", ""), at(30, false), 60, api.Result{Texts: []string{"one"}})
	wantRun(t, object.GetJob(k, "a", ""), at(31, false), 60, api.Result{Code: api.ErrLost})
	wantRun(t, object.ScrubJob(k, "a", ""), at(30, false), 60, api.Result{})
	wantRun(t, object.ScrubJob(k, "a", ""), at(31, false), 60, api.Result{Code: api.ErrLost})
	// Of a family of 50 more than a thousand choices come to nothing: a later one has a thousand of its own.
	wantRun(t, object.GetJob(k, "a", ""), at(60, true), 60, api.Result{Texts: []string{"two"}})
	wantRun(t, object.GetJob(k, "a", sha.Sum("one")), at(60, true), 60, api.Result{Code: api.ErrLost})
}

func TestAllChoicesAreTried(t *testing.T) {
	// Wherever K shards that belong together lie, they are chosen.
	for _, k := range []object.Kit{{K: 1, M: 5}, {K: 2, M: 4}, {K: 3, M: 3}, {K: 4, M: 2}, {K: 5, M: 2}, {K: 6}} {
		n := k.K + k.M
		data := "a text of some length"
		good := shards(t, k, data)
		for set := range 1 << n {
			stores, count := some(t, n), 0
			for i := range n {
				if set>>i&1 == 1 {
					count++
					stores[i].Set("a", good[i])
				} else {
					stores[i].Set("a", forged(t, k, i, data))
				}
			}
			want := api.Result{Code: api.ErrLost}
			if count >= k.K {
				want = api.Result{Texts: []string{data}}
			}
			wantRun(t, object.GetJob(k, "a", ""), stores, n, want)
		}
	}
}

// longer is the bytes of a shard with the Id of data, but another Long.
func longer(t testing.TB, k object.Kit, index int, data string) string {
	t.Helper()
	s, code := shard.Encode(shard.S{K: k.K, M: k.M, Index: index, Long: len(data) + 1, Id: sha.Sum(data),
		Data: strings.Repeat("x", (len(data)+k.K)/k.K)})
	if code != api.OK {
		t.Fatal(int(code))
	}
	return s
}

func TestShardsOfAnotherLengthAreAnotherFamily(t *testing.T) {
	stores := laid(t, small, "abc")
	stores[0].Set("a", longer(t, small, 0, "abc"))
	wantRun(t, object.GetJob(small, "a", sha.Sum("abc")), stores, 3, api.Result{Texts: []string{"abc"}})
	wantRun(t, object.ScrubJob(small, "a", sha.Sum("abc")), stores, 4, api.Result{N: 1})
	wantLaid(t, stores, small, "abc")
	stores[0].Set("a", longer(t, small, 0, "abc"))
	stores[1].Set("a", longer(t, small, 1, "abc"))
	wantRun(t, object.GetJob(small, "a", ""), stores, 3, api.Result{Code: api.ErrLost})
}

func TestDel(t *testing.T) {
	codes := []api.Code{api.OK, api.ErrNone, api.ErrDown, api.ErrFail}
	for n := 1; n <= 4; n++ {
		for _, k := range kits(n) {
			each(n, len(codes), func(l []int) {
				var answers []api.Resp
				for _, c := range l {
					answers = append(answers, api.Resp{Code: codes[c], Data: "d", Names: []string{"n"}})
				}
				wantScript(t, object.DelJob(k, "a"), delScript(k, "a"), row(answers))
			})
		}
	}
}

func TestDelAtStores(t *testing.T) {
	stores := laid(t, small, "abc")
	wantRun(t, object.PutJob(small, "b", "x"), stores, 6, api.Result{})
	wantRun(t, object.DelJob(small, "a"), stores, 3, api.Result{})
	wantRun(t, object.DelJob(small, "a"), stores, 3, api.Result{Code: api.ErrNone})
	wantRun(t, object.GetJob(small, "a", ""), stores, 3, api.Result{Code: api.ErrNone})
	wantRun(t, object.ListJob(small, ""), stores, 3, api.Result{Ids: []string{"b"}})
	stores[1].Wipe()
	wantRun(t, object.DelJob(small, "b"), stores, 3, api.Result{})
	stores[2].Down(true)
	wantRun(t, object.DelJob(small, "b"), stores, 3, api.Result{Code: api.ErrDown})
	stores[0].Fail(1)
	wantRun(t, object.DelJob(small, "b"), stores, 3, api.Result{Code: api.ErrFail})
}

func TestList(t *testing.T) {
	codes := []api.Code{api.OK, api.ErrNone, api.ErrDown, api.ErrFail}
	names := [][]string{{"b", "a"}, nil, {"c", "a", "c"}, {"\xff", ""}}
	for n := 1; n <= 4; n++ {
		for _, k := range kits(n) {
			each(n, len(codes), func(l []int) {
				var answers []api.Resp
				for i, c := range l {
					answers = append(answers, api.Resp{Code: codes[c], Data: "d", Names: names[i]})
				}
				wantScript(t, object.ListJob(k, "x"), listScript(k, "x"), row(answers))
			})
		}
	}
}

func TestListAtStores(t *testing.T) {
	stores := some(t, 3)
	wantRun(t, object.ListJob(small, ""), stores, 3, api.Result{})
	for _, name := range []string{"p/b", "p/a", "q", "p"} {
		wantRun(t, object.PutJob(small, name, "data of "+name), stores, 6, api.Result{})
	}
	wantRun(t, object.ListJob(small, ""), stores, 3, api.Result{Ids: []string{"p", "p/a", "p/b", "q"}})
	wantRun(t, object.ListJob(small, "p/"), stores, 3, api.Result{Ids: []string{"p/a", "p/b"}})
	wantRun(t, object.ListJob(small, "r"), stores, 3, api.Result{})
	stores[0].Wipe()
	stores[1].Set("p/only", "one")
	wantRun(t, object.ListJob(small, "p/"), stores, 3, api.Result{Ids: []string{"p/a", "p/b", "p/only"}})
	stores[1].Down(true)
	wantRun(t, object.ListJob(small, "p/"), stores, 3, api.Result{Ids: []string{"p/a", "p/b"}})
	stores[0].Fail(1)
	wantRun(t, object.ListJob(small, "p/"), stores, 3, api.Result{Code: api.ErrFail})
	stores[0].Down(true)
	stores[2].Down(true)
	wantRun(t, object.ListJob(small, "p/"), stores, 3, api.Result{Code: api.ErrDown})
	wantRun(t, object.ListJob(object.Kit{K: 1, M: 2}, ""), stores, 3, api.Result{Code: api.ErrDown})
	stores[2].Down(false)
	wantRun(t, object.ListJob(object.Kit{K: 1, M: 2}, "q"), stores, 3, api.Result{Ids: []string{"q"}})
	wantRun(t, object.ListJob(object.Kit{K: 3}, "q"), stores, 3, api.Result{Code: api.ErrDown})
}

// Promise 10.4.

func TestScrubWhereNothingIsWrong(t *testing.T) {
	for _, k := range []object.Kit{small, {K: 1}, {K: 2}, {K: 1, M: 2}, {K: 3, M: 3}} {
		stores := laid(t, k, "abc")
		n := k.K + k.M
		wantRun(t, object.ScrubJob(k, "a", ""), stores, n, api.Result{})
		wantRun(t, object.ScrubJob(k, "a", sha.Sum("abc")), stores, n, api.Result{})
		wantRun(t, object.ScrubJob(k, "a", sha.Sum("abd")), stores, n, api.Result{Code: api.ErrLost})
		wantRun(t, object.ScrubJob(k, "b", ""), stores, n, api.Result{Code: api.ErrNone})
		wantLaid(t, stores, k, "abc")
	}
}

func TestScrubPutsStoreByStore(t *testing.T) {
	k := object.Kit{K: 2, M: 3}
	one, two := shards(t, k, "one"), shards(t, k, "two")
	answers := []api.Resp{{Data: two[0]}, {Data: one[1]}, {Code: api.ErrNone}, {Data: one[3]}, {Code: api.ErrDown},
		{}, {Code: api.ErrFail}, {Code: api.ErrDown}}
	j := object.ScrubJob(k, "a", "")
	var want []api.Req
	for _, i := range []int{0, 2, 4} {
		want = append(want, api.Req{Store: i, Kind: api.RPut, Name: "a", Data: one[i]})
	}
	// A put that fails does not keep the next one from being asked.
	if asked := record(t, j, row(answers)); !slices.Equal(asked, append(asks(5, api.RGet, "a", nil), want...)) {
		t.Errorf("asked %v", asked)
	}
	wantOver(t, j, api.Result{Code: api.ErrFail, N: 1}, 8)
}

func TestScrubOfWhatFitsButIsForged(t *testing.T) {
	// It is a good shard of the family, so that it stays.
	stores := laid(t, small, "abc")
	stores[0].Set("a", forged(t, small, 0, "abc"))
	wantRun(t, object.ScrubJob(small, "a", ""), stores, 3, api.Result{})
	if s, _ := stores[0].Get("a"); s != forged(t, small, 0, "abc") {
		t.Errorf("%q", s)
	}
}

func TestScrubOfAStoreThatRefuses(t *testing.T) {
	stores := laid(t, small, "abc")
	stores[2].Down(true)
	wantRun(t, object.ScrubJob(small, "a", ""), stores, 4, api.Result{Code: api.ErrDown})
	stores[2].Down(false)
	stores[2].Wipe()
	stores[2].Set("much", strings.Repeat("x", 1<<17))
	for i := range 8 {
		stores[2].Set("much"+strconv.Itoa(i), strings.Repeat("x", 1<<17))
	}
	wantRun(t, object.ScrubJob(small, "a", ""), stores, 4, api.Result{Code: api.ErrQuota})
	stores[2].Wipe()
	stores[2].Fail(1)
	wantRun(t, object.ScrubJob(small, "a", ""), stores, 4, api.Result{N: 1})
	wantLaid(t, stores, small, "abc")
	wantRun(t, object.ScrubJob(small, "a", ""), stores[:2], 4, api.Result{Code: api.ErrRange})
}

// Promise 10.5.

func TestJobsTellWhatCallsTell(t *testing.T) {
	d := dice(5)
	for range 400 {
		k := kits(1 + d.upTo(5))
		kit := k[d.upTo(len(k))]
		n := kit.K + kit.M
		var answers []api.Resp
		for i := range 3 * n {
			l := sorts(t, kit, i%n)
			a := l[d.upTo(len(l))]
			if d.upTo(3) > 0 {
				a = l[0]
			}
			answers = append(answers, a)
		}
		var got []api.Result
		var works []*port.Job
		work := func(run func(io *port.IO, end func(r api.Result))) {
			times, at := 0, len(got)
			got = append(got, api.Result{})
			works = append(works, port.Start(func(io *port.IO) {
				run(io, func(r api.Result) {
					if times++; times > 1 {
						t.Errorf("then was called %d times", times)
					}
					got[at] = r
					io.End(r)
				})
			}))
		}
		want := sha.Sum("one")
		work(func(io *port.IO, end func(api.Result)) {
			object.Put(io, kit, "a", "one", func(e api.Code, left int) { end(api.Result{Code: e, N: left}) })
		})
		work(func(io *port.IO, end func(api.Result)) {
			object.Get(io, kit, "a", want, func(data string, e api.Code) {
				if e != api.OK && data != "" {
					t.Errorf("%q beside %d", data, int(e))
				}
				r := api.Result{Code: e}
				if e == api.OK {
					r.Texts = []string{data}
				}
				end(r)
			})
		})
		work(func(io *port.IO, end func(api.Result)) {
			object.Del(io, kit, "a", func(e api.Code) { end(api.Result{Code: e}) })
		})
		work(func(io *port.IO, end func(api.Result)) {
			object.List(io, kit, "a", func(names []string, e api.Code) { end(api.Result{Code: e, Ids: names}) })
		})
		work(func(io *port.IO, end func(api.Result)) {
			object.Scrub(io, kit, "a", want, func(fixed int, e api.Code) { end(api.Result{Code: e, N: fixed}) })
		})
		for i, j := range []*port.Job{object.PutJob(kit, "a", "one"), object.GetJob(kit, "a", want), object.DelJob(kit, "a"),
			object.ListJob(kit, "a"), object.ScrubJob(kit, "a", want)} {
			asked := record(t, works[i], row(answers))
			if again := record(t, j, row(answers)); !slices.Equal(again, asked) {
				t.Errorf("asked %v, want %v", again, asked)
			}
			wantOver(t, j, got[i], len(asked))
			wantOver(t, works[i], got[i], len(asked))
		}
	}
}

func TestJobsInTurns(t *testing.T) {
	// Jobs at names of their own are the same, in whatever order their steps come.
	for seed := range 30 {
		d := dice(seed)
		stores := some(t, 3)
		jobs := make([]*port.Job, 6)
		for i := range jobs {
			jobs[i] = object.PutJob(small, "n"+strconv.Itoa(i), strings.Repeat("data", i))
		}
		inTurns(&d, stores, jobs, func(int, api.Req, api.Resp) {})
		for i, j := range jobs {
			wantOver(t, j, api.Result{}, 6)
			jobs[i] = object.GetJob(small, "n"+strconv.Itoa(i), "")
		}
		stores[seed%3].Wipe()
		inTurns(&d, stores, jobs, func(int, api.Req, api.Resp) {})
		for i, j := range jobs {
			wantOver(t, j, api.Result{Texts: []string{strings.Repeat("data", i)}}, 3)
		}
	}
}

// inTurns gives the jobs answers of the stores, one at a time, by dice, and tells them.
func inTurns(d *dice, stores []*store.Store, jobs []*port.Job, told func(job int, r api.Req, a api.Resp)) {
	for slices.ContainsFunc(jobs, func(j *port.Job) bool { return !j.Over() }) {
		i := d.upTo(len(jobs))
		if r, waits := jobs[i].Next(); waits {
			a := port.Answer(stores, r)
			told(i, r, a)
			jobs[i].Give(a)
		}
	}
}

func TestJobsInTurnsAtOneName(t *testing.T) {
	// What each comes to hangs on its own answers alone.
	for seed := range 200 {
		d := dice(seed)
		k := []object.Kit{small, {K: 1, M: 2}, {K: 2, M: 2}, {K: 2}}[seed%4]
		n := k.K + k.M
		stores := some(t, n)
		jobs := []*port.Job{object.PutJob(k, "a", "one"), object.GetJob(k, "a", ""), object.PutJob(k, "a", "two"),
			object.ScrubJob(k, "a", ""), object.DelJob(k, "a"), object.ListJob(k, ""), object.ScrubJob(k, "a", sha.Sum("one"))}
		scripts := []script{putScript(t, k, "a", "one"), getScript(k, "a", ""), putScript(t, k, "a", "two"),
			scrubScript(t, k, "a", ""), delScript(k, "a"), listScript(k, ""), scrubScript(t, k, "a", sha.Sum("one"))}
		asked, answers := make([][]api.Req, len(jobs)), make([][]api.Resp, len(jobs))
		inTurns(&d, stores, jobs, func(job int, r api.Req, a api.Resp) {
			asked[job], answers[job] = append(asked[job], r), append(answers[job], a)
			stores[d.upTo(n)].Fail(d.upTo(8) / 7)
		})
		for i, j := range jobs {
			want, r := scripts[i](row(answers[i]))
			if !slices.Equal(asked[i], want) {
				t.Errorf("asked %v, want %v", asked[i], want)
			}
			wantOver(t, j, r, len(want))
		}
	}
}

// Promise 10.6.

// harms is a shard's bytes, harmed in all ways that a kit is to bear; false is that it is gone.
func harms(d *dice, s string) (string, bool) {
	switch d.upTo(4) {
	case 0:
		return "", false
	case 1:
		return s[:d.upTo(len(s))], true
	case 2:
		return turned(s, d.upTo(len(s)-3), 1+d.upTo(4)), true
	}
	b := []byte(s)
	b[d.upTo(len(b))] ^= 1 << d.upTo(8)
	return string(b), true
}

func TestWhatWasPutIsGotAndScrubbed(t *testing.T) {
	d := dice(6)
	for n := 1; n <= 6; n++ {
		for _, k := range kits(n) {
			for set := range 1 << n {
				data := strings.Repeat("some text. ", d.upTo(9))
				stores := some(t, n)
				wantRun(t, object.PutJob(k, "a", data), stores, 2*n, api.Result{})
				bad := 0
				for i, s := range stores {
					if set>>i&1 == 0 {
						continue
					}
					bad++
					bytes, _ := s.Get("a")
					s.Wipe()
					if harmed, stays := harms(&d, bytes); stays {
						s.Set("a", harmed)
					}
				}
				if bad > k.M {
					wantLost(t, k, stores)
					continue
				}
				for _, want := range []string{"", sha.Sum(data)} {
					wantRun(t, object.GetJob(k, "a", want), stores, n, api.Result{Texts: []string{data}})
				}
				wantRun(t, object.ScrubJob(k, "a", ""), stores, n+bad, api.Result{N: bad})
				wantLaid(t, stores, k, data)
				wantRun(t, object.ScrubJob(k, "a", ""), stores, n, api.Result{})
			}
		}
	}
}

// wantLost is that neither a get nor a scrub makes something of what is left.
func wantLost(t *testing.T, k object.Kit, stores []*store.Store) {
	t.Helper()
	lost := api.ErrNone
	for _, s := range stores {
		if len(s.Names()) > 0 {
			lost = api.ErrLost
		}
	}
	wantRun(t, object.GetJob(k, "a", ""), stores, len(stores), api.Result{Code: lost})
	wantRun(t, object.ScrubJob(k, "a", ""), stores, len(stores), api.Result{Code: lost})
}

func TestAllTurnsOfAShardAreBorne(t *testing.T) {
	data := "a text that is kept"
	all := shards(t, small, data)
	for i, s := range all {
		for from := range len(s) {
			for bytes := 1; bytes <= min(4, len(s)-from); bytes++ {
				stores := laid(t, small, data)
				stores[i].Set("a", turned(s, from, bytes))
				wantRun(t, object.GetJob(small, "a", ""), stores, 3, api.Result{Texts: []string{data}})
				wantRun(t, object.ScrubJob(small, "a", ""), stores, 4, api.Result{N: 1})
				wantLaid(t, stores, small, data)
			}
			stores := laid(t, small, data)
			stores[i].Set("a", s[:from])
			wantRun(t, object.ScrubJob(small, "a", sha.Sum(data)), stores, 4, api.Result{N: 1})
			wantLaid(t, stores, small, data)
		}
	}
}

// The rules that hold everywhere.

func TestOneCallBehindTheOther(t *testing.T) {
	stores := some(t, 3)
	j := port.Start(func(io *port.IO) {
		object.Put(io, small, "a", "abc", func(put api.Code, left int) {
			object.List(io, small, "", func(names []string, listed api.Code) {
				object.Get(io, object.Kit{}, names[0], "", func(_ string, refused api.Code) {
					object.Get(io, small, names[0], "", func(data string, got api.Code) {
						object.Scrub(io, small, names[0], "", func(fixed int, scrubbed api.Code) {
							object.Del(io, small, names[0], func(deleted api.Code) {
								io.End(api.Result{Code: put + listed + got + scrubbed + deleted, N: int(refused), Ids: names, Texts: []string{data}})
							})
						})
					})
				})
			})
		})
	})
	wantRun(t, j, stores, 6+3+3+3+3, api.Result{N: int(api.ErrRange), Ids: []string{"a"}, Texts: []string{"abc"}})
	wantRun(t, object.ListJob(small, ""), stores, 3, api.Result{})
}

func TestNobodyIsTold(t *testing.T) {
	for _, k := range []object.Kit{{}, small} {
		for i, call := range []func(io *port.IO){
			func(io *port.IO) { object.Put(io, k, "a", "abc", nil) },
			func(io *port.IO) { object.Get(io, k, "a", "", nil) },
			func(io *port.IO) { object.Scrub(io, k, "a", "", nil) },
			func(io *port.IO) { object.List(io, k, "", nil) },
			func(io *port.IO) { object.Del(io, k, "a", nil) },
		} {
			call(nil)
			stores := some(t, 3)
			steps := 0
			if k == small {
				steps = 3
				if i == 0 {
					steps = 6
				}
			}
			wantRun(t, port.Start(call), stores, steps, api.Result{})
			if i == 0 && k == small {
				wantLaid(t, stores, small, "abc")
			}
		}
	}
	object.Put(nil, small, "a", strings.Repeat("x", api.MaxBytes+1), nil)
}

func TestCallsBehindAnEndAskNothing(t *testing.T) {
	j := port.Start(func(io *port.IO) {
		io.End(api.Result{N: 1})
		object.Put(io, small, "a", "abc", func(api.Code, int) { t.Error("Put goes on") })
		object.Get(io, small, "a", "", func(string, api.Code) { t.Error("Get goes on") })
		object.Del(io, small, "a", func(api.Code) { t.Error("Del goes on") })
		object.List(io, small, "a", func([]string, api.Code) { t.Error("List goes on") })
		object.Scrub(io, small, "a", "", func(int, api.Code) { t.Error("Scrub goes on") })
	})
	wantOver(t, j, api.Result{N: 1}, 0)
}

func TestNamesThatAreToldAreNewMemory(t *testing.T) {
	names := []string{"b", "a", "spare"}
	var told []string
	j := port.Start(func(io *port.IO) {
		object.List(io, small, "", func(l []string, _ api.Code) { told = l })
	})
	record(t, j, row([]api.Resp{{Names: names[:2]}, {Names: names[:2]}, {Names: names[:2]}}))
	told[0] = "changed"
	_ = append(told[:1], "changed")
	if !slices.Equal(names, []string{"b", "a", "spare"}) {
		t.Errorf("changed: %q", names)
	}
	j = object.ListJob(small, "")
	record(t, j, row([]api.Resp{{Names: names[:2]}}))
	j.Result().Ids[0] = "changed"
	names[0] = "changed"
	wantOver(t, j, api.Result{Ids: []string{"a", "b"}}, 3)
}

func TestTheMostThatIsTriedEnds(t *testing.T) {
	// All shards fit, and no choice comes to anything.
	for _, k := range []object.Kit{{K: 40, M: 40}, {K: 1, M: 254}, {K: 2, M: 253}} {
		stores := some(t, k.K+k.M)
		for i, s := range stores {
			s.Set("a", forged(t, k, i, "a text"))
		}
		wantRun(t, object.GetJob(k, "a", ""), stores, k.K+k.M, api.Result{Code: api.ErrLost})
	}
}
