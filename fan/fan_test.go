package fan_test

import (
	"math"
	"reflect"
	"slices"
	"strconv"
	"strings"
	"sync"
	"testing"

	"garret/api"
	"garret/fan"
	"garret/port"
	"garret/store"
)

// some is n stores with room.
func some(t testing.TB, n int) []*store.Store {
	t.Helper()
	var stores []*store.Store
	for range n {
		s, code := store.New(1 << 20)
		if code != api.OK {
			t.Fatal(int(code))
		}
		stores = append(stores, s)
	}
	return stores
}

// texts is n texts that are told apart.
func texts(n int) []string {
	var l []string
	for i := range n {
		l = append(l, "text "+strconv.Itoa(i))
	}
	return l
}

// told is what a then was called with: of each call those lists that it has.
type told struct {
	answers []api.Resp
	names   []string
	codes   []api.Code
}

func plainResps(l []api.Resp) []api.Resp {
	var out []api.Resp
	for _, r := range l {
		if len(r.Names) == 0 {
			r.Names = nil
		}
		out = append(out, r)
	}
	return out
}

func sameTold(a, b told) bool {
	return reflect.DeepEqual(plainResps(a.answers), plainResps(b.answers)) &&
		slices.Equal(a.names, b.names) && slices.Equal(a.codes, b.codes)
}

// plain is a result with nil in place of lists without an element.
func plain(r api.Result) api.Result {
	if len(r.Ids) == 0 {
		r.Ids = nil
	}
	if len(r.Texts) == 0 {
		r.Texts = nil
	}
	if len(r.Entries) == 0 {
		r.Entries = nil
	}
	if len(r.Snaps) == 0 {
		r.Snaps = nil
	}
	return r
}

func wantOver(t testing.TB, j *port.Job, want api.Result, steps int) {
	t.Helper()
	if j == nil {
		t.Fatal("no job")
	}
	if r, waits := j.Next(); waits || !j.Over() || j.Steps() != steps {
		t.Errorf("waits for %v (%t), over %t, steps %d, want %d", r, waits, j.Over(), j.Steps(), steps)
	}
	if got := j.Result(); !reflect.DeepEqual(plain(got), plain(want)) {
		t.Errorf("result %v, want %v", got, want)
	}
}

// wantRun is a job that ends behind so many steps, with that result.
func wantRun(t testing.TB, j *port.Job, stores []*store.Store, steps int, want api.Result) {
	t.Helper()
	if n, code := port.Run(j, stores, steps); n != steps || code != api.OK {
		t.Errorf("Run: %d steps, %d, want %d", n, int(code), steps)
	}
	wantOver(t, j, want, steps)
}

// play gives j the answers, one after the other, and tells what it asked.
func play(t testing.TB, j *port.Job, answers []api.Resp) []api.Req {
	t.Helper()
	var asked []api.Req
	for i, a := range answers {
		r, waits := j.Next()
		if !waits {
			t.Fatalf("over behind %d steps, want %d", i, len(answers))
		}
		asked = append(asked, r)
		if code := j.Give(a); code != api.OK {
			t.Fatalf("Give: %d", int(code))
		}
	}
	return asked
}

// call is one of the four, over n stores.
type call struct {
	is   string
	kind int
	do   func(io *port.IO, n int, name string, then func(told))
	bare func(io *port.IO, n int, name string) // without a then
	job  func(n int, name string) *port.Job
	// what is told of answers
	tell func(answers []api.Resp) told
}

// data is what Puts and PutJob are given for n stores: none for a number below 0.
func data(n int) []string { return texts(max(n, 0)) }

func codesOf(answers []api.Resp) []api.Code {
	var l []api.Code
	for _, a := range answers {
		l = append(l, a.Code)
	}
	return l
}

// namesOf works out by a plain rule what Lists tells.
func namesOf(answers []api.Resp) []string {
	var l []string
	for _, a := range answers {
		l = append(l, a.Names...)
	}
	slices.Sort(l)
	return slices.Compact(l)
}

func onlyCodes(answers []api.Resp) told { return told{codes: codesOf(answers)} }

func calls() []call {
	return []call{
		{"Puts", api.RPut,
			func(io *port.IO, n int, name string, then func(told)) {
				fan.Puts(io, name, data(n), func(l []api.Code) { then(told{codes: l}) })
			},
			func(io *port.IO, n int, name string) { fan.Puts(io, name, data(n), nil) },
			func(n int, name string) *port.Job { return fan.PutJob(name, data(n)) },
			onlyCodes},
		{"Gets", api.RGet,
			func(io *port.IO, n int, name string, then func(told)) {
				fan.Gets(io, n, name, func(l []api.Resp) { then(told{answers: l}) })
			},
			func(io *port.IO, n int, name string) { fan.Gets(io, n, name, nil) },
			fan.GetJob,
			func(answers []api.Resp) told { return told{answers: answers} }},
		{"Dels", api.RDel,
			func(io *port.IO, n int, name string, then func(told)) {
				fan.Dels(io, n, name, func(l []api.Code) { then(told{codes: l}) })
			},
			func(io *port.IO, n int, name string) { fan.Dels(io, n, name, nil) },
			fan.DelJob,
			onlyCodes},
		{"Lists", api.RList,
			func(io *port.IO, n int, name string, then func(told)) {
				fan.Lists(io, n, name, func(l []string, c []api.Code) { then(told{names: l, codes: c}) })
			},
			func(io *port.IO, n int, name string) { fan.Lists(io, n, name, nil) },
			fan.ListJob,
			func(answers []api.Resp) told { return told{names: namesOf(answers), codes: codesOf(answers)} }},
	}
}

// wanted is the requests that c is to ask of n stores.
func (c call) wanted(n int, name string) []api.Req {
	var l []api.Req
	for i := range n {
		r := api.Req{Store: i, Kind: c.kind, Name: name}
		if c.kind == api.RPut {
			r.Data = texts(n)[i]
		}
		l = append(l, r)
	}
	return l
}

// dice is a row of numbers that is the same in every run.
type dice uint32

func (d *dice) upTo(n int) int {
	*d = *d*1664525 + 1013904223
	return int(uint32(*d)>>8) % n
}

// manyNames is names of which some come twice, in no order.
func (d *dice) manyNames() []string {
	var l []string
	for range d.upTo(6) {
		l = append(l, []string{"", "a", "a/b", "a-b", "ab", "B", "b", "\xff", "z\x00", "é"}[d.upTo(10)])
	}
	return l
}

// answers is n answers of all sorts, such as no store gives, too.
func (d *dice) answers(n int) []api.Resp {
	var l []api.Resp
	for range n {
		l = append(l, api.Resp{
			Code:  []api.Code{api.OK, api.OK, api.ErrNone, api.ErrDown, api.ErrFail, api.ErrQuota, api.ErrRange, -1, 999}[d.upTo(9)],
			Data:  []string{"", "x", "\x00\xff", "long data"}[d.upTo(4)],
			Names: d.manyNames(),
		})
	}
	return l
}

// Promise 9.1.

func TestAllStoresAreAskedInOrderWhateverTheyAnswer(t *testing.T) {
	d := dice(1)
	for _, c := range calls() {
		for _, n := range []int{1, 2, 3, 7, 254, 255} {
			times, asked := 0, 0
			var got told
			j := port.Start(func(io *port.IO) {
				c.do(io, n, "name", func(x told) {
					times, got = times+1, x
					io.End(api.Result{N: n})
				})
			})
			answers := d.answers(n)
			for i, want := range c.wanted(n, "name") {
				if r, waits := j.Next(); !waits || r != want {
					t.Fatalf("%s of %d: asks %v (%t), want %v", c.is, n, r, waits, want)
				}
				if times != 0 {
					t.Fatalf("%s of %d: then was called behind %d answers", c.is, n, i)
				}
				j.Give(answers[i])
				asked++
			}
			if times != 1 || !sameTold(got, c.tell(answers)) {
				t.Errorf("%s of %d: then was called %d times, with %v, want %v", c.is, n, times, got, c.tell(answers))
			}
			wantOver(t, j, api.Result{N: n}, asked)
		}
	}
}

func TestNamesGoAsTheyAre(t *testing.T) {
	// Which names may be is a store's matter.
	for _, c := range calls() {
		for _, name := range []string{"", "a b", "\x00", "\xff", strings.Repeat("n", 200)} {
			j := port.Start(func(io *port.IO) { c.do(io, 2, name, func(told) {}) })
			if asked := play(t, j, make([]api.Resp, 2)); !slices.Equal(asked, c.wanted(2, name)) {
				t.Errorf("%s of %q asked %v", c.is, name, asked)
			}
		}
	}
}

func TestNothingToAsk(t *testing.T) {
	for _, c := range calls() {
		for _, n := range []int{-1, 0, 256, 257, 1000} {
			times := 0
			j := port.Start(func(io *port.IO) {
				c.do(io, n, "a", func(x told) {
					times++
					if len(x.answers)+len(x.names)+len(x.codes) != 0 {
						t.Errorf("%s of %d: then was called with %v", c.is, n, x)
					}
				})
				if times != 1 {
					t.Errorf("%s of %d: then was not called at once, but %d times", c.is, n, times)
				}
				io.End(api.Result{N: 7})
			})
			wantOver(t, j, api.Result{N: 7}, 0)
			if times != 1 {
				t.Errorf("%s of %d: then was called %d times", c.is, n, times)
			}
		}
	}
}

func TestNothingToAskOfNumbersAtTheEnds(t *testing.T) {
	for _, n := range []int{math.MinInt, math.MinInt + 1, math.MaxInt - 1, math.MaxInt, 1 << 32, 1<<32 + 1} {
		times := 0
		fan.Gets(nil, n, "a", func(l []api.Resp) { times += 1 + len(l) })
		fan.Dels(nil, n, "a", func(l []api.Code) { times += 1 + len(l) })
		fan.Lists(nil, n, "a", func(l []string, c []api.Code) { times += 1 + len(l) + len(c) })
		if times != 3 {
			t.Errorf("%d: %d", n, times)
		}
		for _, j := range []*port.Job{fan.GetJob(n, "a"), fan.DelJob(n, "a"), fan.ListJob(n, "a")} {
			wantOver(t, j, api.Result{Code: api.ErrRange}, 0)
		}
	}
}

func TestWorkGoesOnBehindACallThatAsksNothing(t *testing.T) {
	for _, first := range calls() {
		for _, second := range calls() {
			j := port.Start(func(io *port.IO) {
				first.do(io, 0, "a", func(told) {
					second.do(io, 2, "b", func(x told) {
						first.do(io, 256, "c", func(told) {
							io.End(api.Result{N: len(x.codes) + len(x.answers)})
						})
					})
				})
			})
			if asked := play(t, j, make([]api.Resp, 2)); !slices.Equal(asked, second.wanted(2, "b")) {
				t.Errorf("%s, then %s: asked %v", first.is, second.is, asked)
			}
			wantOver(t, j, api.Result{N: 2}, 2)
		}
	}
}

func TestCallsBehindAnEndAskNothing(t *testing.T) {
	for _, c := range calls() {
		j := port.Start(func(io *port.IO) {
			io.End(api.Result{N: 1})
			c.do(io, 2, "a", func(told) { t.Errorf("%s: then was called without an answer", c.is) })
			c.do(io, 0, "a", func(told) { io.End(api.Result{N: 2}) })
		})
		wantOver(t, j, api.Result{N: 1}, 0)
	}
}

func TestNobodyIsTold(t *testing.T) {
	for _, c := range calls() {
		c.bare(nil, 0, "a")
		c.bare(nil, 2, "a")
		c.do(nil, 2, "a", func(told) { t.Errorf("%s: then was called without an answer", c.is) })
		j := port.Start(func(io *port.IO) { c.bare(io, 3, "a") })
		if asked := play(t, j, make([]api.Resp, 3)); !slices.Equal(asked, c.wanted(3, "a")) {
			t.Errorf("%s without a then asked %v", c.is, asked)
		}
		wantOver(t, j, api.Result{}, 3)
		j = port.Start(func(io *port.IO) {
			c.bare(io, 0, "a")
			io.End(api.Result{N: 3})
		})
		wantOver(t, j, api.Result{N: 3}, 0)
	}
}

func TestNamesAreToldOnceRising(t *testing.T) {
	for _, x := range []struct {
		of   [][]string
		want []string
	}{
		{[][]string{nil}, nil},
		{[][]string{nil, {}, nil}, nil},
		{[][]string{{"a"}}, []string{"a"}},
		{[][]string{{"b", "a"}}, []string{"a", "b"}},
		{[][]string{{"a", "b"}, {"a", "b"}, {"a", "b"}}, []string{"a", "b"}},
		{[][]string{{"c"}, {"b"}, {"a"}}, []string{"a", "b", "c"}},
		{[][]string{{"b", "d"}, nil, {"a", "b", "c"}}, []string{"a", "b", "c", "d"}},
		{[][]string{{"a", "a", "a"}}, []string{"a"}},
		{[][]string{{""}, {"a"}, {""}}, []string{"", "a"}},
		{[][]string{{"a/b", "ab", "a"}, {"a-b", "B", "\xff", "é"}}, []string{"B", "a", "a-b", "a/b", "ab", "é", "\xff"}},
		{[][]string{{"10", "9", "2"}}, []string{"10", "2", "9"}},
	} {
		var answers []api.Resp
		for _, names := range x.of {
			answers = append(answers, api.Resp{Names: names})
		}
		var got told
		j := port.Start(func(io *port.IO) {
			fan.Lists(io, len(x.of), "", func(names []string, codes []api.Code) {
				got = told{names: names, codes: codes}
			})
		})
		play(t, j, answers)
		if !sameTold(got, told{names: x.want, codes: make([]api.Code, len(x.of))}) {
			t.Errorf("of %q: %q, want %q", x.of, got.names, x.want)
		}
		j = fan.ListJob(len(x.of), "")
		play(t, j, answers)
		wantOver(t, j, api.Result{N: len(x.of), Ids: x.want}, len(x.of))
	}
}

func TestNamesOfAnAnswerThatIsNotOK(t *testing.T) {
	// Any of them: a store that tells names and a fault has told them.
	j := fan.ListJob(3, "")
	play(t, j, []api.Resp{{Names: []string{"b"}}, {Code: api.ErrFail, Names: []string{"c", "a"}}, {Code: api.ErrDown}})
	wantOver(t, j, api.Result{Code: api.ErrFail, N: 1, Ids: []string{"a", "b", "c"}}, 3)
}

// harmed is five places: up with a and ab, down, failing at its next call, none, up with ab and b.
func harmed(t *testing.T) []*store.Store {
	stores := some(t, 5)
	for i, names := range [][]string{{"a", "ab"}, {"a"}, {"a"}, {"a"}, {"ab", "b"}} {
		for _, name := range names {
			stores[i].Set(name, name+strconv.Itoa(i))
		}
	}
	stores[1].Down(true)
	stores[2].Fail(1)
	stores[3] = nil
	return stores
}

func TestStoresThatAnswerFaults(t *testing.T) {
	codes := func(first, last api.Code) []api.Code {
		return []api.Code{first, api.ErrDown, api.ErrFail, api.ErrRange, last, api.ErrRange}
	}
	want := map[string]told{
		"Puts": {codes: codes(api.OK, api.OK)},
		"Gets": {answers: []api.Resp{{Data: "a0"}, {Code: api.ErrDown}, {Code: api.ErrFail}, {Code: api.ErrRange},
			{Code: api.ErrNone}, {Code: api.ErrRange}}},
		"Dels":  {codes: codes(api.OK, api.ErrNone)},
		"Lists": {names: []string{"a", "ab"}, codes: codes(api.OK, api.OK)},
	}
	for _, c := range calls() {
		stores := harmed(t)
		var got told
		j := port.Start(func(io *port.IO) { c.do(io, 6, "a", func(x told) { got = x }) })
		wantRun(t, j, stores, 6, api.Result{})
		if !sameTold(got, want[c.is]) {
			t.Errorf("%s: %v, want %v", c.is, got, want[c.is])
		}
		for i, s := range stores {
			if s != nil && s.Calls() != 1 {
				t.Errorf("%s: the store %d was asked %d times", c.is, i, s.Calls())
			}
		}
	}
}

func TestPutsAndDelsAreDone(t *testing.T) {
	stores := harmed(t)
	j := port.Start(func(io *port.IO) { fan.Puts(io, "a", []string{"A", "B", "C", "D", ""}, nil) })
	wantRun(t, j, stores, 5, api.Result{})
	for i, want := range []string{"A", "a1", "a2", "", ""} {
		if i == 3 {
			continue
		}
		if s, ok := stores[i].Get("a"); s != want || !ok {
			t.Errorf("at %d: %q, %t, want %q", i, s, ok, want)
		}
	}
	j = port.Start(func(io *port.IO) { fan.Dels(io, 3, "a", nil) })
	wantRun(t, j, stores, 3, api.Result{})
	for i, want := range []bool{false, true, false, false, true} {
		if i == 3 {
			continue
		}
		if _, ok := stores[i].Get("a"); ok != want {
			t.Errorf("at %d: %t", i, ok)
		}
	}
}

func TestOneCallBehindTheOther(t *testing.T) {
	stores := some(t, 3)
	j := port.Start(func(io *port.IO) {
		fan.Puts(io, "p/1", []string{"x", "y", "z"}, func(put []api.Code) {
			fan.Puts(io, "p/0", []string{"u", "v"}, func(again []api.Code) {
				fan.Lists(io, 3, "p/", func(names []string, listed []api.Code) {
					fan.Gets(io, 3, names[0], func(l []api.Resp) {
						fan.Dels(io, 3, names[0], func(deleted []api.Code) {
							io.End(api.Result{
								Code:  fan.First(slices.Concat(put, again, listed, deleted), api.ErrNone),
								N:     len(put) + 10*len(again) + 100*len(listed) + 1000*len(deleted),
								Ids:   names,
								Texts: []string{l[0].Data, l[1].Data, l[2].Data},
							})
						})
					})
				})
			})
		})
	})
	wantRun(t, j, stores, 14, api.Result{N: 3323, Ids: []string{"p/0", "p/1"}, Texts: []string{"u", "v", ""}})
	wantRun(t, fan.ListJob(3, ""), stores, 3, api.Result{N: 3, Ids: []string{"p/1"}})
}

func TestManyCallsInOneWork(t *testing.T) {
	const rounds = 20000
	j := port.Start(func(io *port.IO) {
		sum := 0
		var next func(i int)
		next = func(i int) {
			if i == rounds {
				io.End(api.Result{N: sum})
				return
			}
			c := calls()[i%4]
			c.do(io, 1+i%3, "a", func(x told) {
				sum += len(x.codes) + len(x.answers)
				next(i + 1)
			})
		}
		next(0)
	})
	steps := 0
	for i := range rounds {
		steps += 1 + i%3
	}
	wantRun(t, j, some(t, 3), steps, api.Result{N: steps})
}

func TestWhatIsHandedInStaysAndIsNotKept(t *testing.T) {
	room := []string{"x", "y", "z", "spare", "room"}
	before := slices.Clone(room)
	handed := room[:3]
	do := port.Start(func(io *port.IO) { fan.Puts(io, "a", handed, nil) })
	job := fan.PutJob("a", handed)
	if !slices.Equal(room, before) {
		t.Fatalf("changed: %q", room)
	}
	for i := range room {
		room[i] = "changed"
	}
	for _, j := range []*port.Job{do, job} {
		asked := play(t, j, make([]api.Resp, 3))
		for i, r := range asked {
			if r.Data != before[i] {
				t.Errorf("at %d: %q", i, r.Data)
			}
		}
	}
	for _, s := range room {
		if s != "changed" {
			t.Errorf("changed: %q", room)
		}
	}
}

func TestAnswersThatAreGivenStayAndAreNotKept(t *testing.T) {
	for _, c := range calls() {
		names := []string{"c", "b", "a", "spare"}
		given := []api.Resp{{Data: "d", Names: names[:2]}, {Code: api.ErrFail, Names: names[:2]}, {Names: names[1:3]}}
		want := c.tell([]api.Resp{{Data: "d", Names: []string{"c", "b"}}, {Code: api.ErrFail, Names: []string{"c", "b"}}, {Names: []string{"b", "a"}}})
		var got told
		j := port.Start(func(io *port.IO) { c.do(io, 3, "", func(x told) { got = x }) })
		play(t, j, given)
		if !slices.Equal(names, []string{"c", "b", "a", "spare"}) {
			t.Errorf("%s: changed: %q", c.is, names)
		}
		for i := range names {
			names[i] = "changed"
		}
		if !sameTold(got, want) {
			t.Errorf("%s: %v, want %v", c.is, got, want)
		}
	}
}

func TestListsThatAreToldShareNothing(t *testing.T) {
	shared := []string{"b", "a"}
	var got []api.Resp
	j := port.Start(func(io *port.IO) { fan.Gets(io, 2, "", func(l []api.Resp) { got = l }) })
	play(t, j, []api.Resp{{Names: shared}, {Names: shared}})
	got[0].Names[0] = "changed"
	_ = append(got[0].Names[:1], "changed")
	if !slices.Equal(got[1].Names, []string{"b", "a"}) || !slices.Equal(shared, []string{"b", "a"}) {
		t.Errorf("%q, %q", got[1].Names, shared)
	}

	list := fan.ListJob(2, "")
	play(t, list, []api.Resp{{Names: shared}, {Names: shared}})
	get := fan.GetJob(2, "")
	play(t, get, []api.Resp{{Data: "x"}, {Data: "y"}})
	list.Result().Ids[0] = "changed"
	get.Result().Texts[0] = "changed"
	wantOver(t, list, api.Result{N: 2, Ids: []string{"a", "b"}}, 2)
	wantOver(t, get, api.Result{N: 2, Texts: []string{"x", "y"}}, 2)
}

// Promise 9.2.

func TestFirst(t *testing.T) {
	for _, x := range []struct {
		codes, but []api.Code
		want       api.Code
	}{
		{nil, nil, api.OK},
		{[]api.Code{}, []api.Code{api.ErrNone}, api.OK},
		{[]api.Code{api.OK}, nil, api.OK},
		{[]api.Code{api.OK, api.OK, api.OK}, nil, api.OK},
		{[]api.Code{api.OK, api.OK}, []api.Code{api.ErrDown}, api.OK},
		{[]api.Code{api.OK, api.OK}, []api.Code{api.OK}, api.OK},
		{[]api.Code{api.ErrDown}, nil, api.ErrDown},
		{[]api.Code{api.ErrDown}, []api.Code{api.OK}, api.ErrDown},
		{[]api.Code{api.ErrDown}, []api.Code{api.ErrDown}, api.OK},
		{[]api.Code{api.ErrDown}, []api.Code{api.ErrDown, api.ErrDown}, api.OK},
		{[]api.Code{api.OK, api.ErrNone, api.ErrDown, api.ErrFail}, nil, api.ErrNone},
		{[]api.Code{api.OK, api.ErrNone, api.ErrDown, api.ErrFail}, []api.Code{api.ErrNone}, api.ErrDown},
		{[]api.Code{api.OK, api.ErrNone, api.ErrDown, api.ErrFail}, []api.Code{api.ErrDown, api.ErrNone}, api.ErrFail},
		{[]api.Code{api.OK, api.ErrNone, api.ErrDown, api.ErrFail}, []api.Code{api.ErrFail, api.ErrDown, api.ErrNone}, api.OK},
		{[]api.Code{api.OK, api.ErrNone, api.ErrDown, api.ErrFail}, []api.Code{api.ErrFail}, api.ErrNone},
		{[]api.Code{api.ErrNone, api.ErrNone, api.ErrFail, api.ErrDown}, []api.Code{api.ErrNone}, api.ErrFail},
		{[]api.Code{api.ErrFail, api.OK, api.ErrDown}, []api.Code{api.ErrNone, api.ErrQuota}, api.ErrFail},
		{[]api.Code{0, -5, 7}, nil, -5},
		{[]api.Code{0, -5, math.MaxInt, math.MinInt}, []api.Code{-5, math.MaxInt}, math.MinInt},
	} {
		codes, but := slices.Clone(x.codes), slices.Clone(x.but)
		for range 2 {
			if got := fan.First(codes, but...); got != x.want {
				t.Errorf("First(%d, %d): %d, want %d", codes, but, int(got), int(x.want))
			}
		}
		if !slices.Equal(codes, x.codes) || !slices.Equal(but, x.but) {
			t.Errorf("changed: %d, %d", codes, but)
		}
	}
	if c := fan.First([]api.Code{5, 70, 72, 71}, api.ErrNone, api.ErrDown, api.ErrFail); c != api.ErrQuota {
		t.Error(int(c))
	}
}

// Promise 9.3.

func TestExample(t *testing.T) {
	stores := some(t, 2)
	wantRun(t, fan.PutJob("a", []string{"x", "y"}), stores, 2, api.Result{N: 2})
	for i, want := range []string{"x", "y"} {
		if s, ok := stores[i].Get("a"); s != want || !ok {
			t.Errorf("at %d: %q, %t", i, s, ok)
		}
	}
}

func TestJobsOfNumbersThatMayNotBe(t *testing.T) {
	for _, c := range calls() {
		for _, n := range []int{-1, 0, 256, 257} {
			// The name may not be, either: the number is answered, and nobody is asked.
			wantOver(t, c.job(n, ""), api.Result{Code: api.ErrRange}, 0)
			wantOver(t, c.job(n, "a"), api.Result{Code: api.ErrRange}, 0)
		}
	}
	wantOver(t, fan.PutJob("a", []string{}), api.Result{Code: api.ErrRange}, 0)
	wantOver(t, fan.PutJob("a", texts(300)[:0]), api.Result{Code: api.ErrRange}, 0)
	if r, waits := fan.PutJob("a", texts(300)[:255]).Next(); !waits || r.Data != "text 0" {
		t.Errorf("255 of 300: %v, %t", r, waits)
	}
}

func TestJobsOfNumbersAtTheEdges(t *testing.T) {
	for _, n := range []int{1, 255} {
		stores := some(t, n)
		wantRun(t, fan.PutJob("a", texts(n)), stores, n, api.Result{N: n})
		wantRun(t, fan.GetJob(n, "a"), stores, n, api.Result{N: n, Texts: texts(n)})
		wantRun(t, fan.ListJob(n, "a"), stores, n, api.Result{N: n, Ids: []string{"a"}})
		wantRun(t, fan.DelJob(n, "a"), stores, n, api.Result{N: n})
		wantRun(t, fan.ListJob(n, "a"), stores, n, api.Result{N: n})
		for _, s := range stores {
			if s.Calls() != 5 || s.Used() != 0 {
				t.Errorf("%d calls, %d used", s.Calls(), s.Used())
			}
		}
	}
}

func TestPutJobTellsTheFirstFault(t *testing.T) {
	stores := harmed(t)
	wantRun(t, fan.PutJob("a", texts(6)), stores, 6, api.Result{Code: api.ErrDown, N: 2})
	wantRun(t, fan.PutJob("a", texts(5)), stores, 5, api.Result{Code: api.ErrDown, N: 3})
	stores[1].Down(false)
	stores[0].Fail(2)
	wantRun(t, fan.PutJob("a", texts(4)), stores, 4, api.Result{Code: api.ErrFail, N: 2})
	wantRun(t, fan.PutJob("a", texts(1)), stores, 1, api.Result{Code: api.ErrFail})
	wantRun(t, fan.PutJob("a", texts(3)), stores, 3, api.Result{N: 3})
	wantRun(t, fan.PutJob("", texts(4)), stores, 4, api.Result{Code: api.ErrForm})
	wantRun(t, fan.PutJob("a", []string{"x", strings.Repeat("y", 1<<17+1), "z"}), stores, 3, api.Result{Code: api.ErrLong, N: 2})
}

func TestPutJobPassesNothingOver(t *testing.T) {
	j := fan.PutJob("a", texts(3))
	play(t, j, []api.Resp{{}, {Code: api.ErrNone, Data: "no text of it", Names: []string{"n"}}, {Code: api.ErrFail}})
	wantOver(t, j, api.Result{Code: api.ErrNone, N: 1}, 3)
}

func TestPutJobOfAStoreThatIsFull(t *testing.T) {
	stores := some(t, 3)
	stores[1], _ = store.New(4)
	wantRun(t, fan.PutJob("a", []string{"bcde", "bcde", "bcde"}), stores, 3, api.Result{Code: api.ErrQuota, N: 2})
	wantRun(t, fan.PutJob("a", []string{"bcd", "bcd", "bcd"}), stores, 3, api.Result{N: 3})
}

func TestGetJobTellsAllData(t *testing.T) {
	stores := harmed(t)
	wantRun(t, fan.GetJob(6, "ab"), stores, 6, api.Result{Code: api.ErrDown, N: 2, Texts: []string{"ab0", "", "", "", "ab4", ""}})
	wantRun(t, fan.GetJob(5, "a"), stores, 5, api.Result{Code: api.ErrDown, N: 2, Texts: []string{"a0", "", "a2", "", ""}})
	wantRun(t, fan.GetJob(1, "a"), stores, 1, api.Result{N: 1, Texts: []string{"a0"}})
	wantRun(t, fan.GetJob(1, "b"), stores, 1, api.Result{Code: api.ErrNone, Texts: []string{""}})
	wantRun(t, fan.GetJob(2, ""), stores, 2, api.Result{Code: api.ErrNone, Texts: []string{"", ""}})

	j := fan.GetJob(3, "a")
	play(t, j, []api.Resp{{Data: "x"}, {Code: api.ErrFail, Data: "beside a fault"}, {Code: api.ErrNone, Names: []string{"n"}}})
	wantOver(t, j, api.Result{Code: api.ErrFail, N: 1, Texts: []string{"x", "beside a fault", ""}}, 3)
}

func TestDelJob(t *testing.T) {
	ok, none, down, fails := api.Resp{}, api.Resp{Code: api.ErrNone}, api.Resp{Code: api.ErrDown}, api.Resp{Code: api.ErrFail}
	for _, x := range []struct {
		answers []api.Resp
		code    api.Code
		n       int
	}{
		{[]api.Resp{ok}, api.OK, 1},
		{[]api.Resp{none}, api.ErrNone, 0},
		{[]api.Resp{down}, api.ErrDown, 0},
		{[]api.Resp{ok, ok, ok}, api.OK, 3},
		{[]api.Resp{none, none, none}, api.ErrNone, 0},
		{[]api.Resp{none, ok, none}, api.OK, 1},
		{[]api.Resp{ok, none, none}, api.OK, 1},
		{[]api.Resp{none, down, none}, api.ErrDown, 0},
		{[]api.Resp{none, none, fails}, api.ErrFail, 0},
		{[]api.Resp{down, fails}, api.ErrDown, 0},
		{[]api.Resp{ok, none, fails, down}, api.ErrFail, 1},
		{[]api.Resp{ok, {Data: "d", Names: []string{"n"}}}, api.OK, 2},
	} {
		j := fan.DelJob(len(x.answers), "a")
		play(t, j, x.answers)
		wantOver(t, j, api.Result{Code: x.code, N: x.n}, len(x.answers))
	}
}

func TestDelJobAtStores(t *testing.T) {
	stores := some(t, 3)
	wantRun(t, fan.DelJob(3, "a"), stores, 3, api.Result{Code: api.ErrNone})
	stores[1].Set("a", "x")
	wantRun(t, fan.DelJob(3, "a"), stores, 3, api.Result{N: 1})
	wantRun(t, fan.DelJob(3, "a"), stores, 3, api.Result{Code: api.ErrNone})
	stores[0].Set("a", "x")
	stores[2].Set("a", "x")
	stores[2].Down(true)
	wantRun(t, fan.DelJob(3, "a"), stores, 3, api.Result{Code: api.ErrDown, N: 1})
	wantRun(t, fan.DelJob(3, "a"), stores, 3, api.Result{Code: api.ErrDown})
	wantRun(t, fan.DelJob(4, "b"), stores, 4, api.Result{Code: api.ErrDown})
	stores[2].Down(false)
	wantRun(t, fan.DelJob(4, "a"), stores, 4, api.Result{Code: api.ErrRange, N: 1})
}

func TestListJob(t *testing.T) {
	stores := harmed(t)
	wantRun(t, fan.ListJob(6, "a"), stores, 6, api.Result{Code: api.ErrDown, N: 2, Ids: []string{"a", "ab"}})
	wantRun(t, fan.ListJob(5, ""), stores, 5, api.Result{Code: api.ErrDown, N: 3, Ids: []string{"a", "ab", "b"}})
	wantRun(t, fan.ListJob(1, "ab"), stores, 1, api.Result{N: 1, Ids: []string{"ab"}})
	wantRun(t, fan.ListJob(1, "abc"), stores, 1, api.Result{N: 1})
	stores[1].Down(false)
	wantRun(t, fan.ListJob(3, ""), stores, 3, api.Result{N: 3, Ids: []string{"a", "ab"}})

	// Nothing is passed over; data beside names are none of its texts.
	j := fan.ListJob(3, "")
	play(t, j, []api.Resp{{Data: "d", Names: []string{"b"}}, {Code: api.ErrNone}, {Code: api.ErrDown}})
	wantOver(t, j, api.Result{Code: api.ErrNone, N: 1, Ids: []string{"b"}}, 3)
	j = fan.ListJob(2, "")
	play(t, j, []api.Resp{{Code: api.ErrFail}, {Code: api.ErrDown}})
	wantOver(t, j, api.Result{Code: api.ErrFail}, 2)
}

// cameTo works out by a plain rule what a job of c comes to.
func (c call) cameTo(answers []api.Resp) api.Result {
	var r api.Result
	for _, a := range answers {
		if a.Code == api.OK {
			r.N++
		}
		passed := a.Code == api.OK || c.kind == api.RDel && a.Code == api.ErrNone
		if r.Code == api.OK && !passed {
			r.Code = a.Code
		}
		if c.kind == api.RGet {
			r.Texts = append(r.Texts, a.Data)
		}
	}
	if c.kind == api.RList {
		r.Ids = namesOf(answers)
	}
	if c.kind == api.RDel && r.Code == api.OK && r.N == 0 {
		r.Code = api.ErrNone
	}
	return r
}

func TestJobsOfAnswersOfAllSorts(t *testing.T) {
	d := dice(3)
	for range 3000 {
		c := calls()[d.upTo(4)]
		n := 1 + d.upTo(6)
		answers := d.answers(n)
		j := c.job(n, "a")
		if asked := play(t, j, answers); !slices.Equal(asked, c.wanted(n, "a")) {
			t.Errorf("%s: asked %v", c.is, asked)
		}
		wantOver(t, j, c.cameTo(answers), n)
		if t.Failed() {
			t.Fatalf("%s of %v", c.is, answers)
		}
	}
}

func TestJobsInTurns(t *testing.T) {
	// Each is what it would be alone with the answers that it was given.
	const many = 40
	d := dice(5)
	stores := some(t, 4)
	var jobs []*port.Job
	var of []call
	given := make([][]api.Resp, many)
	asked := make([][]api.Req, many)
	for range many {
		c := calls()[d.upTo(4)]
		of = append(of, c)
		jobs = append(jobs, c.job(5, "a"))
	}
	for left := many; left > 0; {
		i := d.upTo(many)
		r, waits := jobs[i].Next()
		if !waits {
			continue
		}
		if d.upTo(10) == 0 {
			stores[d.upTo(4)].Fail(1)
		}
		a := port.Answer(stores, r)
		asked[i], given[i] = append(asked[i], r), append(given[i], a)
		jobs[i].Give(a)
		if jobs[i].Over() {
			left--
		}
	}
	for i, j := range jobs {
		if !slices.Equal(asked[i], of[i].wanted(5, "a")) {
			t.Errorf("job %d, %s: asked %v", i, of[i].is, asked[i])
		}
		wantOver(t, j, of[i].cameTo(given[i]), 5)
	}
}

func TestJobsAtOnce(t *testing.T) {
	const many = 16
	var all sync.WaitGroup
	got := make([]api.Result, many)
	for i := range many {
		stores := some(t, 4)
		all.Go(func() {
			port.Run(fan.PutJob("a", texts(4)), stores, 4)
			j := calls()[i%4].job(4, "a")
			port.Run(j, stores, 4)
			got[i] = j.Result()
		})
	}
	all.Wait()
	for i, r := range got {
		want := []api.Result{{N: 4}, {N: 4, Texts: texts(4)}, {N: 4}, {N: 4, Ids: []string{"a"}}}[i%4]
		if !reflect.DeepEqual(plain(r), plain(want)) {
			t.Errorf("job %d: %v, want %v", i, r, want)
		}
	}
}

// Promise 9.4.

// someData is n texts of all sorts.
func (d *dice) someData(n int) []string {
	var l []string
	for range n {
		b := make([]byte, d.upTo(50))
		for i := range b {
			b[i] = byte(d.upTo(256))
		}
		l = append(l, string(b))
	}
	return l
}

func TestWhatIsPutIsGot(t *testing.T) {
	d := dice(9)
	for _, n := range []int{1, 2, 3, 16, 255} {
		stores := some(t, n)
		lies := map[string][]string{}
		for range 20 {
			name := "n/" + strconv.Itoa(d.upTo(4))
			if d.upTo(4) == 0 && lies[name] != nil {
				wantRun(t, fan.DelJob(n, name), stores, n, api.Result{N: n})
				delete(lies, name)
			} else {
				lies[name] = d.someData(n)
				wantRun(t, fan.PutJob(name, lies[name]), stores, n, api.Result{N: n})
			}
			var names []string
			for name, want := range lies {
				wantRun(t, fan.GetJob(n, name), stores, n, api.Result{N: n, Texts: want})
				names = append(names, name)
			}
			slices.Sort(names)
			wantRun(t, fan.ListJob(n, "n/"), stores, n, api.Result{N: n, Ids: names})
		}
	}
}

func TestWhatIsPutIsGotWithinOneWork(t *testing.T) {
	d := dice(11)
	for _, n := range []int{1, 2, 9, 255} {
		want := d.someData(n)
		var got []string
		j := port.Start(func(io *port.IO) {
			fan.Puts(io, "a", want, func(codes []api.Code) {
				fan.Gets(io, len(codes), "a", func(answers []api.Resp) {
					for _, a := range answers {
						got = append(got, a.Data)
					}
					io.End(api.Result{Code: fan.First(codes)})
				})
			})
		})
		wantRun(t, j, some(t, n), 2*n, api.Result{})
		if !slices.Equal(got, want) {
			t.Errorf("%d: %q, want %q", n, got, want)
		}
	}
}

func TestLongDataArePutAndGot(t *testing.T) {
	stores := some(t, 3)
	want := []string{strings.Repeat("x", 1<<17), "", strings.Repeat("\x00\xff", 1<<16)}
	wantRun(t, fan.PutJob("a", want), stores, 3, api.Result{N: 3})
	wantRun(t, fan.GetJob(3, "a"), stores, 3, api.Result{N: 3, Texts: want})
}

func TestPutsThatFailLeaveWhatWasThere(t *testing.T) {
	stores := some(t, 3)
	wantRun(t, fan.PutJob("a", []string{"x", "y", "z"}), stores, 3, api.Result{N: 3})
	stores[1].Fail(1)
	wantRun(t, fan.PutJob("a", []string{"X", "Y", "Z"}), stores, 3, api.Result{Code: api.ErrFail, N: 2})
	wantRun(t, fan.GetJob(3, "a"), stores, 3, api.Result{N: 3, Texts: []string{"X", "y", "Z"}})
	stores[0].Wipe()
	wantRun(t, fan.GetJob(3, "a"), stores, 3, api.Result{Code: api.ErrNone, N: 2, Texts: []string{"", "y", "Z"}})
}
