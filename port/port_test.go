package port_test

import (
	"fmt"
	"math"
	"reflect"
	"slices"
	"strconv"
	"strings"
	"sync"
	"testing"

	"garret/api"
	"garret/port"
	"garret/store"
)

func put(at int, name, data string) api.Req {
	return api.Req{Store: at, Kind: api.RPut, Name: name, Data: data}
}
func get(at int, name string) api.Req   { return api.Req{Store: at, Kind: api.RGet, Name: name} }
func list(at int, begin string) api.Req { return api.Req{Store: at, Kind: api.RList, Name: begin} }
func del(at int, name string) api.Req   { return api.Req{Store: at, Kind: api.RDel, Name: name} }

// some is n stores with room.
func some(t testing.TB, n int) []*store.Store {
	t.Helper()
	var stores []*store.Store
	for range n {
		s, code := store.New(1 << 20)
		if code != api.OK {
			t.Fatal(int(code))
		}
		stores = append(stores, s)
	}
	return stores
}

// names is n requests that are told apart by their names.
func names(n int) []api.Req {
	var l []api.Req
	for i := range n {
		l = append(l, get(i%3, "n"+strconv.Itoa(i)))
	}
	return l
}

// plain is a thing with nil in place of lists without an element.
func plain(r api.Result) api.Result {
	if len(r.Ids) == 0 {
		r.Ids = nil
	}
	if len(r.Texts) == 0 {
		r.Texts = nil
	}
	if len(r.Entries) == 0 {
		r.Entries = nil
	}
	if len(r.Snaps) == 0 {
		r.Snaps = nil
	}
	return r
}

func same(a, b api.Result) bool { return reflect.DeepEqual(plain(a), plain(b)) }

func sameResp(a, b api.Resp) bool {
	return a.Code == b.Code && a.Data == b.Data && slices.Equal(a.Names, b.Names)
}

// wantWaits is a job that waits for r, behind so many steps.
func wantWaits(t testing.TB, j *port.Job, r api.Req, steps int) {
	t.Helper()
	if j == nil {
		t.Fatal("no job")
	}
	for range 2 {
		if got, ok := j.Next(); got != r || !ok {
			t.Errorf("Next: %v, %t, want %v", got, ok, r)
		}
	}
	if j.Over() || j.Steps() != steps || !same(j.Result(), api.Result{}) {
		t.Errorf("it waits: over %t, steps %d, want %d, result %v", j.Over(), j.Steps(), steps, j.Result())
	}
}

// wantOver is a job that is over, with a result, behind so many steps.
func wantOver(t testing.TB, j *port.Job, result api.Result, steps int) {
	t.Helper()
	if j == nil {
		t.Fatal("no job")
	}
	for range 2 {
		if got, ok := j.Next(); got != (api.Req{}) || ok {
			t.Errorf("Next of one that is over: %v, %t", got, ok)
		}
		if !j.Over() || j.Steps() != steps || !same(j.Result(), result) {
			t.Errorf("over %t, steps %d, want %d, result %v, want %v", j.Over(), j.Steps(), steps, j.Result(), result)
		}
		if code := j.Give(api.Resp{Data: "late", Names: []string{"late"}}); code != api.ErrState {
			t.Errorf("Give to one that is over: %d", int(code))
		}
	}
}

func give(t testing.TB, j *port.Job, r api.Resp) {
	t.Helper()
	if code := j.Give(r); code != api.OK {
		t.Errorf("Give: %d", int(code))
	}
}

func wantRun(t testing.TB, j *port.Job, stores []*store.Store, most, steps int, code api.Code) {
	t.Helper()
	if n, e := port.Run(j, stores, most); n != steps || e != code {
		t.Errorf("Run(%d): %d, %d, want %d, %d", most, n, int(e), steps, int(code))
	}
}

// Promise 8.1.

func TestStartCallsItsWorkAtOnce(t *testing.T) {
	times := 0
	var handed *port.IO
	j := port.Start(func(io *port.IO) {
		times++
		handed = io
		io.End(api.Result{N: 7})
	})
	if times != 1 || handed == nil {
		t.Errorf("run was called %d times, with %v", times, handed)
	}
	wantOver(t, j, api.Result{N: 7}, 0)
	if times != 1 {
		t.Errorf("run was called %d times", times)
	}
}

func TestStartCallsItsWorkOnceAlone(t *testing.T) {
	times, went := 0, 0
	j := port.Start(func(io *port.IO) {
		times++
		io.Ask(get(0, "a"), func(api.Resp) {
			went++
			io.Ask(get(0, "b"), func(api.Resp) { went++; io.End(api.Result{N: 1}) })
		})
	})
	wantWaits(t, j, get(0, "a"), 0)
	give(t, j, api.Resp{})
	wantWaits(t, j, get(0, "b"), 1)
	give(t, j, api.Resp{})
	wantOver(t, j, api.Result{N: 1}, 2)
	if times != 1 || went != 2 {
		t.Errorf("run was called %d times, what comes behind answers %d times", times, went)
	}
}

func TestStartOfNoWork(t *testing.T) {
	wantOver(t, port.Start(nil), api.Result{}, 0)
	wantOver(t, port.Start(func(*port.IO) {}), api.Result{}, 0)
	wantOver(t, port.Start(func(io *port.IO) { io.All(nil, func([]api.Resp) {}) }), api.Result{}, 0)
	wantOver(t, port.Start(func(io *port.IO) { io.All(nil, nil) }), api.Result{}, 0)
	wantOver(t, port.Start(func(io *port.IO) { io.End(api.Result{}) }), api.Result{}, 0)
}

func TestWorkThatIsOverStaysOver(t *testing.T) {
	var late *port.IO
	called := 0
	for _, run := range []func(*port.IO){
		func(io *port.IO) { late = io },
		func(io *port.IO) { late = io; io.End(api.Result{}) },
	} {
		j := port.Start(run)
		late.Ask(get(0, "a"), func(api.Resp) { called++ })
		late.All(nil, func([]api.Resp) { called++ })
		late.All(names(2), func([]api.Resp) { called++ })
		late.End(api.Result{N: 9})
		wantOver(t, j, api.Result{}, 0)
	}
	if called != 0 {
		t.Errorf("%d were called behind the end", called)
	}
}

func TestAskHandsTheAnswerOn(t *testing.T) {
	for _, r := range []api.Req{{}, put(0, "a", "b"), get(-1, ""), list(math.MaxInt, "\x00\xff"), {Store: math.MinInt, Kind: -3, Name: strings.Repeat("n", 500), Data: strings.Repeat("d", 1<<18)}} {
		for _, a := range []api.Resp{{}, {Code: api.ErrNone}, {Data: "d", Names: []string{"x", "", "y"}}, {Code: -5, Data: "\x00", Names: []string{"z"}}} {
			var got []api.Resp
			j := port.Start(func(io *port.IO) {
				io.Ask(r, func(x api.Resp) {
					got = append(got, x)
					io.End(api.Result{N: 3})
				})
			})
			wantWaits(t, j, r, 0)
			if len(got) != 0 {
				t.Error("then was called ahead of the answer")
			}
			give(t, j, a)
			wantOver(t, j, api.Result{N: 3}, 1)
			if len(got) != 1 || !sameResp(got[0], a) {
				t.Errorf("then was called with %v, want %v", got, a)
			}
		}
	}
}

func TestWorkThatGoesOnToNothingIsOver(t *testing.T) {
	for _, run := range []func(*port.IO){
		func(io *port.IO) { io.Ask(get(0, "a"), func(api.Resp) {}) },
		func(io *port.IO) { io.Ask(get(0, "a"), nil) },
		func(io *port.IO) { io.All([]api.Req{get(0, "a")}, func([]api.Resp) {}) },
		func(io *port.IO) { io.All([]api.Req{get(0, "a")}, nil) },
	} {
		j := port.Start(run)
		wantWaits(t, j, get(0, "a"), 0)
		give(t, j, api.Resp{Code: api.ErrDown, Data: "d", Names: []string{"n"}})
		wantOver(t, j, api.Result{}, 1)
	}
}

func TestAllOfNothing(t *testing.T) {
	room := names(3)
	for _, l := range [][]api.Req{nil, {}, room[:0]} {
		var order []string
		j := port.Start(func(io *port.IO) {
			order = append(order, "run")
			io.All(l, func(answers []api.Resp) { order = append(order, "then of "+strconv.Itoa(len(answers))) })
			order = append(order, "behind it")
			io.Ask(get(0, "a"), func(api.Resp) { io.End(api.Result{N: 2}) })
		})
		if !slices.Equal(order, []string{"run", "then of 0", "behind it"}) {
			t.Error(order)
		}
		wantWaits(t, j, get(0, "a"), 0)
		give(t, j, api.Resp{})
		wantOver(t, j, api.Result{N: 2}, 1)
	}
	j := port.Start(func(io *port.IO) {
		io.All(nil, func([]api.Resp) { io.All(nil, func([]api.Resp) { io.End(api.Result{Id: "in"}) }) })
	})
	wantOver(t, j, api.Result{Id: "in"}, 0)
}

func TestAllAsksOneAfterTheOther(t *testing.T) {
	for _, n := range []int{1, 2, 3, 7, 100} {
		l := names(n)
		times := 0
		var got []api.Resp
		j := port.Start(func(io *port.IO) {
			io.All(l, func(answers []api.Resp) {
				times++
				got = answers
				io.End(api.Result{N: len(answers)})
			})
		})
		var want []api.Resp
		for i := range n {
			wantWaits(t, j, l[i], i)
			if times != 0 {
				t.Fatalf("of %d: then was called ahead of answer %d", n, i)
			}
			// Whatever the answer is, the next one is asked.
			a := api.Resp{Code: api.Code(i % 2 * 70), Data: "d" + strconv.Itoa(i), Names: []string{strconv.Itoa(i)}}
			want = append(want, a)
			give(t, j, a)
		}
		wantOver(t, j, api.Result{N: n}, n)
		if times != 1 || !slices.EqualFunc(got, want, sameResp) {
			t.Errorf("of %d: then was called %d times, with %v, want %v", n, times, got, want)
		}
	}
}

func TestAllMayHoldOneRequestOftener(t *testing.T) {
	j := port.List([]api.Req{get(0, "a"), get(0, "a"), get(0, "a")})
	for i := range 3 {
		wantWaits(t, j, get(0, "a"), i)
		give(t, j, api.Resp{Data: strconv.Itoa(i)})
	}
	wantOver(t, j, api.Result{N: 3, Texts: []string{"0", "1", "2"}}, 3)
}

func TestAllWithinAll(t *testing.T) {
	var seen []string
	tell := func(l []api.Resp) {
		for _, a := range l {
			seen = append(seen, a.Data)
		}
		seen = append(seen, "|")
	}
	j := port.Start(func(io *port.IO) {
		io.All([]api.Req{get(0, "a"), get(0, "b")}, func(l []api.Resp) {
			tell(l)
			io.All(nil, func(l []api.Resp) {
				tell(l)
				io.All([]api.Req{get(1, "c")}, func(l []api.Resp) {
					tell(l)
					io.Ask(get(2, "d"), func(r api.Resp) {
						tell([]api.Resp{r})
						io.All([]api.Req{get(3, "e"), get(3, "f"), get(3, "g")}, func(l []api.Resp) {
							tell(l)
							io.End(api.Result{Texts: seen})
						})
					})
				})
			})
		})
	})
	for i, r := range []api.Req{get(0, "a"), get(0, "b"), get(1, "c"), get(2, "d"), get(3, "e"), get(3, "f"), get(3, "g")} {
		wantWaits(t, j, r, i)
		give(t, j, api.Resp{Data: r.Name})
	}
	wantOver(t, j, api.Result{Texts: strings.Split("a b | | c | d | e f g |", " ")}, 7)
}

// The stack must not grow with what was asked already.
func TestManySteps(t *testing.T) {
	const n = 300000
	l := make([]api.Req, n)
	j := port.List(l)
	wantRun(t, j, nil, n-1, n-1, api.ErrLong)
	wantRun(t, j, nil, n, 1, api.OK)
	if r := j.Result(); r.Code != api.ErrRange || r.N != 0 || len(r.Texts) != n || len(r.Ids) != 0 || j.Steps() != n {
		t.Errorf("%d, %d, %d texts, %d ids, %d steps", int(r.Code), r.N, len(r.Texts), len(r.Ids), j.Steps())
	}
	left := n
	j = port.Start(func(io *port.IO) {
		var again func(api.Resp)
		again = func(api.Resp) {
			if left--; left > 0 {
				io.Ask(api.Req{}, again)
			} else {
				io.End(api.Result{N: 1})
			}
		}
		io.Ask(api.Req{}, again)
	})
	wantRun(t, j, nil, math.MaxInt, n, api.OK)
	wantOver(t, j, api.Result{N: 1}, n)
}

func TestBehindAnEndNothingIsDone(t *testing.T) {
	called := 0
	count := func() { called++ }
	work := func(io *port.IO) {
		io.End(api.Result{Code: api.ErrNone, N: 1, Texts: []string{"first"}})
		io.End(api.Result{N: 2})
		io.Ask(get(0, "a"), func(api.Resp) { count() })
		io.All(nil, func([]api.Resp) { count() })
		io.All([]api.Req{}, func([]api.Resp) { count() })
		io.All(names(2), func([]api.Resp) { count() })
		io.End(api.Result{})
	}
	want := api.Result{Code: api.ErrNone, N: 1, Texts: []string{"first"}}
	wantOver(t, port.Start(work), want, 0)
	j := port.Start(func(io *port.IO) { io.Ask(get(0, "a"), func(api.Resp) { work(io) }) })
	give(t, j, api.Resp{})
	wantOver(t, j, want, 1)
	j = port.Start(func(io *port.IO) { io.All(names(2), func([]api.Resp) { work(io) }) })
	give(t, j, api.Resp{})
	give(t, j, api.Resp{})
	wantOver(t, j, want, 2)
	if called != 0 {
		t.Errorf("%d were called behind an end", called)
	}
}

func TestAnEndBehindAnAsking(t *testing.T) {
	called := 0
	j := port.Start(func(io *port.IO) {
		io.Ask(get(0, "a"), func(api.Resp) { called++ })
		io.End(api.Result{N: 5})
	})
	wantOver(t, j, api.Result{N: 5}, 0)
	j = port.Start(func(io *port.IO) {
		io.All(names(3), func([]api.Resp) { called++ })
		io.End(api.Result{N: 6})
	})
	wantOver(t, j, api.Result{N: 6}, 0)
	var held *port.IO
	j = port.Start(func(io *port.IO) {
		held = io
		io.Ask(get(0, "a"), func(api.Resp) { called++ })
	})
	wantWaits(t, j, get(0, "a"), 0)
	held.End(api.Result{N: 7})
	wantOver(t, j, api.Result{N: 7}, 0)
	if called != 0 {
		t.Errorf("%d were called", called)
	}
}

// The work is to ask once in a go: what it asks besides is no other's answer.
func TestARequestThatWaitsIsNotChanged(t *testing.T) {
	var seen []string
	j := port.Start(func(io *port.IO) {
		io.Ask(get(0, "a"), func(r api.Resp) {
			seen = append(seen, "a "+r.Data)
			io.End(api.Result{N: 1})
		})
		io.Ask(get(0, "b"), func(r api.Resp) { seen = append(seen, "b "+r.Data) })
		io.All(names(2), func([]api.Resp) { seen = append(seen, "all") })
	})
	wantWaits(t, j, get(0, "a"), 0)
	give(t, j, api.Resp{Data: "x"})
	wantOver(t, j, api.Result{N: 1}, 1)
	if !slices.Equal(seen, []string{"a x"}) {
		t.Error(seen)
	}
}

func TestNothingIsAskedByNobody(t *testing.T) {
	for _, io := range []*port.IO{nil, {}} {
		called := 0
		io.Ask(get(0, "a"), func(api.Resp) { called++ })
		io.All(names(2), func([]api.Resp) { called++ })
		io.End(api.Result{N: 1})
		if called != 0 {
			t.Errorf("%d were called", called)
		}
	}
	wantRun(t, &port.Job{}, nil, 3, 0, api.OK)
}

// What the work sees of its own job while it goes on.
func TestAJobThatIsAskedByItsWork(t *testing.T) {
	var j *port.Job
	j = port.Start(func(io *port.IO) {
		io.Ask(get(0, "a"), func(api.Resp) {
			if r, ok := j.Next(); ok || r != (api.Req{}) || j.Over() || j.Steps() != 1 {
				t.Errorf("in a go: %v, %t, over %t, steps %d", r, ok, j.Over(), j.Steps())
			}
			if code := j.Give(api.Resp{}); code != api.ErrState || j.Steps() != 1 {
				t.Errorf("Give in a go, with nothing asked: %d, steps %d", int(code), j.Steps())
			}
			wantRun(t, j, nil, 5, 0, api.ErrLong)
			io.Ask(get(0, "b"), func(r api.Resp) { io.End(api.Result{Id: r.Data}) })
			wantWaits(t, j, get(0, "b"), 1)
			give(t, j, api.Resp{Data: "inner"})
			wantOver(t, j, api.Result{Id: "inner"}, 2)
		})
	})
	give(t, j, api.Resp{})
	wantOver(t, j, api.Result{Id: "inner"}, 2)
}

// Promise 8.1, and rule R4: what is handed in stays as it is, and is not held on to.

func TestTheListOfAllIsItsCallers(t *testing.T) {
	for _, start := range []func([]api.Req) *port.Job{
		port.List,
		func(l []api.Req) *port.Job {
			return port.Start(func(io *port.IO) {
				io.All(l, func(answers []api.Resp) { io.End(api.Result{N: len(answers)}) })
			})
		},
	} {
		room := names(6)
		was := slices.Clone(room)
		j := start(room[:4])
		wantWaits(t, j, was[0], 0)
		give(t, j, api.Resp{})
		for i := range room {
			room[i] = put(9, "other", "x")
		}
		for i := 1; i < 4; i++ {
			wantWaits(t, j, was[i], i)
			give(t, j, api.Resp{})
		}
		if !j.Over() || j.Result().N != 4 {
			t.Errorf("over %t, %v", j.Over(), j.Result())
		}
		for i, r := range room {
			if r != put(9, "other", "x") {
				t.Errorf("member %d of the list was changed: %v", i, r)
			}
		}
	}
}

func TestTheListOfAllIsNotChanged(t *testing.T) {
	room := names(6)
	was := slices.Clone(room)
	wantRun(t, port.List(room[:4]), some(t, 3), 9, 4, api.OK)
	if !slices.Equal(room, was) {
		t.Errorf("%v, want %v", room, was)
	}
}

func TestTheNamesOfAnAnswerAreItsGivers(t *testing.T) {
	room := []string{"a", "b", "spare"}
	var got []api.Resp
	j := port.Start(func(io *port.IO) {
		io.All(names(2), func(l []api.Resp) {
			got = l
			io.End(api.Result{})
		})
	})
	give(t, j, api.Resp{Names: room[:2]})
	room[0] = "changed"
	give(t, j, api.Resp{Names: room[:2]})
	if !slices.Equal(got[0].Names, []string{"a", "b"}) || !slices.Equal(got[1].Names, []string{"changed", "b"}) {
		t.Errorf("%q", got)
	}
	got[1].Names[1] = "by the work"
	_ = append(got[0].Names, "x", "y")
	_ = append(got[1].Names, "x", "y")
	if !slices.Equal(room, []string{"changed", "b", "spare"}) || got[0].Names[1] != "b" {
		t.Errorf("%q, %q", room, got)
	}
	j = port.List(names(2))
	give(t, j, api.Resp{Names: room[:2]})
	room[0] = "changed again"
	give(t, j, api.Resp{Names: room[:1]})
	room[0] = "and again"
	wantOver(t, j, api.Result{N: 2, Texts: []string{"", ""}, Ids: []string{"changed", "b", "changed again"}}, 2)
}

// full is a result that has something in each of its lists.
func full() api.Result {
	return api.Result{
		Code: api.ErrLost, Id: "id", N: -3,
		Ids: []string{"i", "j"}, Texts: []string{"t", "u"},
		Entries: []api.Entry{{Path: "p", Kind: api.EFile, Mode: 1, Mtime: 2, Ctime: 3, Data: "d"}, {Path: "q"}},
		Snaps:   []api.Snap{{Time: 4, Host: "h", Paths: []string{"p", "q"}, Tags: []string{"g", "h"}, Tree: "tr", Parent: "pa"}, {Time: 5}},
	}
}

// spoil changes all that r holds in its lists, spare room too.
func spoil(r api.Result) {
	for _, l := range [][]string{r.Ids, r.Texts, r.Snaps[0].Paths, r.Snaps[0].Tags} {
		l = l[:cap(l)]
		for i := range l {
			l[i] = "spoilt"
		}
	}
	r.Entries, r.Snaps = r.Entries[:cap(r.Entries)], r.Snaps[:cap(r.Snaps)]
	for i := range r.Entries {
		r.Entries[i] = api.Entry{Path: "spoilt"}
	}
	for i := range r.Snaps {
		r.Snaps[i] = api.Snap{Host: "spoilt"}
	}
}

func TestAResultIsNewMemory(t *testing.T) {
	handed := full()
	j := port.Start(func(io *port.IO) {
		io.End(handed)
		if !same(handed, full()) {
			t.Error("End changed what it was given")
		}
		spoil(handed)
	})
	wantOver(t, j, full(), 0)
	a, b := j.Result(), j.Result()
	spoil(a)
	if !same(b, full()) {
		t.Error("two answers share memory")
	}
	wantOver(t, j, full(), 0)
}

func TestListsOfAResultShareNothing(t *testing.T) {
	one := []string{"a", "b", "c"}
	j := port.Start(func(io *port.IO) {
		io.End(api.Result{Ids: one[:2], Texts: one[:2], Snaps: []api.Snap{{Paths: one[:2], Tags: one[:1]}, {Paths: one[:2]}}})
	})
	r := j.Result()
	r.Ids[0] = "changed"
	_ = append(r.Ids, "x", "y")
	_ = append(r.Snaps[0].Paths, "x", "y")
	if r.Texts[0] != "a" || r.Snaps[0].Paths[0] != "a" || r.Snaps[0].Tags[0] != "a" || r.Snaps[1].Paths[0] != "a" || !slices.Equal(one, []string{"a", "b", "c"}) {
		t.Errorf("%v, %q", r, one)
	}
}

// Promise 8.2.

func TestWhatAJobTells(t *testing.T) {
	j := port.Start(func(io *port.IO) {
		io.Ask(put(1, "a", "x"), func(r api.Resp) {
			io.Ask(list(2, r.Data), func(r api.Resp) { io.End(api.Result{Code: r.Code, Ids: r.Names}) })
		})
	})
	wantWaits(t, j, put(1, "a", "x"), 0)
	give(t, j, api.Resp{Code: api.ErrFail, Data: "begin"})
	wantWaits(t, j, list(2, "begin"), 1)
	give(t, j, api.Resp{Code: api.ErrDown, Names: []string{"n"}})
	wantOver(t, j, api.Result{Code: api.ErrDown, Ids: []string{"n"}}, 2)
}

func TestAJobDoesNothingItself(t *testing.T) {
	stores := some(t, 1)
	j := port.List([]api.Req{put(0, "a", "b")})
	wantWaits(t, j, put(0, "a", "b"), 0)
	give(t, j, api.Resp{})
	wantOver(t, j, api.Result{N: 1, Texts: []string{""}}, 1)
	if len(stores[0].Names()) != 0 || stores[0].Calls() != 0 {
		t.Error("somebody called the store")
	}
}

// Promise 8.3.

func TestListOfNothing(t *testing.T) {
	room := names(2)
	for _, l := range [][]api.Req{nil, {}, room[:0]} {
		wantOver(t, port.List(l), api.Result{}, 0)
	}
}

func TestListTellsTheAnswers(t *testing.T) {
	for i, c := range []struct {
		answers []api.Resp
		want    api.Result
	}{
		{[]api.Resp{{}}, api.Result{N: 1, Texts: []string{""}}},
		{[]api.Resp{{Data: "a"}, {Data: "b"}}, api.Result{N: 2, Texts: []string{"a", "b"}}},
		{[]api.Resp{{Code: api.ErrNone}}, api.Result{Code: api.ErrNone, Texts: []string{""}}},
		{[]api.Resp{{Code: api.ErrNone}, {}}, api.Result{Code: api.ErrNone, N: 1, Texts: []string{"", ""}}},
		{[]api.Resp{{}, {Code: api.ErrNone}}, api.Result{Code: api.ErrNone, N: 1, Texts: []string{"", ""}}},
		{[]api.Resp{{}, {Code: api.ErrDown}, {Data: "x"}, {Code: api.ErrNone}, {Code: api.ErrRange}},
			api.Result{Code: api.ErrDown, N: 2, Texts: []string{"", "", "x", "", ""}}},
		{[]api.Resp{{Code: api.ErrFail}, {Code: api.ErrRange}}, api.Result{Code: api.ErrFail, Texts: []string{"", ""}}},
		{[]api.Resp{{Code: -1}, {Code: 1}}, api.Result{Code: -1, Texts: []string{"", ""}}},
		{[]api.Resp{{Names: []string{"b", "a"}}, {}, {Names: []string{"b"}}}, api.Result{N: 3, Texts: []string{"", "", ""}, Ids: []string{"b", "a", "b"}}},
		// Data and names are told of each answer, whatever its code.
		{[]api.Resp{{Code: api.ErrFail, Data: "x", Names: []string{"y"}}, {Data: "z", Names: []string{"", "w"}}},
			api.Result{Code: api.ErrFail, N: 1, Texts: []string{"x", "z"}, Ids: []string{"y", "", "w"}}},
	} {
		l := names(len(c.answers))
		j := port.List(l)
		for k, a := range c.answers {
			wantWaits(t, j, l[k], k)
			give(t, j, a)
		}
		wantOver(t, j, c.want, len(c.answers))
		if t.Failed() {
			t.Fatalf("case %d", i)
		}
	}
}

func TestListOfAPutAndAGet(t *testing.T) {
	j := port.List([]api.Req{put(0, "a", "data"), get(0, "a")})
	wantRun(t, j, some(t, 1), 100, 2, api.OK)
	wantOver(t, j, api.Result{N: 2, Texts: []string{"", "data"}}, 2)
}

func TestListAtStores(t *testing.T) {
	stores := some(t, 3)
	stores[2].Down(true)
	j := port.List([]api.Req{
		put(0, "a/1", "x"), put(0, "a/2", "y"), put(0, "b", "z"), put(1, "a/3", "w"),
		list(0, "a/"), list(1, ""), list(2, ""), get(0, "a/2"), get(0, "a/3"), get(3, "a"), del(0, "b"), list(0, ""),
	})
	wantRun(t, j, stores, 100, 12, api.OK)
	wantOver(t, j, api.Result{
		Code: api.ErrDown, N: 9, Texts: []string{"", "", "", "", "", "", "", "y", "", "", "", ""},
		Ids: []string{"a/1", "a/2", "a/3", "a/1", "a/2"},
	}, 12)
}

// Promise 8.4.

func TestAnswer(t *testing.T) {
	stores := some(t, 3)
	for i, s := range stores {
		s.Set("a", "of "+strconv.Itoa(i))
	}
	for i := range stores {
		if r := port.Answer(stores, get(i, "a")); !sameResp(r, api.Resp{Data: "of " + strconv.Itoa(i)}) {
			t.Errorf("of store %d: %v", i, r)
		}
		if r := port.Answer(stores, list(i, "")); !sameResp(r, api.Resp{Names: []string{"a"}}) {
			t.Errorf("of store %d: %v", i, r)
		}
	}
	wrong := api.Resp{Code: api.ErrRange}
	for _, at := range []int{-1, -2, 3, 4, 256, 1 << 32, 1<<32 + 1, math.MinInt, math.MaxInt} {
		if r := port.Answer(stores, get(at, "a")); !sameResp(r, wrong) {
			t.Errorf("of store %d: %v", at, r)
		}
	}
	for _, none := range [][]*store.Store{nil, {}, stores[:0], {nil}, {nil, stores[0]}} {
		if r := port.Answer(none, get(0, "a")); !sameResp(r, wrong) {
			t.Errorf("of no store: %v", r)
		}
	}
	if r := port.Answer([]*store.Store{nil, stores[1]}, get(1, "a")); !sameResp(r, api.Resp{Data: "of 1"}) {
		t.Errorf("behind a nil store: %v", r)
	}
	if n := stores[0].Calls(); n != 2 {
		t.Errorf("the first store was called %d times", n)
	}
}

func TestAnswerIsWhatTheStoreAnswers(t *testing.T) {
	stores := some(t, 2)
	a, b := stores[0], stores[1]
	b.Set("there", "data")
	for _, step := range []struct {
		r    api.Req
		want api.Resp
	}{
		{put(1, "n", "d"), api.Resp{}},
		{put(1, "not a name", "d"), api.Resp{Code: api.ErrForm}},
		{put(1, "n", strings.Repeat("d", 131073)), api.Resp{Code: api.ErrLong}},
		{get(1, "n"), api.Resp{Data: "d"}},
		{list(1, "th"), api.Resp{Names: []string{"there"}}},
		{del(1, "there"), api.Resp{}},
		{del(1, "there"), api.Resp{Code: api.ErrNone}},
		{api.Req{Store: 1, Kind: 5}, api.Resp{Code: api.ErrForm}},
		{api.Req{Store: 1}, api.Resp{Code: api.ErrForm}},
	} {
		if r := port.Answer(stores, step.r); !sameResp(r, step.want) {
			t.Errorf("kind %d, %q: %v, want %v", step.r.Kind, step.r.Name, r, step.want)
		}
	}
	b.Fail(1)
	for _, code := range []api.Code{api.ErrFail, api.OK} {
		if r := port.Answer(stores, list(1, "zz")); !sameResp(r, api.Resp{Code: code}) {
			t.Errorf("%v, want %d", r, int(code))
		}
	}
	b.Down(true)
	if r := port.Answer(stores, get(1, "n")); !sameResp(r, api.Resp{Code: api.ErrDown}) {
		t.Error(r)
	}
	if a.Calls() != 0 || b.Calls() != 12 {
		t.Errorf("calls %d, %d", a.Calls(), b.Calls())
	}
}

func TestRunRefuses(t *testing.T) {
	stores := some(t, 1)
	over := port.Start(nil)
	waits := port.List([]api.Req{put(0, "a", "b")})
	for _, most := range []int{math.MinInt, -1, 0, 1, math.MaxInt} {
		wantRun(t, nil, stores, most, 0, api.ErrShape)
		wantRun(t, nil, nil, most, 0, api.ErrShape)
	}
	for _, most := range []int{math.MinInt, -1 << 32, -2, -1} {
		wantRun(t, over, stores, most, 0, api.ErrRange)
		wantRun(t, waits, stores, most, 0, api.ErrRange)
		wantRun(t, waits, nil, most, 0, api.ErrRange)
	}
	wantWaits(t, waits, put(0, "a", "b"), 0)
	if stores[0].Calls() != 0 {
		t.Error("a run that is refused asked a store")
	}
}

func TestRunDoesSoManySteps(t *testing.T) {
	const n = 5
	for most, want := range []int{0, 1, 2, 3, 4, 5, 5, 5} {
		stores := some(t, 3)
		code := api.ErrLong
		if most >= n {
			code = api.OK
		}
		j := port.List(names(n))
		wantRun(t, j, stores, most, want, code)
		calls := stores[0].Calls() + stores[1].Calls() + stores[2].Calls()
		if j.Steps() != want || calls != want || j.Over() != (most >= n) {
			t.Errorf("most %d: steps %d, calls %d, over %t", most, j.Steps(), calls, j.Over())
		}
		wantRun(t, j, stores, math.MaxInt, n-want, api.OK)
		for _, more := range []int{0, 1, math.MaxInt} {
			wantRun(t, j, stores, more, 0, api.OK)
		}
		wantOver(t, j, api.Result{Code: api.ErrNone, Texts: make([]string, n)}, n)
	}
}

func TestRunInParts(t *testing.T) {
	stores := some(t, 1)
	j := port.List([]api.Req{put(0, "a", "1"), put(0, "b", "2"), get(0, "a"), get(0, "b"), list(0, "")})
	wantRun(t, j, stores, 2, 2, api.ErrLong)
	wantWaits(t, j, get(0, "a"), 2)
	wantRun(t, j, stores, 0, 0, api.ErrLong)
	wantWaits(t, j, get(0, "a"), 2)
	// In between somebody else gives an answer.
	give(t, j, api.Resp{Data: "by hand"})
	wantRun(t, j, stores, 1, 1, api.ErrLong)
	wantRun(t, j, stores, 1, 1, api.OK)
	wantOver(t, j, api.Result{N: 5, Texts: []string{"", "", "by hand", "2", ""}, Ids: []string{"a", "b"}}, 5)
}

func TestRunWithoutStores(t *testing.T) {
	for _, stores := range [][]*store.Store{nil, {}, {nil, nil, nil}} {
		j := port.List(names(3))
		wantRun(t, j, stores, 3, 3, api.OK)
		wantOver(t, j, api.Result{Code: api.ErrRange, Texts: make([]string, 3)}, 3)
	}
}

func TestRunOfOneThatNeverEnds(t *testing.T) {
	j := port.Start(func(io *port.IO) {
		var again func(api.Resp)
		again = func(api.Resp) { io.Ask(list(0, ""), again) }
		again(api.Resp{})
	})
	stores := some(t, 1)
	for i := range 3 {
		wantRun(t, j, stores, 1000, 1000, api.ErrLong)
		wantWaits(t, j, list(0, ""), (i+1)*1000)
	}
}

func TestRunUsesItsStoresOn(t *testing.T) {
	stores := some(t, 2)
	was := slices.Clone(stores)
	wantRun(t, port.List([]api.Req{put(1, "a", "b")}), stores, 1, 1, api.OK)
	wantRun(t, port.List([]api.Req{get(1, "a"), put(0, "c", "d")}), stores, 2, 2, api.OK)
	if data, ok := stores[0].Get("c"); data != "d" || !ok || !slices.Equal(stores, was) {
		t.Errorf("%q, %t", data, ok)
	}
}

// Promise 8.5.

// A work here is a rule from the answers so far to what is asked next, or to
// the end: such a rule can be followed by hand as well, without a job.

type turn struct {
	ask []api.Req // asked together, none: the end
	end api.Result
}

// rule is work by a seed: what it does hangs on that and on all answers so far.
func rule(seed uint32, answers []api.Resp) turn {
	x := seed*2654435761 + 12345
	for _, a := range answers {
		for _, b := range []byte(fmt.Sprint(a)) {
			x = x*16777619 ^ uint32(b)
		}
	}
	next := func(n int) int {
		x = x*1664525 + 1013904223
		return int(x>>8) % n
	}
	if len(answers) > 25 || next(6) == 0 {
		return turn{end: api.Result{Code: api.Code(next(3)), N: len(answers), Ids: []string{strconv.Itoa(next(1000))}}}
	}
	var ask []api.Req
	for range 1 + next(4) {
		name := "n" + strconv.Itoa(next(3))
		ask = append(ask, []api.Req{put(next(4), name, strconv.Itoa(next(100))), get(next(3), name), list(next(3), "n"), del(next(3), name)}[next(4)])
	}
	return turn{ask: ask}
}

// started is a job that follows a rule: one request by Ask, several by All,
// now and then with an All of nothing between.
func started(seed uint32) *port.Job {
	return port.Start(func(io *port.IO) {
		var answers []api.Resp
		var goOn func()
		goOn = func() {
			what := rule(seed, answers)
			switch {
			case len(what.ask) == 0:
				io.End(what.end)
			case len(what.ask) == 1 && seed%2 == 0:
				io.Ask(what.ask[0], func(r api.Resp) {
					answers = append(answers, r)
					io.All(nil, func([]api.Resp) { goOn() })
				})
			default:
				io.All(what.ask, func(l []api.Resp) {
					answers = append(answers, l...)
					goOn()
				})
			}
		}
		goOn()
	})
}

// byHand follows a rule without a job, and tells all that was asked.
func byHand(seed uint32, answer func(api.Req) api.Resp) (asked []api.Req, end api.Result) {
	var answers []api.Resp
	for {
		what := rule(seed, answers)
		if len(what.ask) == 0 {
			return asked, what.end
		}
		for _, r := range what.ask {
			asked = append(asked, r)
			answers = append(answers, answer(r))
		}
	}
}

func TestAJobIsTheSameWhoeverPlaysIt(t *testing.T) {
	for seed := range uint32(300) {
		own := some(t, 3)
		asked, end := byHand(seed, func(r api.Req) api.Resp { return port.Answer(own, r) })

		j := started(seed)
		wantRun(t, j, some(t, 3), len(asked), len(asked), api.OK)
		wantOver(t, j, end, len(asked))

		j, stores := started(seed), some(t, 3)
		for i, r := range asked {
			wantWaits(t, j, r, i)
			if i%3 == 1 {
				wantRun(t, j, stores, 0, 0, api.ErrLong)
			}
			if i%2 == 0 {
				give(t, j, port.Answer(stores, r))
			} else {
				port.Run(j, stores, 1)
			}
		}
		wantOver(t, j, end, len(asked))
		if t.Failed() {
			t.Fatalf("seed %d", seed)
		}
	}
}

func TestJobsInTurns(t *testing.T) {
	// Each job's work is what it would be alone with the answers that it was given.
	const n = 40
	stores := some(t, 3)
	var jobs []*port.Job
	given := make([][]api.Resp, n)
	asked := make([][]api.Req, n)
	for i := range n {
		jobs = append(jobs, started(uint32(1000+i)))
	}
	x := uint32(7)
	for left := n; left > 0; {
		x = x*1664525 + 1013904223
		i := int(x>>8) % n
		r, ok := jobs[i].Next()
		if !ok {
			left = len(slices.DeleteFunc(slices.Clone(jobs), (*port.Job).Over))
			continue
		}
		a := port.Answer(stores, r)
		asked[i], given[i] = append(asked[i], r), append(given[i], a)
		give(t, jobs[i], a)
	}
	for i, j := range jobs {
		next := 0
		alone, end := byHand(uint32(1000+i), func(api.Req) api.Resp {
			next++
			return given[i][next-1]
		})
		if !slices.Equal(asked[i], alone) {
			t.Errorf("job %d asked %v, alone %v", i, asked[i], alone)
		}
		wantOver(t, j, end, len(alone))
	}
}

func TestTwoJobsInTurns(t *testing.T) {
	stores := some(t, 1)
	a := port.List([]api.Req{put(0, "x", "of a"), get(0, "x"), get(0, "x")})
	b := port.List([]api.Req{get(0, "x"), put(0, "x", "of b"), get(0, "x")})
	for i, j := range []*port.Job{b, a, a, b, a, b} {
		wantRun(t, j, stores, 1, 1, map[bool]api.Code{true: api.ErrLong, false: api.OK}[i < 4])
	}
	wantOver(t, a, api.Result{N: 3, Texts: []string{"", "of a", "of b"}}, 3)
	wantOver(t, b, api.Result{Code: api.ErrNone, N: 2, Texts: []string{"", "", "of b"}}, 3)
}

func TestJobsAtOnce(t *testing.T) {
	const n = 16
	var all sync.WaitGroup
	got := make([]api.Result, n)
	for i := range n {
		stores := some(t, 3)
		all.Go(func() {
			j := started(uint32(5000 + i))
			port.Run(j, stores, 1000)
			got[i] = j.Result()
		})
	}
	all.Wait()
	for i := range n {
		stores := some(t, 3)
		if _, end := byHand(uint32(5000+i), func(r api.Req) api.Resp { return port.Answer(stores, r) }); !same(got[i], end) {
			t.Errorf("job %d: %v, want %v", i, got[i], end)
		}
	}
}
