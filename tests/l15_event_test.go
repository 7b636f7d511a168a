package tests

import (
	"fmt"
	"go/ast"
	"go/parser"
	"go/token"
	"math"
	"slices"
	"testing"

	"loop.example/g00248/impl"
)

const mostPlay = 100

func evRun(i int, n int) impl.Event { return impl.Event{Kind: impl.EvRun, I: i, N: n} }

func evTell(number int, y impl.Term) impl.Event {
	return impl.Event{Kind: impl.EvTell, I: number, T: y}
}

func evEnd(number int, y impl.Term) impl.Event {
	return impl.Event{Kind: impl.EvEnd, I: number, T: y}
}

func evSweep(number int) impl.Event { return impl.Event{Kind: impl.EvSweep, I: number} }

// doPlainBy is DoPlain by the chapter.
func doPlainBy(p impl.Plain, e impl.Event) (impl.Plain, bool) {
	switch e.Kind {
	case 1:
		return runBy(p, e.I, e.N)
	case 2:
		return tellBy(p, e.I, e.T)
	case 3:
		return endBy(p, e.I, e.T)
	case 4:
		there := rightPlain(p) && slices.ContainsFunc(p.Actors, func(a impl.Actor) bool { return a.Pid == e.I })
		return dupPlain(p), there
	}
	return dupPlain(p), false
}

// doHeapsBy is DoHeaps by the chapter.
func doHeapsBy(h impl.Heaps, e impl.Event) (impl.Heaps, bool) {
	got, ok, _ := doneBy(h, func(x *borough) bool {
		switch e.Kind {
		case 1:
			return x.run(e.I, e.N)
		case 2:
			return impl.TermOk(e.T) && x.told(e.I, dup(e.T))
		case 3:
			return impl.TermOk(e.T) && x.ends(e.I, dup(e.T))
		case 4:
			return x.sweeps(e.I)
		}
		return false
	})
	return got, ok
}

// playPlainBy goes by the chapter alone, event by event.
func playPlainBy(p impl.Plain, list []impl.Event) impl.Plain {
	got := dupPlain(p)
	for i := 0; i < len(list) && i < mostPlay; i++ {
		got, _ = doPlainBy(got, list[i])
	}
	return got
}

func playHeapsBy(h impl.Heaps, list []impl.Event) impl.Heaps {
	got := dupHeaps(h)
	for i := 0; i < len(list) && i < mostPlay; i++ {
		got, _ = doHeapsBy(got, list[i])
	}
	return got
}

// spareEvents stand behind a list's length: each would do something.
var spareEvents = []impl.Event{evRun(0, 1), {}, evEnd(1, tup(spare...)), evTell(1, num(1)), evSweep(1)}

// booking are events that are lent, with spare room behind the list, beside a system that is lent.
type booking struct {
	tenancy
	events, wasEvents []impl.Event
}

func (x *booking) event(e impl.Event) impl.Event {
	return impl.Event{Kind: e.Kind, I: e.I, N: e.N, T: x.term(e.T)}
}

func (x *booking) coming(list []impl.Event) []impl.Event {
	x.events = slices.Concat(list, spareEvents)
	for i, e := range list {
		x.events[i] = x.event(e)
	}
	x.wasEvents = slices.Clone(x.events)
	return x.events[:len(list)]
}

func (x *booking) listUntouched(t *testing.T) {
	t.Helper()
	for i, e := range x.events {
		if b := x.wasEvents[i]; e.Kind != b.Kind || e.I != b.I || e.N != b.N || e.T.K != b.T.K || e.T.N != b.T.N || e.T.S != b.T.S || !sameList(e.T.L, b.T.L) {
			t.Fatal("an event that was handed in was written, or the room behind it", e)
		}
	}
}

// isDoPlain is DoPlain, held against the chapter.
func isDoPlain(t *testing.T, p impl.Plain, e impl.Event) (impl.Plain, bool) {
	t.Helper()
	var x booking
	got, ok := impl.DoPlain(x.plain(p), x.event(e))
	x.staging.isNew(t, got)
	want, right := doPlainBy(p, e)
	isBehind(t, fmt.Sprintf("the event %v", e), p, got, ok, want, right)
	return got, ok
}

func isDoHeaps(t *testing.T, h impl.Heaps, e impl.Event) (impl.Heaps, bool) {
	t.Helper()
	var x booking
	got, ok := impl.DoHeaps(x.heaps(h), x.event(e))
	x.tenancy.isNew(t, got)
	want, right := doHeapsBy(h, e)
	isRightBehind(t, fmt.Sprintf("the event %v", e), h, got, ok, want, right)
	return got, ok
}

// isPlayPlain is PlayPlain, held against the chapter, and against its events one by one.
func isPlayPlain(t *testing.T, p impl.Plain, list []impl.Event) impl.Plain {
	t.Helper()
	var x booking
	got := impl.PlayPlain(x.plain(p), x.coming(list))
	x.staging.isNew(t, got)
	x.listUntouched(t)
	single := p
	for _, e := range list[:min(len(list), mostPlay)] {
		single, _ = impl.DoPlain(single, e)
	}
	if want := playPlainBy(p, list); !samePlain(got, want) || !samePlain(single, want) {
		t.Fatalf("a play of %d of %s\nis %s\none by one %s\nnot %s", len(list), plainText(p), plainText(got), plainText(single), plainText(want))
	}
	return got
}

func isPlayHeaps(t *testing.T, h impl.Heaps, list []impl.Event) impl.Heaps {
	t.Helper()
	var x booking
	got := impl.PlayHeaps(x.heaps(h), x.coming(list))
	x.tenancy.isNew(t, got)
	x.listUntouched(t)
	single := h
	for _, e := range list[:min(len(list), mostPlay)] {
		single, _ = impl.DoHeaps(single, e)
	}
	if want := playHeapsBy(h, list); !sameHeaps(got, want) || !sameHeaps(single, want) {
		t.Fatalf("a play of %d of %s\nis %s\none by one %s\nnot %s", len(list), heapsText(h), heapsText(got), heapsText(single), heapsText(want))
	}
	return got
}

// both are a system on terms, and the same on heaps.
type both struct {
	p impl.Plain
	h impl.Heaps
}

func newBoth(t *testing.T, l []impl.Ins, arg impl.Term, words int, room int) both {
	t.Helper()
	p, ok := impl.PlainNew(l, arg)
	h, is := impl.HeapsNew(l, arg, words, room)
	if !ok || !is {
		t.Fatal("no system", impl.CodeText(l), arg, words, room)
	}
	return both{p, h}
}

// threeOfBoth are three that are linked in a chain, and have words that wait. The Pids 4 and 5 have ended.
func threeOfBoth(t *testing.T) both {
	t.Helper()
	h := threeHeaps(t)
	h.Next = 6
	h.Out = append(h.Out, impl.Said{Kind: impl.SaidStart, Pid: 4, T: num(4)}, impl.Said{Kind: impl.SaidEnd, Pid: 4, T: num(4)}, impl.Said{Kind: impl.SaidStart, Pid: 5, T: num(5)}, impl.Said{Kind: impl.SaidEnd, Pid: 5, T: noRoom})
	p, ok := impl.PlainOf(h)
	if !ok {
		t.Fatal("not right", heapsText(h))
	}
	return both{p, h}
}

// next does e to both, and asks that both do the same, unless somebody had no room.
func (x both) next(t *testing.T, e impl.Event) (both, bool) {
	t.Helper()
	p, ok := isDoPlain(t, x.p, e)
	h, is := isDoHeaps(t, x.h, e)
	on, _ := impl.PlainOf(h)
	if noRoomsIn(h.Out) == noRoomsIn(x.h.Out) && (ok != is || !samePlain(on, p)) {
		t.Fatalf("by %v on terms %v: %s\non heaps %v: %s", e, ok, plainText(p), is, heapsText(h))
	}
	return both{p, h}, ok
}

// isRefused asks that e is refused, and leaves both as they were.
func (x both) isRefused(t *testing.T, e impl.Event) {
	t.Helper()
	p, ok := isDoPlain(t, x.p, e)
	isStill(t, x.p, p, ok)
	h, ok := isDoHeaps(t, x.h, e)
	isStillHeaps(t, x.h, h, ok)
	x.leaves(t, e)
}

// leaves asks that a play of e alone leaves both as they were.
func (x both) leaves(t *testing.T, e impl.Event) {
	t.Helper()
	if p := isPlayPlain(t, x.p, []impl.Event{e}); !samePlain(p, x.p) {
		t.Fatalf("played %v: %s", e, plainText(p))
	}
	if h := isPlayHeaps(t, x.h, []impl.Event{e}); !sameHeaps(h, x.h) {
		t.Fatalf("played %v: %s", e, heapsText(h))
	}
}

func (x both) plays(t *testing.T, list []impl.Event) both {
	t.Helper()
	return both{isPlayPlain(t, x.p, list), isPlayHeaps(t, x.h, list)}
}

func (x both) same(y both) bool { return samePlain(x.p, y.p) && sameHeaps(x.h, y.h) }

func TestEventsInNumbers(t *testing.T) {
	for i, kind := range []int{impl.EvRun, impl.EvTell, impl.EvEnd, impl.EvSweep} {
		if kind != i+1 {
			t.Error("kind", i+1, "is", kind)
		}
	}
}

// Each of the four kinds, held against the functions that the chapter names.
func TestWhatEachKindDoes(t *testing.T) {
	x := threeOfBoth(t)
	samePlains := func(e impl.Event) func(p impl.Plain, right bool) {
		return func(p impl.Plain, right bool) {
			t.Helper()
			if got, ok := isDoPlain(t, x.p, e); ok != right || !samePlain(got, p) {
				t.Errorf("%v is %v: %s", e, ok, plainText(got))
			}
		}
	}
	sameOnHeaps := func(e impl.Event) func(h impl.Heaps, right bool) {
		return func(h impl.Heaps, right bool) {
			t.Helper()
			if got, ok := isDoHeaps(t, x.h, e); ok != right || !sameHeaps(got, h) {
				t.Errorf("%v is %v: %s", e, ok, heapsText(got))
			}
		}
	}
	for i := -1; i < 8; i++ {
		for n := -1; n < 23; n++ {
			samePlains(evRun(i, n))(impl.PlainRun(x.p, i, n))
			sameOnHeaps(evRun(i, n))(impl.HeapsRun(x.h, i, n))
		}
		for _, y := range []impl.Term{num(1), atom("ok"), tup(atom("a"), lst(pid(2))), {}, num(1000001)} {
			samePlains(evTell(i, y))(impl.PlainTell(x.p, i, y))
			sameOnHeaps(evTell(i, y))(impl.HeapsTell(x.h, i, y))
			samePlains(evEnd(i, y))(impl.PlainEnd(x.p, i, y))
			sameOnHeaps(evEnd(i, y))(impl.HeapsEnd(x.h, i, y))
		}
		samePlains(evSweep(i))(x.p, i >= 1 && i <= 3)
		sameOnHeaps(evSweep(i))(impl.HeapsSweep(x.h, i))
	}
}

// The same by answers that are told here.
func TestEventsOneByOne(t *testing.T) {
	x := newBoth(t, linesOf(t, "take 1", "tuple 2 0 2", "say 2", "jump 0"), atom("me"), 100, 20)
	steps := []struct {
		e    impl.Event
		ok   bool
		said []string
	}{
		{evRun(0, 20), true, nil},
		{evTell(1, num(7)), true, nil},
		{evTell(2, num(8)), false, nil},
		{evSweep(1), true, nil},
		{evRun(5, 3), true, []string{"!1 {me,7}"}},
		{evSweep(2), false, nil},
		{impl.Event{Kind: 5, I: 1, N: 1, T: num(1)}, false, nil},
		{evTell(1, num(9)), true, nil},
		{evRun(0, 21), false, nil},
		{evRun(0, 4), true, []string{"!1 {me,9}"}},
		{evEnd(2, atom("bye")), false, nil},
		{evEnd(1, atom("bye")), true, []string{"-1 bye"}},
		{evSweep(1), false, nil},
		{evRun(0, 1), false, nil},
		{evTell(1, num(7)), false, nil},
		{evEnd(1, num(7)), false, nil},
	}
	list, said := []impl.Event{}, []string{}
	for _, y := range steps {
		got, ok := x.next(t, y.e)
		if ok != y.ok {
			t.Fatal(y.e, "is", ok)
		}
		isDone(t, x.h, got.h, pidsOf(got.p), y.said...)
		x = got
		list, said = append(list, y.e), append(said, y.said...)
	}
	start := newBoth(t, x.p.Code, atom("me"), 100, 20)
	all := start.plays(t, list)
	isDone(t, start.h, all.h, nil, said...)
	if !all.same(x) || impl.NoRooms(all.h.Out) != 0 {
		t.Errorf("one play is %s", heapsText(all.h))
	}
}

func pidsOf(p impl.Plain) []int {
	l := []int{}
	for _, a := range p.Actors {
		l = append(l, a.Pid)
	}
	return l
}

// fullEvents are events with something in each field, that each would do something by another Kind.
func fullEvents(kind int) []impl.Event {
	return []impl.Event{{Kind: kind}, {Kind: kind, I: 1, N: 1, T: num(1)}, {Kind: kind, I: 2, N: 20, T: atom("ok")}, {Kind: kind, I: 3, N: 7, T: tup(lst(num(1)))}}
}

func TestKindsThatAreNone(t *testing.T) {
	x := threeOfBoth(t)
	for _, kind := range []int{0, 5, -1, -2, -3, -4, 6, 7, 8, 12, 100, 1<<32 + 1, 1<<32 + 4, 1<<8 + 1, 1<<16 + 2, math.MinInt, math.MinInt + 1, math.MaxInt, math.MaxInt - 3} {
		for _, e := range fullEvents(kind) {
			x.isRefused(t, e)
		}
	}
	for kind := 1; kind <= 4; kind++ {
		for _, e := range fullEvents(kind)[1:] {
			if _, ok := x.next(t, e); !ok {
				t.Error("refused", e)
			}
		}
	}
}

// Fields that a Kind does not name, whatever they hold, change no answer. Terms without end stand there, too.
func TestWhatAKindDoesNotName(t *testing.T) {
	x := threeOfBoth(t)
	odd := []impl.Term{num(1), tup(lst(num(1))), atom("noroom"), num(1000001), {K: 99, N: -1, S: "x"}, {K: impl.TAtom, N: 3, S: "A", L: many(3, num(1))}, round(impl.TTuple, true, num(1)), round(impl.TList, false, num(2)), nested(100000, lst, num(1))}
	ask := func(plain impl.Event, e impl.Event) {
		t.Helper()
		p, ok := isDoPlain(t, x.p, plain)
		h, is := isDoHeaps(t, x.h, plain)
		got, gotOk := impl.DoPlain(x.p, e)
		gotHeaps, heapsOk := impl.DoHeaps(x.h, e)
		if gotOk != ok || heapsOk != is || !samePlain(got, p) || !sameHeaps(gotHeaps, h) {
			t.Fatalf("%v with %d, %d: %v %s\n%v %s", plain, e.I, e.N, gotOk, plainText(got), heapsOk, heapsText(gotHeaps))
		}
		if !samePlain(impl.PlayPlain(x.p, []impl.Event{e}), p) || !sameHeaps(impl.PlayHeaps(x.h, []impl.Event{e}), h) {
			t.Fatal("played", plain, e.I, e.N)
		}
	}
	for _, y := range odd {
		for _, i := range []int{-1, 0, 1, 2, math.MaxInt} {
			ask(evRun(i, 3), impl.Event{Kind: impl.EvRun, I: i, N: 3, T: y})
			for _, n := range []int{math.MinInt, -1, 0, 1, 20, 21, math.MaxInt} {
				ask(evSweep(i), impl.Event{Kind: impl.EvSweep, I: i, N: n, T: y})
			}
		}
		ask(impl.Event{}, impl.Event{Kind: 0, I: 1, N: 1, T: y})
		ask(impl.Event{Kind: 5}, impl.Event{Kind: 5, I: 1, N: 1, T: y})
	}
	for _, n := range edgeNumbers {
		for _, y := range []impl.Term{num(5), tup(atom("a"), bin("xy")), num(1000001)} {
			ask(evTell(2, y), impl.Event{Kind: impl.EvTell, I: 2, N: n, T: y})
			ask(evEnd(2, y), impl.Event{Kind: impl.EvEnd, I: 2, N: n, T: y})
		}
	}
}

// Of a sweep Pids are told, not places, and nobody else's heap is swept.
func TestSweepsOfNobody(t *testing.T) {
	x := threeOfBoth(t)
	for _, number := range []int{1, 2, 3} {
		got, ok := x.next(t, evSweep(number))
		if !ok || !samePlain(got.p, x.p) {
			t.Errorf("a sweep of %d is %v: %s", number, ok, plainText(got.p))
		}
		for i, c := range got.h.Cells {
			ahead, _ := impl.LoadHome(x.h.A, x.h.Cells[i].At)
			g, _ := impl.LoadHome(got.h.A, c.At)
			if swept := len(g.Young) == 0; swept != (c.Pid == number) || len(ahead.Young) == 0 {
				t.Errorf("a sweep of %d leaves %d young words with %d", number, len(g.Young), c.Pid)
			}
		}
	}
	// 4 and 5 have ended, 6 is next, and has not begun
	for _, number := range []int{0, 4, 5, 6, 7, -1, -2, -3, 99999, 100000, 1<<32 + 1, math.MinInt, math.MaxInt} {
		x.isRefused(t, evSweep(number))
	}
	// who ends is swept no more, and the others still are
	for _, number := range []int{1, 2, 3} {
		got, _ := x.next(t, evEnd(number, atom("ok")))
		for other := 1; other <= 3; other++ {
			if _, ok := got.next(t, evSweep(other)); ok != (other != number) {
				t.Errorf("behind the end of %d a sweep of %d is %v", number, other, ok)
			}
		}
		got.isRefused(t, evSweep(number))
	}
	gone, _ := x.next(t, evEnd(2, num(1)))
	if len(gone.p.Actors) != 0 {
		t.Fatal("some are left", plainText(gone.p))
	}
	for number := -1; number < 8; number++ {
		gone.isRefused(t, evSweep(number))
	}
	// who begins is swept from then on
	y := newBoth(t, linesOf(t, "make 1 0 1", "take 2", "jump 0"), lst(num(1)), 200, 40)
	y.isRefused(t, evSweep(2))
	y, _ = y.next(t, evRun(0, 1))
	if _, ok := y.next(t, evSweep(2)); !ok {
		t.Error("who has begun is not swept")
	}
	y.isRefused(t, evSweep(3))
}

// A sweep on terms looks at Pids, wherever they stand.
func TestSweepsOfManyActors(t *testing.T) {
	for _, n := range []int{0, 1, 2, 19, 20} {
		p := plainOf(t, n, "end 0")
		for i := range p.Actors {
			p.Actors[i].Pid = 3 * (i + 1)
		}
		p.Next = 90000
		h := settled(p, 40, 2, 50)
		for number := -2; number < 3*n+5; number++ {
			there := number > 0 && number%3 == 0 && number <= 3*n
			got, ok := isDoPlain(t, p, evSweep(number))
			_, is := isDoHeaps(t, h, evSweep(number))
			if ok != there || is != there || !samePlain(got, p) {
				t.Errorf("of %d a sweep of %d is %v, %v", n, number, ok, is)
			}
		}
	}
}

func TestPlacesAndStepsOfEvents(t *testing.T) {
	x := threeOfBoth(t)
	places := []int{math.MinInt, math.MinInt + 1, -3, -1, 0, 1, 2, 3, 4, 5, 1 << 32, 1<<62 + 1, math.MaxInt - 1, math.MaxInt}
	for _, i := range places {
		for _, n := range []int{math.MinInt, -1 << 32, -20, -1, 0, 1, 2, 19, 20, 21, 22, 1<<32 + 1, math.MaxInt} {
			if i < 0 || n < 1 || n > 20 {
				x.isRefused(t, evRun(i, n))
				continue
			}
			got, ok := x.next(t, evRun(i, n))
			want := evRun(i%3, n)
			if same, _ := x.next(t, want); !ok || !same.same(got) {
				t.Errorf("a run of %d, %d is %v: %s", i, n, ok, plainText(got.p))
			}
		}
	}
	for _, number := range []int{math.MinInt, -1, 0, 4, 5, 6, 99999, 100000, 1<<32 + 1, math.MaxInt} {
		x.isRefused(t, evTell(number, num(1)))
		x.isRefused(t, evEnd(number, num(1)))
	}
	for _, y := range wrongTerms {
		x.isRefused(t, evTell(1, y))
		x.isRefused(t, evEnd(1, y))
	}
	for _, y := range rightTerms {
		if impl.NeedOf(y) > 20 {
			continue
		}
		if _, ok := x.next(t, evTell(1, y)); !ok {
			t.Error("not told", y)
		}
		if _, ok := x.next(t, evEnd(1, y)); !ok {
			t.Error("not ended by", y)
		}
	}
	// a place modulo nobody
	none, _ := x.next(t, evEnd(1, num(1)))
	for _, i := range places {
		none.isRefused(t, evRun(i, 1))
	}
}

// counting are runs of one that says a word each time.
func counting(t *testing.T, n int) (both, []impl.Event) {
	t.Helper()
	x := newBoth(t, linesOf(t, "say 0", "add 0 0 1", "jump 0"), num(0), 100, 20)
	x.p.Actors[0].Regs[1] = num(1)
	x.h.Cells[0].Regs[1] = wInt(1)
	return x, slices.Repeat([]impl.Event{evRun(0, 3)}, n)
}

func TestHowManyEventsArePlayed(t *testing.T) {
	for _, n := range []int{0, 1, 2, 50, 99, 100, 101, 102, 199, 200, 300, 1000} {
		x, list := counting(t, n)
		got := x.plays(t, list)
		played := min(n, 100)
		if !alike(got.p.Actors[0].Regs[0], num(played)) || len(got.p.Out) != 1+played || len(got.h.Out) != 1+played || got.h.Cells[0].Regs[0] != wInt(played) {
			t.Errorf("of %d %d were played: %s", n, len(got.p.Out)-1, heapsText(got.h))
		}
	}
	// those count that are refused, or of no Kind
	for _, refused := range []impl.Event{{}, {Kind: 5}, evRun(0, 0), evSweep(2), evTell(2, num(1)), evTell(1, num(1000001))} {
		for _, ahead := range []int{1, 50, 98, 99, 100, 101, 200} {
			x, list := counting(t, 60)
			got := x.plays(t, slices.Concat(slices.Repeat([]impl.Event{refused}, ahead), list))
			if played := max(0, min(60, 100-ahead)); len(got.p.Out) != 1+played || len(got.h.Out) != 1+played {
				t.Errorf("behind %d of %v %d were played, not %d", ahead, refused, len(got.p.Out)-1, played)
			}
		}
	}
	// the first and the last that count, and the first that does not
	for at := range 103 {
		x, list := counting(t, 103)
		list[at] = evEnd(1, atom("ok"))
		got := x.plays(t, list)
		if ended := len(got.p.Actors) == 0; ended != (at < 100) || len(got.p.Out) != 1+min(at+1, 100) {
			t.Errorf("ended at %d: %v, %d said", at, ended, len(got.p.Out))
		}
	}
}

func TestNoEvents(t *testing.T) {
	x := threeOfBoth(t)
	for _, list := range [][]impl.Event{nil, {}, spareEvents[:0]} {
		if got := x.plays(t, list); !got.same(x) {
			t.Errorf("no event does %s", plainText(got.p))
		}
	}
}

// Events that are refused in the midst are as none: the others behind them are done all the same.
func TestEventsThatAreRefusedInTheMidst(t *testing.T) {
	x := threeOfBoth(t)
	list := []impl.Event{evRun(0, 3), evTell(2, atom("more")), evRun(4, 20), evSweep(2), evEnd(3, atom("ok")), evRun(1, 20), evSweep(1), evTell(1, tup(num(1), num(2))), evRun(0, 20)}
	want := x.plays(t, list)
	for _, refused := range []impl.Event{{}, {Kind: 5, I: 1, N: 1, T: num(1)}, {Kind: -1, I: 1, N: 1, T: num(1)}, evRun(-1, 1), evRun(0, 0), evRun(0, 21), evTell(4, num(1)), evTell(1, num(1000001)), evEnd(0, num(1)), evEnd(6, num(1)), evEnd(1, impl.Term{}), evSweep(0), evSweep(-1), evSweep(4), evSweep(6)} {
		for at := 0; at <= len(list); at++ {
			if got := x.plays(t, slices.Insert(slices.Clone(list), at, refused)); !got.same(want) {
				t.Fatalf("%v at %d: %s\nnot %s", refused, at, heapsText(got.h), heapsText(want.h))
			}
		}
	}
}

// isInParts asks that a list of no more than may be played does the same, however it is parted in two.
func (x both) isInParts(t *testing.T, list []impl.Event) {
	t.Helper()
	want := x.plays(t, list)
	for at := 0; at <= len(list); at++ {
		got := both{impl.PlayPlain(impl.PlayPlain(x.p, list[:at]), list[at:]), impl.PlayHeaps(impl.PlayHeaps(x.h, list[:at]), list[at:])}
		if !got.same(want) {
			t.Fatalf("parted at %d: %s\n%s\nnot %s\n%s", at, plainText(got.p), heapsText(got.h), plainText(want.p), heapsText(want.h))
		}
	}
}

func TestPlaysInParts(t *testing.T) {
	x := threeOfBoth(t)
	x.isInParts(t, []impl.Event{evRun(0, 3), {}, evTell(2, atom("more")), evSweep(9), evRun(4, 20), evSweep(2), evEnd(3, atom("ok")), evRun(1, 20), evRun(1, 21), evSweep(1), evTell(1, tup(num(1), num(2))), evRun(0, 20), evEnd(1, num(1)), evRun(0, 1)})
	y, list := counting(t, 100)
	y.isInParts(t, list)
	// of more, all but the first hundred are for the next play
	y, list = counting(t, 200)
	first := y.plays(t, list)
	if got := first.plays(t, list[100:]); len(got.p.Out) != 201 || len(got.h.Out) != 201 || !first.same(y.plays(t, list[:100])) {
		t.Error("two hundred in two plays say", len(got.p.Out))
	}
}

// anyEvent has something in each field; most of what it names is right, and of few Pids.
func anyEvent(d *dice) impl.Event {
	e := impl.Event{Kind: 1 + d.below(4), I: 1 + d.below(6), N: 1 + d.below(20), T: anyTerm(d, 3)}
	switch d.below(24) {
	case 0:
		e.Kind = edgeNumbers[d.below(len(edgeNumbers))]
	case 1:
		e.I = edgeNumbers[d.below(len(edgeNumbers))]
	case 2:
		e.N = edgeNumbers[d.below(len(edgeNumbers))]
	case 3:
		e.T = wrongTerms[d.below(len(wrongTerms))]
	case 4, 5, 6, 7, 8, 9, 10, 11:
		e.Kind, e.I = impl.EvRun, d.below(30)
	case 12, 13:
		e.T = pid(1 + d.below(6))
	}
	if e.Kind == impl.EvEnd && d.below(4) > 0 {
		e.Kind = impl.EvTell
	}
	if d.below(3) == 0 && e.Kind == impl.EvEnd {
		e.T = atom("ok")
	}
	return e
}

func anyEvents(d *dice, n int) []impl.Event {
	list := []impl.Event{}
	for range n {
		list = append(list, anyEvent(d))
	}
	return list
}

// Events upon drawn systems.
func TestEventsByChance(t *testing.T) {
	d := dice(151)
	counts := map[string]int{}
	for range 900 {
		e, f := anyEvent(&d), anyEvent(&d)
		_, ok := isDoPlain(t, anyPlain(&d), e)
		counts[fmt.Sprint("terms ", e.Kind, " ", ok)]++
		_, ok = isDoHeaps(t, anyHeaps(&d), f)
		counts[fmt.Sprint("heaps ", f.Kind, " ", ok)]++
	}
	for _, on := range []string{"terms", "heaps"} {
		for kind := 1; kind <= 4; kind++ {
			for _, ok := range []bool{true, false} {
				if what := fmt.Sprint(on, " ", kind, " ", ok); counts[what] < 9 {
					t.Error("too few of", what, counts)
				}
			}
		}
	}
}

// Plays of drawn events upon drawn systems, whole and in parts.
func TestPlaysByChance(t *testing.T) {
	d := dice(152)
	for range 120 {
		p, h := anyPlain(&d), anyHeaps(&d)
		list := anyEvents(&d, d.below(20))
		at := d.below(len(list) + 1)
		want, wanted := isPlayPlain(t, p, list), isPlayHeaps(t, h, list)
		if got := impl.PlayPlain(impl.PlayPlain(p, list[:at]), list[at:]); !samePlain(got, want) {
			t.Fatalf("parted at %d: %s\nnot %s", at, plainText(got), plainText(want))
		}
		if got := impl.PlayHeaps(impl.PlayHeaps(h, list[:at]), list[at:]); !sameHeaps(got, wanted) {
			t.Fatalf("parted at %d: %s\nnot %s", at, heapsText(got), heapsText(wanted))
		}
	}
}

// Long plays from new systems: both do the same as long as none ends by noroom.
func TestPlaysOfManyEvents(t *testing.T) {
	d := dice(153)
	short, long, most := 0, 0, 0
	for k := range 60 {
		l := codeOfLines(&d, growingLines)
		words, room := 60+d.below(40), 20+d.below(10)
		if k%2 == 0 {
			words, room = 4000, 400+d.below(601)
		}
		x := newBoth(t, l, tup(pid(1+d.below(3)), binsOf(t, d.below(17))), words, room)
		for i := range 4 {
			number := 1 + d.below(4)
			x.p.Actors[0].Regs[i], x.h.Cells[0].Regs[i] = pid(number), wPid(number)
		}
		list := anyEvents(&d, 80+d.below(50))
		for i := range list {
			switch {
			case list[i].Kind == impl.EvTell:
				list[i].T = []impl.Term{pid(1 + d.below(6)), pid(1 + d.below(6)), binsOf(t, d.below(25))}[d.below(3)]
			case list[i].Kind == impl.EvEnd && i < 70:
				list[i].Kind = impl.EvSweep
			}
		}
		got := x.plays(t, list)
		most = max(most, len(got.h.Cells))
		if n := impl.NoRooms(got.h.Out); n != noRoomsIn(got.h.Out) || impl.NoRooms(got.p.Out) != 0 {
			t.Fatal("no rooms", n, heapsText(got.h))
		} else if n > 0 {
			short++
			continue
		}
		if on, ok := impl.PlainOf(got.h); !ok || !samePlain(on, got.p) {
			t.Fatalf("on heaps %s\non terms %s", heapsText(got.h), plainText(got.p))
		}
		long++
	}
	if short < 5 || long < 15 || most < 4 {
		t.Error("too few of a kind", short, long, most)
	}
}

// allKinds are events of each Kind, that a system that is right does, and some that it refuses.
func allKinds() []impl.Event {
	list := []impl.Event{evRun(0, 1), evRun(1, 20), evTell(1, num(1)), evTell(2, atom("ok")), evEnd(1, num(1)), evEnd(2, atom("ok"))}
	for number := -1; number < 5; number++ {
		list = append(list, evSweep(number))
	}
	return append(list, impl.Event{}, impl.Event{Kind: 5, I: 1, N: 1, T: num(1)}, evRun(-1, 0), evTell(0, num(1000001)))
}

// isStillPlain asks that a Plain that is not right is left as it was by every event, and by all of them.
func isStillPlain(t *testing.T, p impl.Plain) {
	t.Helper()
	if rightPlain(p) || impl.PlainOk(p) {
		t.Fatal("right", plainText(p))
	}
	for _, e := range allKinds() {
		got, ok := isDoPlain(t, p, e)
		isStill(t, p, got, ok)
	}
	isStill(t, p, isPlayPlain(t, p, allKinds()), false)
	isStill(t, p, isPlayPlain(t, p, nil), false)
}

func isStillOnHeaps(t *testing.T, h impl.Heaps) {
	t.Helper()
	if _, right := boroughOf(h); right || impl.HeapsOk(h) {
		t.Fatal("right", heapsText(h))
	}
	for _, e := range allKinds() {
		got, ok := isDoHeaps(t, h, e)
		isStillHeaps(t, h, got, ok)
	}
	isStillHeaps(t, h, isPlayHeaps(t, h, allKinds()), false)
	isStillHeaps(t, h, isPlayHeaps(t, h, nil), false)
}

func TestEventsOfPlainsThatAreNotRight(t *testing.T) {
	right := threeOfBoth(t).p
	isStillPlain(t, impl.Plain{})
	for k, spoil := range []func(p *impl.Plain){
		func(p *impl.Plain) { p.Code = nil },
		func(p *impl.Plain) { p.Code = append(p.Code, impl.Ins{Op: impl.OpTake}) },
		func(p *impl.Plain) { p.Next = 3 },
		func(p *impl.Plain) { p.Next = 0 },
		func(p *impl.Plain) { p.Next = 90001 },
		func(p *impl.Plain) { p.Actors[2].Pid = 2 },
		func(p *impl.Plain) { p.Actors[0], p.Actors[1] = p.Actors[1], p.Actors[0] },
		func(p *impl.Plain) { p.Actors[0].Pc = 4 },
		func(p *impl.Plain) { p.Actors[1].Pc = -1 },
		func(p *impl.Plain) { p.Actors[2].Regs = p.Actors[2].Regs[:7] },
		func(p *impl.Plain) { p.Actors[0].Regs[7] = num(1000001) },
		func(p *impl.Plain) { p.Actors[0].Box = many(31, num(1)) },
		func(p *impl.Plain) { p.Actors[0].Links = nil },
		func(p *impl.Plain) { p.Actors[0].Links = []int{1, 2} },
		func(p *impl.Plain) { p.Out = saidOf(501) },
		func(p *impl.Plain) { p.Out[1].Kind = 4 },
		func(p *impl.Plain) { p.Out[0].Pid = 0 },
		func(p *impl.Plain) { p.Out[2].T = atom("A") },
		func(p *impl.Plain) { *p = plainOf(t, 21, "end 0") },
	} {
		p := dupPlain(right)
		spoil(&p)
		if samePlain(p, right) {
			t.Fatal("not spoilt", k)
		}
		isStillPlain(t, p)
	}
}

func TestEventsOfHeapsThatAreNotRight(t *testing.T) {
	right := threeOfBoth(t).h
	isStillOnHeaps(t, impl.Heaps{})
	for k, spoil := range []func(h *impl.Heaps){
		func(h *impl.Heaps) { h.Code = nil },
		func(h *impl.Heaps) { h.Atoms = h.Atoms[1:] },
		func(h *impl.Heaps) { h.Atoms = append(h.Atoms, h.Atoms[0]) },
		func(h *impl.Heaps) { h.Atoms = atomsOf(201) },
		func(h *impl.Heaps) { h.A.W[0]++ },
		func(h *impl.Heaps) { h.A.W[len(h.A.W)-1]++ },
		func(h *impl.Heaps) { h.A.W = nil },
		func(h *impl.Heaps) { h.Cells = h.Cells[:2] },
		func(h *impl.Heaps) { h.Cells = nil },
		func(h *impl.Heaps) { h.Cells[0].At = h.Cells[1].At },
		func(h *impl.Heaps) { h.Cells[0].At = -1 },
		func(h *impl.Heaps) { h.Cells[2].Pc = 4 },
		func(h *impl.Heaps) { h.Cells[2].Pid = 2 },
		func(h *impl.Heaps) { h.Cells[1].Regs[0] = 7 },
		func(h *impl.Heaps) { h.Cells[1].Box = intsOf(31) },
		func(h *impl.Heaps) { h.Cells[1].Links = []int{1} },
		func(h *impl.Heaps) { h.Next = 3 },
		func(h *impl.Heaps) { h.Next = 90001 },
		func(h *impl.Heaps) { h.Out[1].Kind = 0 },
		func(h *impl.Heaps) { h.Out = saidOf(501) },
		func(h *impl.Heaps) { h.Room = 19 },
		func(h *impl.Heaps) { h.Room = 1001 },
	} {
		h := dupHeaps(right)
		spoil(&h)
		if sameHeaps(h, right) {
			t.Fatal("not spoilt", k)
		}
		isStillOnHeaps(t, h)
	}
}

// Systems that are right or not in any of their fields, by chance.
func TestEventsOfSystemsThatMayBeWrong(t *testing.T) {
	d := dice(154)
	wrong := 0
	for range 250 {
		h := anyHeaps(&d)
		spoilHeaps(&d, &h)
		if !impl.HeapsOk(h) {
			wrong++
		}
		isDoHeaps(t, h, anyEvent(&d))
		isPlayHeaps(t, h, anyEvents(&d, d.below(8)))
		p := anyPlain(&d)
		p.Next = []int{p.Next, p.Next - 1, 90001, 0}[d.below(4)]
		isDoPlain(t, p, anyEvent(&d))
		isPlayPlain(t, p, anyEvents(&d, d.below(8)))
	}
	if wrong < 60 || wrong > 220 {
		t.Error("wrong ones", wrong)
	}
}

// isNoRooms is NoRooms, which writes nothing, and does not look behind the list.
func isNoRooms(t *testing.T, want int, l ...impl.Said) {
	t.Helper()
	var x staging
	behind := slices.Concat(l, []impl.Said{{Kind: impl.SaidEnd, Pid: 1, T: noRoom}})
	out := x.plain(impl.Plain{Out: l}).Out
	if n, again := impl.NoRooms(out), impl.NoRooms(behind[:len(l)]); n != want || again != want || noRoomsIn(l) != want {
		t.Errorf("of %v no room was %d, %d times, not %d", l, n, again, want)
	}
	x.untouched(t)
}

func TestNoRooms(t *testing.T) {
	ends := impl.Said{Kind: impl.SaidEnd, Pid: 1, T: noRoom}
	isNoRooms(t, 0)
	isNoRooms(t, 1, ends)
	isNoRooms(t, 2, ends, ends)
	isNoRooms(t, 500, slices.Repeat([]impl.Said{ends}, 500)...)
	isNoRooms(t, 501, slices.Repeat([]impl.Said{ends}, 501)...)
	isNoRooms(t, 2000, slices.Repeat([]impl.Said{ends}, 2000)...)
	for _, kind := range []int{impl.SaidStart, impl.SaidSay, 0, 4, -3, 1<<32 + 3, math.MinInt, math.MaxInt} {
		isNoRooms(t, 0, impl.Said{Kind: kind, Pid: 1, T: noRoom})
		isNoRooms(t, 1, impl.Said{Kind: kind, Pid: 1, T: noRoom}, ends)
	}
	for _, y := range []impl.Term{
		bin("noroom"), atom("ok"), atom("full"), atom("fault"), atom("noroo"), atom("norooms"), atom("noroom1"), atom("oroom"), atom("NOROOM"), atom("Noroom"), atom("noroom "), atom(""), {},
		{S: "noroom"}, {K: 0, S: "noroom"}, {K: impl.TInt, S: "noroom"}, {K: impl.TPid, S: "noroom"}, {K: 7, S: "noroom"}, {K: -2, S: "noroom"}, tup(noRoom), lst(noRoom), num(0), pid(1),
	} {
		isNoRooms(t, 0, impl.Said{Kind: impl.SaidEnd, Pid: 1, T: y})
		isNoRooms(t, 1, impl.Said{Kind: impl.SaidEnd, Pid: 1, T: y}, ends)
		isNoRooms(t, 1, ends, impl.Said{Kind: impl.SaidEnd, Pid: 1, T: y})
	}
	for _, number := range edgeNumbers {
		isNoRooms(t, 1, impl.Said{Kind: impl.SaidEnd, Pid: number, T: noRoom})
	}
	// terms without end are no atom
	for _, y := range []impl.Term{round(impl.TTuple, true, noRoom), round(impl.TList, false, noRoom), nested(100000, lst, noRoom)} {
		if n := impl.NoRooms([]impl.Said{{Kind: impl.SaidEnd, Pid: 1, T: y}, ends}); n != 1 {
			t.Error("no room was", n)
		}
	}
}

// Two systems that end in little room: the one by the room of its heap, the other one by that of the arena.
func TestSystemsThatEndInLittleRoom(t *testing.T) {
	lines := []string{"nil 0", "take 1", "cons 0 1 0", "jump 1"}
	for _, x := range []struct{ words, room, fits int }{{4000, 20, 10}, {40, 1000, 14}} {
		start := newBoth(t, linesOf(t, lines...), num(1), x.words, x.room)
		now, list := start, []impl.Event{}
		for n := 1; n <= x.fits+1; n++ {
			for _, e := range []impl.Event{evTell(1, num(n)), evRun(0, 20)} {
				if impl.NoRooms(now.h.Out) != 0 {
					t.Fatalf("no room for %d: %s", n-1, heapsText(now.h))
				}
				list = append(list, e)
				var ok bool
				if now, ok = now.next(t, e); !ok {
					t.Fatal("refused", e, heapsText(now.h))
				}
			}
		}
		if impl.NoRooms(now.h.Out) != 1 || impl.NoRooms(now.p.Out) != 0 {
			t.Fatalf("room for %d: %s", x.fits+1, heapsText(now.h))
		}
		if len(now.h.Cells) != 0 || len(now.p.Actors) != 1 || impl.FreeWords(now.h.A) != x.words-3 || !alike(now.h.Out[len(now.h.Out)-1].T, noRoom) {
			t.Error("not ended:", heapsText(now.h))
		}
		if got := start.plays(t, list); !got.same(now) {
			t.Errorf("played %s\nnot %s", heapsText(got.h), heapsText(now.h))
		}
		start.isInParts(t, list)
	}
}

// Who is linked to one that has no room ends by noroom, too, and is counted.
func TestNoRoomsOfThoseThatAreLinked(t *testing.T) {
	for n := range 4 {
		pairs := [][2]int{{1, 2}, {2, 3}, {3, 4}}[:n]
		p := join(plainOf(t, 4, "take 1", "jump 0"), pairs...)
		h := settled(p, 20, 0, 8)
		got, ok := isDoHeaps(t, h, evTell(1, binsOf(t, 30)))
		if impl.NoRooms(got.Out) != n+1 || !ok || len(got.Cells) != 3-n {
			t.Errorf("of %d links no room was %d times: %s", n, impl.NoRooms(got.Out), heapsText(got))
		}
	}
	// an actor may end by this atom itself, which can't be told apart
	x := newBoth(t, linesOf(t, "atom 0 noroom", "say 0", "end 0"), noRoom, 100, 20)
	got := x.plays(t, []impl.Event{evRun(0, 20)})
	if impl.NoRooms(got.p.Out) != 1 || impl.NoRooms(got.h.Out) != 1 || len(got.p.Out) != 3 {
		t.Error("said by itself", plainText(got.p))
	}
	got, _ = x.next(t, evEnd(1, noRoom))
	if impl.NoRooms(got.p.Out) != 1 || impl.NoRooms(got.h.Out) != 1 {
		t.Error("ended from outside", plainText(got.p))
	}
}

// Lists that stand in systems and events several times are several in what comes of them.
func TestEventsWhoseListsAreOne(t *testing.T) {
	one := many(3, lst(num(1), num(2)))
	y := tup(one...)
	for _, line := range []string{"say 0", "take 0", "make 1 0 0", "end 0"} {
		p := plainOf(t, 2, line, "jump 0")
		for i := range p.Actors {
			p.Actors[i].Regs = many(8, y)
			p.Actors[i].Box = many(4, y)
		}
		p.Out = slices.Repeat([]impl.Said{{Kind: 2, Pid: 1, T: y}}, 5)
		h := settled(p, 200, 4, 60)
		h.Out = slices.Repeat([]impl.Said{{Kind: 2, Pid: 1, T: y}}, 5)
		p.Actors[1].Regs, p.Actors[1].Box = p.Actors[0].Regs, p.Actors[0].Box
		list := []impl.Event{evTell(1, y), evTell(2, y), evTell(1, y), evRun(0, 2), evSweep(1), evEnd(2, y), {Kind: 9, T: y}, evSweep(7)}
		for i := range list {
			list[i].T = y
		}
		ahead, heapsAhead := dupPlain(p), dupHeaps(h)
		apart := func(out []impl.Said, lists []span) {
			t.Helper()
			said, _ := spansOfPlain(impl.Plain{Out: out})
			if meet(slices.Concat(said, lists, []span{spanOf(one), spanOf(one[0].L), spanOf(p.Actors[0].Regs), spanOf(p.Actors[0].Box), spanOf(p.Out), spanOf(h.Out)})) {
				t.Fatal("lists of an answer are one:", line)
			}
			if !samePlain(p, ahead) || !sameHeaps(h, heapsAhead) {
				t.Fatal("an argument was written")
			}
		}
		check := func(got impl.Plain, on impl.Heaps) {
			t.Helper()
			lists, _ := spansOfPlain(impl.Plain{Code: got.Code, Actors: got.Actors})
			apart(got.Out, lists)
			lists = []span{spanOf(on.Code), spanOf(on.Atoms), spanOf(on.A.W), spanOf(on.Cells)}
			for _, c := range on.Cells {
				lists = append(lists, spanOf(c.Regs), spanOf(c.Box), spanOf(c.Links))
			}
			apart(on.Out, lists)
		}
		for _, e := range list {
			got, _ := impl.DoPlain(p, e)
			on, _ := impl.DoHeaps(h, e)
			check(got, on)
		}
		for n := range list {
			check(impl.PlayPlain(p, list[:n]), impl.PlayHeaps(h, list[:n]))
		}
	}
}

// Terms of any depth, or that come round to themselves, are refused, and a system with one is left as it was.
func TestEventsWithTermsWithoutEnd(t *testing.T) {
	twice := num(1)
	for range 60 {
		twice = tup(twice, twice)
	}
	x := threeOfBoth(t)
	for _, y := range []impl.Term{round(impl.TTuple, true, num(1)), round(impl.TList, false, num(2)), nested(100000, tup, num(1)), twice} {
		for number := -1; number < 7; number++ {
			for _, e := range []impl.Event{evTell(number, y), evEnd(number, y), {Kind: 5, I: number, T: y}} {
				p, ok := impl.DoPlain(x.p, e)
				isStill(t, x.p, p, ok)
				h, ok := impl.DoHeaps(x.h, e)
				isStillHeaps(t, x.h, h, ok)
				list := slices.Repeat([]impl.Event{e}, 3)
				isStill(t, x.p, impl.PlayPlain(x.p, list), false)
				isStillHeaps(t, x.h, impl.PlayHeaps(x.h, list), false)
			}
		}
		p, h := dupPlain(x.p), dupHeaps(x.h)
		p.Out[1].T, h.Out[1].T = y, y
		p.Actors[0].Regs[3], p.Actors[2].Box[1] = y, y
		within := listsWithin([]impl.Term{y})
		same := func(got impl.Plain, on impl.Heaps) {
			t.Helper()
			terms := []impl.Term{got.Out[1].T, on.Out[1].T, got.Actors[0].Regs[3], got.Actors[2].Box[1]}
			for _, z := range terms {
				if !impl.SameTerm(z, y) {
					t.Fatal("not as it was")
				}
			}
			for first := range listsWithin(terms) {
				if within[first] > 0 {
					t.Fatal("an answer shares memory with an argument")
				}
			}
			got.Out[1].T, on.Out[1].T = x.p.Out[1].T, x.h.Out[1].T
			got.Actors[0].Regs[3], got.Actors[2].Box[1] = x.p.Actors[0].Regs[3], x.p.Actors[2].Box[1]
			isStill(t, x.p, got, false)
			isStillHeaps(t, x.h, on, false)
		}
		for _, e := range []impl.Event{evRun(0, 1), evTell(1, num(1)), evEnd(1, num(1)), evSweep(1), {}} {
			got, ok := impl.DoPlain(p, e)
			on, is := impl.DoHeaps(h, e)
			if ok || is {
				t.Fatal("not refused", e)
			}
			same(got, on)
		}
		same(impl.PlayPlain(p, allKinds()), impl.PlayHeaps(h, allKinds()))
		same(impl.PlayPlain(p, nil), impl.PlayHeaps(h, nil))
	}
}

// What was answered ahead stays as it was, whatever is done to what comes behind it, or to the events.
func TestEventsShareNothing(t *testing.T) {
	l := linesOf(t, "make 1 0 2", "link 1", "tuple 2 0 2", "send 1 2", "say 2", "jump 2")
	start := newBoth(t, l, lst(atom("a"), tup(num(2))), 900, 300)
	list := []impl.Event{evRun(0, 7), evTell(2, tup(lst(num(4)))), evRun(1, 5), evSweep(2)}
	one := both{impl.PlayPlain(start.p, list), impl.PlayHeaps(start.h, list)}
	kept := both{dupPlain(one.p), dupHeaps(one.h)}
	want := one.plays(t, list)
	for _, e := range slices.Concat(list, []impl.Event{{}, evSweep(9), evEnd(1, lst(num(5)))}) {
		p, _ := impl.DoPlain(one.p, e)
		h, _ := impl.DoHeaps(one.h, e)
		wipeBoth(both{p, h})
	}
	for _, n := range []int{0, 1, 4} {
		wipeBoth(both{impl.PlayPlain(one.p, list[:n]), impl.PlayHeaps(one.h, list[:n])})
	}
	wipeBoth(start)
	again := both{impl.PlayPlain(one.p, list), impl.PlayHeaps(one.h, list)}
	for _, e := range list {
		clear(e.T.L)
	}
	clear(list)
	if !one.same(kept) || !again.same(want) {
		t.Error("an answer turned", plainText(one.p), heapsText(one.h))
	}
}

func wipeBoth(x both) {
	for _, a := range x.p.Actors {
		for _, y := range slices.Concat(a.Regs, a.Box) {
			clear(y.L)
		}
		clear(a.Regs[:cap(a.Regs)])
		clear(a.Box[:cap(a.Box)])
		clear(a.Links[:cap(a.Links)])
	}
	for _, c := range x.h.Cells {
		clear(c.Regs[:cap(c.Regs)])
		clear(c.Box[:cap(c.Box)])
		clear(c.Links[:cap(c.Links)])
	}
	for _, y := range slices.Concat(x.p.Out, x.h.Out) {
		clear(y.T.L)
	}
	clear(x.p.Actors[:cap(x.p.Actors)])
	clear(x.p.Out[:cap(x.p.Out)])
	clear(x.p.Code[:cap(x.p.Code)])
	clear(x.h.Cells[:cap(x.h.Cells)])
	clear(x.h.Out[:cap(x.h.Out)])
	clear(x.h.Code[:cap(x.h.Code)])
	clear(x.h.Atoms[:cap(x.h.Atoms)])
	clear(x.h.A.W[:cap(x.h.A.W)])
}

// The shared tests find a fallthrough and an assertion wherever they stand; here both stand in this layer, and each assertion has two values.
func TestEventsFallThroughAndAreAsserted(t *testing.T) {
	f, err := parser.ParseFile(token.NewFileSet(), "../impl/l15_event.go", nil, 0)
	if err != nil {
		t.Fatal(err)
	}
	falls, asserted, told := 0, 0, 0
	ast.Inspect(f, func(n ast.Node) bool {
		switch x := n.(type) {
		case *ast.BranchStmt:
			if x.Tok == token.FALLTHROUGH {
				falls++
			}
		case *ast.TypeAssertExpr:
			asserted++
		case *ast.AssignStmt:
			if len(x.Rhs) == 1 && len(x.Lhs) == 2 {
				if _, ok := x.Rhs[0].(*ast.TypeAssertExpr); ok {
					told++
				}
			}
		}
		return true
	})
	if falls == 0 || told == 0 || told != asserted {
		t.Error("falls through:", falls, "asserted:", asserted, "with two values:", told)
	}
}
