package tests

import (
	"fmt"
	"go/ast"
	"go/parser"
	"go/token"
	"math"
	"slices"
	"sort"
	"strings"
	"testing"

	"loop.example/g00248/impl"
)

const (
	mostTimers = 50
	lastTime   = 1000000000
)

func timer(at int, number int, y impl.Term) impl.Timer {
	return impl.Timer{At: at, Pid: number, T: y}
}

// timersAt are timers of these times, which can be told apart by their terms: the first is 1.
func timersAt(times ...int) []impl.Timer {
	var l []impl.Timer
	for i, at := range times {
		l = append(l, timer(at, 1+i%3, num(i+1)))
	}
	return l
}

// fullTimers are n timers that are right.
func fullTimers(n int) []impl.Timer {
	var l []impl.Timer
	for i := range n {
		l = append(l, timer(10+i/2, 1+i%7, tup(num(i), bin("x"))))
	}
	return l
}

func sameTimer(a, b impl.Timer) bool { return a.At == b.At && a.Pid == b.Pid && alike(a.T, b.T) }

func sameTimers(a, b []impl.Timer) bool { return slices.EqualFunc(a, b, sameTimer) }

func dupTimers(l []impl.Timer) []impl.Timer {
	var own []impl.Timer
	for _, x := range l {
		own = append(own, timer(x.At, x.Pid, dup(x.T)))
	}
	return own
}

// timersText tells each as its time, its Pid and its term.
func timersText(l []impl.Timer) string {
	var list []string
	for _, x := range l {
		list = append(list, fmt.Sprintf("%d:%d:%s", x.At, x.Pid, impl.TermText(x.T)))
	}
	return strings.Join(list, " ")
}

func rightTimer(x impl.Timer) bool {
	return x.At >= 0 && x.At <= lastTime && x.Pid >= 1 && x.Pid <= mostPid && impl.TermOk(x.T)
}

// rightTimers is TimersOk by the chapter, of each with all that stand behind it.
func rightTimers(l []impl.Timer) bool {
	for i, x := range l {
		if !rightTimer(x) || slices.ContainsFunc(l[i:], func(y impl.Timer) bool { return y.At < x.At }) {
			return false
		}
	}
	return len(l) <= mostTimers
}

// addBy is AddTimer by the chapter: the last of all, in an order that leaves those of one time as they were.
func addBy(l []impl.Timer, x impl.Timer) ([]impl.Timer, bool) {
	own := dupTimers(l)
	if !rightTimers(l) || !rightTimer(x) || len(l) == mostTimers {
		return own, false
	}
	own = append(own, timer(x.At, x.Pid, dup(x.T)))
	sort.SliceStable(own, func(i, k int) bool { return own[i].At < own[k].At })
	return own, true
}

func timersBut(l []impl.Timer, gone func(impl.Timer) bool) []impl.Timer {
	return slices.DeleteFunc(dupTimers(l), gone)
}

func dueBy(l []impl.Timer, now int) ([]impl.Timer, []impl.Timer) {
	return timersBut(l, func(x impl.Timer) bool { return x.At > now }), timersBut(l, func(x impl.Timer) bool { return x.At <= now })
}

func dropBy(l []impl.Timer, number int) []impl.Timer {
	return timersBut(l, func(x impl.Timer) bool { return x.Pid == number })
}

// spareTimers stand behind a list's length: each is due, and right where others are.
var spareTimers = []impl.Timer{{At: 0, Pid: 1, T: num(7)}, {}, {At: lastTime, Pid: 2, T: tup(spare...)}}

// hire are timers that are lent, with spare room behind each list, and as they were.
type hire struct {
	lending
	lists, wasLists [][]impl.Timer
}

func (x *hire) timers(l []impl.Timer) []impl.Timer {
	room := slices.Concat(l, spareTimers)
	for i, y := range l {
		room[i].T = x.list([]impl.Term{y.T})[0]
	}
	x.lists, x.wasLists = append(x.lists, room), append(x.wasLists, slices.Clone(room))
	return room[:len(l)]
}

func (x *hire) untouched(t *testing.T) {
	t.Helper()
	if !x.lending.untouched() {
		t.Fatal("a term that was handed in was written, or the room behind it")
	}
	for i, room := range x.lists {
		for k, y := range room {
			if b := x.wasLists[i][k]; y.At != b.At || y.Pid != b.Pid || y.T.K != b.T.K || y.T.N != b.T.N || y.T.S != b.T.S || !sameList(y.T.L, b.T.L) {
				t.Fatal("a timer that was handed in was written, or the room behind it", y)
			}
		}
	}
}

func spansOfTimers(l []impl.Timer) (lists []span, texts []span) {
	lists = append(lists, spanOf(l))
	for _, y := range l {
		in, inTexts := spansOf(y.T.L)
		lists, texts = append(lists, in...), append(append(texts, inTexts...), textSpan(y.T.S))
	}
	return lists, texts
}

// isNew asks that what is answered shares memory neither within itself nor with what was lent, that behind it stands nothing, and that nothing that was lent was written.
func (x *hire) isNew(t *testing.T, answers ...[]impl.Timer) {
	t.Helper()
	x.untouched(t)
	var lists, texts, lent, lentTexts []span
	for _, l := range answers {
		in, inTexts := spansOfTimers(l)
		lists, texts = append(lists, in...), append(texts, inTexts...)
		nothingBehind(t, l, func(y impl.Timer) bool { return sameTimer(y, impl.Timer{}) })
		for _, y := range l {
			nothingBehind(t, y.T.L, noTerm)
		}
	}
	for _, room := range x.lists {
		lent = append(lent, spanOf(room))
	}
	for _, room := range x.rooms {
		lent = append(lent, spanOf(room))
		for _, y := range room {
			lentTexts = append(lentTexts, textSpan(y.S))
		}
	}
	if meet(slices.Concat(lists, lent)) {
		t.Fatal("an answer shares memory:", answers)
	}
	if meetOthers(texts, lentTexts) {
		t.Fatal("a text of an answer is one that was handed in:", answers)
	}
}

// okTimers is TimersOk, held against the chapter.
func okTimers(t *testing.T, l []impl.Timer) bool {
	t.Helper()
	var x hire
	ok := impl.TimersOk(x.timers(l))
	x.untouched(t)
	if ok != rightTimers(l) || ok != impl.TimersOk(slices.Clip(slices.Clone(l))) {
		t.Fatalf("%s right: %v", timersText(l), ok)
	}
	return ok
}

// addTo is AddTimer, held against the chapter.
func addTo(t *testing.T, l []impl.Timer, y impl.Timer) ([]impl.Timer, bool) {
	t.Helper()
	var x hire
	got, ok := impl.AddTimer(x.timers(l), x.timers([]impl.Timer{y})[0])
	x.isNew(t, got)
	if want, right := addBy(l, y); ok != right || !sameTimers(got, want) {
		t.Fatalf("%s added to %s is %s, %v, not %s, %v", timersText([]impl.Timer{y}), timersText(l), timersText(got), ok, timersText(want), right)
	}
	if ok && !okTimers(t, got) {
		t.Fatalf("not right behind it: %s", timersText(got))
	}
	return got, ok
}

func isTimerAdded(t *testing.T, l []impl.Timer, y impl.Timer) []impl.Timer {
	t.Helper()
	got, ok := addTo(t, l, y)
	if !ok || len(got) != len(l)+1 {
		t.Fatalf("%v added to %s is %s, %v", y, timersText(l), timersText(got), ok)
	}
	return got
}

func isNotAdded(t *testing.T, l []impl.Timer, y impl.Timer) {
	t.Helper()
	if got, ok := addTo(t, l, y); ok || !sameTimers(got, l) {
		t.Fatalf("%v added to %s is %s, %v", y, timersText(l), timersText(got), ok)
	}
}

// dueAt is DueTimers, held against the chapter; both parts of timers that are right are right.
func dueAt(t *testing.T, l []impl.Timer, now int) ([]impl.Timer, []impl.Timer) {
	t.Helper()
	var x hire
	due, others := impl.DueTimers(x.timers(l), now)
	x.isNew(t, due, others)
	if wantDue, wantOthers := dueBy(l, now); !sameTimers(due, wantDue) || !sameTimers(others, wantOthers) {
		t.Fatalf("at %d of %s: %s, and %s, not %s, and %s", now, timersText(l), timersText(due), timersText(others), timersText(wantDue), timersText(wantOthers))
	}
	if rightTimers(l) && (!okTimers(t, due) || !okTimers(t, others) || !sameTimers(slices.Concat(due, others), l)) {
		t.Fatalf("at %d of %s: %s, and %s", now, timersText(l), timersText(due), timersText(others))
	}
	return due, others
}

// isDue asks for the first n of timers that are right, and the others.
func isDue(t *testing.T, l []impl.Timer, now int, n int) {
	t.Helper()
	if due, others := dueAt(t, l, now); !sameTimers(due, l[:n]) || !sameTimers(others, l[n:]) {
		t.Fatalf("at %d of %s: %s, and %s", now, timersText(l), timersText(due), timersText(others))
	}
}

// dropOf is DropTimers, held against the chapter; what is left of timers that are right is right.
func dropOf(t *testing.T, l []impl.Timer, number int) []impl.Timer {
	t.Helper()
	var x hire
	got := impl.DropTimers(x.timers(l), number)
	x.isNew(t, got)
	if want := dropBy(l, number); !sameTimers(got, want) {
		t.Fatalf("%s without %d is %s, not %s", timersText(l), number, timersText(got), timersText(want))
	}
	if rightTimers(l) && !okTimers(t, got) {
		t.Fatalf("not right behind it: %s", timersText(got))
	}
	return got
}

// isNoTimers asks for timers that are not right, to which nothing is added; what is due of them, and what is left of them, is held against the chapter.
func isNoTimers(t *testing.T, l []impl.Timer) {
	t.Helper()
	if okTimers(t, l) {
		t.Fatalf("right: %s", timersText(l))
	}
	isNotAdded(t, l, timer(5, 1, num(1)))
	isNotAdded(t, l, timer(lastTime, mostPid, tup(lst(num(1)))))
	isNotAdded(t, l, impl.Timer{})
	for _, now := range []int{math.MinInt, -1, 0, 5, 20, lastTime, math.MaxInt} {
		dueAt(t, l, now)
	}
	for _, number := range []int{-1, 0, 1, 2, mostPid, mostPid + 1} {
		dropOf(t, l, number)
	}
}

func isTimers(t *testing.T, l []impl.Timer) {
	t.Helper()
	if !okTimers(t, l) {
		t.Fatalf("not right: %s", timersText(l))
	}
}

func TestTimersOneByOne(t *testing.T) {
	var l []impl.Timer
	for _, x := range []struct {
		at, number int
		term, want string
	}{
		{50, 1, "a", "50:1:a"},
		{20, 2, "{1}", "20:2:{1} 50:1:a"},
		{90, 3, "[1,2]", "20:2:{1} 50:1:a 90:3:[1,2]"},
		{50, 2, "#00", "20:2:{1} 50:1:a 50:2:#00 90:3:[1,2]"},
		{20, 1, "b", "20:2:{1} 20:1:b 50:1:a 50:2:#00 90:3:[1,2]"},
		{19, 9, "<7>", "19:9:<7> 20:2:{1} 20:1:b 50:1:a 50:2:#00 90:3:[1,2]"},
		{21, 9, "<7>", "19:9:<7> 20:2:{1} 20:1:b 21:9:<7> 50:1:a 50:2:#00 90:3:[1,2]"},
		{90, 3, "[1,2]", "19:9:<7> 20:2:{1} 20:1:b 21:9:<7> 50:1:a 50:2:#00 90:3:[1,2] 90:3:[1,2]"},
		{1000000000, 99999, "-5", "19:9:<7> 20:2:{1} 20:1:b 21:9:<7> 50:1:a 50:2:#00 90:3:[1,2] 90:3:[1,2] 1000000000:99999:-5"},
		{0, 1, "0", "0:1:0 19:9:<7> 20:2:{1} 20:1:b 21:9:<7> 50:1:a 50:2:#00 90:3:[1,2] 90:3:[1,2] 1000000000:99999:-5"},
	} {
		l = isTimerAdded(t, l, timer(x.at, x.number, termOf(t, x.term)))
		if got := timersText(l); got != x.want {
			t.Fatalf("%s\nnot %s", got, x.want)
		}
	}
	for _, x := range []struct {
		now         int
		due, others string
	}{
		{-1, "", timersText(l)},
		{0, "0:1:0", "19:9:<7> 20:2:{1} 20:1:b 21:9:<7> 50:1:a 50:2:#00 90:3:[1,2] 90:3:[1,2] 1000000000:99999:-5"},
		{20, "0:1:0 19:9:<7> 20:2:{1} 20:1:b", "21:9:<7> 50:1:a 50:2:#00 90:3:[1,2] 90:3:[1,2] 1000000000:99999:-5"},
		{90, "0:1:0 19:9:<7> 20:2:{1} 20:1:b 21:9:<7> 50:1:a 50:2:#00 90:3:[1,2] 90:3:[1,2]", "1000000000:99999:-5"},
		{999999999, "0:1:0 19:9:<7> 20:2:{1} 20:1:b 21:9:<7> 50:1:a 50:2:#00 90:3:[1,2] 90:3:[1,2]", "1000000000:99999:-5"},
		{1000000000, timersText(l), ""},
		{1000000001, timersText(l), ""},
	} {
		if due, others := dueAt(t, l, x.now); timersText(due) != x.due || timersText(others) != x.others {
			t.Errorf("at %d: %s, and %s", x.now, timersText(due), timersText(others))
		}
	}
	for number, want := range map[int]string{
		1:     "19:9:<7> 20:2:{1} 21:9:<7> 50:2:#00 90:3:[1,2] 90:3:[1,2] 1000000000:99999:-5",
		9:     "0:1:0 20:2:{1} 20:1:b 50:1:a 50:2:#00 90:3:[1,2] 90:3:[1,2] 1000000000:99999:-5",
		99999: "0:1:0 19:9:<7> 20:2:{1} 20:1:b 21:9:<7> 50:1:a 50:2:#00 90:3:[1,2] 90:3:[1,2]",
		// a Pid within a term is not the Pid of the timer
		7: timersText(l),
	} {
		if got := timersText(dropOf(t, l, number)); got != want {
			t.Errorf("without %d: %s", number, got)
		}
	}
}

// timesOf are all lists of n times below most.
func timesOf(n int, most int) [][]int {
	all := [][]int{nil}
	for range n {
		var longer [][]int
		for _, l := range all {
			for at := range most {
				longer = append(longer, append(slices.Clone(l), at))
			}
		}
		all = longer
	}
	return all
}

// Whatever the order in which they are added: those of one time stand in that order.
func TestTimersOfAllShortLists(t *testing.T) {
	for n := range 6 {
		for _, times := range timesOf(n, 4) {
			want := timersAt(times...)
			var l []impl.Timer
			for _, x := range want {
				l = isTimerAdded(t, l, x)
			}
			sort.SliceStable(want, func(i, k int) bool { return want[i].At < want[k].At })
			if !sameTimers(l, want) {
				t.Fatalf("times %v: %s", times, timersText(l))
			}
		}
	}
}

func TestAllShortListsOfTimers(t *testing.T) {
	for n := range 5 {
		for _, times := range timesOf(n, 4) {
			l := timersAt(times...)
			if okTimers(t, l) != slices.IsSorted(times) {
				t.Fatalf("times %v", times)
			}
			for now := -2; now <= 5; now++ {
				due, others := dueAt(t, l, now)
				if slices.ContainsFunc(due, func(x impl.Timer) bool { return x.At > now }) || slices.ContainsFunc(others, func(x impl.Timer) bool { return x.At <= now }) || len(due)+len(others) != n {
					t.Fatalf("at %d of %v: %s, and %s", now, times, timersText(due), timersText(others))
				}
				addTo(t, l, timer(now, 1, atom("new")))
				dropOf(t, l, now)
			}
		}
	}
}

func TestTimersOfOneTime(t *testing.T) {
	for _, at := range []int{0, 1, 500, lastTime - 1, lastTime} {
		var l []impl.Timer
		for i := range mostTimers {
			l = isTimerAdded(t, l, timer(at, 1+i, num(i)))
		}
		for i, x := range l {
			if !sameTimer(x, timer(at, 1+i, num(i))) {
				t.Fatalf("of one time: %s", timersText(l))
			}
		}
		isNotAdded(t, l, timer(at, 1, num(1)))
		isDue(t, l, at-1, 0)
		isDue(t, l, at, mostTimers)
		isDue(t, l, at+1, mostTimers)
	}
	// two that are alike in all
	one := timer(4, 2, tup(atom("a")))
	l := isTimerAdded(t, isTimerAdded(t, isTimerAdded(t, nil, one), one), one)
	if !sameTimers(l, []impl.Timer{one, one, one}) {
		t.Error("alike:", timersText(l))
	}
	// several between those that are earlier and those that are later, whatever their Pids and terms
	l = []impl.Timer{timer(3, 9, num(9)), timer(4, 9, num(9)), timer(5, 1, num(-9))}
	for i := range 20 {
		l = isTimerAdded(t, l, timer(4, 20-i, num(20-i)))
	}
	for i := range 20 {
		if l[2+i].T.N != 20-i || l[2+i].Pid != 20-i || l[22].At != 5 || l[1].T.N != 9 {
			t.Fatal("not in the order in which they were added:", timersText(l))
		}
	}
}

// At each place of timers of many times, also at both ends.
func TestWhereATimerStands(t *testing.T) {
	for _, n := range []int{0, 1, 2, 3, 24, 48, 49} {
		var l []impl.Timer
		for i := range n {
			l = append(l, timer(10*(i/2+1), 1+i%5, num(i)))
		}
		isTimers(t, l)
		for at := 0; at <= 5*n+20; at++ {
			got := isTimerAdded(t, l, timer(at, 8, atom("new")))
			place := slices.IndexFunc(got, func(x impl.Timer) bool { return x.T.K == impl.TAtom })
			for i, x := range got {
				if i < place && x.At > at || i > place && x.At <= at {
					t.Fatalf("a timer of %d stands at %d of %s", at, place, timersText(got))
				}
			}
			if !sameTimers(slices.Delete(slices.Clone(got), place, place+1), l) {
				t.Fatalf("the others turned: %s", timersText(got))
			}
		}
	}
}

func TestTimesOfTimers(t *testing.T) {
	for _, at := range []int{0, 1, 2, 1 << 29, lastTime - 1, lastTime} {
		isTimers(t, []impl.Timer{timer(at, 1, num(1))})
		isTimerAdded(t, nil, timer(at, 1, num(1)))
		isTimerAdded(t, []impl.Timer{timer(0, 1, num(1)), timer(lastTime, 1, num(1))}, timer(at, 3, atom("a")))
	}
	for _, at := range []int{-1, -2, -lastTime, math.MinInt, math.MinInt + 1, lastTime + 1, lastTime + 2, 1 << 30, 1 << 31, 1 << 32, 1<<32 + 5, math.MaxInt - 1, math.MaxInt} {
		isNotAdded(t, nil, timer(at, 1, num(1)))
		isNotAdded(t, []impl.Timer{timer(0, 1, num(1)), timer(lastTime, 1, num(1))}, timer(at, 3, atom("a")))
		isNoTimers(t, []impl.Timer{timer(at, 1, num(1))})
		l := []impl.Timer{timer(3, 1, num(1)), timer(at, 1, num(2))}
		if at < 0 {
			slices.Reverse(l)
		}
		// they are in order: nothing but its time is wrong
		isNoTimers(t, l)
	}
}

func TestPidsOfTimers(t *testing.T) {
	l := timersAt(2, 5, 5, 8)
	for _, number := range []int{1, 2, 50000, mostPid - 1, mostPid} {
		isTimers(t, []impl.Timer{timer(5, number, num(1))})
		got := isTimerAdded(t, l, timer(5, number, atom("a")))
		if got[3].Pid != number {
			t.Error("Pid", number, "is", got[3].Pid)
		}
	}
	for _, number := range []int{0, -1, -2, mostPid + 1, mostPid + 2, 1 << 32, 1<<32 + 1, math.MinInt, math.MaxInt} {
		isNotAdded(t, nil, timer(5, number, num(1)))
		isNotAdded(t, l, timer(5, number, num(1)))
		isNoTimers(t, []impl.Timer{timer(5, number, num(1))})
		for i := range l {
			wrong := dupTimers(l)
			wrong[i].Pid = number
			isNoTimers(t, wrong)
		}
	}
}

func TestTermsOfTimers(t *testing.T) {
	l := timersAt(2, 5, 5, 8)
	for _, y := range rightTerms {
		isTimers(t, []impl.Timer{timer(5, 1, y)})
		got := isTimerAdded(t, l, timer(5, 1, y))
		if !alike(got[3].T, y) {
			t.Error("term", y, "is", got[3].T)
		}
		dueAt(t, got, 5)
		dropOf(t, got, 2)
	}
	for _, y := range wrongTerms {
		isNotAdded(t, nil, timer(5, 1, y))
		isNotAdded(t, l, timer(5, 1, y))
		isNoTimers(t, []impl.Timer{timer(5, 1, y)})
		for i := range l {
			wrong := dupTimers(l)
			wrong[i].T = y
			isNoTimers(t, wrong)
		}
	}
}

func TestHowManyTimersThereMayBe(t *testing.T) {
	for n := range mostTimers + 1 {
		isTimers(t, fullTimers(n))
		for _, at := range []int{0, 10, 20, 34, 35, lastTime} {
			if x := timer(at, 4, lst(num(4))); n < mostTimers {
				isTimerAdded(t, fullTimers(n), x)
			} else {
				isNotAdded(t, fullTimers(n), x)
			}
		}
	}
	for _, n := range []int{51, 52, 100, 256, 300} {
		isNoTimers(t, fullTimers(n))
		same := slices.Repeat([]impl.Timer{timer(5, 1, num(1))}, n)
		isNoTimers(t, same)
		if due, others := dueAt(t, same, 5); len(due) != n || len(others) != 0 {
			t.Error("due of too many", len(due), len(others))
		}
		if len(dropOf(t, same, 2)) != n || len(dropOf(t, same, 1)) != 0 {
			t.Error("dropped of too many")
		}
	}
	for _, l := range [][]impl.Timer{nil, {}} {
		isTimers(t, l)
		isDue(t, l, 0, 0)
		isDue(t, l, math.MinInt, 0)
		isDue(t, l, math.MaxInt, 0)
		if got := dropOf(t, l, 1); len(got) != 0 {
			t.Error("dropped of nothing", got)
		}
		isNotAdded(t, l, impl.Timer{})
		if got := isTimerAdded(t, l, timer(0, 1, num(0))); len(got) != 1 {
			t.Error("the first one", got)
		}
	}
	// what was dropped, or was due, leaves room
	full := fullTimers(mostTimers)
	isTimerAdded(t, dropOf(t, full, 1), timer(12, 1, num(1)))
	_, others := dueAt(t, full, 10)
	isTimerAdded(t, others, timer(12, 1, num(1)))
}

func TestTimesAtWhichTimersAreDue(t *testing.T) {
	l := timersAt(0, 1, 7, 7, 7, 8, 100, lastTime-1, lastTime, lastTime)
	isTimers(t, l)
	for _, x := range [][2]int{
		{math.MinInt, 0}, {-lastTime, 0}, {-2, 0}, {-1, 0}, {0, 1}, {1, 2}, {2, 2}, {6, 2}, {7, 5}, {8, 6}, {9, 6}, {99, 6}, {100, 7}, {101, 7},
		{lastTime - 2, 7}, {lastTime - 1, 8}, {lastTime, 10}, {lastTime + 1, 10}, {1 << 32, 10}, {1<<32 + 7, 10}, {math.MaxInt - 1, 10}, {math.MaxInt, 10},
	} {
		isDue(t, l, x[0], x[1])
	}
	for _, at := range []int{0, 5, lastTime} {
		one := []impl.Timer{timer(at, 1, atom("a"))}
		isDue(t, one, at-1, 0)
		isDue(t, one, at, 1)
		isDue(t, one, at+1, 1)
	}
}

func TestPidsThatAreDropped(t *testing.T) {
	l := fullTimers(mostTimers)
	for number := -1; number <= 9; number++ {
		got := dropOf(t, l, number)
		if number < 1 || number > 7 {
			if !sameTimers(got, l) {
				t.Fatal("nobody of", number, "was there:", timersText(got))
			}
		} else if len(got) >= len(l) || slices.ContainsFunc(got, func(x impl.Timer) bool { return x.Pid == number }) {
			t.Fatal("still there of", number, timersText(got))
		}
		if again := dropOf(t, got, number); !sameTimers(again, got) {
			t.Fatal("dropped twice", timersText(again))
		}
	}
	for _, number := range []int{math.MinInt, math.MaxInt, mostPid, mostPid + 1, 1<<32 + 1} {
		if got := dropOf(t, l, number); !sameTimers(got, l) {
			t.Fatal("nobody of", number, "was there:", timersText(got))
		}
	}
	for _, number := range []int{1, 2, mostPid} {
		for _, n := range []int{1, 2, 49, 50} {
			all := slices.Repeat([]impl.Timer{timer(3, number, tup(num(1)))}, n)
			if got := dropOf(t, all, number); len(got) != 0 {
				t.Fatal("all were of", number, timersText(got))
			}
			if got := dropOf(t, all, number+1); !sameTimers(got, all) {
				t.Fatal("none was of", number+1, timersText(got))
			}
		}
	}
}

// One that is ahead of an earlier one, by one and by far, next to it and far from it.
func TestTimersAheadOfEarlierOnes(t *testing.T) {
	for _, n := range []int{2, 3, 10, 49, 50} {
		var l []impl.Timer
		for i := range n {
			l = append(l, timer(10+i, 1+i%4, num(i)))
		}
		isTimers(t, l)
		for _, at := range []int{0, 1, n / 2, n - 2, n - 1} {
			for _, to := range []int{0, n / 2, n - 1} {
				wrong := dupTimers(l)
				wrong[at], wrong[to] = wrong[to], wrong[at]
				if at == to {
					isTimers(t, wrong)
				} else {
					isNoTimers(t, wrong)
				}
			}
			if at == 0 {
				continue
			}
			wrong := dupTimers(l)
			wrong[at].At = wrong[at-1].At
			isTimers(t, wrong)
			wrong[at].At--
			isNoTimers(t, wrong)
			wrong[at].At = 0
			isNoTimers(t, wrong)
			wrong = dupTimers(l)
			wrong[at-1].At = lastTime
			isNoTimers(t, wrong)
		}
		slices.Reverse(l)
		isNoTimers(t, l)
	}
	// what is due of timers that are not in order stands as it stood; the first that is later does not end it
	l := timersAt(9, 2, 7, 2, 8, 0)
	if due, others := dueAt(t, l, 7); timersText(due) != "2:2:2 7:3:3 2:1:4 0:3:6" || timersText(others) != "9:1:1 8:2:5" {
		t.Error("due out of order:", timersText(due), "and", timersText(others))
	}
	if got := timersText(dropOf(t, l, 2)); got != "9:1:1 7:3:3 2:1:4 0:3:6" {
		t.Error("dropped out of order:", got)
	}
}

// Times beyond all bounds of timers that are not right are compared as they are.
func TestTimersThatAreNotRightAreDueToo(t *testing.T) {
	l := []impl.Timer{timer(math.MinInt, 0, num(1)), timer(-1, -5, impl.Term{}), timer(0, mostPid+1, tup(impl.Term{})), timer(lastTime+1, 3, num(4)), timer(math.MaxInt, math.MinInt, num(mostInt+1)), {}}
	isNoTimers(t, l)
	for _, x := range []struct{ now, due int }{{math.MinInt, 1}, {math.MinInt + 1, 1}, {-2, 1}, {-1, 2}, {0, 4}, {lastTime, 4}, {lastTime + 1, 5}, {math.MaxInt - 1, 5}, {math.MaxInt, 6}} {
		if due, others := dueAt(t, l, x.now); len(due) != x.due || len(others) != 6-x.due {
			t.Errorf("at %d: %v, and %v", x.now, due, others)
		}
	}
	for number, left := range map[int]int{0: 4, -5: 5, mostPid + 1: 5, 3: 5, math.MinInt: 5, 1: 6, math.MaxInt: 6} {
		if got := dropOf(t, l, number); len(got) != left {
			t.Errorf("without %d: %v", number, got)
		}
	}
}

// A timer that is not right among others that are, at each place.
func TestOneTimerThatIsNotRight(t *testing.T) {
	for _, n := range []int{1, 2, 3, 49, 50} {
		for _, at := range []int{0, n / 2, n - 1} {
			for _, spoil := range []func(x *impl.Timer){
				func(x *impl.Timer) { x.Pid = 0 },
				func(x *impl.Timer) { x.Pid = mostPid + 1 },
				func(x *impl.Timer) { x.T = impl.Term{} },
				func(x *impl.Timer) { x.T = num(mostInt + 1) },
				func(x *impl.Timer) { x.T = lst(tup(atom(""))) },
				func(x *impl.Timer) { x.At = -1 },
				func(x *impl.Timer) { x.At = lastTime + 1 },
				func(x *impl.Timer) { *x = impl.Timer{} },
			} {
				l := fullTimers(n)
				spoil(&l[at])
				isNoTimers(t, l)
			}
		}
	}
}

// passing is time that passes: what was added, in the order of its times, against what was due so far.
type passing struct {
	left []impl.Timer
	came []impl.Timer
	now  int
}

func (x *passing) next(t *testing.T, d *dice) {
	t.Helper()
	switch d.below(6) {
	case 0:
		x.now += d.below(4)
		due, others := dueAt(t, x.left, x.now)
		x.came, x.left = append(x.came, due...), others
	case 1:
		if d.below(5) == 0 {
			x.left = dropOf(t, x.left, 1+d.below(6))
		}
	default:
		// none is due already
		x.left, _ = addTo(t, x.left, timer(x.now+1+d.below(8), 1+d.below(5), tup(num(d.below(1000)), anyTerm(d, 3))))
	}
}

// What was due came in the order of its times, however time passed.
func TestTimersWhileTimePasses(t *testing.T) {
	d := dice(14)
	for range 60 {
		var x passing
		for range 120 {
			x.next(t, &d)
		}
		if !slices.IsSortedFunc(x.came, func(a, b impl.Timer) int { return a.At - b.At }) {
			t.Fatal("not in the order of their times:", timersText(x.came))
		}
		if len(x.came) == 0 {
			t.Fatal("nothing came")
		}
	}
}

// Step by step, what is due is what would have been due at once.
func TestTimersAreDueBitByBit(t *testing.T) {
	d := dice(141)
	for range 100 {
		var l, came []impl.Timer
		for range d.below(mostTimers + 1) {
			l = isTimerAdded(t, l, timer(d.below(30), 1+d.below(5), anyTerm(&d, 3)))
		}
		left := l
		for now := -1; now <= 30; now += 1 + d.below(6) {
			due, others := dueAt(t, left, now)
			came, left = append(came, due...), others
			atOnce, _ := dueAt(t, l, now)
			if !sameTimers(came, atOnce) {
				t.Fatalf("up to %d: %s, at once %s", now, timersText(came), timersText(atOnce))
			}
		}
	}
}

func anyTimers(d *dice) []impl.Timer {
	var l []impl.Timer
	at := []int{0, 0, 3, lastTime - 40}[d.below(4)]
	for range []int{0, d.below(5), d.below(20), 49, 50, 51}[d.below(6)] {
		at = min(at+d.below(3), lastTime)
		l = append(l, timer(at, 1+d.below(6), anyTerm(d, 1+d.below(4))))
	}
	return l
}

// spoilTimers makes one of them another one, which may be right, too.
func spoilTimers(d *dice, l []impl.Timer) {
	if len(l) == 0 {
		return
	}
	x := &l[d.below(len(l))]
	switch d.below(5) {
	case 0:
		x.At = edgeNumbers[d.below(len(edgeNumbers))]
	case 1:
		x.At += d.below(3) - 1
	case 2:
		x.Pid = edgeNumbers[d.below(len(edgeNumbers))]
	case 3:
		x.T = wrongTerms[d.below(len(wrongTerms))]
	case 4:
		l[0], *x = *x, l[0]
	}
}

func TestTimersByChance(t *testing.T) {
	d := dice(142)
	right := 0
	for range 3000 {
		l := anyTimers(&d)
		for range d.below(3) {
			spoilTimers(&d, l)
		}
		if okTimers(t, l) {
			right++
		}
		x := []impl.Timer{timer(d.below(30), 1+d.below(6), anyTerm(&d, 3))}
		if len(l) > 0 && d.below(2) == 0 {
			x[0].At = l[d.below(len(l))].At
		}
		if d.below(3) == 0 {
			spoilTimers(&d, x)
		}
		addTo(t, l, x[0])
		dueAt(t, l, x[0].At)
		dueAt(t, l, edgeNumbers[d.below(len(edgeNumbers))])
		dropOf(t, l, x[0].Pid)
		dropOf(t, l, d.below(8))
	}
	if right < 500 || right > 2500 {
		t.Error("right ones", right)
	}
}

// Lists that stand in timers several times are several in what comes of them.
func TestTimersWhoseListsAreOne(t *testing.T) {
	one := many(3, lst(num(1), atom("abc")))
	y := tup(one...)
	for _, n := range []int{1, 2, 3, 20, 49, 50, 51, 60} {
		for _, later := range []int{0, 1, n / 2, n} {
			l := slices.Repeat([]impl.Timer{timer(5, 1, y)}, n)
			for i := range l {
				if i >= n-later {
					l[i].At, l[i].Pid = 6, 2
				}
			}
			ahead := dupTimers(l)
			check := func(answers ...[]impl.Timer) {
				t.Helper()
				var lists []span
				for _, got := range answers {
					in, _ := spansOfTimers(got)
					lists = append(lists, in...)
				}
				if meet(slices.Concat(lists, []span{spanOf(l), spanOf(one), spanOf(one[0].L)})) {
					t.Fatal("lists of an answer are one", n, later)
				}
				if !sameTimers(l, ahead) {
					t.Fatal("an argument was written")
				}
			}
			for _, x := range []impl.Timer{l[0], l[n-1], timer(0, 3, lst(one...)), timer(9, 3, y), timer(5, 0, y)} {
				got, ok := impl.AddTimer(l, x)
				want, right := addBy(l, x)
				if ok != right || !sameTimers(got, want) {
					t.Fatal("added:", timersText(got), ok)
				}
				check(got)
			}
			for _, now := range []int{4, 5, 6} {
				due, others := impl.DueTimers(l, now)
				check(due, others)
			}
			for _, number := range []int{1, 2, 3} {
				check(impl.DropTimers(l, number))
			}
		}
	}
}

// Terms of any depth, or that come round to themselves, are not right; timers with them are answered as they were.
func TestTimersWithTermsWithoutEnd(t *testing.T) {
	twice := num(1)
	for range 60 {
		twice = tup(twice, twice)
	}
	for _, y := range []impl.Term{round(impl.TTuple, true, num(1)), round(impl.TList, false, num(2)), nested(100000, tup, num(1)), nested(100000, lst, num(1)), twice} {
		right := timersAt(2, 5, 8)
		if got, ok := impl.AddTimer(right, timer(5, 1, y)); ok || !sameTimers(got, right) {
			t.Fatal("added", ok)
		}
		ahead := listsWithin([]impl.Term{y})
		l := timersAt(2, 5, 8)
		l[1].T, l[2].T = y, y
		same := func(want []impl.Timer, got []impl.Timer) {
			t.Helper()
			if len(got) != len(want) {
				t.Fatal("not as many", len(got))
			}
			for i, x := range got {
				if x.At != want[i].At || x.Pid != want[i].Pid || !impl.SameTerm(x.T, want[i].T) {
					t.Fatal("not as it was")
				}
				for first := range listsWithin([]impl.Term{x.T}) {
					if ahead[first] > 0 {
						t.Fatal("an answer shares memory with an argument")
					}
				}
			}
		}
		got, ok := impl.AddTimer(l, timer(5, 1, num(1)))
		if ok || impl.TimersOk(l) {
			t.Fatal("not refused")
		}
		same(l, got)
		due, others := impl.DueTimers(l, 5)
		same(l[:2], due)
		same(l[2:], others)
		same(l[1:], impl.DropTimers(l, 1))
		behind := listsWithin([]impl.Term{others[0].T})
		for first := range listsWithin([]impl.Term{due[1].T}) {
			if behind[first] > 0 {
				t.Fatal("two lists of one answer share memory")
			}
		}
	}
}

// A timer that stands in the list already, and one of its room behind, may be added.
func TestTimersThatStandThereAlready(t *testing.T) {
	room := timersAt(1, 4, 4, 9, 3, 2)
	ahead := dupTimers(room)
	for n := range 5 {
		for i := range room {
			got, ok := impl.AddTimer(room[:n], room[i])
			want, right := addBy(ahead[:n], ahead[i])
			if ok != right || !sameTimers(got, want) {
				t.Fatalf("%d added to the first %d: %s, %v", i, n, timersText(got), ok)
			}
			if !sameTimers(room, ahead) {
				t.Fatal("an argument, or the room behind it, was written", timersText(room))
			}
		}
	}
}

// What was answered ahead stays as it was, whatever is done to what comes behind it.
func TestTimersShareNothing(t *testing.T) {
	l := []impl.Timer{timer(1, 1, lst(num(1), tup(num(2)))), timer(5, 2, tup(lst(num(3))))}
	x := timer(3, 1, lst(tup(num(4))))
	one, _ := impl.AddTimer(l, x)
	kept := dupTimers(one)
	two, _ := impl.AddTimer(one, x)
	refused, _ := impl.AddTimer(one, impl.Timer{})
	due, others := impl.DueTimers(one, 3)
	none, all := impl.DueTimers(one, -1)
	left := impl.DropTimers(one, 2)
	keptDue, keptOthers := dupTimers(due), dupTimers(others)
	wipe := func(l []impl.Timer) {
		for _, y := range l {
			for _, z := range y.T.L {
				clear(z.L[:cap(z.L)])
			}
			clear(y.T.L[:cap(y.T.L)])
		}
		clear(l[:cap(l)])
	}
	for _, y := range [][]impl.Timer{l, {x}, two, refused, none, all, left} {
		wipe(y)
	}
	if !sameTimers(one, kept) || !sameTimers(due, keptDue) || !sameTimers(others, keptOthers) {
		t.Error("an answer turned", timersText(one))
	}
	wipe(due)
	_ = append(due, timer(7, 7, num(7)))
	if !sameTimers(one, kept) || !sameTimers(others, keptOthers) {
		t.Error("an answer turned", timersText(one), timersText(others))
	}
}

// The shared tests find a generic type wherever it stands; here it is a type of lists with methods that the functions of this layer lean on.
func TestTimersAreAGenericTypeOfLists(t *testing.T) {
	f, err := parser.ParseFile(token.NewFileSet(), "../impl/l14_timer.go", nil, 0)
	if err != nil {
		t.Fatal(err)
	}
	generic, methods, used := map[string]bool{}, map[string]bool{}, map[string]bool{}
	for _, d := range f.Decls {
		if x, ok := d.(*ast.GenDecl); ok && x.Tok == token.TYPE {
			for _, s := range x.Specs {
				y := s.(*ast.TypeSpec)
				if list, ok := y.Type.(*ast.ArrayType); ok && list.Len == nil && y.TypeParams != nil {
					generic[y.Name.Name] = true
				}
			}
		}
	}
	for _, d := range f.Decls {
		x, ok := d.(*ast.FuncDecl)
		if !ok {
			continue
		}
		if x.Recv != nil {
			if of, ok := x.Recv.List[0].Type.(*ast.IndexExpr); ok && generic[of.X.(*ast.Ident).Name] {
				methods[x.Name.Name] = true
			}
			continue
		}
		ast.Inspect(x, func(n ast.Node) bool {
			if call, ok := n.(*ast.CallExpr); ok && x.Name.IsExported() {
				if s, ok := call.Fun.(*ast.SelectorExpr); ok {
					used[x.Name.Name+" "+s.Sel.Name] = true
				}
			}
			return true
		})
	}
	for _, name := range []string{"TimersOk", "AddTimer", "DueTimers", "DropTimers"} {
		leans := false
		for method := range methods {
			leans = leans || used[name+" "+method]
		}
		if !leans {
			t.Error(name, "does without lists in order:", generic, methods)
		}
	}
}
