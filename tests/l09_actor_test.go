package tests

import (
	"cmp"
	"fmt"
	"go/ast"
	"go/parser"
	"go/token"
	"math"
	"slices"
	"strings"
	"testing"
	"unsafe"

	"loop.example/g00248/impl"
)

const (
	mostPid   = 99999
	mostBox   = 30
	mostLinks = 50
)

// dup is t in memory of its own.
func dup(t impl.Term) impl.Term {
	t.L = dups(t.L)
	return t
}

func dups(l []impl.Term) []impl.Term {
	var own []impl.Term
	for _, t := range l {
		own = append(own, dup(t))
	}
	return own
}

func dupActor(a impl.Actor) impl.Actor {
	return impl.Actor{Pid: a.Pid, Pc: a.Pc, Regs: dups(a.Regs), Box: dups(a.Box), Links: slices.Clone(a.Links)}
}

func sameActor(a, b impl.Actor) bool {
	return a.Pid == b.Pid && a.Pc == b.Pc && sameTerms(a.Regs, b.Regs) && sameTerms(a.Box, b.Box) && slices.Equal(a.Links, b.Links)
}

func sameAct(a, b impl.Act) bool {
	return a.Kind == b.Kind && a.Pid == b.Pid && a.Pc == b.Pc && alike(a.T, b.T)
}

// rightActor is ActorOk by the chapter.
func rightActor(l []impl.Ins, a impl.Actor) bool {
	if !rightCode(l) || a.Pid < 1 || a.Pid > mostPid || a.Pc < 0 || a.Pc > len(l)-1 || len(a.Regs) != 8 || len(a.Box) > mostBox || len(a.Links) > mostLinks {
		return false
	}
	for _, x := range slices.Concat(a.Regs, a.Box) {
		if !impl.TermOk(x) {
			return false
		}
	}
	for i, n := range a.Links {
		if n < 1 || n > mostPid || n == a.Pid || i > 0 && a.Links[i-1] >= n {
			return false
		}
	}
	return true
}

// comes is what comes into a register by the chapter, and whether something does; false of it is a fault.
func comes(a impl.Actor, x impl.Ins, next int) (impl.Term, bool) {
	r := a.Regs
	switch x.Op {
	case impl.OpInt:
		return num(x.N), true
	case impl.OpAtom:
		return atom(x.S), true
	case impl.OpNil:
		return lst(), true
	case impl.OpMove:
		return r[x.B], true
	case impl.OpTuple:
		return tup(r[x.B : x.B+x.N]...), true
	case impl.OpCons:
		return lst(slices.Concat([]impl.Term{r[x.B]}, r[x.C].L)...), r[x.C].K == impl.TList
	case impl.OpElem:
		if r[x.B].K == impl.TTuple && x.N < len(r[x.B].L) {
			return r[x.B].L[x.N], true
		}
	case impl.OpHead:
		if r[x.B].K == impl.TList && len(r[x.B].L) > 0 {
			return r[x.B].L[0], true
		}
	case impl.OpTail:
		if r[x.B].K == impl.TList && len(r[x.B].L) > 0 {
			return lst(r[x.B].L[1:]...), true
		}
	case impl.OpAdd:
		return num(r[x.B].N + r[x.C].N), r[x.B].K == impl.TInt && r[x.C].K == impl.TInt
	case impl.OpSelf:
		return pid(a.Pid), true
	case impl.OpMake:
		return pid(next), true
	case impl.OpTake:
		if len(a.Box) > 0 {
			return a.Box[0], true
		}
	}
	return impl.Term{}, false
}

var faulted = impl.Act{Kind: impl.ActEnd, T: atom("fault")}

// stepBy is StepActor by the chapter.
func stepBy(l []impl.Ins, was impl.Actor, next int) (impl.Actor, impl.Act) {
	a := dupActor(was)
	if !rightActor(l, a) || next < 1 || next > mostPid {
		return a, impl.Act{}
	}
	x := l[a.Pc]
	ra, rb := a.Regs[x.A], impl.Term{}
	if x.B < 8 {
		rb = a.Regs[x.B]
	}
	a.Pc++
	act := impl.Act{Kind: impl.ActGo}
	switch x.Op {
	case impl.OpSame:
		if orderOf(ra, rb) != 0 {
			a.Pc = x.N
		}
		return a, act
	case impl.OpKind:
		if ra.K != x.B {
			a.Pc = x.N
		}
		return a, act
	case impl.OpJump:
		a.Pc = x.N
		return a, act
	case impl.OpSend, impl.OpLink:
		if ra.K != impl.TPid {
			return was, faulted
		}
		if x.Op == impl.OpSend {
			return a, impl.Act{Kind: impl.ActSend, Pid: ra.N, T: rb}
		}
		return a, impl.Act{Kind: impl.ActLink, Pid: ra.N}
	case impl.OpSay:
		return a, impl.Act{Kind: impl.ActSay, T: ra}
	case impl.OpEnd:
		return was, impl.Act{Kind: impl.ActEnd, T: ra}
	}
	if x.Op == impl.OpTake && len(a.Box) == 0 {
		return was, impl.Act{Kind: impl.ActWait}
	}
	got, ok := comes(a, x, next)
	if !ok || !impl.TermOk(got) {
		return was, faulted
	}
	if x.Op == impl.OpTake {
		a.Box = a.Box[1:]
	}
	if x.Op == impl.OpMake {
		act = impl.Act{Kind: impl.ActMake, Pid: next, Pc: x.N, T: rb}
	}
	a.Regs[x.A] = dup(got)
	return a, act
}

// spare stands behind each list that is lent, where nothing is looked at.
var spare = []impl.Term{{K: -1, N: 77}, {}, {K: impl.TInt, N: 5}}

// lending are lists that are lent, each with spare room behind it, and as they were.
type lending struct {
	rooms, ahead [][]impl.Term
	links, was   []int
	code, wasIns []impl.Ins
}

func (x *lending) list(l []impl.Term) []impl.Term {
	room := slices.Concat(l, spare)
	for i, t := range l {
		room[i].S = strings.Clone(t.S)
		room[i].L = x.list(t.L)
	}
	x.rooms, x.ahead = append(x.rooms, room), append(x.ahead, slices.Clone(room))
	return room[:len(l)]
}

func (x *lending) actor(a impl.Actor) impl.Actor {
	x.links = slices.Concat(a.Links, []int{-7, 0, 12})
	x.was = slices.Clone(x.links)
	return impl.Actor{Pid: a.Pid, Pc: a.Pc, Regs: x.list(a.Regs), Box: x.list(a.Box), Links: x.links[:len(a.Links)]}
}

func (x *lending) lines(l []impl.Ins) []impl.Ins {
	x.code = slices.Concat(l, spareIns)
	for i, ins := range x.code {
		x.code[i].S = strings.Clone(ins.S)
	}
	x.wasIns = slices.Clone(x.code)
	return x.code[:len(l)]
}

func (x *lending) untouched() bool {
	for i, room := range x.rooms {
		for k, t := range room {
			u := x.ahead[i][k]
			if t.K != u.K || t.N != u.N || t.S != u.S || len(t.L) != len(u.L) || cap(t.L) != cap(u.L) || unsafe.SliceData(t.L) != unsafe.SliceData(u.L) {
				return false
			}
		}
	}
	return slices.Equal(x.links, x.was) && slices.Equal(x.code, x.wasIns)
}

// span is where memory begins and ends.
type span struct{ from, to uintptr }

func spanOf[T any](l []T) span {
	from := uintptr(unsafe.Pointer(unsafe.SliceData(l)))
	return span{from, from + uintptr(cap(l))*unsafe.Sizeof(*new(T))}
}

func textSpan(s string) span {
	from := uintptr(unsafe.Pointer(unsafe.StringData(s)))
	return span{from, from + uintptr(len(s))}
}

// spansOf are where the lists of l lie, with all the room that is behind them, and its texts.
func spansOf(l []impl.Term) (lists []span, texts []span) {
	lists = append(lists, spanOf(l))
	for _, t := range l {
		in, inTexts := spansOf(t.L)
		lists, texts = append(lists, in...), append(append(texts, inTexts...), textSpan(t.S))
	}
	return lists, texts
}

// inOrderOf are those that are not empty, in the order in which they lie.
func inOrderOf(list []span) []span {
	list = slices.DeleteFunc(slices.Clone(list), func(s span) bool { return s.from == s.to })
	slices.SortFunc(list, func(a, b span) int { return cmp.Compare(a.from, b.from) })
	return list
}

// meet tells whether two of these lie on each other.
func meet(list []span) bool {
	list = inOrderOf(list)
	for i := 1; i < len(list); i++ {
		if list[i].from < list[i-1].to {
			return true
		}
	}
	return false
}

// meetOthers tells whether one of list lies on one of the others, no two of which lie on each other.
func meetOthers(list []span, others []span) bool {
	others = inOrderOf(others)
	for _, s := range inOrderOf(list) {
		i, _ := slices.BinarySearchFunc(others, s.from, func(o span, from uintptr) int { return cmp.Compare(o.to, from+1) })
		if i < len(others) && others[i].from < s.to {
			return true
		}
	}
	return false
}

// answerSpans are where the lists and texts of an answer lie.
func answerSpans(a impl.Actor, act impl.Act) (lists []span, texts []span) {
	lists = []span{spanOf(a.Links)}
	for _, l := range [][]impl.Term{a.Regs, a.Box, {act.T}} {
		in, inTexts := spansOf(l)
		lists, texts = append(lists, in...), append(texts, inTexts...)
	}
	return lists, texts
}

// isNew asks for an answer whose lists share memory neither with each other nor with what was lent, and whose texts are no part of it.
func (x *lending) isNew(t *testing.T, a impl.Actor, act impl.Act) {
	t.Helper()
	lists, texts := answerSpans(a, act)
	lent, lentTexts := []span{spanOf(x.links), spanOf(x.code)}, []span{}
	for _, ins := range x.code {
		lentTexts = append(lentTexts, textSpan(ins.S))
	}
	for _, room := range x.rooms {
		lent = append(lent, spanOf(room))
		for _, y := range room {
			lentTexts = append(lentTexts, textSpan(y.S))
		}
	}
	if meet(slices.Concat(lists, lent)) {
		t.Fatalf("an answer shares memory: %v, %v", a, act)
	}
	if meetOthers(texts, lentTexts) {
		t.Fatalf("a text of an answer is one that was handed in: %v, %v", a, act)
	}
}

// stepOf is StepActor, once it is known that nothing was written into what was lent, and that the answer is new.
func stepOf(t *testing.T, l []impl.Ins, a impl.Actor, next int) (impl.Actor, impl.Act) {
	t.Helper()
	var x lending
	code, lent := x.lines(l), x.actor(a)
	got, act := impl.StepActor(code, lent, next)
	if !x.untouched() {
		t.Fatalf("an argument, or the room behind it, was written: %v of %v", l, a)
	}
	x.isNew(t, got, act)
	return got, act
}

// okOf is ActorOk, which writes nothing.
func okOf(t *testing.T, l []impl.Ins, a impl.Actor) bool {
	t.Helper()
	var x lending
	ok := impl.ActorOk(x.lines(l), x.actor(a))
	if !x.untouched() {
		t.Fatalf("an argument, or the room behind it, was written: %v of %v", l, a)
	}
	return ok
}

// isStep asks for a step of a right actor as the chapter tells it, behind which the actor is right.
func isStep(t *testing.T, l []impl.Ins, a impl.Actor, next int) (impl.Actor, impl.Act) {
	t.Helper()
	if !impl.ActorOk(l, a) || !rightActor(l, a) {
		t.Fatalf("not right ahead of a step: %v", a)
	}
	want, wantAct := stepBy(l, a, next)
	got, act := stepOf(t, l, a, next)
	if !sameActor(got, want) || !sameAct(act, wantAct) {
		t.Fatalf("%q of %v\nis %v, %v\nnot %v, %v", impl.InsText(l[a.Pc]), a, got, act, want, wantAct)
	}
	if !impl.ActorOk(l, got) || !rightActor(l, got) {
		t.Fatalf("not right behind %q: %v", impl.InsText(l[a.Pc]), got)
	}
	return got, act
}

// isFault asks for a fault, which leaves the actor as it was.
func isFault(t *testing.T, l []impl.Ins, a impl.Actor) {
	t.Helper()
	if got, act := isStep(t, l, a, 7); !sameAct(act, faulted) || !sameActor(got, a) {
		t.Fatalf("%q of %v: %v, %v", impl.InsText(l[a.Pc]), a, got, act)
	}
}

// isGone asks for a step that goes on to the next place, with got in this register, all else as it was.
func isGone(t *testing.T, l []impl.Ins, a impl.Actor, reg int, got impl.Term) {
	t.Helper()
	want := dupActor(a)
	want.Pc++
	want.Regs[reg] = got
	if x, act := isStep(t, l, a, 7); !sameActor(x, want) || !sameAct(act, impl.Act{Kind: impl.ActGo}) {
		t.Fatalf("%q of %v: %v, %v", impl.InsText(l[a.Pc]), a, x, act)
	}
}

func isActor(t *testing.T, l []impl.Ins, a impl.Actor) {
	t.Helper()
	if !okOf(t, l, a) {
		t.Fatalf("not right: %v", a)
	}
	isStep(t, l, a, 1)
	isStep(t, l, a, mostPid)
}

// isNoActor asks for a refusal: the actor as it was, and the zero Act.
func isNoActor(t *testing.T, l []impl.Ins, a impl.Actor) {
	t.Helper()
	if okOf(t, l, a) || rightActor(l, a) {
		t.Fatalf("right: %v", a)
	}
	isRefusedStep(t, l, a, 5)
}

func isRefusedStep(t *testing.T, l []impl.Ins, a impl.Actor, next int) {
	t.Helper()
	if got, act := stepOf(t, l, a, next); !sameActor(got, a) || !sameAct(act, impl.Act{}) {
		t.Fatalf("refused, but %v, %v of %v", got, act, a)
	}
}

// linesOf is code of these lines.
func linesOf(t *testing.T, lines ...string) []impl.Ins {
	t.Helper()
	l, ok := impl.ParseCode(strings.Join(lines, "\n") + "\n")
	if !ok {
		t.Fatal("no code:", lines)
	}
	return l
}

// withRegs is an actor with these first registers.
func withRegs(regs ...impl.Term) impl.Actor {
	return impl.Actor{Pid: 3, Regs: append(dups(regs), many(8-len(regs), num(0))...)}
}

// links are n Pids that ascend from this one on.
func links(from int, n int) []int {
	l := []int{}
	for i := range n {
		l = append(l, from+i)
	}
	return l
}

func TestActsInNumbers(t *testing.T) {
	for i, kind := range []int{impl.ActGo, impl.ActWait, impl.ActSend, impl.ActMake, impl.ActSay, impl.ActLink, impl.ActEnd} {
		if kind != i+1 {
			t.Error("kind", i+1, "is", kind)
		}
	}
	if impl.MaxBox != mostBox {
		t.Error("words that may wait:", impl.MaxBox)
	}
}

// newOf is ActorNew of an argument that is lent.
func newOf(t *testing.T, pid int, pc int, arg impl.Term) impl.Actor {
	t.Helper()
	var x lending
	a := impl.ActorNew(pid, pc, x.list([]impl.Term{arg})[0])
	if !x.untouched() {
		t.Fatal("an argument, or the room behind it, was written", arg)
	}
	x.isNew(t, a, impl.Act{})
	return a
}

func isNewActor(t *testing.T, number int, pc int, arg impl.Term) {
	t.Helper()
	want := impl.Actor{Pid: number, Pc: pc, Regs: []impl.Term{arg, num(0), num(0), num(0), num(0), num(0), num(0), num(0)}}
	if a := newOf(t, number, pc, arg); !sameActor(a, want) {
		t.Fatalf("a new actor is %v, not %v", a, want)
	}
	if pc < mostCode {
		isActor(t, endless(mostCode), want)
	}
}

func isNotNew(t *testing.T, number int, pc int, arg impl.Term) {
	t.Helper()
	if a := newOf(t, number, pc, arg); !sameActor(a, impl.Actor{}) {
		t.Fatalf("a new actor of %d, %d, %v is %v", number, pc, arg, a)
	}
}

var rightTerms = []impl.Term{
	num(0), num(-1000000), num(1000000), atom("a"), atom("fault"), atom("abcdefghijkl"), pid(0), pid(99999), tup(), lst(), bin(""), bin(strings.Repeat("\xff", 40)),
	tup(many(8, lst(num(1), num(2)))...), lst(many(20, bin("ab"))...), nested(5, lst, num(1)), nested(5, tup, lst()), ofAll(100), tup(lst(atom("a"), tup(bin("x")))),
}

var wrongTerms = []impl.Term{
	{}, {K: -1}, {K: 7}, num(1000001), num(-1000001), num(math.MaxInt), num(math.MinInt), atom(""), atom("A"), atom("abcdefghijklm"), pid(-1), pid(100000), bin(strings.Repeat("a", 41)),
	tup(many(9, num(1))...), lst(many(21, num(1))...), tup(many(9, lst(num(1)))...), nested(6, lst, num(1)), nested(6, tup, lst()), ofAll(101), lst(num(1), impl.Term{}), tup(tup(atom("a b"))),
	{K: impl.TInt, S: "a"}, {K: impl.TInt, L: many(2, lst(num(1)))}, {K: impl.TAtom, S: "a", N: 1}, {K: impl.TPid, S: "x"}, {K: impl.TTuple, N: 1}, {K: impl.TList, S: "a"}, {K: impl.TBin, L: many(1, num(1))}, {L: many(1, tup(num(3)))},
}

func TestNewActors(t *testing.T) {
	for _, arg := range rightTerms {
		isNewActor(t, 1, 0, arg)
		isNewActor(t, 77, 3, arg)
		isNotNew(t, 0, 0, arg)
		isNotNew(t, 1, -1, arg)
	}
	for _, arg := range wrongTerms {
		isNotNew(t, 1, 0, arg)
		isNotNew(t, 77, 3, arg)
	}
	for _, n := range []int{1, 2, 50000, 99998, 99999} {
		isNewActor(t, n, 0, num(4))
	}
	for _, n := range []int{math.MinInt, -99999, -1, 0, 100000, 100001, 1<<32 + 1, math.MaxInt} {
		isNotNew(t, n, 0, num(4))
	}
	for _, pc := range []int{0, 1, 199, 200, 1000, math.MaxInt} {
		isNewActor(t, 1, pc, atom("ok"))
	}
	for _, pc := range []int{-1, -2, -200, math.MinInt} {
		isNotNew(t, 1, pc, atom("ok"))
	}
}

func TestPidsOfActors(t *testing.T) {
	l := linesOf(t, "self 1", "make 2 0 1", "end 0")
	a := withRegs(tup(num(1)))
	for _, a.Pid = range []int{1, 2, 99998, 99999} {
		isActor(t, l, a)
		isGone(t, l, a, 1, pid(a.Pid))
	}
	for _, a.Pid = range []int{math.MinInt, -1, 0, 100000, 100001, 1<<32 + 1, math.MaxInt} {
		isNoActor(t, l, a)
	}
}

func TestNextPids(t *testing.T) {
	for _, line := range []string{"make 2 0 1", "int 1 1", "take 3", "end 0", "head 0 1", "jump 0"} {
		l := linesOf(t, line, "jump 0")
		a := withRegs(tup(num(1)), pid(0))
		for _, next := range []int{1, 2, 3, 99998, 99999} {
			got, act := isStep(t, l, a, next)
			if l[0].Op == impl.OpMake && (!alike(got.Regs[2], pid(next)) || !sameAct(act, impl.Act{Kind: impl.ActMake, Pid: next, Pc: 1, T: a.Regs[0]})) {
				t.Error("next", next, "makes", act)
			}
		}
		for _, next := range []int{math.MinInt, -1, 0, 100000, 100001, 1<<32 + 1, math.MaxInt} {
			isRefusedStep(t, l, a, next)
		}
	}
}

func TestPlacesOfActors(t *testing.T) {
	for _, n := range []int{1, 2, 3, 57, 199, 200} {
		l := endless(n)
		a := withRegs()
		for a.Pc = range n {
			isStep(t, l, a, 9)
		}
		for _, a.Pc = range []int{-1, n, n + 1, 256, math.MinInt, math.MaxInt} {
			isNoActor(t, l, a)
		}
	}
}

// The last place is left by a jump alone.
func TestStepsFromTheLastPlace(t *testing.T) {
	a := withRegs(lst(num(1)), atom("ok"))
	for _, n := range []int{1, 2, 199, 200} {
		a.Pc = n - 1
		l := endless(n)
		l[n-1].N = 0
		if got, act := isStep(t, l, a, 9); got.Pc != 0 || act.Kind != impl.ActGo {
			t.Error("a jump from the last place", got.Pc, act)
		}
		l[n-1].N = n - 1
		if got, act := isStep(t, l, a, 9); got.Pc != n-1 || act.Kind != impl.ActGo {
			t.Error("a jump from the last place to itself", got.Pc, act)
		}
		l[n-1] = impl.Ins{Op: impl.OpEnd, A: 1}
		if got, act := isStep(t, l, a, 9); !sameActor(got, a) || !sameAct(act, impl.Act{Kind: impl.ActEnd, T: atom("ok")}) {
			t.Error("an end at the last place", got, act)
		}
	}
}

func TestHowManyRegistersThereAre(t *testing.T) {
	l := linesOf(t, "int 7 1", "move 0 1", "end 0")
	for _, x := range rightTerms {
		for n := range 20 {
			a := impl.Actor{Pid: 5, Regs: many(n, x)}
			if n == 8 {
				isActor(t, l, a)
			} else {
				isNoActor(t, l, a)
			}
		}
	}
	isNoActor(t, l, impl.Actor{})
	isNoActor(t, l, impl.Actor{Pid: 5, Regs: many(5000, lst(num(1)))})
}

func TestHowManyWordsMayWait(t *testing.T) {
	for _, line := range []string{"take 0", "nil 1", "end 2"} {
		l := linesOf(t, line, "jump 1")
		for _, x := range rightTerms {
			a := withRegs(atom("a"))
			for _, n := range []int{0, 1, 2, 29, 30} {
				a.Box = many(n, x)
				isActor(t, l, a)
			}
			for _, n := range []int{31, 32, 100} {
				a.Box = many(n, x)
				isNoActor(t, l, a)
			}
		}
	}
}

func TestHowManyLinksThereMayBe(t *testing.T) {
	l := linesOf(t, "link 0", "end 0")
	a := withRegs(pid(7))
	for _, n := range []int{0, 1, 2, 49, 50} {
		a.Links = links(4, n)
		isActor(t, l, a)
		a.Links = links(99999-n+1, n)
		isActor(t, l, a)
	}
	for _, n := range []int{51, 52, 1000} {
		a.Links = links(4, n)
		isNoActor(t, l, a)
	}
}

func TestWhichLinksThereMayBe(t *testing.T) {
	l := linesOf(t, "self 0", "end 0")
	a := withRegs()
	a.Pid = 50
	for _, a.Links = range [][]int{{}, {1}, {99999}, {1, 99999}, {1, 2, 3}, {49, 51}, {1, 3, 49, 51, 100, 99999}} {
		isActor(t, l, a)
	}
	for _, a.Links = range [][]int{
		{0}, {-1}, {100000}, {math.MinInt}, {math.MaxInt}, {0, 1}, {-1, 1}, {1, 100000}, {1, math.MaxInt}, {math.MinInt, 5},
		{1, 1}, {99999, 99999}, {2, 1}, {1, 2, 2}, {1, 1, 2}, {1, 3, 2}, {3, 1, 2}, {1, 2, 1}, {5, 4, 3},
		{50}, {1, 50}, {50, 51}, {49, 50, 51},
	} {
		isNoActor(t, l, a)
	}
	for at := range 50 {
		a.Links = links(51, 50)
		a.Links[at]++
		if at == 49 {
			isActor(t, l, a)
		} else {
			isNoActor(t, l, a)
		}
		a.Links[at] = 50
		isNoActor(t, l, a)
	}
	for number := 1; number <= 10; number++ {
		a.Pid, a.Links = number, []int{2, 4, 7}
		if slices.Contains(a.Links, number) {
			isNoActor(t, l, a)
		} else {
			isActor(t, l, a)
		}
	}
}

func TestTermsOfActorsThatAreNotRight(t *testing.T) {
	for _, line := range []string{"int 0 1", "take 7", "end 3", "move 1 2"} {
		l := linesOf(t, line, "jump 0")
		for _, wrong := range wrongTerms {
			for at := range 8 {
				a := withRegs(num(1), lst(num(2)), atom("c"))
				a.Regs[at] = wrong
				isNoActor(t, l, a)
			}
			for _, n := range []int{1, 2, 29, 30} {
				for _, at := range []int{0, n / 2, n - 1} {
					a := withRegs(num(1))
					a.Box = many(n, tup(num(1)))
					a.Box[at] = wrong
					isNoActor(t, l, a)
				}
			}
		}
	}
}

func TestStepsOfWhatIsNoCode(t *testing.T) {
	a := withRegs(tup(lst(num(1))), pid(2))
	a.Box, a.Links = many(3, lst(num(4))), []int{1, 9}
	for _, l := range [][]impl.Ins{
		nil, {}, {{}}, {{Op: 21}}, {{Op: -1}}, {{Op: impl.OpTake}}, {{Op: impl.OpEnd}, {Op: impl.OpTake}}, {{Op: impl.OpEnd, A: 8}}, {{Op: impl.OpEnd, A: -1}}, {{Op: impl.OpEnd, B: 1}},
		{{Op: impl.OpJump, N: 1}}, {{Op: impl.OpJump, N: -1}}, {{Op: impl.OpMove, B: 8}, {Op: impl.OpEnd}}, {{Op: impl.OpCons, C: 8}, {Op: impl.OpEnd}}, {{Op: impl.OpTuple, B: 5, N: 4}, {Op: impl.OpEnd}},
		{{Op: impl.OpEnd}, {}, {Op: impl.OpEnd}}, {{Op: impl.OpKind, B: 7}, {Op: impl.OpEnd}}, {{Op: impl.OpElem, N: 8}, {Op: impl.OpEnd}}, {{Op: impl.OpElem, N: -1}, {Op: impl.OpEnd}}, {{Op: impl.OpAtom, S: "A"}, {Op: impl.OpEnd}},
		{{Op: math.MaxInt}, {Op: impl.OpEnd}}, {{Op: math.MinInt}, {Op: impl.OpEnd}}, slices.Repeat([]impl.Ins{{Op: impl.OpEnd}}, 201), endless(201), endless(1000),
	} {
		isNoActor(t, l, a)
	}
	isActor(t, endless(200), a)
	isActor(t, slices.Repeat([]impl.Ins{{Op: impl.OpEnd}}, 200), a)
	// what is wrong far from the instruction counts, too
	l := endless(200)
	l[199].N = 200
	isNoActor(t, l, a)
}

// The registers of all steps that are told one by one: a number, an atom, a Pid, a tuple, a list, a binary, an empty list and an empty tuple.
const eight = "{5,ok,<9>,{1,[a]},[7,{8}],#00ff,[],{}}"

// actText is an Act, field by field.
func actText(x impl.Act) string {
	return fmt.Sprintf("%d %d %d %s", x.Kind, x.Pid, x.Pc, impl.TermText(x.T))
}

func TestAStepOfEachOp(t *testing.T) {
	const fault = "7 0 0 fault"
	for _, x := range []struct {
		line string
		regs string
		pc   int
		act  string
	}{
		{"int 3 -42", "{5,ok,<9>,-42,[7,{8}],#00ff,[],{}}", 2, "1 0 0 "},
		{"int 0 1000000", "{1000000,ok,<9>,{1,[a]},[7,{8}],#00ff,[],{}}", 2, "1 0 0 "},
		{"int 7 -1000000", "{5,ok,<9>,{1,[a]},[7,{8}],#00ff,[],-1000000}", 2, "1 0 0 "},
		{"atom 4 abcdefghijkl", "{5,ok,<9>,{1,[a]},abcdefghijkl,#00ff,[],{}}", 2, "1 0 0 "},
		{"nil 0", "{[],ok,<9>,{1,[a]},[7,{8}],#00ff,[],{}}", 2, "1 0 0 "},
		{"move 0 4", "{[7,{8}],ok,<9>,{1,[a]},[7,{8}],#00ff,[],{}}", 2, "1 0 0 "},
		{"move 4 0", "{5,ok,<9>,{1,[a]},5,#00ff,[],{}}", 2, "1 0 0 "},
		{"move 3 3", eight, 2, "1 0 0 "},
		{"tuple 0 0 0", "{{},ok,<9>,{1,[a]},[7,{8}],#00ff,[],{}}", 2, "1 0 0 "},
		{"tuple 0 7 0", "{{},ok,<9>,{1,[a]},[7,{8}],#00ff,[],{}}", 2, "1 0 0 "},
		{"tuple 1 1 2", "{5,{ok,<9>},<9>,{1,[a]},[7,{8}],#00ff,[],{}}", 2, "1 0 0 "},
		{"tuple 7 7 1", "{5,ok,<9>,{1,[a]},[7,{8}],#00ff,[],{{}}}", 2, "1 0 0 "},
		{"tuple 2 0 8", "{5,ok," + eight + ",{1,[a]},[7,{8}],#00ff,[],{}}", 2, "1 0 0 "},
		{"cons 0 1 4", "{[ok,7,{8}],ok,<9>,{1,[a]},[7,{8}],#00ff,[],{}}", 2, "1 0 0 "},
		{"cons 6 3 6", "{5,ok,<9>,{1,[a]},[7,{8}],#00ff,[{1,[a]}],{}}", 2, "1 0 0 "},
		{"cons 4 4 4", "{5,ok,<9>,{1,[a]},[[7,{8}],7,{8}],#00ff,[],{}}", 2, "1 0 0 "},
		{"cons 0 6 6", "{[[]],ok,<9>,{1,[a]},[7,{8}],#00ff,[],{}}", 2, "1 0 0 "},
		{"cons 0 4 3", eight, 1, fault},
		{"elem 0 3 0", "{1,ok,<9>,{1,[a]},[7,{8}],#00ff,[],{}}", 2, "1 0 0 "},
		{"elem 3 3 1", "{5,ok,<9>,[a],[7,{8}],#00ff,[],{}}", 2, "1 0 0 "},
		{"elem 3 3 2", eight, 1, fault},
		{"elem 0 4 0", eight, 1, fault},
		{"elem 0 7 0", eight, 1, fault},
		{"head 0 4", "{7,ok,<9>,{1,[a]},[7,{8}],#00ff,[],{}}", 2, "1 0 0 "},
		{"head 4 4", "{5,ok,<9>,{1,[a]},7,#00ff,[],{}}", 2, "1 0 0 "},
		{"head 0 6", eight, 1, fault},
		{"head 0 3", eight, 1, fault},
		{"tail 0 4", "{[{8}],ok,<9>,{1,[a]},[7,{8}],#00ff,[],{}}", 2, "1 0 0 "},
		{"tail 4 4", "{5,ok,<9>,{1,[a]},[{8}],#00ff,[],{}}", 2, "1 0 0 "},
		{"tail 0 6", eight, 1, fault},
		{"tail 0 3", eight, 1, fault},
		{"add 0 0 0", "{10,ok,<9>,{1,[a]},[7,{8}],#00ff,[],{}}", 2, "1 0 0 "},
		{"add 7 0 0", "{5,ok,<9>,{1,[a]},[7,{8}],#00ff,[],10}", 2, "1 0 0 "},
		{"add 0 0 2", eight, 1, fault},
		{"add 0 2 0", eight, 1, fault},
		{"same 0 0 3", eight, 2, "1 0 0 "},
		{"same 0 1 3", eight, 3, "1 0 0 "},
		{"same 6 7 0", eight, 0, "1 0 0 "},
		{"same 6 7 1", eight, 1, "1 0 0 "},
		{"kind 0 1 3", eight, 2, "1 0 0 "},
		{"kind 0 2 3", eight, 3, "1 0 0 "},
		{"kind 5 6 0", eight, 2, "1 0 0 "},
		{"kind 6 5 0", eight, 2, "1 0 0 "},
		{"kind 6 4 0", eight, 0, "1 0 0 "},
		{"jump 0", eight, 0, "1 0 0 "},
		{"jump 1", eight, 1, "1 0 0 "},
		{"jump 3", eight, 3, "1 0 0 "},
		{"send 2 4", eight, 2, "3 9 0 [7,{8}]"},
		{"send 2 2", eight, 2, "3 9 0 <9>"},
		{"send 0 2", eight, 1, fault},
		{"take 1", eight, 1, "2 0 0 "},
		{"self 4", "{5,ok,<9>,{1,[a]},<33>,#00ff,[],{}}", 2, "1 0 0 "},
		{"make 0 3 3", "{<44>,ok,<9>,{1,[a]},[7,{8}],#00ff,[],{}}", 2, "4 44 3 {1,[a]}"},
		{"make 3 3 0", "{5,ok,<9>,<44>,[7,{8}],#00ff,[],{}}", 2, "4 44 0 {1,[a]}"},
		{"say 4", eight, 2, "5 0 0 [7,{8}]"},
		{"say 0", eight, 2, "5 0 0 5"},
		{"link 2", eight, 2, "6 9 0 "},
		{"link 0", eight, 1, fault},
		{"end 3", eight, 1, "7 0 0 {1,[a]}"},
		{"end 1", eight, 1, "7 0 0 ok"},
	} {
		l := linesOf(t, "jump 0", x.line, "jump 0", "end 0")
		a := impl.Actor{Pid: 33, Pc: 1, Regs: termOf(t, eight).L, Links: []int{4, 50}}
		got, act := isStep(t, l, a, 44)
		regs := impl.TermText(tup(got.Regs...))
		if regs != x.regs || got.Pc != x.pc || actText(act) != x.act || got.Pid != 33 || len(got.Box) != 0 || !slices.Equal(got.Links, a.Links) {
			t.Errorf("%q: %v, %q\nnot %q, %d, %q", x.line, got, actText(act), x.regs, x.pc, x.act)
		}
	}
}

func TestWordsThatAreTaken(t *testing.T) {
	for reg := range 8 {
		l := linesOf(t, "end 0", fmt.Sprint("take ", reg), "jump 1")
		a := withRegs(num(1), lst(num(2)))
		a.Pc = 1
		for n := range 31 {
			a.Box = nil
			for i := range n {
				a.Box = append(a.Box, tup(num(i), lst(atom("w"))))
			}
			got, act := isStep(t, l, a, 9)
			if n == 0 {
				if !sameActor(got, a) || !sameAct(act, impl.Act{Kind: impl.ActWait}) {
					t.Fatal("none waits", got, act)
				}
				continue
			}
			if got.Pc != 2 || act.Kind != impl.ActGo || !alike(got.Regs[reg], tup(num(0), lst(atom("w")))) || !sameTerms(got.Box, a.Box[1:]) {
				t.Fatal("taken", got, act)
			}
		}
	}
	// all, one by one, in the order in which they came
	l := linesOf(t, "take 2", "jump 0")
	a := withRegs()
	for i := range 30 {
		a.Box = append(a.Box, lst(num(i)))
	}
	for i := range 30 {
		a, _ = isStep(t, l, a, 9)
		if !alike(a.Regs[2], lst(num(i))) || len(a.Box) != 29-i {
			t.Fatal("word", i, a)
		}
		a, _ = isStep(t, l, a, 9)
	}
	if _, act := isStep(t, l, a, 9); act.Kind != impl.ActWait {
		t.Error("still one", act)
	}
}

// Every instruction that there is of each Op, but for what N and S may be, on registers of each kind.
func TestAllRegistersOfEachOp(t *testing.T) {
	for _, regs := range []string{eight, "{[1],{2},7,<1>,a,#61,[[2],3],{{4},5}}", "{1,2,3,<4>,<5>,[6],{7},{8,9}}"} {
		a := impl.Actor{Pid: 12, Pc: 1, Regs: termOf(t, regs).L, Box: []impl.Term{lst(num(1)), atom("b")}, Links: []int{1, 13}}
		for _, o := range opEdges {
			for i := range 8 * 8 * 8 {
				x := impl.Ins{Op: o.x.Op, S: o.x.S, A: i % 8, B: i / 8 % 8, C: i / 64}
				l := []impl.Ins{{Op: impl.OpJump}, x, {Op: impl.OpEnd}}
				for _, l[1].N = range []int{0, 1, 2, 8} {
					if rightCode(l) {
						isStep(t, l, a, 7)
					}
				}
			}
		}
	}
}

// byKind is a term of each kind.
var byKind = map[int]impl.Term{impl.TInt: num(1), impl.TAtom: atom("a"), impl.TPid: pid(4), impl.TTuple: tup(num(1), num(2)), impl.TList: lst(num(1), num(2)), impl.TBin: bin("ab")}

func TestRegistersOfAnotherKind(t *testing.T) {
	for _, x := range []struct {
		line string
		reg  int
		kind int
	}{
		{"cons 0 1 2", 2, impl.TList}, {"cons 2 1 2", 2, impl.TList}, {"cons 1 1 2", 2, impl.TList}, {"elem 0 1 0", 1, impl.TTuple}, {"elem 1 1 1", 1, impl.TTuple}, {"head 0 1", 1, impl.TList}, {"head 1 1", 1, impl.TList},
		{"tail 0 1", 1, impl.TList}, {"tail 1 1", 1, impl.TList}, {"add 0 1 2", 1, impl.TInt}, {"add 0 1 2", 2, impl.TInt}, {"add 1 1 2", 1, impl.TInt}, {"add 2 1 2", 2, impl.TInt}, {"add 0 1 1", 1, impl.TInt},
		{"send 1 2", 1, impl.TPid}, {"send 1 1", 1, impl.TPid}, {"link 1", 1, impl.TPid},
	} {
		for at := range 2 {
			l := linesOf(t, x.line, x.line, "end 0")
			for kind, term := range byKind {
				a := withRegs(atom("here"), num(3), num(4))
				a.Pc, a.Box, a.Links = at, []impl.Term{lst(num(1))}, []int{1, 2}
				a.Regs[x.reg] = term
				if kind != x.kind {
					isFault(t, l, a)
				} else if got, act := isStep(t, l, a, 7); act.Kind == impl.ActEnd || got.Pc != at+1 {
					t.Errorf("%q on its kind: %v", x.line, act)
				}
			}
		}
	}
}

// What is not told to be of a kind may be of each.
func TestRegistersOfAnyKind(t *testing.T) {
	for _, term := range rightTerms {
		for _, line := range []string{"move 0 1", "tuple 0 1 0", "same 1 1 1", "say 1", "make 0 1 1", "end 1", "self 1", "nil 1", "int 1 1", "atom 1 b", "take 1"} {
			l := linesOf(t, "jump 0", line, "end 0")
			a := withRegs(pid(9), term, lst())
			a.Pc, a.Box = 1, []impl.Term{term}
			got, act := isStep(t, l, a, 7)
			if l[1].Op == impl.OpEnd {
				if !sameActor(got, a) || !sameAct(act, impl.Act{Kind: impl.ActEnd, T: term}) {
					t.Errorf("an end of %v: %v", term, act)
				}
			} else if act.Kind == impl.ActEnd || got.Pc != 2 {
				t.Errorf("%q of %v: %v", line, term, act)
			}
		}
		l := linesOf(t, "send 0 1", "end 0")
		if _, act := isStep(t, l, withRegs(pid(9), term), 7); !sameAct(act, impl.Act{Kind: impl.ActSend, Pid: 9, T: term}) {
			t.Error("sent", act)
		}
	}
}

func TestPidsThatAreToldTo(t *testing.T) {
	l := linesOf(t, "send 0 1", "link 0", "end 0")
	for _, n := range []int{0, 1, 3, 50, 99999} {
		a := withRegs(pid(n), tup(num(n)))
		a.Links = []int{1, 50}
		got, act := isStep(t, l, a, 7)
		if !sameAct(act, impl.Act{Kind: impl.ActSend, Pid: n, T: tup(num(n))}) {
			t.Error("send", n, act)
		}
		got, act = isStep(t, l, got, 7)
		if !sameAct(act, impl.Act{Kind: impl.ActLink, Pid: n}) || !slices.Equal(got.Links, a.Links) {
			t.Error("link", n, act, got.Links)
		}
	}
}

func TestSameAndKindBothWays(t *testing.T) {
	for i, x := range rightTerms {
		for k, y := range rightTerms {
			for _, to := range []int{0, 1, 2, 3} {
				l := linesOf(t, "end 0", fmt.Sprint("same 4 7 ", to), "end 0", "end 0")
				a := withRegs(num(1), num(1), num(1), num(1), x, num(1), num(1), y)
				a.Pc = 1
				want := to
				if i == k {
					want = 2
				}
				if got, _ := isStep(t, l, a, 7); got.Pc != want {
					t.Fatal("same", x, y, got.Pc)
				}
			}
		}
		for kind := 1; kind <= 6; kind++ {
			l := linesOf(t, "end 0", fmt.Sprint("kind 4 ", kind, " 0"), "end 0")
			a := withRegs(num(1), num(1), num(1), num(1), x)
			a.Pc = 1
			want := 0
			if x.K == kind {
				want = 2
			}
			if got, _ := isStep(t, l, a, 7); got.Pc != want {
				t.Fatal("kind", x, kind, got.Pc)
			}
		}
	}
}

func TestHowLongTuplesOfRegistersMayBe(t *testing.T) {
	a := withRegs(num(0), num(1), num(2), num(3), num(4), num(5), num(6), num(7))
	for from := range 8 {
		for n := 0; from+n <= 8; n++ {
			for reg := range 8 {
				isGone(t, linesOf(t, fmt.Sprint("tuple ", reg, " ", from, " ", n), "end 0"), a, reg, tup(a.Regs[from:from+n]...))
			}
		}
	}
}

func TestPartsOfTuplesAndLists(t *testing.T) {
	for n := range 9 {
		list := []impl.Term{}
		for i := range n {
			list = append(list, lst(num(i)))
		}
		for i := range 8 {
			l := linesOf(t, fmt.Sprint("elem 3 5 ", i), "end 0")
			a := withRegs(num(1), num(1), num(1), num(1), num(1), tup(list...))
			if i < n {
				isGone(t, l, a, 3, lst(num(i)))
			} else {
				isFault(t, l, a)
			}
		}
	}
	for n := range 21 {
		list := []impl.Term{}
		for i := range n {
			list = append(list, tup(num(i)))
		}
		for _, reg := range []int{0, 6} {
			a := withRegs(num(1), num(1), num(1), num(1), num(1), num(1), lst(list...))
			head := linesOf(t, fmt.Sprint("head ", reg, " 6"), "end 0")
			tail := linesOf(t, fmt.Sprint("tail ", reg, " 6"), "end 0")
			if n == 0 {
				isFault(t, head, a)
				isFault(t, tail, a)
			} else {
				isGone(t, head, a, reg, tup(num(0)))
				isGone(t, tail, a, reg, lst(list[1:]...))
			}
		}
	}
}

func TestSums(t *testing.T) {
	l := linesOf(t, "add 2 0 1", "end 0")
	for _, x := range []struct{ a, b int }{{0, 0}, {1, 2}, {-1, 1}, {5, -7}, {999999, 1}, {1, 999999}, {1000000, 0}, {500000, 500000}, {1000000, -1000000}, {-999999, -1}, {-1000000, 0}, {0, -1000000}, {-500000, -500000}} {
		isGone(t, l, withRegs(num(x.a), num(x.b), atom("x")), 2, num(x.a+x.b))
	}
	for _, x := range []struct{ a, b int }{{1000000, 1}, {1, 1000000}, {500000, 500001}, {1000000, 1000000}, {-1000000, -1}, {-1, -1000000}, {-500001, -500000}, {-1000000, -1000000}} {
		isFault(t, l, withRegs(num(x.a), num(x.b), atom("x")))
	}
	isGone(t, linesOf(t, "add 0 0 0", "end 0"), withRegs(num(500000)), 0, num(1000000))
	isFault(t, linesOf(t, "add 0 0 0", "end 0"), withRegs(num(500001)))
	isFault(t, linesOf(t, "add 0 0 0", "end 0"), withRegs(num(-500001)))
}

func TestHowLongListsMayGrow(t *testing.T) {
	for n := range 21 {
		for _, reg := range []int{0, 1, 2} {
			l := linesOf(t, fmt.Sprint("cons ", reg, " 0 1"), "end 0")
			a := withRegs(atom("new"), lst(many(n, num(4))...), bin("x"))
			if n < 20 {
				isGone(t, l, a, reg, lst(slices.Concat([]impl.Term{atom("new")}, many(n, num(4)))...))
			} else {
				isFault(t, l, a)
			}
		}
	}
}

func TestHowDeepWhatComesMayBe(t *testing.T) {
	tuple, cons := linesOf(t, "tuple 2 0 2", "end 0"), linesOf(t, "cons 2 0 1", "end 0")
	for deep := range 6 {
		for _, x := range []impl.Term{nested(deep, lst, num(1)), nested(deep, tup, num(1)), nested(deep, lst, lst()), nested(deep, tup, tup())} {
			a := withRegs(x, lst(), num(3))
			if deep < 5 {
				isGone(t, tuple, a, 2, tup(x, lst()))
				isGone(t, cons, a, 2, lst(x))
			} else {
				isFault(t, tuple, a)
				isFault(t, cons, a)
			}
			a = withRegs(num(1), lst(x), num(3))
			if deep < 5 {
				isGone(t, cons, a, 2, lst(num(1), x))
			}
			if deep < 4 {
				isGone(t, tuple, a, 2, tup(num(1), lst(x)))
			} else if deep == 4 {
				isFault(t, tuple, a)
			}
		}
	}
}

func TestHowManyWhatComesMayHave(t *testing.T) {
	tuple, cons := linesOf(t, "tuple 2 0 2", "end 0"), linesOf(t, "cons 2 0 1", "end 0")
	for n := 90; n <= 100; n++ {
		x := ofAll(n)
		if a := withRegs(x, lst(), num(3)); n+2 <= 100 {
			isGone(t, tuple, a, 2, tup(x, lst()))
		} else {
			isFault(t, tuple, a)
		}
	}
	const restHas = 1 + 9*9
	rest := lst(many(9, tup(many(8, num(1))...))...)
	for n := 1; n <= 21; n++ {
		x := lst(many(n-1, num(2))...)
		a := withRegs(x, rest, num(3))
		if n+restHas <= 100 {
			isGone(t, cons, a, 2, lst(slices.Concat([]impl.Term{x}, rest.L)...))
		} else {
			isFault(t, cons, a)
		}
		if 1+n+restHas <= 100 {
			isGone(t, tuple, a, 2, tup(x, rest))
		} else {
			isFault(t, tuple, a)
		}
	}
}

// A fault leaves what it found, whatever else the actor has, wherever it stands.
func TestWhatAFaultLeaves(t *testing.T) {
	for _, line := range []string{"cons 1 0 0", "elem 0 0 1", "elem 0 1 0", "head 2 2", "tail 2 2", "head 0 0", "add 3 3 3", "add 0 3 4", "send 0 1", "link 1", "tuple 0 5 2", "cons 5 5 6", "cons 6 0 6"} {
		for at := range 5 {
			l := slices.Repeat(linesOf(t, "end 0"), 5)
			l = append(l, impl.Ins{Op: impl.OpEnd})
			l[at] = linesOf(t, line, "end 0")[0]
			a := impl.Actor{Pid: 99999, Pc: at, Links: links(1, 50), Box: many(30, tup(atom("w"), lst(num(1)))),
				Regs: []impl.Term{tup(num(1)), atom("b"), lst(), num(1000000), num(1), nested(5, lst, num(1)), lst(many(20, num(1))...), bin("z")}}
			isFault(t, l, a)
		}
	}
}

// Runs of many steps over drawn code: the actor is right behind each. Where it ends or waits, it goes on from elsewhere, with another word.
func TestRunsOfManySteps(t *testing.T) {
	d := dice(9)
	kinds := map[int]int{}
	for i := range 240 {
		l := anyCode(&d, 1+d.below([]int{6, 30, mostCode}[i%3]))
		a := impl.ActorNew(1+d.below(mostPid), d.below(len(l)), anyTerm(&d, 4))
		if d.below(2) == 0 {
			a.Links = slices.DeleteFunc(links(1+d.below(90000), d.below(51)), func(n int) bool { return n == a.Pid })
		}
		for k := range a.Regs {
			a.Regs[k] = anyTerm(&d, 3)
		}
		for range 120 {
			next := 1 + d.below(mostPid)
			got, act := isStep(t, l, a, next)
			a = got
			kinds[act.Kind]++
			if alike(act.T, faulted.T) {
				kinds[-1]++
			}
			if act.Kind == impl.ActEnd || act.Kind == impl.ActWait || d.below(20) == 0 {
				a.Pc = d.below(len(l))
				if len(a.Box) < mostBox {
					a.Box = append(a.Box, anyTerm(&d, 4))
				}
			}
		}
	}
	for _, kind := range []int{-1, impl.ActGo, impl.ActWait, impl.ActSend, impl.ActMake, impl.ActSay, impl.ActLink, impl.ActEnd} {
		if kinds[kind] < 100 {
			t.Error("too few of", kind, kinds)
		}
	}
}

// Terms that grow by each step, up to what they may be; behind a fault it begins again with less.
func TestRunsThatGrow(t *testing.T) {
	l := linesOf(t, "cons 1 0 1", "tuple 2 0 2", "cons 0 2 1", "tuple 3 0 4", "move 1 0", "tail 1 1", "cons 1 3 1", "jump 0")
	d := dice(99)
	faults, steps := 0, 0
	for range 150 {
		a := withRegs(anyTerm(&d, 2), lst(), anyTerm(&d, 3))
		for range 40 {
			next, act := isStep(t, l, a, 1)
			steps++
			if a = next; act.Kind == impl.ActEnd {
				faults++
				a.Pc = (a.Pc + 1) % len(l)
				a.Regs[d.below(2)] = lst(many(d.below(20), num(1))...)
				a.Regs[2+d.below(2)] = anyTerm(&d, 2)
			}
		}
	}
	if faults < 100 || faults > steps-1000 {
		t.Error("too few faults, or too many", faults, steps)
	}
}

// An actor that is right or not in any of its fields, by chance.
func TestActorsByChance(t *testing.T) {
	d := dice(90)
	right := 0
	for range 20000 {
		l := anyCode(&d, 1+d.below(5))
		a := withRegs(anyTerm(&d, 3), anyTerm(&d, 3))
		a.Pc = d.below(len(l))
		a.Links = []int{1, 2, 4, 5}[:d.below(5)]
		next := 1 + d.below(9)
		for range d.below(3) {
			n := edgeNumbers[d.below(len(edgeNumbers))]
			switch d.below(8) {
			case 0:
				a.Pid = n
			case 1:
				a.Pc = d.below(8) - 1
			case 2:
				a.Regs = append(dups(a.Regs), a.Regs...)[:d.below(4)+5]
			case 3:
				a.Box = many(d.below(35), anyTerm(&d, 2))
			case 4:
				a.Links = []int{d.below(4), d.below(7), d.below(9)}
			case 5:
				a.Regs[d.below(len(a.Regs))] = wrongTerms[d.below(len(wrongTerms))]
			case 6:
				l[d.below(len(l))] = impl.Ins{Op: d.below(22), A: d.below(9), N: d.below(4)}
			case 7:
				next = n
			}
		}
		ok := rightActor(l, a)
		if okOf(t, l, a) != ok {
			t.Fatalf("%v is right: %v", a, !ok)
		}
		if ok && next >= 1 && next <= mostPid {
			isStep(t, l, a, next)
			right++
		} else {
			isRefusedStep(t, l, a, next)
		}
	}
	if right < 2000 || right > 18000 {
		t.Error("right ones", right)
	}
}

// Lists that stand in an actor several times are several in what comes of it.
func TestActorsWhoseListsAreOne(t *testing.T) {
	one := many(3, lst(num(1), num(2)))
	shared, wide := many(8, tup(one...)), many(9, tup(many(9, lst(one...))...))
	ahead, aheadWide := dups(shared), dups(wide)
	rooms := []span{spanOf(shared), spanOf(one), spanOf(one[0].L), spanOf(wide), spanOf(wide[0].L)}
	for _, line := range []string{"move 0 1", "move 0 0", "tuple 0 3 1", "take 2", "say 0", "make 3 3 0", "end 1", "same 0 1 0", "head 0 1", "elem 0 0 2"} {
		l := linesOf(t, line, "jump 0")
		for _, a := range []impl.Actor{
			{Pid: 3, Regs: shared, Box: shared},
			{Pid: 3, Regs: shared, Box: shared[2:7]},
			{Pid: 0, Regs: shared, Box: shared},
			{Pid: 3, Regs: wide, Box: wide[1:]},
		} {
			want, wantAct := stepBy(l, a, 9)
			got, act := impl.StepActor(l, a, 9)
			lists, _ := answerSpans(got, act)
			if !sameActor(got, want) || !sameAct(act, wantAct) || meet(slices.Concat(lists, rooms)) {
				t.Fatalf("%q of %v is %v, %v", line, a, got, act)
			}
		}
	}
	if !sameTerms(shared, ahead) || !sameTerms(wide, aheadWide) {
		t.Error("an argument was written")
	}
}

// listsWithin are all lists in memory that l leads to, each once.
func listsWithin(l []impl.Term) map[*impl.Term]int {
	met := map[*impl.Term]int{}
	for open := [][]impl.Term{l}; len(open) > 0; {
		last := open[len(open)-1]
		open = open[:len(open)-1]
		if len(last) == 0 || met[&last[0]] >= len(last) {
			continue
		}
		met[&last[0]] = len(last)
		for _, t := range last {
			open = append(open, t.L)
		}
	}
	return met
}

// Terms of any depth, that come round to themselves, or that are more than could be told apart, are refused, and answered as they were.
func TestActorsWithTermsWithoutEnd(t *testing.T) {
	twice := num(1)
	for range 60 {
		twice = tup(twice, twice)
	}
	self := many(9, num(1))
	self[4] = impl.Term{K: impl.TInt, L: self}
	l := linesOf(t, "move 0 1", "end 0")
	for _, x := range []impl.Term{
		round(impl.TTuple, true, num(1)), round(impl.TTuple, false, num(1)), round(impl.TList, true, num(2)), round(impl.TList, false, num(2)),
		nested(100000, tup, num(1)), nested(100000, lst, num(1)), twice, lst(self...), {K: impl.TTuple, L: self},
	} {
		for _, a := range []impl.Actor{
			{Pid: 4, Regs: append(many(7, lst(num(1))), x)}, {Pid: 4, Regs: many(8, num(1)), Box: []impl.Term{x}}, {Pid: 4, Regs: many(8, x), Box: many(30, x)}, {Pid: 4, Regs: x.L}, {Regs: many(1000, x)},
		} {
			ahead := listsWithin(slices.Concat(a.Regs, a.Box))
			got, act := impl.StepActor(l, a, 5)
			if impl.ActorOk(l, a) || !sameAct(act, impl.Act{}) || got.Pid != a.Pid || got.Pc != 0 || len(got.Regs) != len(a.Regs) || len(got.Box) != len(a.Box) {
				t.Fatal("not refused", act)
			}
			if !impl.SameTerm(lst(got.Regs...), lst(a.Regs...)) || !impl.SameTerm(lst(got.Box...), lst(a.Box...)) {
				t.Fatal("not as it was")
			}
			for first := range listsWithin(slices.Concat(got.Regs, got.Box)) {
				if ahead[first] > 0 {
					t.Fatal("an answer shares memory with an argument")
				}
			}
		}
		isZero := impl.ActorNew(1, 0, x)
		if !sameActor(isZero, impl.Actor{}) {
			t.Error("new", isZero)
		}
	}
}

// What was answered ahead stays as it was, whatever is done to what comes behind it.
func TestActorsShareNothing(t *testing.T) {
	l := linesOf(t, "tuple 1 0 2", "say 1", "take 0", "jump 0")
	a := withRegs(lst(num(1), tup(num(2))), lst(num(3)))
	a.Box, a.Links = many(2, lst(num(4))), []int{1, 2}
	one, _ := impl.StepActor(l, a, 9)
	kept := dupActor(one)
	two, act := impl.StepActor(l, one, 9)
	again, act2 := impl.StepActor(l, one, 9)
	refused, _ := impl.StepActor(l, one, 0)
	for _, list := range [][]impl.Term{two.Regs, two.Box, act.T.L, refused.Regs, refused.Box} {
		for i := range list {
			clear(list[i].L)
		}
		clear(list[:cap(list)])
	}
	clear(two.Links)
	clear(refused.Links)
	want, wantAct := stepBy(l, kept, 9)
	if !sameActor(one, kept) || !sameActor(again, want) || !sameAct(act2, wantAct) {
		t.Error("an answer turned", one, again)
	}
}

// The shared tests find one in other layers, too.
func TestWhatInstructionsDoStandsInATable(t *testing.T) {
	f, err := parser.ParseFile(token.NewFileSet(), "../impl/l09_actor.go", nil, 0)
	if err != nil {
		t.Fatal(err)
	}
	types := map[string]int{}
	for _, d := range f.Decls {
		if g, ok := d.(*ast.GenDecl); ok && g.Tok == token.TYPE {
			for _, s := range g.Specs {
				types[s.(*ast.TypeSpec).Name.Name]++
			}
		}
	}
	most := 0
	ast.Inspect(f, func(n ast.Node) bool {
		table, ok := n.(*ast.CompositeLit)
		if !ok {
			return true
		}
		found := 0
		for _, e := range table.Elts {
			if pair, ok := e.(*ast.KeyValueExpr); ok {
				e = pair.Value
			}
			sel, ok := e.(*ast.SelectorExpr)
			if !ok {
				continue
			}
			of := ast.Unparen(sel.X)
			if star, ok := of.(*ast.StarExpr); ok {
				of = star.X
			}
			if id, ok := of.(*ast.Ident); ok && types[id.Name] > 0 {
				found++
			}
		}
		most = max(most, found)
		return true
	})
	if most < len(allOps) {
		t.Error("method expressions in one table:", most)
	}
}
