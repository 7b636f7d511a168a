package tests

import (
	"fmt"
	"go/ast"
	"go/parser"
	"go/token"
	"math"
	"slices"
	"strings"
	"testing"

	"loop.example/g00248/impl"
)

const (
	mostActors = 20
	mostNext   = 90000
	mostOut    = 500
	mostSteps  = 20
)

func dupPlain(p impl.Plain) impl.Plain {
	own := impl.Plain{Code: slices.Clone(p.Code), Next: p.Next}
	for _, a := range p.Actors {
		own.Actors = append(own.Actors, dupActor(a))
	}
	for _, x := range p.Out {
		own.Out = append(own.Out, impl.Said{Kind: x.Kind, Pid: x.Pid, T: dup(x.T)})
	}
	return own
}

func sameSaid(a, b impl.Said) bool { return a.Kind == b.Kind && a.Pid == b.Pid && alike(a.T, b.T) }

func sameOut(a, b []impl.Said) bool { return slices.EqualFunc(a, b, sameSaid) }

func samePlain(a, b impl.Plain) bool {
	return slices.Equal(a.Code, b.Code) && slices.EqualFunc(a.Actors, b.Actors, sameActor) && a.Next == b.Next && sameOut(a.Out, b.Out)
}

func termsText(l []impl.Term) string {
	texts := []string{}
	for _, y := range l {
		texts = append(texts, impl.TermText(y))
	}
	return strings.Join(texts, " ")
}

// plainText is a Plain, as short as it can be told apart; of what was said the last ten.
func plainText(p impl.Plain) string {
	var b strings.Builder
	fmt.Fprintf(&b, "%q, next %d\n", impl.CodeText(p.Code), p.Next)
	for _, a := range p.Actors {
		fmt.Fprintf(&b, "  %d at %d, %s, box %s, links %v\n", a.Pid, a.Pc, termsText(a.Regs), termsText(a.Box), a.Links)
	}
	for _, x := range p.Out[max(0, len(p.Out)-10):] {
		fmt.Fprintf(&b, "  said %d %d %s", x.Kind, x.Pid, impl.TermText(x.T))
	}
	fmt.Fprintf(&b, ", %d in all", len(p.Out))
	return b.String()
}

// rightPlain is PlainOk by the chapter.
func rightPlain(p impl.Plain) bool {
	if !rightCode(p.Code) || len(p.Actors) > mostActors || p.Next < 1 || p.Next > mostNext || len(p.Out) > mostOut {
		return false
	}
	for i, a := range p.Actors {
		if !rightActor(p.Code, a) || a.Pid >= p.Next || i > 0 && p.Actors[i-1].Pid >= a.Pid {
			return false
		}
		for _, b := range p.Actors {
			if slices.Contains(a.Links, b.Pid) != slices.Contains(b.Links, a.Pid) {
				return false
			}
		}
	}
	for _, x := range p.Out {
		if x.Kind != impl.SaidStart && x.Kind != impl.SaidSay && x.Kind != impl.SaidEnd || x.Pid < 1 || x.Pid > mostPid || !impl.TermOk(x.T) {
			return false
		}
	}
	return true
}

// troop is a Plain that is done to by the chapter.
type troop struct{ impl.Plain }

func (x *troop) who(number int) *impl.Actor {
	for i := range x.Actors {
		if x.Actors[i].Pid == number {
			return &x.Actors[i]
		}
	}
	return nil
}

func (x *troop) said(kind int, number int, t impl.Term) {
	x.Out = append(x.Out, impl.Said{Kind: kind, Pid: number, T: t})
	x.Out = x.Out[:min(len(x.Out), mostOut)]
}

func (x *troop) noLinksTo(number int) {
	for i, a := range x.Actors {
		x.Actors[i].Links = slices.DeleteFunc(slices.Clone(a.Links), func(n int) bool { return n == number })
	}
}

func (x *troop) told(number int, t impl.Term) bool {
	a := x.who(number)
	if a == nil || len(a.Box) == mostBox {
		return false
	}
	a.Box = slices.Concat(a.Box, []impl.Term{t})
	return true
}

// ends goes by a list of those that are still to end, the next one first: those that go with one are ahead of those that wait already.
func (x *troop) ends(number int, t impl.Term) bool {
	if x.who(number) == nil {
		return false
	}
	for open := []int{number}; len(open) > 0; {
		number, open = open[0], open[1:]
		a := x.who(number)
		if a == nil {
			continue
		}
		if !alike(t, atom("ok")) {
			open = slices.Concat(a.Links, open)
		}
		x.Actors = slices.DeleteFunc(slices.Clone(x.Actors), func(a impl.Actor) bool { return a.Pid == number })
		x.noLinksTo(number)
		x.said(impl.SaidEnd, number, t)
	}
	return true
}

// linked is what ActLink does: links are sets of Pids.
func (x *troop) linked(one int, other int) {
	a, b := x.who(one), x.who(other)
	if one == other || b == nil || len(a.Links) >= mostLinks || len(b.Links) >= mostLinks {
		return
	}
	a.Links, b.Links = slices.Concat(a.Links, []int{other}), slices.Concat(b.Links, []int{one})
	slices.Sort(a.Links)
	slices.Sort(b.Links)
	a.Links, b.Links = slices.Compact(a.Links), slices.Compact(b.Links)
}

// makes has links that led to this Pid while nobody had it lead to nobody still: else they would be of one side alone.
func (x *troop) makes(one int, act impl.Act) {
	if len(x.Actors) == mostActors || x.Next == mostNext {
		x.ends(one, atom("full"))
		return
	}
	x.noLinksTo(act.Pid)
	x.Actors = append(x.Actors, impl.Actor{Pid: act.Pid, Pc: act.Pc, Regs: slices.Concat([]impl.Term{act.T}, many(7, num(0)))})
	x.Next = act.Pid + 1
	x.said(impl.SaidStart, act.Pid, act.T)
}

func runBy(p impl.Plain, i int, n int) (impl.Plain, bool) {
	x := troop{dupPlain(p)}
	if !rightPlain(p) || len(p.Actors) == 0 || i < 0 || n < 1 || n > mostSteps {
		return x.Plain, false
	}
	number := p.Actors[i%len(p.Actors)].Pid
	for ; n > 0 && x.who(number) != nil; n-- {
		a, act := stepBy(x.Code, *x.who(number), x.Next)
		*x.who(number) = a
		switch act.Kind {
		case impl.ActWait:
			n = 0
		case impl.ActSend:
			x.told(act.Pid, act.T)
		case impl.ActMake:
			x.makes(number, act)
		case impl.ActSay:
			x.said(impl.SaidSay, number, act.T)
		case impl.ActLink:
			x.linked(number, act.Pid)
		case impl.ActEnd:
			x.ends(number, act.T)
		}
	}
	return dupPlain(x.Plain), true
}

func tellBy(p impl.Plain, number int, y impl.Term) (impl.Plain, bool) {
	x := troop{dupPlain(p)}
	ok := rightPlain(p) && impl.TermOk(y) && x.told(number, dup(y))
	return x.Plain, ok
}

func endBy(p impl.Plain, number int, y impl.Term) (impl.Plain, bool) {
	x := troop{dupPlain(p)}
	ok := rightPlain(p) && impl.TermOk(y) && x.ends(number, dup(y))
	return dupPlain(x.Plain), ok
}

// staging are the lists of a Plain that are lent, each with spare room behind it, and as they were.
type staging struct {
	letting
	actors, wasActors []impl.Actor
	out, wasOut       []impl.Said
}

var spareActors = []impl.Actor{{Pid: -1}, {}, {Pid: 5, Regs: spare, Links: []int{1}}}

var spareSaid = []impl.Said{{Kind: -1}, {}, {Kind: impl.SaidSay, Pid: 5, T: tup(spare...)}}

func (x *staging) plain(p impl.Plain) impl.Plain {
	x.actors, x.out = slices.Concat(p.Actors, spareActors), slices.Concat(p.Out, spareSaid)
	for i, a := range p.Actors {
		x.actors[i] = impl.Actor{Pid: a.Pid, Pc: a.Pc, Regs: x.list(a.Regs), Box: x.list(a.Box), Links: x.ints(a.Links)}
	}
	for i, y := range p.Out {
		x.out[i].T = x.term(y.T)
	}
	x.wasActors, x.wasOut = slices.Clone(x.actors), slices.Clone(x.out)
	return impl.Plain{Code: x.lines(p.Code), Actors: x.actors[:len(p.Actors)], Next: p.Next, Out: x.out[:len(p.Out)]}
}

func (x *staging) term(y impl.Term) impl.Term { return x.list([]impl.Term{y})[0] }

func sameList[T any](a, b []T) bool { return len(a) == len(b) && spanOf(a) == spanOf(b) }

// untouched asks that nothing was written into what was lent.
func (x *staging) untouched(t *testing.T) {
	t.Helper()
	x.letting.untouched(t)
	for i, a := range x.actors {
		b := x.wasActors[i]
		if a.Pid != b.Pid || a.Pc != b.Pc || !sameList(a.Regs, b.Regs) || !sameList(a.Box, b.Box) || !sameList(a.Links, b.Links) {
			t.Fatal("an actor that was handed in was written, or the room behind it", a)
		}
	}
	for i, y := range x.out {
		if b := x.wasOut[i]; y.Kind != b.Kind || y.Pid != b.Pid || y.T.K != b.T.K || y.T.N != b.T.N || y.T.S != b.T.S || !sameList(y.T.L, b.T.L) {
			t.Fatal("what was said was written, or the room behind it", y)
		}
	}
}

// nothingBehind asks that the room behind a list has nothing in it.
func nothingBehind[T any](t *testing.T, l []T, isZero func(T) bool) {
	t.Helper()
	for _, y := range l[len(l):cap(l)] {
		if !isZero(y) {
			t.Fatal("behind an answered list stands", y)
		}
	}
}

func noTerm(y impl.Term) bool { return alike(y, impl.Term{}) }

// spansOfPlain are where the lists of a Plain lie, and its texts.
func spansOfPlain(p impl.Plain) (lists []span, texts []span) {
	lists = []span{spanOf(p.Code), spanOf(p.Actors), spanOf(p.Out)}
	terms := [][]impl.Term{}
	for _, a := range p.Actors {
		lists = append(lists, spanOf(a.Links))
		terms = append(terms, a.Regs, a.Box)
	}
	for _, y := range p.Out {
		lists, texts = append(lists, spanOf(y.T.L)), append(texts, textSpan(y.T.S))
		for _, z := range y.T.L {
			texts = append(texts, textSpan(z.S))
			terms = append(terms, z.L)
		}
	}
	for _, l := range terms {
		in, inTexts := spansOf(l)
		lists, texts = append(lists, in...), append(texts, inTexts...)
	}
	for _, y := range p.Code {
		texts = append(texts, textSpan(y.S))
	}
	return lists, texts
}

// isNew asks for an answer that shares memory neither within itself nor with what was lent.
func (x *staging) isNew(t *testing.T, p impl.Plain) {
	t.Helper()
	x.untouched(t)
	lists, texts := spansOfPlain(p)
	lent, lentTexts := []span{spanOf(x.code), spanOf(x.actors), spanOf(x.out)}, []span{}
	for _, l := range x.letting.rooms {
		lent = append(lent, spanOf(l))
	}
	for _, l := range x.lending.rooms {
		lent = append(lent, spanOf(l))
		for _, y := range l {
			lentTexts = append(lentTexts, textSpan(y.S))
		}
	}
	for _, y := range x.code {
		lentTexts = append(lentTexts, textSpan(y.S))
	}
	if meet(slices.Concat(lists, lent)) {
		t.Fatal("an answer shares memory:", plainText(p))
	}
	if meetOthers(texts, lentTexts) {
		t.Fatal("a text of an answer is one that was handed in:", plainText(p))
	}
	nothingBehind(t, p.Code, func(y impl.Ins) bool { return y == impl.Ins{} })
	nothingBehind(t, p.Actors, func(a impl.Actor) bool { return sameActor(a, impl.Actor{}) })
	nothingBehind(t, p.Out, func(y impl.Said) bool { return sameSaid(y, impl.Said{}) })
	for _, a := range p.Actors {
		nothingBehind(t, a.Regs, noTerm)
		nothingBehind(t, a.Box, noTerm)
		nothingBehind(t, a.Links, func(n int) bool { return n == 0 })
	}
}

// okPlain is PlainOk, which writes nothing.
func okPlain(t *testing.T, p impl.Plain) bool {
	t.Helper()
	var x staging
	ok := impl.PlainOk(x.plain(p))
	x.untouched(t)
	return ok
}

func runOf(t *testing.T, p impl.Plain, i int, n int) (impl.Plain, bool) {
	t.Helper()
	var x staging
	got, ok := impl.PlainRun(x.plain(p), i, n)
	x.isNew(t, got)
	return got, ok
}

func tellOf(t *testing.T, p impl.Plain, number int, y impl.Term) (impl.Plain, bool) {
	t.Helper()
	var x staging
	got, ok := impl.PlainTell(x.plain(p), number, x.term(y))
	x.isNew(t, got)
	return got, ok
}

func endOf(t *testing.T, p impl.Plain, number int, y impl.Term) (impl.Plain, bool) {
	t.Helper()
	var x staging
	got, ok := impl.PlainEnd(x.plain(p), number, x.term(y))
	x.isNew(t, got)
	return got, ok
}

// isBehind asks that got is what the chapter tells of p, and that all that was right is right still.
func isBehind(t *testing.T, what string, p impl.Plain, got impl.Plain, ok bool, want impl.Plain, right bool) {
	t.Helper()
	if ok != right || !samePlain(got, want) {
		t.Fatalf("%s of %s\nis %v: %s\nnot %v: %s", what, plainText(p), ok, plainText(got), right, plainText(want))
	}
	if !ok {
		if !samePlain(got, p) {
			t.Fatalf("%s is refused, but %s\nis not %s", what, plainText(got), plainText(p))
		}
		return
	}
	if !okPlain(t, got) || !rightPlain(got) {
		t.Fatalf("not right behind %s: %s", what, plainText(got))
	}
	if len(got.Out) < len(p.Out) || !sameOut(got.Out[:len(p.Out)], p.Out) {
		t.Fatalf("behind %s what was said ahead is not said: %s", what, plainText(got))
	}
}

func isRun(t *testing.T, p impl.Plain, i int, n int) (impl.Plain, bool) {
	t.Helper()
	want, right := runBy(p, i, n)
	got, ok := runOf(t, p, i, n)
	isBehind(t, fmt.Sprintf("a run of %d, %d", i, n), p, got, ok, want, right)
	return got, ok
}

func isTell(t *testing.T, p impl.Plain, number int, y impl.Term) (impl.Plain, bool) {
	t.Helper()
	want, right := tellBy(p, number, y)
	got, ok := tellOf(t, p, number, y)
	isBehind(t, fmt.Sprintf("%v told to %d", y, number), p, got, ok, want, right)
	return got, ok
}

func isEnd(t *testing.T, p impl.Plain, number int, y impl.Term) (impl.Plain, bool) {
	t.Helper()
	want, right := endBy(p, number, y)
	got, ok := endOf(t, p, number, y)
	isBehind(t, fmt.Sprintf("an end of %d by %v", number, y), p, got, ok, want, right)
	return got, ok
}

// isRunTo asks for this answer, told here field by field.
func isRunTo(t *testing.T, p impl.Plain, i int, n int, want impl.Plain) {
	t.Helper()
	if got, ok := isRun(t, p, i, n); !ok || !samePlain(got, want) {
		t.Fatalf("a run of %d, %d of %s\nis %v: %s\nnot %s", i, n, plainText(p), ok, plainText(got), plainText(want))
	}
}

func isEndTo(t *testing.T, p impl.Plain, number int, y impl.Term, want impl.Plain) {
	t.Helper()
	if got, ok := isEnd(t, p, number, y); !ok || !samePlain(got, want) {
		t.Fatalf("an end of %d of %s\nis %v: %s\nnot %s", number, plainText(p), ok, plainText(got), plainText(want))
	}
}

// isStill asks that a run is refused, or anything else that is done.
func isStill(t *testing.T, p impl.Plain, got impl.Plain, ok bool) {
	t.Helper()
	if ok || !samePlain(got, p) {
		t.Fatalf("not refused: %s\nis %v: %s", plainText(p), ok, plainText(got))
	}
}

// isPlain asks for a Plain that is right.
func isPlain(t *testing.T, p impl.Plain) {
	t.Helper()
	if !okPlain(t, p) || !rightPlain(p) {
		t.Fatalf("not right: %s", plainText(p))
	}
	isRun(t, p, 0, 1)
	isTell(t, p, 1, num(1))
	isEnd(t, p, 1, num(1))
}

// isNoPlain asks for a Plain that is not right, and to which nothing is done.
func isNoPlain(t *testing.T, p impl.Plain) {
	t.Helper()
	if okPlain(t, p) || rightPlain(p) {
		t.Fatalf("right: %s", plainText(p))
	}
	got, ok := runOf(t, p, 0, 1)
	isStill(t, p, got, ok)
	for number := range 4 {
		got, ok = tellOf(t, p, number, num(1))
		isStill(t, p, got, ok)
		got, ok = endOf(t, p, number, num(1))
		isStill(t, p, got, ok)
	}
}

// standing is an actor at the first place, with these first registers.
func standing(number int, regs ...impl.Term) impl.Actor {
	a := withRegs(regs...)
	a.Pid = number
	return a
}

// plainOf is a Plain of this code with actors of the Pids 1 to n, each with what n tells in its first register.
func plainOf(t *testing.T, n int, lines ...string) impl.Plain {
	t.Helper()
	p := impl.Plain{Code: linesOf(t, lines...), Next: n + 1}
	for i := range n {
		p.Actors = append(p.Actors, standing(i+1, tup(num(i+1))))
		p.Out = append(p.Out, impl.Said{Kind: impl.SaidStart, Pid: i + 1, T: tup(num(i + 1))})
	}
	return p
}

// join links the actors of these Pids, two by two.
func join(p impl.Plain, pairs ...[2]int) impl.Plain {
	x := troop{dupPlain(p)}
	for _, y := range pairs {
		x.linked(y[0], y[1])
	}
	return x.Plain
}

// saidOf are n words that were said.
func saidOf(n int) []impl.Said {
	l := []impl.Said{}
	for i := range n {
		l = append(l, impl.Said{Kind: 1 + i%3, Pid: 1 + i, T: lst(num(i))})
	}
	return l
}

func TestSaidInNumbers(t *testing.T) {
	for i, kind := range []int{impl.SaidStart, impl.SaidSay, impl.SaidEnd} {
		if kind != i+1 {
			t.Error("kind", i+1, "is", kind)
		}
	}
}

// newPlainOf is PlainNew of what is lent.
func newPlainOf(t *testing.T, l []impl.Ins, arg impl.Term) (impl.Plain, bool) {
	t.Helper()
	var x staging
	p, ok := impl.PlainNew(x.lines(l), x.term(arg))
	x.isNew(t, p)
	return p, ok
}

func isNewPlain(t *testing.T, l []impl.Ins, arg impl.Term) impl.Plain {
	t.Helper()
	want := impl.Plain{Code: l, Next: 2, Actors: []impl.Actor{standing(1, arg)}, Out: []impl.Said{{Kind: impl.SaidStart, Pid: 1, T: arg}}}
	p, ok := newPlainOf(t, l, arg)
	if !ok || !samePlain(p, want) {
		t.Fatalf("a new one is %v: %s\nnot %s", ok, plainText(p), plainText(want))
	}
	isPlain(t, p)
	return p
}

func isNotNewPlain(t *testing.T, l []impl.Ins, arg impl.Term) {
	t.Helper()
	if p, ok := newPlainOf(t, l, arg); ok || !samePlain(p, impl.Plain{}) {
		t.Fatalf("new of %v, %v: %v %s", l, arg, ok, plainText(p))
	}
}

var noCodes = [][]impl.Ins{
	nil, {{}}, {{Op: 21}}, {{Op: impl.OpTake}}, {{Op: impl.OpEnd}, {Op: impl.OpTake}}, {{Op: impl.OpEnd, A: 8}}, {{Op: impl.OpEnd, B: 1}}, {{Op: impl.OpJump, N: 1}},
	{{Op: impl.OpAtom, S: "A"}, {Op: impl.OpEnd}}, {{Op: impl.OpMake, N: 2}, {Op: impl.OpEnd}}, {{Op: impl.OpEnd}, {}, {Op: impl.OpEnd}}, endless(201),
}

func TestNewPlains(t *testing.T) {
	codes := [][]impl.Ins{linesOf(t, "end 0"), linesOf(t, "jump 0"), linesOf(t, "atom 0 abcdefghijkl", "end 0"), endless(199), endless(200)}
	for _, l := range codes {
		for _, arg := range rightTerms {
			isNewPlain(t, l, arg)
		}
		for _, arg := range wrongTerms {
			isNotNewPlain(t, l, arg)
		}
	}
	for _, l := range noCodes {
		isNotNewPlain(t, l, num(1))
		isNotNewPlain(t, l, num(1000001))
	}
	d := dice(11)
	for range 200 {
		isNewPlain(t, anyCode(&d, 1+d.below(mostCode)), anyTerm(&d, 4))
	}
}

func TestCodeOfPlains(t *testing.T) {
	for _, p := range []impl.Plain{plainOf(t, 0, "end 0"), plainOf(t, 1, "end 0"), plainOf(t, 3, "jump 0")} {
		isPlain(t, p)
		for _, p.Code = range noCodes {
			isNoPlain(t, p)
		}
		p.Code = endless(200)
		isPlain(t, p)
	}
	isNoPlain(t, impl.Plain{})
	isNoPlain(t, impl.Plain{Next: 1})
}

func TestHowManyActorsThereMayBe(t *testing.T) {
	for _, n := range []int{0, 1, 2, 19, 20} {
		isPlain(t, plainOf(t, n, "make 0 0 0", "end 0"))
	}
	for _, n := range []int{21, 22, 100} {
		isNoPlain(t, plainOf(t, n, "make 0 0 0", "end 0"))
	}
}

func TestNextOfPlains(t *testing.T) {
	p := plainOf(t, 0, "end 0")
	for _, p.Next = range []int{1, 2, 3, 500, 89999, 90000} {
		isPlain(t, p)
	}
	for _, p.Next = range []int{math.MinInt, -90000, -1, 0, 90001, 99999, 100000, 1<<32 + 1, math.MaxInt} {
		isNoPlain(t, p)
	}
	for _, number := range []int{1, 2, 500, 89999} {
		p.Actors = []impl.Actor{standing(number)}
		for _, p.Next = range []int{number + 1, 90000} {
			isPlain(t, p)
		}
		for _, p.Next = range []int{number, number - 1, 1, 0, -1, 90001} {
			isNoPlain(t, p)
		}
	}
	for _, number := range []int{90000, 90001, 99999, 100000} {
		p.Actors = []impl.Actor{standing(number)}
		for _, p.Next = range []int{90000, number, number + 1} {
			isNoPlain(t, p)
		}
	}
}

func TestOrderOfActors(t *testing.T) {
	p := plainOf(t, 0, "make 0 0 0", "end 0")
	p.Next = 90000
	for _, x := range []struct {
		pids  []int
		right bool
	}{
		{[]int{1, 2}, true}, {[]int{2, 1}, false}, {[]int{1, 1}, false}, {[]int{7, 7}, false}, {[]int{1, 89999}, true}, {[]int{89999, 1}, false},
		{[]int{1, 2, 3}, true}, {[]int{1, 3, 2}, false}, {[]int{2, 1, 3}, false}, {[]int{3, 2, 1}, false}, {[]int{1, 2, 2}, false}, {[]int{2, 2, 3}, false}, {[]int{1, 2, 1}, false},
		{[]int{0, 1}, false}, {[]int{-1, 1}, false}, {[]int{1, 90000}, false}, {[]int{0}, false}, {[]int{1, 2, 3, 5, 8, 13, 21, 34, 55, 89, 144}, true},
	} {
		p.Actors = nil
		for _, number := range x.pids {
			p.Actors = append(p.Actors, standing(number))
		}
		if x.right {
			isPlain(t, p)
		} else {
			isNoPlain(t, p)
		}
	}
}

// An actor that is not right, in each place, by each of its fields.
func TestActorsOfPlainsThatAreNotRight(t *testing.T) {
	for _, n := range []int{1, 2, 5, 20} {
		for at := range n {
			for k, spoil := range []func(a *impl.Actor){
				func(a *impl.Actor) { a.Pid = 0 },
				func(a *impl.Actor) { a.Pid = -a.Pid },
				func(a *impl.Actor) { a.Pid = 100000 },
				func(a *impl.Actor) { a.Pc = -1 },
				func(a *impl.Actor) { a.Pc = 2 },
				func(a *impl.Actor) { a.Regs = a.Regs[:7] },
				func(a *impl.Actor) { a.Regs = append(a.Regs, num(1)) },
				func(a *impl.Actor) { a.Regs = nil },
				func(a *impl.Actor) { a.Regs[7] = impl.Term{} },
				func(a *impl.Actor) { a.Regs[0] = num(1000001) },
				func(a *impl.Actor) { a.Box = many(31, num(1)) },
				func(a *impl.Actor) { a.Box = []impl.Term{num(1), {K: 7}} },
				func(a *impl.Actor) { a.Links = links(100, 51) },
				func(a *impl.Actor) { a.Links = []int{0} },
				func(a *impl.Actor) { a.Links = []int{100000} },
				func(a *impl.Actor) { a.Links = []int{a.Pid} },
				func(a *impl.Actor) { a.Links = []int{101, 100} },
				func(a *impl.Actor) { a.Links = []int{100, 100} },
			} {
				p := plainOf(t, n, "take 0", "end 0")
				spoil(&p.Actors[at])
				if okPlain(t, p) {
					t.Fatalf("right with spoil %d: %s", k, plainText(p))
				}
				isNoPlain(t, p)
			}
			p := plainOf(t, n, "take 0", "end 0")
			p.Actors[at].Pc, p.Actors[at].Box, p.Actors[at].Links = 1, many(30, num(1)), links(100, 50)
			isPlain(t, p)
		}
	}
	for _, wrong := range wrongTerms {
		p := plainOf(t, 2, "take 0", "end 0")
		p.Actors[1].Regs[3] = wrong
		isNoPlain(t, p)
		p = plainOf(t, 2, "take 0", "end 0")
		p.Actors[0].Box = []impl.Term{num(1), wrong}
		isNoPlain(t, p)
	}
}

// Links are of both sides, where there is somebody on the other one.
func TestLinksOfBothSides(t *testing.T) {
	for one := 1; one <= 4; one++ {
		for other := 1; other <= 4; other++ {
			if one == other {
				continue
			}
			p := plainOf(t, 4, "jump 0")
			p.Actors[one-1].Links = []int{other}
			isNoPlain(t, p)
			p.Actors[other-1].Links = []int{one}
			isPlain(t, p)
			p.Actors[one-1].Links = nil
			isNoPlain(t, p)
			p.Actors[one-1].Links = []int{other, 5}
			isPlain(t, p)
		}
	}
	p := plainOf(t, 2, "jump 0")
	for _, p.Actors[0].Links = range [][]int{{3}, {4, 99999}, {90000}, links(3, 50)} {
		isPlain(t, p)
		p.Actors[1].Links = p.Actors[0].Links
		isPlain(t, p)
		p.Actors[1].Links = nil
	}
	all := plainOf(t, 20, "jump 0")
	for i := range all.Actors {
		all.Actors[i].Links = slices.Delete(links(1, 20), i, i+1)
	}
	isPlain(t, all)
	for i := range all.Actors {
		for k := range all.Actors[i].Links {
			p := dupPlain(all)
			p.Actors[i].Links = slices.Delete(p.Actors[i].Links, k, k+1)
			if okPlain(t, p) {
				t.Fatal("right without a link", i, k)
			}
		}
	}
}

func TestWhatMayHaveBeenSaid(t *testing.T) {
	p := plainOf(t, 1, "say 0", "jump 0")
	for _, n := range []int{0, 1, 2, 499, 500} {
		p.Out = saidOf(n)
		isPlain(t, p)
	}
	for _, n := range []int{501, 502, 1000} {
		p.Out = saidOf(n)
		isNoPlain(t, p)
	}
	for _, n := range []int{1, 2, 500} {
		for _, at := range []int{0, n / 2, n - 1} {
			p.Out = saidOf(n)
			x := &p.Out[at]
			for _, x.Kind = range []int{math.MinInt, -1, 0, 4, 5, math.MaxInt} {
				isNoPlain(t, p)
			}
			for _, x.Kind = range []int{3, 2, 1} {
				isPlain(t, p)
			}
			for _, x.Pid = range []int{math.MinInt, -1, 0, 100000, 100001, math.MaxInt} {
				isNoPlain(t, p)
			}
			for _, x.Pid = range []int{1, 2, 90000, 99999} {
				isPlain(t, p)
			}
			for _, x.T = range wrongTerms {
				isNoPlain(t, p)
			}
			x.T = num(1)
			isPlain(t, p)
		}
	}
	for _, arg := range rightTerms {
		p.Out = []impl.Said{{Kind: impl.SaidSay, Pid: 4, T: arg}}
		isPlain(t, p)
	}
}

// A run by what the chapter tells of it, line by line: a word is sent, an actor made, linked, told of, and ended.
func TestARunOfSeveralActors(t *testing.T) {
	l := linesOf(t, "make 1 0 6", "link 1", "self 2", "send 1 2", "take 3", "end 3", "take 4", "say 0", "send 4 0", "take 5", "jump 9")
	p := isNewPlain(t, l, atom("hi"))
	p, _ = isRun(t, p, 0, 20)
	want := impl.Plain{Code: l, Next: 3,
		Actors: []impl.Actor{standing(1, atom("hi"), pid(2), pid(1)), standing(2, atom("hi"))},
		Out:    []impl.Said{{Kind: impl.SaidStart, Pid: 1, T: atom("hi")}, {Kind: impl.SaidStart, Pid: 2, T: atom("hi")}}}
	want.Actors[0].Pc, want.Actors[0].Links = 4, []int{2}
	want.Actors[1].Pc, want.Actors[1].Links, want.Actors[1].Box = 6, []int{1}, []impl.Term{pid(1)}
	if !samePlain(p, want) {
		t.Fatalf("it is %s\nnot %s", plainText(p), plainText(want))
	}
	want.Actors[1].Pc, want.Actors[1].Box, want.Actors[1].Regs[4] = 9, nil, pid(1)
	want.Actors[0].Box = []impl.Term{atom("hi")}
	want.Out = append(want.Out, impl.Said{Kind: impl.SaidSay, Pid: 2, T: atom("hi")})
	isRunTo(t, p, 1, 20, want)
	isRunTo(t, p, 3, 4, want)
	isRunTo(t, p, 1001, 3, want)
	want.Actors = nil
	want.Out = append(want.Out, impl.Said{Kind: impl.SaidEnd, Pid: 1, T: atom("hi")}, impl.Said{Kind: impl.SaidEnd, Pid: 2, T: atom("hi")})
	p, _ = isRun(t, p, 1, 20)
	isRunTo(t, p, 0, 20, want)
	p, _ = isRun(t, p, 0, 20)
	_, ok := isRun(t, p, 0, 1)
	if ok {
		t.Error("nobody is left to run")
	}
}

func TestPlacesOfThoseThatRun(t *testing.T) {
	for _, n := range []int{1, 2, 3, 7, 20} {
		p := plainOf(t, n, "say 0", "jump 0")
		for _, i := range []int{0, 1, 2, n - 1, n, n + 1, 2*n - 1, 2 * n, 1000, math.MaxInt - 1, math.MaxInt} {
			want := dupPlain(p)
			at := i % n
			want.Actors[at].Pc = 1
			want.Out = append(want.Out, impl.Said{Kind: impl.SaidSay, Pid: at + 1, T: tup(num(at + 1))})
			isRunTo(t, p, i, 1, want)
		}
		for _, i := range []int{-1, -2, -n, -20, math.MinInt, math.MinInt + 1} {
			got, ok := isRun(t, p, i, 1)
			isStill(t, p, got, ok)
		}
	}
	// by their order, not by their Pids
	p := impl.Plain{Code: linesOf(t, "self 0", "jump 0"), Next: 90000, Actors: []impl.Actor{standing(3), standing(500), standing(89999)}}
	for i := range 9 {
		want := dupPlain(p)
		want.Actors[i%3].Pc, want.Actors[i%3].Regs[0] = 1, pid([]int{3, 500, 89999}[i%3])
		isRunTo(t, p, i, 1, want)
	}
}

func TestRunsWithoutActors(t *testing.T) {
	for _, next := range []int{1, 2, 90000} {
		p := impl.Plain{Code: linesOf(t, "end 0"), Next: next, Out: saidOf(3)}
		isPlain(t, p)
		for _, i := range []int{0, 1, 5, -1, math.MaxInt, math.MinInt} {
			for _, n := range []int{0, 1, 20, 21} {
				got, ok := isRun(t, p, i, n)
				isStill(t, p, got, ok)
			}
			got, ok := isTell(t, p, i, num(1))
			isStill(t, p, got, ok)
			got, ok = isEnd(t, p, i, num(1))
			isStill(t, p, got, ok)
		}
	}
}

func TestHowManySteps(t *testing.T) {
	lines := []string{}
	for i := range 30 {
		lines = append(lines, fmt.Sprint("int 1 ", i))
	}
	p := plainOf(t, 2, append(lines, "end 0")...)
	for n := 1; n <= 20; n++ {
		want := dupPlain(p)
		want.Actors[1].Pc, want.Actors[1].Regs[1] = n, num(n-1)
		isRunTo(t, p, 1, n, want)
	}
	for _, n := range []int{math.MinInt, -20, -1, 0, 21, 22, 100, math.MaxInt} {
		got, ok := isRun(t, p, 1, n)
		isStill(t, p, got, ok)
	}
}

// Steps one by one are as one run.
func TestRunsStepByStep(t *testing.T) {
	d := dice(110)
	for range 300 {
		p := anyPlain(&d)
		if len(p.Actors) == 0 {
			continue
		}
		i, n := d.below(len(p.Actors)), 1+d.below(20)
		number := p.Actors[i].Pid
		want, _ := impl.PlainRun(p, i, n)
		for range n {
			at := slices.IndexFunc(p.Actors, func(a impl.Actor) bool { return a.Pid == number })
			if at < 0 {
				break
			}
			p, _ = isRun(t, p, at, 1)
		}
		if !samePlain(p, want) {
			t.Fatalf("step by step %s\nnot %s", plainText(p), plainText(want))
		}
	}
}

func TestWordsThatAreSent(t *testing.T) {
	for to := 0; to <= 6; to++ {
		for _, y := range rightTerms {
			for _, n := range []int{0, 1, 28, 29, 30} {
				p := plainOf(t, 4, "send 1 2", "end 0")
				p.Actors[1].Regs = standing(2, num(0), pid(to), y).Regs
				for i := range p.Actors {
					p.Actors[i].Box = many(n, atom("w"))
				}
				want := dupPlain(p)
				want.Actors[1].Pc = 1
				if to >= 1 && to <= 4 && n < 30 {
					want.Actors[to-1].Box = append(want.Actors[to-1].Box, y)
				}
				isRunTo(t, p, 1, 1, want)
			}
		}
	}
	// beyond who is there, and to who was there
	for _, to := range []int{0, 2, 4, 5, 90000, 99999} {
		p := impl.Plain{Code: linesOf(t, "send 0 0", "jump 0"), Next: 5, Actors: []impl.Actor{standing(1, pid(to)), standing(3)}}
		want := dupPlain(p)
		want.Actors[0].Pc = 1
		isRunTo(t, p, 0, 1, want)
	}
}

// A word that an actor sends to itself waits behind the others, and is taken as they are.
func TestWordsToItself(t *testing.T) {
	p := plainOf(t, 2, "self 1", "send 1 0", "take 2", "say 2", "jump 1")
	p.Actors[0].Box = []impl.Term{atom("x"), atom("y")}
	want := dupPlain(p)
	want.Actors[0].Pc, want.Actors[0].Box = 4, []impl.Term{atom("y"), tup(num(1))}
	want.Actors[0].Regs[1], want.Actors[0].Regs[2] = pid(1), atom("x")
	want.Out = append(want.Out, impl.Said{Kind: impl.SaidSay, Pid: 1, T: atom("x")})
	isRunTo(t, p, 0, 4, want)
	// its own words fill its box, and no more
	p = plainOf(t, 1, "self 1", "send 1 0", "jump 1")
	for range 5 {
		p, _ = isRun(t, p, 0, 20)
	}
	if a := p.Actors[0]; len(a.Box) != 30 || !sameTerms(a.Box, many(30, tup(num(1)))) {
		t.Error("its own words", a.Box)
	}
}

func TestActorsThatAreMade(t *testing.T) {
	for _, y := range rightTerms {
		for pc := range 3 {
			p := plainOf(t, 3, fmt.Sprint("make 1 2 ", pc), "jump 0", "end 0")
			p.Next = 50
			p.Actors[1].Regs[2] = y
			want := dupPlain(p)
			want.Actors[1].Pc, want.Actors[1].Regs[1] = 1, pid(50)
			want.Actors = append(want.Actors, standing(50, y))
			want.Actors[3].Pc = pc
			want.Next = 51
			want.Out = append(want.Out, impl.Said{Kind: impl.SaidStart, Pid: 50, T: y})
			isRunTo(t, p, 1, 1, want)
		}
	}
	// the argument is the register as it was ahead of the step
	p := plainOf(t, 1, "make 0 0 0", "jump 0")
	want := dupPlain(p)
	want.Actors[0].Pc, want.Actors[0].Regs[0] = 1, pid(2)
	want.Actors = append(want.Actors, standing(2, tup(num(1))))
	want.Next, want.Out = 3, append(want.Out, impl.Said{Kind: impl.SaidStart, Pid: 2, T: tup(num(1))})
	isRunTo(t, p, 0, 1, want)
	// a new one runs in its turn
	p, _ = isRun(t, p, 0, 1)
	p, _ = isRun(t, p, 1, 1)
	if len(p.Actors) != 3 || !alike(p.Actors[1].Regs[0], pid(3)) || p.Next != 4 {
		t.Error("made by one that was made", plainText(p))
	}
}

// ended is p without the actors of these Pids, with what they end by behind what was said.
func ended(p impl.Plain, y impl.Term, order ...int) impl.Plain {
	want := dupPlain(p)
	want.Actors = slices.DeleteFunc(want.Actors, func(a impl.Actor) bool { return slices.Contains(order, a.Pid) })
	for i, a := range want.Actors {
		want.Actors[i].Links = slices.DeleteFunc(a.Links, func(n int) bool { return slices.Contains(order, n) })
	}
	for _, number := range order {
		if len(want.Out) < 500 {
			want.Out = append(want.Out, impl.Said{Kind: impl.SaidEnd, Pid: number, T: y})
		}
	}
	return want
}

func TestWhereNoMoreMayBeMade(t *testing.T) {
	for _, n := range []int{1, 2, 18, 19, 20} {
		for _, next := range []int{n + 1, 500, 89998, 89999, 90000} {
			p := plainOf(t, n, "make 1 0 1", "jump 0")
			p.Next = next
			at := n / 2
			want := ended(p, atom("full"), at+1)
			if n < 20 && next < 90000 {
				want = dupPlain(p)
				want.Actors[at].Pc, want.Actors[at].Regs[1] = 1, pid(next)
				want.Actors = append(want.Actors, standing(next, tup(num(at+1))))
				want.Actors[n].Pc = 1
				want.Next = next + 1
				want.Out = append(want.Out, impl.Said{Kind: impl.SaidStart, Pid: next, T: tup(num(at + 1))})
			}
			isRunTo(t, p, at, 1, want)
		}
	}
	// it does no more, and those that are linked to it go with it, by the same
	p := join(plainOf(t, 20, "make 1 0 0", "say 0", "jump 0"), [2]int{3, 7}, [2]int{7, 5}, [2]int{3, 20}, [2]int{1, 2})
	isRunTo(t, p, 2, 20, ended(p, atom("full"), 3, 7, 5, 20))
	p = join(plainOf(t, 3, "make 1 0 0", "say 0", "jump 0"), [2]int{1, 3})
	p.Next = 90000
	isRunTo(t, p, 2, 20, ended(p, atom("full"), 3, 1))
	// up to the last one that may be made, and one more
	p = isNewPlain(t, linesOf(t, "make 1 0 2", "jump 0", "take 0", "jump 2"), num(7))
	for range 5 {
		p, _ = isRun(t, p, 0, 8)
	}
	if len(p.Actors) != 19 || p.Actors[0].Pid != 2 || p.Next != 21 || len(p.Out) != 21 || !sameSaid(p.Out[20], impl.Said{Kind: impl.SaidEnd, Pid: 1, T: atom("full")}) {
		t.Error("one too many was made", plainText(p))
	}
	p = plainOf(t, 1, "make 1 0 2", "jump 0", "take 0", "jump 2")
	p.Next = 89998
	p, _ = isRun(t, p, 0, 3)
	if len(p.Actors) != 3 || p.Actors[2].Pid != 89999 || p.Next != 90000 {
		t.Error("the last Pid", plainText(p))
	}
	isRunTo(t, p, 0, 20, ended(p, atom("full"), 1))
}

func TestWordsThatAreSaid(t *testing.T) {
	for _, y := range rightTerms {
		for _, n := range []int{0, 1, 498, 499, 500} {
			p := plainOf(t, 2, "say 3", "end 0")
			p.Actors[1].Regs[3] = y
			p.Out = saidOf(n)
			want := dupPlain(p)
			want.Actors[1].Pc = 1
			if n < 500 {
				want.Out = append(want.Out, impl.Said{Kind: impl.SaidSay, Pid: 2, T: y})
			}
			isRunTo(t, p, 1, 1, want)
		}
	}
}

// What comes behind 500 is not kept, whatever it is; what it tells of is done.
func TestWhatIsNotKept(t *testing.T) {
	for n := 496; n <= 500; n++ {
		p := join(plainOf(t, 4, "make 1 0 4", "say 0", "make 1 0 4", "end 0", "jump 4"), [2]int{1, 3}, [2]int{3, 2})
		p.Out = saidOf(n)
		got, _ := isRun(t, p, 0, 20)
		all := slices.Concat(saidOf(n), []impl.Said{
			{Kind: impl.SaidStart, Pid: 5, T: tup(num(1))}, {Kind: impl.SaidSay, Pid: 1, T: tup(num(1))}, {Kind: impl.SaidStart, Pid: 6, T: tup(num(1))},
			{Kind: impl.SaidEnd, Pid: 1, T: tup(num(1))}, {Kind: impl.SaidEnd, Pid: 3, T: tup(num(1))}, {Kind: impl.SaidEnd, Pid: 2, T: tup(num(1))},
		})
		if !sameOut(got.Out, all[:500]) || len(got.Actors) != 3 || got.Actors[0].Pid != 4 || got.Actors[2].Pid != 6 || got.Next != 7 {
			t.Errorf("behind %d: %s", n, plainText(got))
		}
		isEndTo(t, p, 2, num(0), ended(p, num(0), 2, 3, 1))
	}
}

func TestActorsThatAreLinked(t *testing.T) {
	for one := 1; one <= 4; one++ {
		for other := 0; other <= 6; other++ {
			p := plainOf(t, 4, "link 1", "jump 0")
			p.Actors[one-1].Regs[1] = pid(other)
			want := dupPlain(p)
			want.Actors[one-1].Pc = 1
			if other >= 1 && other <= 4 && other != one {
				want.Actors[one-1].Links = []int{other}
				want.Actors[other-1].Links = []int{one}
			}
			isRunTo(t, p, one-1, 1, want)
			// once more, of either side, is nothing
			p, _ = isRun(t, p, one-1, 2)
			isRunTo(t, p, one-1, 1, want)
			if other >= 1 && other <= 4 {
				p.Actors[other-1].Regs[1] = pid(one)
				want = dupPlain(p)
				want.Actors[other-1].Pc = 1
				isRunTo(t, p, other-1, 1, want)
			}
		}
	}
}

// Links ascend, in whatever order they come.
func TestLinksInOrder(t *testing.T) {
	d := dice(111)
	for range 40 {
		p := plainOf(t, 9, "link 1", "jump 0")
		met := []int{}
		for range 9 {
			to := 1 + d.below(9)
			p.Actors[4].Regs[1], p.Actors[4].Pc = pid(to), 0
			p, _ = isRun(t, p, 4, 1)
			if to != 5 && !slices.Contains(met, to) {
				met = append(met, to)
			}
			slices.Sort(met)
			if !slices.Equal(p.Actors[4].Links, met) {
				t.Fatal("links", p.Actors[4].Links, "not", met)
			}
			for i, a := range p.Actors {
				if i != 4 && slices.Contains(met, i+1) != slices.Equal(a.Links, []int{5}) {
					t.Fatal("links of the others", plainText(p))
				}
			}
		}
	}
}

// Links that lead to nobody count among the fifty.
func TestHowManyLinksAreMade(t *testing.T) {
	for _, one := range []int{0, 1, 48, 49, 50} {
		for _, other := range []int{0, 1, 48, 49, 50} {
			p := plainOf(t, 3, "link 1", "jump 0")
			p.Next = 70000
			p.Actors[2].Regs[1] = pid(2)
			p.Actors[2].Links, p.Actors[1].Links = links(10, one), links(40, other)
			want := dupPlain(p)
			want.Actors[2].Pc = 1
			if one < 50 && other < 50 {
				want.Actors[2].Links = slices.Concat([]int{2}, links(10, one))
				want.Actors[1].Links = slices.Concat([]int{3}, links(40, other))
			}
			isRunTo(t, p, 2, 1, want)
		}
	}
	// two that are linked already, with fifty
	p := plainOf(t, 2, "link 1", "jump 0")
	p.Actors[0].Regs[1] = pid(2)
	p.Actors[0].Links, p.Actors[1].Links = slices.Concat([]int{2}, links(10, 49)), slices.Concat([]int{1}, links(20, 49))
	want := dupPlain(p)
	want.Actors[0].Pc = 1
	isRunTo(t, p, 0, 1, want)
}

// An actor may be linked ahead of its being there by whoever hands a system in. It is new all the same, and all stay right.
func TestLinksToWhoIsNotYetThere(t *testing.T) {
	for _, ahead := range [][]int{{4}, {4, 5}, {3, 4}, {5}, links(4, 50)} {
		p := plainOf(t, 2, "make 1 0 0", "jump 0")
		p.Next = 4
		p.Actors[0].Links, p.Actors[1].Links = ahead, []int{4, 7}
		isPlain(t, p)
		got, ok := isRun(t, p, 0, 1)
		if !ok || !impl.PlainOk(got) || got.Actors[2].Pid != 4 || len(got.Actors[2].Links) != 0 || slices.Contains(got.Actors[0].Links, 4) || !slices.Equal(got.Actors[1].Links, []int{7}) {
			t.Fatal("links to who is new", plainText(got))
		}
		isEndTo(t, got, 1, num(1), ended(got, num(1), 1))
		isEndTo(t, got, 4, num(1), ended(got, num(1), 4))
		got, _ = isRun(t, p, 0, 20)
		isPlain(t, got)
	}
}

func TestActorsThatWait(t *testing.T) {
	p := plainOf(t, 3, "int 1 5", "take 2", "say 2", "jump 1")
	for _, n := range []int{2, 3, 20} {
		want := dupPlain(p)
		want.Actors[0].Pc, want.Actors[0].Regs[1] = 1, num(5)
		isRunTo(t, p, 0, n, want)
	}
	p, _ = isRun(t, p, 0, 1)
	for _, n := range []int{1, 2, 20} {
		isRunTo(t, p, 0, n, p)
	}
	// a word wakes it, for as long as words wait
	p, _ = isTell(t, p, 1, atom("a"))
	p, _ = isTell(t, p, 1, atom("b"))
	got, _ := isRun(t, p, 0, 20)
	want := dupPlain(p)
	want.Actors[0].Box, want.Actors[0].Regs[2] = nil, atom("b")
	want.Out = append(want.Out, impl.Said{Kind: impl.SaidSay, Pid: 1, T: atom("a")}, impl.Said{Kind: impl.SaidSay, Pid: 1, T: atom("b")})
	if !samePlain(got, want) {
		t.Errorf("woken: %s\nnot %s", plainText(got), plainText(want))
	}
}

// notOk are terms that are like the atom ok, but not it.
var notOk = []impl.Term{atom("okay"), atom("o"), atom("k"), atom("ok1"), atom("full"), atom("fault"), bin("ok"), lst(atom("ok")), tup(atom("ok")), num(0), pid(1), lst(), tup(), bin("")}

func TestActorsThatEnd(t *testing.T) {
	for _, y := range append(slices.Clone(notOk), atom("ok")) {
		for at := range 4 {
			p := plainOf(t, 4, "int 1 1", "end 3")
			for i := range p.Actors {
				p.Actors[i].Regs[3] = y
			}
			isEndTo(t, p, at+1, y, ended(p, y, at+1))
			isRunTo(t, p, at, 20, ended(p, y, at+1))
			isRunTo(t, p, at, 2, ended(p, y, at+1))
			p.Actors[at].Pc = 1
			isRunTo(t, p, at, 1, ended(p, y, at+1))
			// what was told to it is gone with it
			p.Actors[at].Box = many(30, num(1))
			isEndTo(t, p, at+1, y, ended(p, y, at+1))
		}
	}
	// a fault ends it, too, and whoever is linked to it
	p := join(plainOf(t, 3, "head 0 0", "say 0", "jump 0"), [2]int{2, 3})
	isRunTo(t, p, 1, 20, ended(p, atom("fault"), 2, 3))
	isRunTo(t, p, 0, 20, ended(p, atom("fault"), 1))
}

// An actor that ends does no more, though there are steps left, and whoever comes to stand at its place does not run for it.
func TestNoStepsBehindAnEnd(t *testing.T) {
	p := plainOf(t, 3, "int 1 1", "end 0", "say 0", "jump 2")
	isRunTo(t, p, 1, 20, ended(p, tup(num(2)), 2))
	p.Actors[0].Pc, p.Actors[2].Pc = 2, 2
	isRunTo(t, p, 1, 20, ended(p, tup(num(2)), 2))
	// nor does one that is linked to it
	p = join(p, [2]int{2, 1}, [2]int{2, 3})
	isRunTo(t, p, 1, 20, ended(p, tup(num(2)), 2, 1, 3))
}

// Who goes with whom, in which order; told link by link.
func TestWhoEndsWithWhom(t *testing.T) {
	for _, x := range []struct {
		n     int
		pairs [][2]int
		first int
		order []int
	}{
		{1, nil, 1, []int{1}},
		{2, nil, 1, []int{1}},
		{2, [][2]int{{1, 2}}, 1, []int{1, 2}},
		{2, [][2]int{{1, 2}}, 2, []int{2, 1}},
		{3, [][2]int{{1, 2}}, 3, []int{3}},
		{3, [][2]int{{1, 3}}, 1, []int{1, 3}},
		// chains
		{5, [][2]int{{1, 2}, {2, 3}, {3, 4}, {4, 5}}, 1, []int{1, 2, 3, 4, 5}},
		{5, [][2]int{{1, 2}, {2, 3}, {3, 4}, {4, 5}}, 5, []int{5, 4, 3, 2, 1}},
		{5, [][2]int{{1, 2}, {2, 3}, {3, 4}, {4, 5}}, 3, []int{3, 2, 1, 4, 5}},
		{5, [][2]int{{1, 2}, {2, 3}, {4, 5}}, 2, []int{2, 1, 3}},
		{5, [][2]int{{1, 4}, {4, 2}, {2, 5}, {5, 3}}, 1, []int{1, 4, 2, 5, 3}},
		{5, [][2]int{{1, 4}, {4, 2}, {2, 5}, {5, 3}}, 2, []int{2, 4, 1, 5, 3}},
		// rings
		{3, [][2]int{{1, 2}, {2, 3}, {3, 1}}, 1, []int{1, 2, 3}},
		{3, [][2]int{{1, 2}, {2, 3}, {3, 1}}, 2, []int{2, 1, 3}},
		{3, [][2]int{{1, 2}, {2, 3}, {3, 1}}, 3, []int{3, 1, 2}},
		{4, [][2]int{{1, 2}, {2, 3}, {3, 4}, {4, 1}}, 1, []int{1, 2, 3, 4}},
		{4, [][2]int{{1, 2}, {2, 3}, {3, 4}, {4, 1}}, 3, []int{3, 2, 1, 4}},
		{4, [][2]int{{1, 2}, {2, 3}, {3, 4}, {4, 1}}, 4, []int{4, 1, 2, 3}},
		{6, [][2]int{{1, 3}, {3, 5}, {5, 1}, {2, 4}, {4, 6}, {6, 2}}, 4, []int{4, 2, 6}},
		{6, [][2]int{{1, 5}, {5, 2}, {2, 6}, {6, 1}}, 6, []int{6, 1, 5, 2}},
		// those that go with the first one go ahead of the second
		{4, [][2]int{{1, 2}, {1, 3}, {2, 4}}, 1, []int{1, 2, 4, 3}},
		{5, [][2]int{{1, 2}, {1, 3}, {2, 5}, {3, 4}}, 1, []int{1, 2, 5, 3, 4}},
		{5, [][2]int{{1, 2}, {1, 3}, {2, 5}, {5, 3}}, 1, []int{1, 2, 5, 3}},
		{6, [][2]int{{4, 1}, {4, 6}, {4, 2}, {1, 6}, {6, 3}, {2, 5}}, 4, []int{4, 1, 6, 3, 2, 5}},
		// a star
		{5, [][2]int{{3, 1}, {3, 2}, {3, 4}, {3, 5}}, 3, []int{3, 1, 2, 4, 5}},
		{5, [][2]int{{3, 1}, {3, 2}, {3, 4}, {3, 5}}, 5, []int{5, 3, 1, 2, 4}},
		// each with each
		{4, [][2]int{{1, 2}, {1, 3}, {1, 4}, {2, 3}, {2, 4}, {3, 4}}, 3, []int{3, 1, 2, 4}},
	} {
		p := join(plainOf(t, x.n, "end 7"), x.pairs...)
		for _, y := range notOk {
			for i := range p.Actors {
				p.Actors[i].Regs[7] = y
			}
			isEndTo(t, p, x.first, y, ended(p, y, x.order...))
			isRunTo(t, p, x.first-1, 1, ended(p, y, x.order...))
		}
		for i := range p.Actors {
			p.Actors[i].Regs[7] = atom("ok")
		}
		isEndTo(t, p, x.first, atom("ok"), ended(p, atom("ok"), x.first))
		isRunTo(t, p, x.first-1, 20, ended(p, atom("ok"), x.first))
	}
}

// All of twenty, over chains, rings and each with each.
func TestWhenAllEnd(t *testing.T) {
	chain, round, each := [][2]int{}, [][2]int{}, [][2]int{}
	for i := 1; i <= 20; i++ {
		if i < 20 {
			chain = append(chain, [2]int{i, i + 1})
		}
		round = append(round, [2]int{i, i%20 + 1})
		for k := 1; k < i; k++ {
			each = append(each, [2]int{k, i})
		}
	}
	up := func(from, to int) []int { return links(from, to-from+1) }
	down := func(from, to int) []int {
		l := up(to, from)
		slices.Reverse(l)
		return l
	}
	for first := 1; first <= 20; first++ {
		p := join(plainOf(t, 20, "take 0", "end 0"), chain...)
		isEndTo(t, p, first, num(3), ended(p, num(3), slices.Concat(down(first, 1), up(first+1, 20))...))
		isEndTo(t, p, first, atom("ok"), ended(p, atom("ok"), first))
		p = join(plainOf(t, 20, "take 0", "end 0"), each...)
		isEndTo(t, p, first, num(3), ended(p, num(3), slices.Concat([]int{first}, up(1, first-1), up(first+1, 20))...))
		isEndTo(t, p, first, atom("ok"), ended(p, atom("ok"), first))
		p = join(plainOf(t, 20, "take 0", "end 0"), round...)
		order := slices.Concat(down(first, 1), down(20, first+1))
		if first == 1 {
			order = up(1, 20)
		} else if first == 20 {
			order = slices.Concat([]int{20}, up(1, 19))
		}
		isEndTo(t, p, first, num(3), ended(p, num(3), order...))
	}
}

// Links to nobody take nobody along.
func TestEndsWithLinksToNobody(t *testing.T) {
	p := join(plainOf(t, 3, "end 0"), [2]int{1, 3})
	p.Next = 90000
	p.Actors[0].Links = slices.Concat([]int{3}, links(10, 49))
	p.Actors[1].Links = links(10, 50)
	isEndTo(t, p, 1, num(1), ended(p, num(1), 1, 3))
	isEndTo(t, p, 2, num(1), ended(p, num(1), 2))
	isEndTo(t, p, 1, atom("ok"), ended(p, atom("ok"), 1))
	for _, number := range []int{10, 58, 4, 0} {
		got, ok := isEnd(t, p, number, num(1))
		isStill(t, p, got, ok)
	}
}

// Who is gone is just whoever can be reached by links, whatever they are.
func TestEndsOverAnyLinks(t *testing.T) {
	d := dice(112)
	for range 1500 {
		n := 1 + d.below(20)
		p := plainOf(t, n, "take 0", "end 0")
		for range d.below(2 * n) {
			p = join(p, [2]int{1 + d.below(n), 1 + d.below(n)})
		}
		first := 1 + d.below(n)
		met := map[int]int{first: 1}
		for grown := true; grown; {
			grown = false
			for _, a := range p.Actors {
				for _, to := range a.Links {
					if met[a.Pid] > 0 && met[to] == 0 {
						met[to], grown = 1, true
					}
				}
			}
		}
		got, ok := isEnd(t, p, first, num(4))
		if !ok || len(got.Actors) != n-len(met) || len(got.Out) != n+len(met) {
			t.Fatalf("%d ends: %s\nof %s", first, plainText(got), plainText(p))
		}
		for _, a := range got.Actors {
			if met[a.Pid] > 0 {
				t.Fatal("still there:", a.Pid)
			}
		}
		alone, _ := isEnd(t, p, first, atom("ok"))
		if len(alone.Actors) != n-1 || len(alone.Out) != n+1 {
			t.Fatalf("%d ends by ok: %s\nof %s", first, plainText(alone), plainText(p))
		}
	}
}

func TestWordsThatAreTold(t *testing.T) {
	for number := 1; number <= 4; number++ {
		for _, y := range rightTerms {
			for n := range 31 {
				p := plainOf(t, 4, "take 0", "end 0")
				for i := range n {
					p.Actors[number-1].Box = append(p.Actors[number-1].Box, lst(num(i)))
				}
				got, ok := isTell(t, p, number, y)
				if n == 30 {
					isStill(t, p, got, ok)
					continue
				}
				want := dupPlain(p)
				want.Actors[number-1].Box = append(want.Actors[number-1].Box, y)
				if !ok || !samePlain(got, want) {
					t.Fatalf("told %v: %s", y, plainText(got))
				}
			}
		}
	}
	p := plainOf(t, 1, "take 0", "end 0")
	for i := range 40 {
		got, ok := isTell(t, p, 1, num(i))
		if ok != (i < 30) {
			t.Error("told", i, ok)
		}
		p = got
	}
	for i, y := range p.Actors[0].Box {
		if !alike(y, num(i)) {
			t.Error("word", i, "is", y)
		}
	}
}

func TestTellAndEndOfWhatIsNotSo(t *testing.T) {
	p := join(impl.Plain{Code: linesOf(t, "end 0"), Next: 9, Out: saidOf(2), Actors: []impl.Actor{standing(2), standing(5), standing(8)}}, [2]int{2, 8})
	for _, number := range []int{math.MinInt, -5, -1, 0, 1, 3, 4, 6, 7, 9, 10, 90000, 99999, 100000, math.MaxInt} {
		for _, y := range []impl.Term{num(1), atom("ok"), {}} {
			got, ok := isTell(t, p, number, y)
			isStill(t, p, got, ok)
			got, ok = isEnd(t, p, number, y)
			isStill(t, p, got, ok)
		}
	}
	for _, number := range []int{2, 5, 8} {
		for _, y := range wrongTerms {
			got, ok := isTell(t, p, number, y)
			isStill(t, p, got, ok)
			got, ok = isEnd(t, p, number, y)
			isStill(t, p, got, ok)
		}
		for _, y := range rightTerms {
			if _, ok := isTell(t, p, number, y); !ok {
				t.Error("not told", number, y)
			}
			if _, ok := isEnd(t, p, number, y); !ok {
				t.Error("not ended", number, y)
			}
		}
	}
}

// livelyLines are instructions that have actors meet: the first four registers are for Pids, the others for words.
var livelyLines = []string{"send 0 4", "send 1 5", "send 2 0", "send 3 1", "make 0 4 %d", "make 3 0 %d", "make 2 5 %d", "link 0", "link 1", "link 2", "link 3", "take 1", "take 4", "take 5", "self 0", "self 2", "self 5", "say 4", "say 0", "move 5 1", "move 1 2", "tuple 4 0 2", "kind 1 3 %d", "jump %d", "atom 6 ok", "int 7 5"}

func livelyCode(d *dice) []impl.Ins {
	if d.below(6) == 0 {
		return anyCode(d, 1+d.below(20))
	}
	return codeOfLines(d, livelyLines)
}

// codeOfLines is drawn from these lines, with a place for each %d, and some ends between them.
func codeOfLines(d *dice, from []string) []impl.Ins {
	n := 2 + d.below(14)
	lines := []string{}
	for range n - 1 {
		line := from[d.below(len(from))]
		if d.below(15) == 0 {
			line = fmt.Sprint("end ", 4+d.below(4))
		}
		if strings.Contains(line, "%d") {
			line = fmt.Sprintf(line, d.below(n))
		}
		lines = append(lines, line)
	}
	l, ok := impl.ParseCode(strings.Join(append(lines, fmt.Sprint("jump ", d.below(n))), "\n") + "\n")
	if !ok {
		panic("no code")
	}
	return l
}

// anyPlain is right. Its actors know each other by their registers.
func anyPlain(d *dice) impl.Plain {
	p := impl.Plain{Code: livelyCode(d), Next: 1, Out: saidOf([]int{0, 3, 490, 499, 500, 7, 0, 1, 2, 11, 0, 1, 2, 3}[d.below(14)])}
	n := d.below(21)
	if d.below(3) == 0 {
		n = d.below(5)
	}
	for range n {
		p.Actors = append(p.Actors, impl.Actor{Pid: p.Next, Pc: d.below(len(p.Code))})
		p.Next += 1 + d.below(2)
	}
	if d.below(4) == 0 {
		p.Next = mostNext - d.below(4)
	}
	for i := range p.Actors {
		a := &p.Actors[i]
		for k := range 8 {
			y := anyTerm(d, 3)
			if k < 4 && d.below(8) > 0 {
				y = pid(p.Actors[d.below(n)].Pid)
			} else if k == 6 && d.below(2) == 0 {
				y = atom("ok")
			}
			a.Regs = append(a.Regs, y)
		}
		for range []int{0, 0, 2, 29, 30}[d.below(5)] {
			a.Box = append(a.Box, anyTerm(d, 2))
		}
		if d.below(8) == 0 {
			a.Links = links(p.Next+d.below(60), d.below(51))
		}
	}
	x := troop{p}
	for range d.below(2*n + 1) {
		x.linked(p.Actors[d.below(n)].Pid, p.Actors[d.below(n)].Pid)
	}
	return x.Plain
}

// Drawn systems, to each of which something is done.
func TestPlainsByChance(t *testing.T) {
	d := dice(113)
	counts := map[string]int{}
	for range 3000 {
		p := anyPlain(&d)
		if !okPlain(t, p) || !rightPlain(p) {
			t.Fatalf("drawn, but not right: %s", plainText(p))
		}
		i, n := d.below(45)-2, d.below(23)
		got, ok := isRun(t, p, i, n)
		if !ok {
			counts["refused"]++
			continue
		}
		for _, x := range got.Out[len(p.Out):] {
			counts[fmt.Sprint("said ", x.Kind)]++
			if x.Kind == impl.SaidEnd {
				counts[impl.TermText(x.T)]++
			}
		}
		if len(got.Actors) < len(p.Actors)-1 {
			counts["together"]++
		}
		if len(got.Actors) > 0 && len(got.Out) == 500 {
			counts["much said"]++
		}
	}
	for _, what := range []string{"refused", "said 1", "said 2", "said 3", "full", "fault", "ok", "together", "much said"} {
		if counts[what] < 30 {
			t.Error("too few of", what, counts)
		}
	}
}

// Runs of drawn code over several actors, from one on, with words and ends from outside, for as long as somebody is there.
func TestRunsOfManyActors(t *testing.T) {
	d := dice(114)
	most, longest := 0, 0
	for range 150 {
		p := isNewPlain(t, livelyCode(&d), pid(1+d.below(3)))
		for k := range p.Actors[0].Regs {
			p.Actors[0].Regs[k] = pid(1 + d.below(4))
		}
		done := 0
		for ; done < 60 && len(p.Actors) > 0; done++ {
			number := p.Actors[d.below(len(p.Actors))].Pid
			switch d.below(12) {
			case 0:
				p, _ = isTell(t, p, number, pid(1+d.below(p.Next)))
			case 1:
				p, _ = isTell(t, p, 1+d.below(p.Next), anyTerm(&d, 3))
			case 2:
				if d.below(3) == 0 {
					p, _ = isEnd(t, p, 1+d.below(p.Next), []impl.Term{atom("ok"), num(1)}[d.below(2)])
				}
			default:
				p, _ = isRun(t, p, d.below(30), 1+d.below(20))
			}
			most = max(most, len(p.Actors))
		}
		longest = max(longest, done)
	}
	if most < 15 || longest < 60 {
		t.Error("too few actors, or too short:", most, longest)
	}
}

// A Plain that is right or not in any of its fields, by chance.
func TestPlainsThatMayBeWrong(t *testing.T) {
	d := dice(115)
	right := 0
	for range 1600 {
		p := anyPlain(&d)
		for range d.below(3) {
			n := edgeNumbers[d.below(len(edgeNumbers))]
			if len(p.Actors) == 0 {
				p.Next = n
				continue
			}
			a, b := &p.Actors[d.below(len(p.Actors))], &p.Actors[d.below(len(p.Actors))]
			switch d.below(10) {
			case 0:
				p.Next = n
			case 1:
				a.Pid = n
			case 2:
				*a, *b = *b, *a
			case 3:
				a.Links = []int{b.Pid}
			case 4:
				a.Links, b.Links = b.Links, a.Links
			case 5:
				a.Regs[d.below(len(a.Regs))] = wrongTerms[d.below(len(wrongTerms))]
			case 6:
				a.Pc = n
			case 7:
				p.Out = append(p.Out, impl.Said{Kind: d.below(5), Pid: n, T: anyTerm(&d, 2)})
			case 8:
				p.Actors = append(p.Actors, dupActor(*a))
			case 9:
				p.Code = append(slices.Clone(p.Code), impl.Ins{Op: d.below(22), N: d.below(30)})
			}
		}
		if ok := okPlain(t, p); ok != rightPlain(p) {
			t.Fatalf("is right: %v, %s", ok, plainText(p))
		} else if ok {
			right++
		}
		isRun(t, p, d.below(20), 1+d.below(20))
		number := d.below(20)
		isTell(t, p, number, anyTerm(&d, 3))
		isEnd(t, p, number, anyTerm(&d, 3))
	}
	if right < 300 || right > 1300 {
		t.Error("right ones", right)
	}
}

// Lists that stand in a Plain several times are several in what comes of it.
func TestPlainsWhoseListsAreOne(t *testing.T) {
	one := many(3, lst(num(1), num(2)))
	regs := many(8, tup(one...))
	for _, line := range []string{"say 0", "make 1 0 0", "tuple 0 0 1", "end 0", "take 1", "link 0"} {
		p := impl.Plain{Code: linesOf(t, line, "jump 0"), Next: 3, Out: slices.Repeat([]impl.Said{{Kind: 2, Pid: 1, T: lst(one...)}}, 20)}
		shared := []int{2, 70}
		p.Actors = []impl.Actor{{Pid: 1, Regs: regs, Box: regs, Links: shared}, {Pid: 2, Regs: regs, Box: one, Links: []int{1, 70}}}
		ahead := dupPlain(p)
		check := func(got impl.Plain, ok bool, want impl.Plain, right bool) {
			t.Helper()
			lists, _ := spansOfPlain(got)
			if ok != right || !samePlain(got, want) || meet(slices.Concat(lists, []span{spanOf(one), spanOf(one[0].L), spanOf(regs), spanOf(shared)})) {
				t.Fatalf("%q of lists that are one: %v %s", line, ok, plainText(got))
			}
			if !samePlain(p, ahead) {
				t.Fatal("an argument was written")
			}
		}
		for _, n := range []int{1, 5, 20, 21} {
			got, ok := impl.PlainRun(p, 0, n)
			want, right := runBy(p, 0, n)
			check(got, ok, want, right)
		}
		for number := 1; number <= 3; number++ {
			got, ok := impl.PlainTell(p, number, regs[0])
			want, right := tellBy(p, number, regs[0])
			check(got, ok, want, right)
			got, ok = impl.PlainEnd(p, number, regs[0])
			want, right = endBy(p, number, regs[0])
			check(got, ok, want, right)
		}
		got, ok := impl.PlainNew(p.Code, regs[0])
		check(got, ok, impl.Plain{Code: p.Code, Next: 2, Actors: []impl.Actor{standing(1, regs[0])}, Out: []impl.Said{{Kind: 1, Pid: 1, T: regs[0]}}}, true)
	}
}

// Terms of any depth, or that come round to themselves, are refused, wherever they stand.
func TestPlainsWithTermsWithoutEnd(t *testing.T) {
	twice := num(1)
	for range 60 {
		twice = tup(twice, twice)
	}
	for _, y := range []impl.Term{round(impl.TTuple, true, num(1)), round(impl.TList, false, num(2)), nested(100000, tup, num(1)), twice} {
		p := plainOf(t, 2, "say 0", "jump 0")
		if got, ok := impl.PlainNew(p.Code, y); ok || !samePlain(got, impl.Plain{}) {
			t.Fatal("new", ok)
		}
		for _, number := range []int{0, 1, 2, 3} {
			got, ok := impl.PlainTell(p, number, y)
			isStill(t, p, got, ok)
			got, ok = impl.PlainEnd(p, number, y)
			isStill(t, p, got, ok)
		}
		for k := range 3 {
			q := dupPlain(p)
			switch k {
			case 0:
				q.Actors[1].Regs[3] = y
			case 1:
				q.Actors[0].Box = many(30, y)
			case 2:
				q.Out[1].T = y
			}
			got, ok := impl.PlainRun(q, 0, 3)
			gotTold, told := impl.PlainTell(q, 1, num(1))
			gotEnded, done := impl.PlainEnd(q, 1, num(1))
			if impl.PlainOk(q) || ok || told || done {
				t.Fatal("not refused")
			}
			for _, x := range []impl.Plain{got, gotTold, gotEnded} {
				if len(x.Actors) != 2 || len(x.Out) != 2 || x.Next != 3 || !impl.SameTerm(x.Actors[1].Regs[3], q.Actors[1].Regs[3]) || !impl.SameTerm(lst(x.Actors[0].Box...), lst(q.Actors[0].Box...)) || !impl.SameTerm(x.Out[1].T, q.Out[1].T) {
					t.Fatal("not as it was")
				}
			}
		}
	}
}

// What was answered ahead stays as it was, whatever is done to what comes behind it.
func TestPlainsShareNothing(t *testing.T) {
	l := linesOf(t, "make 1 0 2", "link 1", "tuple 2 0 2", "send 1 2", "say 2", "jump 2")
	p, _ := impl.PlainNew(l, lst(num(1), tup(num(2))))
	one, _ := impl.PlainRun(p, 0, 7)
	kept := dupPlain(one)
	want, _ := runBy(one, 1, 5)
	two, _ := impl.PlainRun(one, 1, 5)
	told, _ := impl.PlainTell(one, 2, lst(num(4)))
	gone, _ := impl.PlainEnd(one, 1, lst(num(5)))
	still, _ := impl.PlainRun(one, -1, 5)
	for _, x := range []impl.Plain{p, two, told, gone, still} {
		for _, a := range x.Actors {
			for _, y := range slices.Concat(a.Regs, a.Box) {
				clear(y.L)
			}
			clear(a.Regs[:cap(a.Regs)])
			clear(a.Box[:cap(a.Box)])
			clear(a.Links[:cap(a.Links)])
		}
		for _, y := range x.Out {
			clear(y.T.L)
		}
		clear(x.Actors[:cap(x.Actors)])
		clear(x.Out[:cap(x.Out)])
		clear(x.Code[:cap(x.Code)])
	}
	if again, _ := impl.PlainRun(one, 1, 5); !samePlain(one, kept) || !samePlain(again, want) {
		t.Error("an answer turned", plainText(one), plainText(again))
	}
}

// The shared tests find a delete in other layers, too.
func TestActorsStandInAMap(t *testing.T) {
	f, err := parser.ParseFile(token.NewFileSet(), "../impl/l11_plain.go", nil, 0)
	if err != nil {
		t.Fatal(err)
	}
	maps, deletes := 0, 0
	ast.Inspect(f, func(n ast.Node) bool {
		switch x := n.(type) {
		case *ast.MapType:
			if key, ok := x.Key.(*ast.Ident); ok && key.Name == "int" {
				maps++
			}
		case *ast.CallExpr:
			if id, ok := x.Fun.(*ast.Ident); ok && id.Name == "delete" {
				deletes++
			}
		}
		return true
	})
	if maps == 0 || deletes == 0 {
		t.Error("maps by Pid:", maps, "deletes:", deletes)
	}
}
