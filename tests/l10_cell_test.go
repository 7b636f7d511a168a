package tests

import (
	"fmt"
	"go/ast"
	"go/parser"
	"go/token"
	"math"
	"slices"
	"strings"
	"testing"

	"loop.example/g00248/impl"
)

const mostRoom = 2000

// lodger is a cell with its heap; the words that lead into that are the cell's, whatever roots stand there.
type lodger struct {
	c impl.Cell
	b brood
}

func (x lodger) String() string { return fmt.Sprintf("%+v on %v", x.c, x.heap()) }

func dupCell(c impl.Cell) impl.Cell {
	c.Regs, c.Box, c.Links = slices.Clone(c.Regs), slices.Clone(c.Box), slices.Clone(c.Links)
	return c
}

func sameCell(a, b impl.Cell) bool {
	return a.Pid == b.Pid && a.Pc == b.Pc && slices.Equal(a.Regs, b.Regs) && slices.Equal(a.Box, b.Box) && slices.Equal(a.Links, b.Links) && a.At == b.At
}

func (x lodger) clone() lodger { return lodger{dupCell(x.c), x.b.clone()} }

func (x lodger) same(y lodger) bool { return sameCell(x.c, y.c) && x.heap().same(y.heap()) }

func (x lodger) heap() brood { return x.b.with(slices.Concat(x.c.Regs, x.c.Box)...) }

// on is the cell of x on b, the roots of which are its words.
func (x lodger) on(b brood) lodger {
	n := len(x.c.Regs)
	x = lodger{dupCell(x.c), b.clone()}
	x.c.Regs, x.c.Box = slices.Clone(b.roots[:n]), slices.Clone(b.roots[n:])
	return x
}

// right is CellOk by the chapter.
func (x lodger) right(l []impl.Ins) bool {
	a := impl.Actor{Pid: x.c.Pid, Pc: x.c.Pc, Regs: many(len(x.c.Regs), num(0)), Box: many(len(x.c.Box), num(0)), Links: x.c.Links}
	return rightActor(l, a) && x.heap().right()
}

// actor is ActorOf by the chapter.
func (x lodger) actor() (impl.Actor, bool) {
	a := impl.Actor{Pid: x.c.Pid, Pc: x.c.Pc, Links: x.c.Links}
	for i, w := range slices.Concat(x.c.Regs, x.c.Box) {
		y, ok := x.b.termOf(w)
		if !ok {
			return impl.Actor{}, false
		}
		if i < len(x.c.Regs) {
			a.Regs = append(a.Regs, y)
		} else {
			a.Box = append(a.Box, y)
		}
	}
	return a, true
}

// sweptBy is a sweep by the chapter; what is refused is as it was.
func sweptBy(b brood, minor bool) brood {
	if b.clean() {
		if next := b.swept(minor); len(next.old) <= mostGen {
			return next
		}
		return b.clone()
	}
	f := impl.Major
	if minor {
		f = impl.Minor
	}
	g, roots, _ := f(b.gens(), b.atoms, b.roots)
	return brood{g.Old, g.Young, g.Mark, b.atoms, roots}.clone()
}

// tidyBy is Tidy by the chapter.
func tidyBy(b brood, need int, room int) (brood, bool) {
	if need < 0 || need > mostRoom || room < 0 || room > mostRoom || !b.right() {
		return b, false
	}
	next := b
	for _, minor := range []bool{true, false} {
		if len(next.old)+len(next.young)+need > room {
			next = sweptBy(next, minor)
		}
	}
	if len(next.old)+len(next.young)+need > room || len(next.young)+need > mostGen {
		return b, false
	}
	return next, true
}

// needBy is how many words an instruction makes, and whether it makes some.
func needBy(x impl.Ins) (int, bool) {
	switch x.Op {
	case impl.OpTuple:
		return x.N + 1, true
	case impl.OpCons:
		return 2, true
	}
	return 0, false
}

// stepCellBy is StepCell by the chapter.
func stepCellBy(l []impl.Ins, was lodger, next int, room int) (lodger, impl.Act, bool) {
	if !was.right(l) || next < 1 || next > mostPid || room < 0 || room > mostRoom {
		return was, impl.Act{}, false
	}
	x, ins := was.clone(), l[was.c.Pc]
	if need, some := needBy(ins); some {
		b, ok := tidyBy(x.heap(), need, room)
		if !ok {
			return was, impl.Act{}, false
		}
		x = x.on(b)
	}
	a, _ := x.actor()
	after, act := stepBy(l, a, next)
	if act.Kind == impl.ActWait || act.Kind == impl.ActEnd {
		return x, act, true
	}
	x.c.Pc = after.Pc
	w, young, ok := wordBy(&x, ins, next)
	if !ok {
		return was, impl.Act{}, false
	}
	x.c.Regs[ins.A] = w
	x.b.young = append(x.b.young, young...)
	return x, act, true
}

// wordBy is the word in A behind a step that is no fault, and the words that are made; false of an atom that has no room.
func wordBy(x *lodger, ins impl.Ins, next int) (int, []int, bool) {
	r, at := x.c.Regs, len(x.b.young)
	place := r[ins.B%8] >> 3
	switch ins.Op {
	case impl.OpInt:
		return wInt(ins.N), nil, true
	case impl.OpAtom:
		k := slices.Index(x.b.atoms, ins.S)
		if k < 0 && len(x.b.atoms) < mostAtoms {
			k = len(x.b.atoms)
			x.b.atoms = append(x.b.atoms, ins.S)
		}
		return wAtom(k), nil, k >= 0
	case impl.OpNil:
		return wNil, nil, true
	case impl.OpMove:
		return r[ins.B], nil, true
	case impl.OpTuple:
		return yTuple(at), slices.Concat([]int{ins.N}, r[ins.B:ins.B+ins.N]), true
	case impl.OpCons:
		return yCons(at), []int{r[ins.B], r[ins.C]}, true
	case impl.OpElem:
		return x.b.at(place + 1 + ins.N), nil, true
	case impl.OpHead:
		return x.b.at(place), nil, true
	case impl.OpTail:
		return x.b.at(place + 1), nil, true
	case impl.OpAdd:
		return r[ins.B] + r[ins.C] - wInt(0), nil, true
	case impl.OpTake:
		w := x.c.Box[0]
		x.c.Box = slices.Clone(x.c.Box[1:])
		return w, nil, true
	case impl.OpSelf:
		return wPid(x.c.Pid), nil, true
	case impl.OpMake:
		return wPid(next), nil, true
	}
	return r[ins.A], nil, true
}

// letting are the lists of a lodger and its code that are lent, each with spare room behind it, and as they were.
type letting struct {
	rooms, ahead [][]int
	atoms, names []string
	lending
}

func (x *letting) ints(l []int) []int {
	room := slices.Concat(l, []int{-1, wNil, yTuple(0)})
	x.rooms, x.ahead = append(x.rooms, room), append(x.ahead, slices.Clone(room))
	return room[:len(l)]
}

func (x *letting) cell(c impl.Cell) impl.Cell {
	c.Regs, c.Box, c.Links = x.ints(c.Regs), x.ints(c.Box), x.ints(c.Links)
	return c
}

func (x *letting) heap(b brood) (impl.Gens, []string) {
	x.atoms = slices.Concat(b.atoms, spareAtoms)
	for i, s := range x.atoms {
		x.atoms[i] = strings.Clone(s)
	}
	x.names = slices.Clone(x.atoms)
	return impl.Gens{Old: x.ints(b.old), Young: x.ints(b.young), Mark: b.mark}, x.atoms[:len(b.atoms)]
}

// untouched asks that nothing was written into what was lent.
func (x *letting) untouched(t *testing.T) {
	t.Helper()
	same := slices.Equal(x.atoms, x.names) && x.lending.untouched()
	for i, room := range x.rooms {
		same = same && slices.Equal(room, x.ahead[i])
	}
	if !same {
		t.Fatal("an argument, or the room behind it, was written")
	}
}

// isNew asks for an answer whose lists share memory neither with each other nor with what was lent, have nothing behind them, and whose terms have texts of their own.
func (x *letting) isNew(t *testing.T, lists [][]int, atoms []string, terms ...[]impl.Term) {
	t.Helper()
	x.untouched(t)
	spans, texts := []span{spanOf(atoms), spanOf(x.atoms), spanOf(x.code)}, []span{}
	for _, l := range lists {
		spans = append(spans, spanOf(l))
		for _, w := range l[len(l):cap(l)] {
			if w != 0 {
				t.Fatal("behind an answered list stands", w)
			}
		}
	}
	for _, s := range atoms[len(atoms):cap(atoms)] {
		if s != "" {
			t.Fatal("behind the answered atoms stands", s)
		}
	}
	for _, l := range x.rooms {
		spans = append(spans, spanOf(l))
	}
	for _, l := range terms {
		in, inTexts := spansOf(l)
		spans, texts = append(spans, in...), append(texts, inTexts...)
	}
	if meet(spans) {
		t.Fatal("an answer shares memory")
	}
	lent := []span{}
	for _, s := range x.atoms {
		lent = append(lent, textSpan(s))
	}
	if meetOthers(texts, lent) {
		t.Fatal("a text of an answer is one that was handed in")
	}
}

func rootsOf(t *testing.T, c impl.Cell) []int {
	t.Helper()
	var x letting
	roots := impl.RootsOf(x.cell(c))
	x.isNew(t, [][]int{roots}, nil)
	return roots
}

func okCell(t *testing.T, l []impl.Ins, y lodger) bool {
	t.Helper()
	var x letting
	g, atoms := x.heap(y.b)
	ok := impl.CellOk(x.lines(l), x.cell(y.c), g, atoms)
	x.untouched(t)
	return ok
}

func actorOf(t *testing.T, y lodger) (impl.Actor, bool) {
	t.Helper()
	var x letting
	g, atoms := x.heap(y.b)
	a, ok := impl.ActorOf(x.cell(y.c), g, atoms)
	x.isNew(t, [][]int{a.Links}, nil, a.Regs, a.Box)
	return a, ok
}

func tidyOf(t *testing.T, b brood, need int, room int) (brood, bool) {
	t.Helper()
	var x letting
	g, atoms := x.heap(b)
	g, roots, ok := impl.Tidy(g, atoms, x.ints(b.roots), need, room)
	x.isNew(t, [][]int{g.Old, g.Young, roots}, nil)
	return brood{g.Old, g.Young, g.Mark, b.atoms, roots}.clone(), ok
}

func stepCellOf(t *testing.T, l []impl.Ins, y lodger, next int, room int) (lodger, impl.Act, bool) {
	t.Helper()
	var x letting
	g, atoms := x.heap(y.b)
	c, g, atoms, act, ok := impl.StepCell(x.lines(l), x.cell(y.c), g, atoms, next, room)
	x.isNew(t, [][]int{c.Regs, c.Box, c.Links, g.Old, g.Young}, atoms, []impl.Term{act.T})
	return lodger{c, brood{g.Old, g.Young, g.Mark, atoms, nil}}.clone(), act, ok
}

// isActorOf holds ActorOf against the chapter.
func isActorOf(t *testing.T, x lodger) {
	t.Helper()
	want, right := x.actor()
	if a, ok := actorOf(t, x); ok != right || !sameActor(a, want) {
		t.Fatalf("the actor of %v is %v %v, not %v", x, a, ok, want)
	}
}

// isTidy holds Tidy against the chapter; each root is the same term behind it.
func isTidy(t *testing.T, b brood, need int, room int) (brood, bool) {
	t.Helper()
	want, right := tidyBy(b, need, room)
	got, ok := tidyOf(t, b, need, room)
	if ok != right || !got.same(want) {
		t.Fatalf("tidied for %d in %d is %v:\n%v %v, not\n%v %v", need, room, b, got, ok, want, right)
	}
	if ok && (!got.right() || !impl.GensOk(got.gens(), got.atoms, got.roots) || !sameTerms(got.terms(), b.terms())) {
		t.Fatalf("tidied for %d in %d: other terms of %v", need, room, got)
	}
	return got, ok
}

// isCellStep holds a step against the chapter, and against what the actor does that the cell is; a step is answered by each of these.
func isCellStep(t *testing.T, l []impl.Ins, x lodger, next int, room int) (lodger, impl.Act, bool) {
	t.Helper()
	want, wantAct, right := stepCellBy(l, x, next, room)
	got, act, ok := stepCellOf(t, l, x, next, room)
	if ok != right || !got.same(want) || !sameAct(act, wantAct) {
		t.Fatalf("%v with next %d in room %d of %v\nis %v, %v, %v\nnot %v, %v, %v", l, next, room, x, got, act, ok, want, wantAct, right)
	}
	if !ok {
		return got, act, ok
	}
	a, _ := actorOf(t, x)
	behind, did := impl.StepActor(l, a, next)
	if b, is := actorOf(t, got); !is || !sameActor(b, behind) || !sameAct(act, did) {
		t.Fatalf("%q of %v is %v, %v\nof its actor %v, %v", impl.InsText(l[x.c.Pc]), x, b, act, behind, did)
	}
	if !impl.CellOk(l, got.c, got.b.gens(), got.b.atoms) || got.c.At != x.c.At {
		t.Fatalf("not right behind %q: %v", impl.InsText(l[x.c.Pc]), got)
	}
	return got, act, ok
}

// isCell asks for a right cell, which does its step.
func isCell(t *testing.T, l []impl.Ins, x lodger) {
	t.Helper()
	if !okCell(t, l, x) || !x.right(l) {
		t.Fatalf("not right: %v", x)
	}
	isActorOf(t, x)
	for _, room := range []int{0, 100, mostRoom} {
		isCellStep(t, l, x, 9, room)
	}
}

// isNoCell asks for a refusal: all as it was, and the zero Act.
func isNoCell(t *testing.T, l []impl.Ins, x lodger) {
	t.Helper()
	if okCell(t, l, x) || x.right(l) {
		t.Fatalf("right: %v", x)
	}
	isActorOf(t, x)
	isRefusedCell(t, l, x, 9, mostRoom)
}

func isRefusedCell(t *testing.T, l []impl.Ins, x lodger, next int, room int) {
	t.Helper()
	if got, act, ok := isCellStep(t, l, x, next, room); ok || !got.same(x) || !sameAct(act, impl.Act{}) {
		t.Fatalf("refused, but %v, %v of %v", got, act, x)
	}
}

// lodge is a cell of these terms on a heap of its own, put one by one.
func lodge(t *testing.T, a impl.Actor) lodger {
	t.Helper()
	x := lodger{c: impl.Cell{Pid: a.Pid, Pc: a.Pc, Links: slices.Clone(a.Links), At: 17}}
	for _, y := range a.Regs {
		x.c.Regs = append(x.c.Regs, x.put(t, y))
	}
	for _, y := range a.Box {
		x.c.Box = append(x.c.Box, x.put(t, y))
	}
	return x
}

func (x *lodger) put(t *testing.T, y impl.Term) int {
	t.Helper()
	g, atoms, w, ok := impl.GensPut(x.b.gens(), x.b.atoms, y)
	if !ok {
		t.Fatalf("no room for %v", y)
	}
	x.b = brood{g.Old, g.Young, g.Mark, atoms, nil}
	return w
}

// aged are x as it is, behind a Minor, behind two, and behind a Major.
func (x lodger) aged() []lodger {
	minor := sweptBy(x.heap(), true)
	return []lodger{x, x.on(minor), x.on(sweptBy(minor, true)), x.on(sweptBy(x.heap(), false))}
}

// intsOf are n words of numbers.
func intsOf(n int) []int { return slices.Repeat([]int{wInt(0)}, n) }

// plainCell is a right cell without any heap.
func plainCell() lodger { return lodger{c: impl.Cell{Pid: 3, Regs: intsOf(8), At: 5}} }

func TestRootsInTheirOrder(t *testing.T) {
	for regs := range 11 {
		for _, box := range []int{0, 1, 2, 30, 31, 100} {
			c := impl.Cell{Pid: 1, Pc: 2, Links: []int{901, 902}, At: 903}
			want := []int{}
			for i := range regs + box {
				want = append(want, 1000-7*i)
			}
			c.Regs, c.Box = want[:regs:regs], want[regs:]
			if got := rootsOf(t, c); !slices.Equal(got, want) {
				t.Fatal(got, want)
			}
		}
	}
	// whatever these words are
	c := impl.Cell{Regs: []int{-1, math.MinInt}, Box: []int{math.MaxInt, 7, -1}}
	if got := rootsOf(t, c); !slices.Equal(got, []int{-1, math.MinInt, math.MaxInt, 7, -1}) {
		t.Error(got)
	}
	if got := rootsOf(t, impl.Cell{}); len(got) != 0 {
		t.Error(got)
	}
}

func TestEachWordAsItsTerm(t *testing.T) {
	a := impl.Actor{Pid: 7, Pc: 3, Regs: termOf(t, eight).L, Box: termOf(t, "[[a,b],{c,#61},5,[]]").L, Links: []int{1, 5}}
	for i, x := range lodge(t, a).aged() {
		if got, ok := actorOf(t, x); !ok || !sameActor(got, a) {
			t.Error(i, got)
		}
		isActorOf(t, x)
	}
	d := dice(10)
	for range 300 {
		a := impl.Actor{Pid: d.below(9), Pc: d.below(9) - 3, Links: links(d.below(5), d.below(4))}
		for range d.below(12) {
			a.Regs = append(a.Regs, anyTerm(&d, 3))
		}
		for range d.below(12) {
			a.Box = append(a.Box, anyTerm(&d, 3))
		}
		for _, x := range lodge(t, a).aged() {
			if got, ok := actorOf(t, x); !ok || !sameActor(got, a) {
				t.Fatal(got, a)
			}
		}
	}
}

// The actor of a cell asks for terms alone: numbers, lists and ages may be any.
func TestActorsOfCellsThatAreNotRight(t *testing.T) {
	x := lodger{impl.Cell{Pid: -4, Pc: math.MaxInt, Links: []int{9, 9, -1}, At: -1}, brood{mark: -7, atoms: []string{"a", "a"}}}
	isActorOf(t, x)
	x.c.Regs, x.c.Box = intsOf(11), intsOf(40)
	isActorOf(t, x)
	x.c.Regs = []int{wTuple(0), yTuple(0), wAtom(1)}
	x.b.old, x.b.young = append([]int{1, yTuple(0)}, make([]int, 1500)...), append([]int{0}, make([]int, 1500)...)
	isActorOf(t, x)
	if a, ok := actorOf(t, x); !ok || impl.TermText(tup(a.Regs...)) != "{{{}},{},a}" {
		t.Error(a, ok)
	}
	right := lodge(t, impl.Actor{Pid: 1, Regs: termOf(t, eight).L, Box: termOf(t, "[[1],{a},5]").L})
	for _, w := range append(slices.Clone(noWords), wInt(1000001), wAtom(9), wPid(100000), wNil+8, wTuple(0), wCons(3), wBin(0), yTuple(len(right.b.young)), yCons(len(right.b.young)-1), yBin(1000)) {
		for i := range right.c.Regs {
			y := right.clone()
			y.c.Regs[i] = w
			isNoActorOf(t, y)
		}
		for i := range right.c.Box {
			y := right.clone()
			y.c.Box[i] = w
			isNoActorOf(t, y)
		}
	}
	right.b.atoms = []string{"A", "a", "b"}
	isNoActorOf(t, right)
}

func isNoActorOf(t *testing.T, x lodger) {
	t.Helper()
	if a, ok := actorOf(t, x); ok || !sameActor(a, impl.Actor{}) {
		t.Fatalf("the actor of %v is %v", x, a)
	}
	isActorOf(t, x)
}

func TestPidsAndPlacesOfCells(t *testing.T) {
	x := plainCell()
	for _, line := range []string{"self 1", "make 2 0 1", "tuple 0 0 2", "cons 0 0 0", "end 0"} {
		l := linesOf(t, line, "end 0")
		for _, x.c.Pid = range []int{1, 2, 99998, 99999} {
			isCell(t, l, x)
		}
		for _, x.c.Pid = range []int{math.MinInt, -1, 0, 100000, 100001, 1<<32 + 1, math.MaxInt} {
			isNoCell(t, l, x)
		}
		x.c.Pid = 3
		for _, next := range []int{1, 2, 3, 99998, 99999} {
			isCellStep(t, l, x, next, 50)
		}
		for _, next := range []int{math.MinInt, -1, 0, 100000, 100001, 1<<32 + 1, math.MaxInt} {
			isRefusedCell(t, l, x, next, 50)
		}
		for _, x.c.At = range []int{math.MinInt, -1, 0, 4000, math.MaxInt} {
			isCell(t, l, x)
		}
	}
	for _, n := range []int{1, 2, 57, 200} {
		l := endless(n)
		for x.c.Pc = range n {
			isCell(t, l, x)
		}
		for _, x.c.Pc = range []int{-1, n, n + 1, 256, math.MinInt, math.MaxInt} {
			isNoCell(t, l, x)
		}
	}
}

func TestHowManyWordsACellMayHave(t *testing.T) {
	for _, line := range []string{"take 0", "tuple 1 0 3", "cons 0 0 1", "end 2", "head 0 0"} {
		l := linesOf(t, line, "jump 1")
		for _, w := range []int{wInt(4), wAtom(0), wNil, yTuple(0), wTuple(0)} {
			x := plainCell()
			x.b = brood{[]int{1, wInt(5)}, []int{0}, 1, []string{"a"}, nil}
			for n := range 20 {
				if x.c.Regs = slices.Repeat([]int{w}, n); n == 8 {
					isCell(t, l, x)
				} else {
					isNoCell(t, l, x)
				}
			}
			x.c.Regs = slices.Repeat([]int{w}, 8)
			for _, n := range []int{0, 1, 2, 29, 30, 31, 32, 100} {
				if x.c.Box = slices.Repeat([]int{w}, n); n <= 30 {
					isCell(t, l, x)
				} else {
					isNoCell(t, l, x)
				}
			}
			x.c.Box = nil
			for _, n := range []int{0, 1, 49, 50, 51, 52, 1000} {
				if x.c.Links = links(4, n); n <= 50 {
					isCell(t, l, x)
				} else {
					isNoCell(t, l, x)
				}
			}
		}
	}
	isNoCell(t, linesOf(t, "end 0"), lodger{})
}

func TestWhichLinksACellMayHave(t *testing.T) {
	l := linesOf(t, "cons 0 1 2", "end 0")
	x := plainCell()
	x.c.Pid, x.c.Regs[2] = 50, wNil
	for _, x.c.Links = range [][]int{{}, {1}, {99999}, {1, 99999}, {49, 51}} {
		isCell(t, l, x)
	}
	for _, x.c.Links = range [][]int{{0}, {-1}, {100000}, {math.MaxInt}, {0, 1}, {1, 1}, {2, 1}, {1, 2, 2}, {50}, {1, 50}, {49, 50, 51}} {
		isNoCell(t, l, x)
	}
}

func TestCellsOfWhatIsNoCode(t *testing.T) {
	x := lodge(t, impl.Actor{Pid: 4, Regs: termOf(t, eight).L, Box: many(3, lst(num(1))), Links: []int{1, 9}})
	for _, l := range [][]impl.Ins{
		nil, {}, {{}}, {{Op: 21}}, {{Op: -1}}, {{Op: impl.OpTake}}, {{Op: impl.OpTuple, N: 1}}, {{Op: impl.OpCons}, {Op: impl.OpTake}}, {{Op: impl.OpEnd, A: 8}}, {{Op: impl.OpEnd, B: 1}},
		{{Op: impl.OpTuple, B: 5, N: 4}, {Op: impl.OpEnd}}, {{Op: impl.OpTuple, N: 9}, {Op: impl.OpEnd}}, {{Op: impl.OpTuple, N: -1}, {Op: impl.OpEnd}}, {{Op: impl.OpCons, C: 8}, {Op: impl.OpEnd}}, {{Op: impl.OpCons, B: -1}, {Op: impl.OpEnd}},
		{{Op: impl.OpElem, N: 8}, {Op: impl.OpEnd}}, {{Op: impl.OpAtom, S: "A"}, {Op: impl.OpEnd}}, {{Op: impl.OpCons, A: math.MaxInt}, {Op: impl.OpEnd}}, {{Op: impl.OpJump, N: 1}}, {{Op: math.MinInt}, {Op: impl.OpEnd}},
		{{Op: impl.OpEnd}, {}, {Op: impl.OpEnd}}, endless(201), slices.Repeat([]impl.Ins{{Op: impl.OpEnd}}, 201),
	} {
		isNoCell(t, l, x)
	}
	isCell(t, endless(200), x)
}

// What is no word of a term of this heap, in each register, and wherever it waits.
func TestWordsOfCellsThatAreNone(t *testing.T) {
	right := lodge(t, impl.Actor{Pid: 4, Regs: termOf(t, eight).L, Box: termOf(t, "[[1],{a},5]").L})
	wrong := append(slices.Clone(noWords), wInt(1000001), wAtom(2), wPid(100000), wNil+8, wTuple(0), wCons(3), wBin(0), yTuple(len(right.b.young)), yCons(len(right.b.young)-1), yBin(1000))
	for _, line := range []string{"nil 0", "move 1 1", "tuple 0 0 0", "cons 0 1 6", "end 1"} {
		l := linesOf(t, line, "jump 0")
		isCell(t, l, right)
		for _, w := range wrong {
			for i := range right.c.Regs {
				x := right.clone()
				x.c.Regs[i] = w
				isNoCell(t, l, x)
			}
			for i := range right.c.Box {
				x := right.clone()
				x.c.Box[i] = w
				isNoCell(t, l, x)
			}
		}
	}
}

// wrongHeaps are no GensOk, though each root is a term there.
func wrongHeaps() []brood {
	fine := brood{[]int{1, wInt(5)}, []int{1, wTuple(0), 0}, 2, []string{"a"}, []int{yTuple(0), yTuple(2), wAtom(0)}}
	list := []brood{}
	for _, mark := range []int{-1, 4, math.MinInt, math.MaxInt} {
		b := fine.clone()
		b.mark = mark
		list = append(list, b)
	}
	for _, atoms := range [][]string{{"a", "a"}, {"a", "B"}, {"a", ""}, atomsOf(mostAtoms + 1)} {
		b := fine.clone()
		b.atoms = atoms
		list = append(list, b)
	}
	for _, x := range []struct{ old, young int }{{mostGen + 1, 9}, {9, mostGen + 1}, {mostGen + 1, mostGen + 1}} {
		b := fine.clone()
		b.old, b.young = append(b.old, make([]int, x.old-2)...), append(b.young, make([]int, x.young-3)...)
		list = append(list, b)
	}
	old, young := fine.clone(), fine.clone()
	old.old, old.roots = []int{1, yTuple(2)}, []int{wTuple(0)}
	young.young[1] = yTuple(2)
	return append(list, old, young)
}

func TestHeapsOfCellsThatAreNotRight(t *testing.T) {
	for _, b := range wrongHeaps() {
		for _, line := range []string{"nil 0", "move 1 2", "tuple 0 0 2", "cons 0 1 3", "end 1", "take 0"} {
			l := linesOf(t, line, "jump 0")
			x := plainCell()
			x.b = b
			copy(x.c.Regs, b.roots)
			isNoCell(t, l, x)
			x = plainCell()
			x.b, x.c.Box = b, b.roots
			isNoCell(t, l, x)
		}
	}
}

// heapOfSix has six parts: what is old and live, and old and dead; the same of what has outlived a sweep, and of what has not. What is dead stands ahead.
func heapOfSix(old, oldDead, marked, markedDead, fresh, freshDead int) brood {
	b := brood{}
	part := func(list []int, place int, n int, dead int) []int {
		words, roots := bins(place+len(list)+dead, n)
		b.roots = append(b.roots, roots...)
		return slices.Concat(list, make([]int, dead), words)
	}
	b.old = part(nil, 0, old, oldDead)
	b.young = part(nil, youngest, marked, markedDead)
	b.mark = len(b.young)
	b.young = part(b.young, youngest, fresh, freshDead)
	return b
}

// isTidyOf asks for room that is made, with so many words then.
func isTidyOf(t *testing.T, b brood, need, room, old, young, mark int) {
	t.Helper()
	got, ok := isTidy(t, b, need, room)
	if !ok || len(got.old) != old || len(got.young) != young || got.mark != mark {
		t.Errorf("tidied for %d in %d is %v: %d and %d words, mark %d, not %d, %d, %d", need, room, ok, len(got.old), len(got.young), got.mark, old, young, mark)
	}
}

func isNotTidy(t *testing.T, b brood, need int, room int) {
	t.Helper()
	if got, ok := isTidy(t, b, need, room); ok || !got.same(b) {
		t.Errorf("tidied for %d in %d of %d and %d words: %v, %d and %d words", need, room, len(b.old), len(b.young), ok, len(got.old), len(got.young))
	}
}

func TestRoomOfJustSoMuchAndOneLess(t *testing.T) {
	for _, x := range [][6]int{{3, 4, 5, 6, 7, 8}, {1, 1, 1, 1, 1, 1}, {50, 60, 41, 42, 90, 7}, {300, 200, 100, 90, 80, 200}, {0, 9, 0, 9, 0, 9}, {20, 5, 0, 0, 0, 5}, {0, 1, 0, 0, 500, 400}} {
		b := heapOfSix(x[0], x[1], x[2], x[3], x[4], x[5])
		minor := x[0] + x[1] + x[2]
		live := x[0] + x[2] + x[4]
		all := len(b.old) + len(b.young)
		for _, need := range []int{0, 1, 2, 9, 50} {
			if all+need <= mostRoom {
				isTidyOf(t, b, need, all+need, len(b.old), len(b.young), b.mark)
				isTidyOf(t, b, need, all+need+1, len(b.old), len(b.young), b.mark)
				isTidyOf(t, b, need, mostRoom, len(b.old), len(b.young), b.mark)
			}
			isTidyOf(t, b, need, all+need-1, minor, x[4], x[4])
			isTidyOf(t, b, need, minor+x[4]+need, minor, x[4], x[4])
			isTidyOf(t, b, need, minor+x[4]+need-1, live, 0, 0)
			isTidyOf(t, b, need, live+need, live, 0, 0)
			isNotTidy(t, b, need, live+need-1)
			isNotTidy(t, b, need+1, live+need)
		}
	}
	// all of it lives: nothing is gained, so that it stays
	b := heapOfSix(10, 0, 10, 0, 10, 0)
	isTidyOf(t, b, 5, 35, 10, 20, 10)
	isNotTidy(t, b, 5, 34)
	// nothing is there, and nothing is needed
	isTidyOf(t, brood{}, 0, 0, 0, 0, 0)
	isNotTidy(t, brood{}, 1, 0)
	isTidyOf(t, brood{roots: []int{wInt(1), wNil}}, 1, 1, 0, 0, 0)
}

// The Major is one of what is behind the Minor.
func TestAMajorOfWhatIsBehindAMinor(t *testing.T) {
	b := brood{young: []int{0, 2, 97, 98, 1, yBin(1), 9}, mark: 1, roots: []int{yTuple(4), yTuple(0)}}
	got, ok := isTidy(t, b, 3, 9)
	if !ok || !slices.Equal(got.old, []int{0}) || !slices.Equal(got.young, []int{1, yBin(2), 2, 97, 98}) || !slices.Equal(got.roots, []int{yTuple(0), wTuple(0)}) {
		t.Error("behind a Minor", got)
	}
	b.old = []int{9, 9}
	if got, ok = isTidy(t, b, 3, 9); !ok || !slices.Equal(got.old, []int{1, wBin(2), 2, 97, 98, 0}) || !slices.Equal(got.roots, []int{wTuple(0), wTuple(5)}) {
		t.Error("behind a Major", got)
	}
	// two that stand on one word, below Mark and above it, are parted by the Minor, so that there are three words behind both; a Major alone leaves two
	b = brood{old: []int{9}, young: []int{1, 0}, mark: 1, roots: []int{yTuple(1), yTuple(0)}}
	if n := liveIn(t, b); n != 2 {
		t.Fatal("the test is wrong:", n)
	}
	isTidyOf(t, b, 1, 4, 1, 2, 1)
	isNotTidy(t, b, 1, 3)
	b.old = []int{9, 9}
	isTidyOf(t, b, 1, 4, 3, 0, 0)
}

func TestSizesOfNeedAndRoom(t *testing.T) {
	small := heapOfSix(3, 4, 5, 6, 7, 8)
	for _, b := range []brood{small, {}, {roots: []int{wNil}}} {
		for _, wrong := range []int{-1, -2, mostRoom + 1, mostRoom + 2, math.MinInt, math.MinInt + 1, math.MaxInt - 1, math.MaxInt} {
			isNotTidy(t, b, wrong, mostRoom)
			isNotTidy(t, b, wrong, 0)
			isNotTidy(t, b, 0, wrong)
			isNotTidy(t, b, 5, wrong)
			isNotTidy(t, b, wrong, wrong)
			isNotTidy(t, b, wrong, math.MaxInt)
		}
	}
	isTidyOf(t, small, 0, mostRoom, len(small.old), len(small.young), small.mark)
	isTidyOf(t, brood{}, 0, 0, 0, 0, 0)
	isTidyOf(t, brood{}, 0, mostRoom, 0, 0, 0)
	// as many as may be asked for are more than Young may ever have
	isNotTidy(t, brood{}, mostRoom, mostRoom)
	isNotTidy(t, small, mostRoom, mostRoom)
}

func TestYoungAndWhatIsNeeded(t *testing.T) {
	for _, n := range []int{0, 1, 500, 990, 999, 1000} {
		b := brood{young: make([]int, n)}
		isTidyOf(t, b, mostGen-n, mostRoom, 0, n, 0)
		isTidyOf(t, b, mostGen-n, mostGen, 0, n, 0)
		isNotTidy(t, b, mostGen-n+1, mostRoom)
		isNotTidy(t, b, mostGen-n+1, mostGen+1)
		b.old = make([]int, 1000)
		isTidyOf(t, b, mostGen-n, mostRoom, 1000, n, 0)
	}
	// Young as it is behind the sweep that makes room counts
	b := brood{young: make([]int, 990)}
	isTidyOf(t, b, 20, 1000, 0, 0, 0)
	isTidyOf(t, b, 1000, 1000, 0, 0, 0)
	isNotTidy(t, b, 1001, 1001)
	isNotTidy(t, b, 1001, mostRoom)
	b = heapOfSix(0, 0, 0, 0, 600, 300)
	isTidyOf(t, b, 400, 1299, 0, 600, 600)
	isNotTidy(t, b, 401, 1300)
	b = heapOfSix(0, 300, 0, 0, 600, 0)
	isTidyOf(t, b, 400, 1299, 600, 0, 0)
	isTidyOf(t, b, 1000, 1899, 600, 0, 0)
	isNotTidy(t, b, 1001, 1899)
}

// A sweep that is refused leaves all as it was; what follows it goes on from there.
func TestSweepsThatHaveNoRoom(t *testing.T) {
	// no Minor, but a Major
	b := heapOfSix(20, 880, 200, 0, 30, 0)
	isRefusedSweep(t, b, impl.Minor, 0)
	isTidyOf(t, b, 10, 1140, 900, 230, 200)
	isTidyOf(t, b, 10, 1139, 250, 0, 0)
	isTidyOf(t, b, 10, 260, 250, 0, 0)
	isNotTidy(t, b, 10, 259)
	// a Minor, but no Major
	b = heapOfSix(600, 0, 0, 0, 500, 100)
	isRefusedSweep(t, b, impl.Major, 1)
	isTidyOf(t, b, 10, 1209, 600, 500, 500)
	isTidyOf(t, b, 10, 1110, 600, 500, 500)
	isNotTidy(t, b, 10, 1109)
	// neither
	b = heapOfSix(900, 0, 200, 50, 0, 50)
	isRefusedSweep(t, b, impl.Minor, 0)
	isRefusedSweep(t, b, impl.Major, 1)
	isTidyOf(t, b, 10, 1210, 900, 300, 250)
	isNotTidy(t, b, 10, 1209)
}

func TestHeapsThatAreNotTidied(t *testing.T) {
	for _, b := range wrongHeaps() {
		for _, room := range []int{0, 5, 100, mostRoom} {
			isNotTidy(t, b, 0, room)
			isNotTidy(t, b, 2, room)
		}
	}
	b := heapOfSix(3, 4, 5, 6, 7, 8)
	for _, w := range append(slices.Clone(noWords), wTuple(1000), yTuple(1000), wAtom(0)) {
		for _, room := range []int{0, 20, 30, mostRoom} {
			isNotTidy(t, b.with(w), 2, room)
			isNotTidy(t, b.with(append(b.roots, w)...), 2, room)
			isNotTidy(t, b.with(append([]int{w}, b.roots...)...), 2, room)
		}
	}
}

func TestTidyByChance(t *testing.T) {
	d := dice(1010)
	same, swept, refused, unclean := 0, 0, 0, 0
	for range 20000 {
		b := anyBrood(&d)
		got, ok := isTidy(t, b, d.below(7), d.below(26))
		switch {
		case !ok:
			refused++
		case got.same(b):
			same++
		default:
			swept++
		}
		if ok && !b.clean() {
			unclean++
		}
	}
	if same < 1000 || swept < 1000 || refused < 1000 || unclean < 300 {
		t.Error("too few of a kind", same, swept, refused, unclean)
	}
}

// The words of eight, put one by one.
var eightWords = []int{wInt(5), wAtom(0), wPid(9), yTuple(0), yCons(5), yBin(11), wNil, yTuple(14)}

var eightYoung = []int{2, wInt(1), yCons(3), wAtom(1), wNil, wInt(7), yCons(7), yTuple(9), wNil, 1, wInt(8), 2, 0, 255, 0}

func TestAStepOfEachOpOnACell(t *testing.T) {
	const fault = "7 0 0 fault"
	for _, x := range []struct {
		line  string
		reg   int
		w     int
		young []int
		pc    int
		act   string
	}{
		{"int 3 -42", 3, wInt(-42), nil, 2, "1 0 0 "},
		{"int 0 1000000", 0, 8 * 2000000, nil, 2, "1 0 0 "},
		{"int 7 -1000000", 7, 0, nil, 2, "1 0 0 "},
		{"atom 4 a", 4, wAtom(1), nil, 2, "1 0 0 "},
		{"atom 4 new", 4, wAtom(2), nil, 2, "1 0 0 "},
		{"nil 3", 3, wNil, nil, 2, "1 0 0 "},
		{"move 0 4", 0, yCons(5), nil, 2, "1 0 0 "},
		{"move 4 0", 4, wInt(5), nil, 2, "1 0 0 "},
		{"move 3 3", 3, yTuple(0), nil, 2, "1 0 0 "},
		{"tuple 0 0 0", 0, yTuple(15), []int{0}, 2, "1 0 0 "},
		{"tuple 1 1 2", 1, yTuple(15), []int{2, wAtom(0), wPid(9)}, 2, "1 0 0 "},
		{"tuple 2 0 8", 2, yTuple(15), append([]int{8}, eightWords...), 2, "1 0 0 "},
		{"tuple 7 7 1", 7, yTuple(15), []int{1, yTuple(14)}, 2, "1 0 0 "},
		{"cons 0 1 4", 0, yCons(15), []int{wAtom(0), yCons(5)}, 2, "1 0 0 "},
		{"cons 6 3 6", 6, yCons(15), []int{yTuple(0), wNil}, 2, "1 0 0 "},
		{"cons 4 4 4", 4, yCons(15), []int{yCons(5), yCons(5)}, 2, "1 0 0 "},
		{"cons 0 4 3", 0, wInt(5), nil, 1, fault},
		{"elem 0 3 0", 0, wInt(1), nil, 2, "1 0 0 "},
		{"elem 3 3 1", 3, yCons(3), nil, 2, "1 0 0 "},
		{"elem 3 3 2", 3, yTuple(0), nil, 1, fault},
		{"elem 0 4 0", 0, wInt(5), nil, 1, fault},
		{"elem 0 7 0", 0, wInt(5), nil, 1, fault},
		{"head 0 4", 0, wInt(7), nil, 2, "1 0 0 "},
		{"head 0 6", 0, wInt(5), nil, 1, fault},
		{"head 0 3", 0, wInt(5), nil, 1, fault},
		{"tail 0 4", 0, yCons(7), nil, 2, "1 0 0 "},
		{"tail 4 4", 4, yCons(7), nil, 2, "1 0 0 "},
		{"tail 0 6", 0, wInt(5), nil, 1, fault},
		{"add 0 0 0", 0, wInt(10), nil, 2, "1 0 0 "},
		{"add 7 0 0", 7, wInt(10), nil, 2, "1 0 0 "},
		{"add 0 0 2", 0, wInt(5), nil, 1, fault},
		{"same 0 0 3", 0, wInt(5), nil, 2, "1 0 0 "},
		{"same 3 4 3", 3, yTuple(0), nil, 3, "1 0 0 "},
		{"kind 6 5 0", 6, wNil, nil, 2, "1 0 0 "},
		{"kind 4 5 0", 4, yCons(5), nil, 2, "1 0 0 "},
		{"kind 5 4 0", 5, yBin(11), nil, 0, "1 0 0 "},
		{"jump 3", 0, wInt(5), nil, 3, "1 0 0 "},
		{"send 2 4", 2, wPid(9), nil, 2, "3 9 0 [7,{8}]"},
		{"send 0 2", 0, wInt(5), nil, 1, fault},
		{"take 1", 1, wAtom(0), nil, 1, "2 0 0 "},
		{"self 4", 4, wPid(33), nil, 2, "1 0 0 "},
		{"make 3 3 0", 3, wPid(44), nil, 2, "4 44 0 {1,[a]}"},
		{"make 0 5 3", 0, wPid(44), nil, 2, "4 44 3 #00ff"},
		{"say 4", 4, yCons(5), nil, 2, "5 0 0 [7,{8}]"},
		{"link 2", 2, wPid(9), nil, 2, "6 9 0 "},
		{"link 5", 5, yBin(11), nil, 1, fault},
		{"end 3", 3, yTuple(0), nil, 1, "7 0 0 {1,[a]}"},
	} {
		l := linesOf(t, "jump 0", x.line, "jump 0", "end 0")
		is := lodge(t, impl.Actor{Pid: 33, Pc: 1, Regs: termOf(t, eight).L, Links: []int{4, 50}})
		if !slices.Equal(is.c.Regs, eightWords) || !slices.Equal(is.b.young, eightYoung) {
			t.Fatal("the test is wrong:", is)
		}
		want := is.clone()
		want.c.Pc, want.c.Regs[x.reg] = x.pc, x.w
		want.b.young = append(want.b.young, x.young...)
		if x.line == "atom 4 new" {
			want.b.atoms = append(want.b.atoms, "new")
		}
		got, act, ok := isCellStep(t, l, is, 44, 100)
		if !ok || !got.same(want) || actText(act) != x.act {
			t.Errorf("%q: %v, %q, %v\nnot %v, %q", x.line, got, actText(act), ok, want, x.act)
		}
	}
}

// Every instruction that there is of each Op, but for what N and S may be, on heaps of each age, in room that is enough, just so, and too little.
func TestAllRegistersOfEachOpOnCells(t *testing.T) {
	for _, regs := range []string{eight, "{[1],{2},7,<1>,a,#61,[[2],3],{{4},5}}"} {
		a := impl.Actor{Pid: 12, Pc: 1, Regs: termOf(t, regs).L, Box: []impl.Term{lst(num(1)), atom("b")}, Links: []int{1, 13}}
		for i, x := range lodge(t, a).aged() {
			rooms := []int{mostRoom, len(x.b.old) + len(x.b.young) + 2, 19}
			for _, o := range opEdges {
				for k := range 8 * 8 * 8 {
					ins := impl.Ins{Op: o.x.Op, S: o.x.S, A: k % 8, B: k / 8 % 8, C: k / 64}
					l := []impl.Ins{{Op: impl.OpJump}, ins, {Op: impl.OpEnd}}
					for _, l[1].N = range []int{0, 1, 2, 8} {
						if rightCode(l) {
							isCellStep(t, l, x, 7, rooms[(i+k)%3])
						}
					}
				}
			}
		}
	}
}

// Words that wait come as they stand, and stay in the order in which they came, wherever a sweep moves what they lead to.
func TestWordsThatCellsTake(t *testing.T) {
	l := linesOf(t, "take 2", "tuple 3 2 1", "jump 0")
	a := withRegs()
	for i := range 30 {
		a.Box = append(a.Box, lst(num(i), atom("w")))
	}
	x := lodge(t, a)
	for i := range 30 {
		for range 3 {
			was := x
			var ok bool
			if x, _, ok = isCellStep(t, l, x, 9, 150); !ok {
				t.Fatal("no room", x)
			}
			if l[was.c.Pc].Op == impl.OpTake && (x.c.Regs[2] != was.c.Box[0] || !slices.Equal(x.c.Box, was.c.Box[1:])) {
				t.Fatal("taken", was, x)
			}
		}
		is, _ := actorOf(t, x)
		if !alike(is.Regs[3], tup(lst(num(i), atom("w")))) || len(is.Box) != 29-i {
			t.Fatal("word", i, is)
		}
	}
	if got, act, ok := isCellStep(t, l, x, 9, 0); !ok || act.Kind != impl.ActWait || !got.same(x) {
		t.Error("none waits", act)
	}
}

// Terms that are the same on unlike words, and of one kind by unlike tags.
func TestTermsThatAreTheSameOnUnlikeWords(t *testing.T) {
	same := linesOf(t, "same 0 1 2", "say 0", "end 1")
	for _, text := range []string{"{1,[a]}", "[1,2,{}]", "#0102", "{}", "#", "[[]]", "5", "[]"} {
		y := termOf(t, text)
		x := lodge(t, withRegs(y, y, tup(y)))
		if x.c.Regs[0] == x.c.Regs[1] && impl.NeedOf(y) > 0 {
			t.Fatal("the test is wrong:", x)
		}
		if got, _, _ := isCellStep(t, same, x, 9, 0); got.c.Pc != 1 {
			t.Error(text, "is not the same")
		}
		old := x.on(sweptBy(x.heap().with(x.c.Regs...), false))
		young := lodger{old.c, old.b}
		young.c.Regs[1] = young.put(t, y)
		if got, _, _ := isCellStep(t, same, young, 9, 0); got.c.Pc != 1 {
			t.Error(text, "is not the same, old and young")
		}
		x.c.Regs[1] = x.c.Regs[2]
		if got, _, _ := isCellStep(t, same, x, 9, 0); got.c.Pc != 2 {
			t.Error(text, "is the same")
		}
	}
	// the same word as a number, and as what stands elsewhere
	x := plainCell()
	x.b = brood{old: []int{0, 9, 0}, young: []int{0}}
	x.c.Regs[0], x.c.Regs[1] = wTuple(0), wBin(0)
	if got, _, _ := isCellStep(t, same, x, 9, 0); got.c.Pc != 2 {
		t.Error("a tuple is a binary")
	}
	x.c.Regs[1] = yTuple(0)
	if got, _, _ := isCellStep(t, same, x, 9, 0); got.c.Pc != 1 {
		t.Error("an old tuple is not the young one")
	}
}

// Just as many words as an instruction makes, and one less: ahead of all, behind a Minor, behind a Major.
func TestRoomForWhatIsMade(t *testing.T) {
	lines := []string{"cons 6 0 7"}
	for n := range 9 {
		lines = append(lines, fmt.Sprint("tuple 6 0 ", n))
	}
	for _, line := range lines {
		l := linesOf(t, line, "end 0")
		need, _ := needBy(l[0])
		b := heapOfSix(30, 21, 42, 5, 55, 7)
		x := plainCell()
		x.b, x.c.Regs[7] = b, wNil
		copy(x.c.Regs, b.roots)
		all, minor, live := 160, 148, 127
		for _, y := range []struct{ room, old, young, mark int }{
			{mostRoom, 51, 109, 47}, {all + need, 51, 109, 47}, {all + need - 1, 93, 55, 55}, {minor + need, 93, 55, 55}, {minor + need - 1, live, 0, 0}, {live + need, live, 0, 0},
		} {
			got, act, ok := isCellStep(t, l, x, 9, y.room)
			if !ok || act.Kind != impl.ActGo || len(got.b.old) != y.old || len(got.b.young) != y.young+need || got.b.mark != y.mark {
				t.Errorf("%q in room %d: %v, %v", line, y.room, ok, got)
			}
			if w := got.c.Regs[6] >> 3; w != youngest+y.young {
				t.Errorf("%q in room %d stands at %d", line, y.room, w)
			}
		}
		isRefusedCell(t, l, x, 9, live+need-1)
		isRefusedCell(t, l, x, 9, 0)
	}
}

// On nothing: as many words as are made are all the room that is needed.
func TestRoomOnAnEmptyHeap(t *testing.T) {
	x := plainCell()
	x.c.Regs[7] = wNil
	for n := range 9 {
		l := linesOf(t, fmt.Sprint("tuple 0 0 ", n), "end 0")
		got, _, ok := isCellStep(t, l, x, 9, n+1)
		if !ok || len(got.b.young) != n+1 || got.b.young[0] != n || got.c.Regs[0] != yTuple(0) {
			t.Error(n, got)
		}
		isRefusedCell(t, l, x, 9, n)
	}
	l := linesOf(t, "cons 0 1 7", "end 0")
	if got, _, ok := isCellStep(t, l, x, 9, 2); !ok || !slices.Equal(got.b.young, []int{wInt(0), wNil}) || got.c.Regs[0] != yCons(0) {
		t.Error("cons", got)
	}
	isRefusedCell(t, l, x, 9, 1)
	isRefusedCell(t, l, x, 9, 0)
}

func TestSizesOfRoom(t *testing.T) {
	for _, o := range opEdges {
		l := []impl.Ins{o.x, {Op: impl.OpJump}}
		if !rightCode(l) {
			t.Fatal("the test is wrong:", o.x)
		}
		x := lodge(t, withRegs(pid(1), lst(), tup(num(1), num(2), num(3), num(4), num(5)), num(4), num(5), pid(6), lst(lst()), bin("b")))
		for _, room := range []int{0, 1, 2, 40, mostRoom - 1, mostRoom} {
			need, some := needBy(o.x)
			live := liveIn(t, x.heap())
			if _, _, ok := isCellStep(t, l, x, 9, room); ok != (!some || live+need <= room) {
				t.Error(impl.InsText(o.x), room, ok)
			}
		}
		for _, room := range []int{-1, -2, mostRoom + 1, mostRoom + 2, math.MinInt, math.MaxInt, 1<<32 + 5} {
			isRefusedCell(t, l, x, 9, room)
			isRefusedCell(t, l, x, 0, room)
		}
	}
}

// Nothing but what makes words is tidied ahead of it, however little room there is.
func TestWhatIsNotTidied(t *testing.T) {
	for _, o := range opEdges {
		if _, some := needBy(o.x); some {
			continue
		}
		l := []impl.Ins{o.x, {Op: impl.OpJump}}
		x := lodge(t, withRegs(pid(1), lst(), tup(num(1), num(2), num(3), num(4), num(5)), lst(num(4)), num(5), pid(6), pid(7), bin("b")))
		x.b.young = append(x.b.young, make([]int, 500)...)
		x.b.old = make([]int, 1000)
		x.b.mark = 3
		x.c.Box = []int{yTuple(100), wNil}
		for _, room := range []int{0, 3, 100, 1000, mostRoom} {
			got, act, ok := isCellStep(t, l, x, 9, room)
			if !ok || !slices.Equal(got.b.old, x.b.old) || !slices.Equal(got.b.young, x.b.young) || got.b.mark != 3 {
				t.Errorf("%q in room %d: %v, %v", impl.InsText(o.x), room, ok, act)
			}
		}
	}
}

// Young may have a thousand words, however much room there is.
func TestYoungAndWhatIsMade(t *testing.T) {
	for _, line := range []string{"tuple 0 0 0", "tuple 0 0 1", "tuple 1 0 8", "cons 0 1 7"} {
		l := linesOf(t, line, "end 0")
		need, _ := needBy(l[0])
		x := plainCell()
		x.c.Regs[7] = wNil
		x.b.young = make([]int, mostGen-need)
		for _, room := range []int{mostGen, mostRoom} {
			if got, _, ok := isCellStep(t, l, x, 9, room); !ok || len(got.b.young) != mostGen {
				t.Error(line, room, ok, len(got.b.young))
			}
		}
		x.b.young = make([]int, mostGen-need+1)
		isRefusedCell(t, l, x, 9, mostRoom)
		isRefusedCell(t, l, x, 9, mostGen+1)
		if got, _, ok := isCellStep(t, l, x, 9, mostGen); !ok || len(got.b.young) != need {
			t.Error(line, "in room of Young", ok, len(got.b.young))
		}
		// Old takes no room of Young
		x.b.young, x.b.old = make([]int, mostGen-need), make([]int, mostGen)
		if got, _, ok := isCellStep(t, l, x, 9, mostRoom); !ok || len(got.b.young) != mostGen || len(got.b.old) != mostGen {
			t.Error(line, ok)
		}
	}
}

func TestRoomForAtoms(t *testing.T) {
	l := linesOf(t, "atom 3 new", "end 0")
	x := plainCell()
	for _, n := range []int{0, 1, 198, 199} {
		x.b.atoms = atomsOf(n)
		got, act, ok := isCellStep(t, l, x, 9, 0)
		if !ok || act.Kind != impl.ActGo || got.c.Regs[3] != wAtom(n) || !slices.Equal(got.b.atoms, append(atomsOf(n), "new")) {
			t.Error(n, got)
		}
	}
	x.b.atoms = atomsOf(mostAtoms)
	isRefusedCell(t, l, x, 9, 0)
	isRefusedCell(t, l, x, 9, mostRoom)
	for _, n := range []int{0, 77, 199} {
		l := linesOf(t, fmt.Sprint("atom 3 a", n), "end 0")
		if got, _, ok := isCellStep(t, l, x, 9, 0); !ok || got.c.Regs[3] != wAtom(n) || len(got.b.atoms) != mostAtoms {
			t.Error("there already", n, got)
		}
	}
	// nothing else needs an atom, not even a fault
	for _, o := range opEdges {
		if o.x.Op == impl.OpAtom {
			continue
		}
		l := []impl.Ins{o.x, {Op: impl.OpJump}}
		if got, _, ok := isCellStep(t, l, x, 9, 50); !ok || len(got.b.atoms) != mostAtoms {
			t.Error(impl.InsText(o.x), got)
		}
	}
	if _, act, ok := isCellStep(t, linesOf(t, "head 0 0", "end 0"), x, 9, 50); !ok || !sameAct(act, faulted) {
		t.Error("a fault", act)
	}
}

// A fault leaves all as it was, but what was tidied ahead of it; without room even that is refused.
func TestFaultsOfCells(t *testing.T) {
	a := impl.Actor{Pid: 99999, Links: links(1, 50), Box: many(30, tup(atom("w"))),
		Regs: []impl.Term{tup(num(1)), atom("b"), lst(), num(1000000), num(1), nested(5, lst, num(1)), lst(many(20, num(1))...), bin("z")}}
	x := lodge(t, a)
	x.b.young = append(x.b.young, make([]int, 20)...)
	live := liveIn(t, x.heap())
	all := len(x.b.young)
	for _, line := range []string{"cons 1 0 0", "cons 5 5 2", "cons 6 0 6", "cons 2 1 7", "tuple 0 5 1", "tuple 5 5 2", "tuple 1 0 8"} {
		l := linesOf(t, line, "end 0")
		need, _ := needBy(l[0])
		for _, room := range []int{all + need, mostRoom} {
			if got, act, ok := isCellStep(t, l, x, 7, room); !ok || !sameAct(act, faulted) || !got.same(x) {
				t.Errorf("%q in room %d: %v %v", line, room, act, got)
			}
		}
		for _, room := range []int{all + need - 1, live + need} {
			got, act, ok := isCellStep(t, l, x, 7, room)
			if !ok || !sameAct(act, faulted) || got.c.Pc != 0 || len(got.b.young) != live || got.b.mark != live {
				t.Errorf("%q in room %d: %v %v", line, room, act, got)
			}
		}
		isRefusedCell(t, l, x, 7, live+need-1)
	}
	for _, line := range []string{"elem 0 0 1", "elem 0 1 0", "head 2 2", "tail 2 2", "head 0 0", "tail 0 7", "add 3 3 4", "add 0 3 1", "send 0 1", "link 1"} {
		for _, room := range []int{0, all, mostRoom} {
			if got, act, ok := isCellStep(t, linesOf(t, line, "end 0"), x, 7, room); !ok || !sameAct(act, faulted) || !got.same(x) {
				t.Errorf("%q in room %d: %v %v", line, room, act, got)
			}
		}
	}
	// an end is none, and has nothing tidied
	if got, act, ok := isCellStep(t, linesOf(t, "end 1"), x, 7, 0); !ok || !sameAct(act, impl.Act{Kind: impl.ActEnd, T: atom("b")}) || !got.same(x) {
		t.Error(act)
	}
}

// What comes may be as deep, as long and as many as a term may be; one more is a fault.
func TestWhatComesOnCells(t *testing.T) {
	tuple, cons := linesOf(t, "tuple 2 0 2", "end 0"), linesOf(t, "cons 2 0 1", "end 0")
	isOf := func(l []impl.Ins, x lodger, fine bool) {
		t.Helper()
		if got, act, ok := isCellStep(t, l, x, 9, mostRoom); !ok || fine != (act.Kind == impl.ActGo) || fine == sameAct(act, faulted) {
			t.Errorf("%q of %v: %v, %v", impl.InsText(l[0]), x, act, got)
		}
	}
	for deep := range 6 {
		for _, y := range []impl.Term{nested(deep, lst, num(1)), nested(deep, tup, num(1)), nested(deep, tup, lst())} {
			x := lodge(t, withRegs(y, lst(), num(3)))
			isOf(tuple, x, deep < 5)
			isOf(cons, x, deep < 5)
		}
	}
	for n := range 21 {
		isOf(cons, lodge(t, withRegs(atom("new"), lst(many(n, num(4))...))), n < 20)
	}
	for n := 96; n <= 100; n++ {
		isOf(tuple, lodge(t, withRegs(ofAll(n), lst())), n+2 <= 100)
	}
	rest := lst(many(9, tup(many(8, num(1))...))...)
	for n := 1; n <= 21; n++ {
		x := lodge(t, withRegs(lst(many(n-1, num(2))...), rest))
		isOf(cons, x, n+82 <= 100)
		isOf(tuple, x, n+83 <= 100)
	}
	// one word that is led to many times counts as often
	twice := linesOf(t, "tuple 0 0 2", "move 1 0", "jump 0")
	x := lodge(t, withRegs(tup(), tup()))
	faults := 0
	for range 20 {
		got, act, ok := isCellStep(t, twice, x, 9, 100)
		if !ok {
			t.Fatal("no room", x)
		}
		if x = got; sameAct(act, faulted) {
			faults++
		}
	}
	if faults == 0 {
		t.Error("no end of it", x)
	}
}

func TestSumsOnCells(t *testing.T) {
	l := linesOf(t, "add 2 0 1", "end 0")
	for _, x := range []struct{ a, b int }{{0, 0}, {1, 2}, {-1, 1}, {999999, 1}, {1000000, 0}, {1000000, -1000000}, {-999999, -1}, {-500000, -500000}, {1000000, 1}, {1, 1000000}, {1000000, 1000000}, {-1000000, -1}, {-1000000, -1000000}} {
		y := plainCell()
		y.c.Regs[0], y.c.Regs[1] = wInt(x.a), wInt(x.b)
		got, act, _ := isCellStep(t, l, y, 9, 0)
		if sum := x.a + x.b; sum > 1000000 || sum < -1000000 {
			if !sameAct(act, faulted) {
				t.Error(x, act)
			}
		} else if got.c.Regs[2] != wInt(sum) {
			t.Error(x, got)
		}
	}
}

// settle makes the cell fit again, by less in it: half of what it has is a number then.
func (x *lodger) settle(d *dice) {
	for i := range x.c.Regs {
		if d.below(2) == 0 {
			x.c.Regs[i] = wInt(d.below(9))
		}
	}
	x.c.Box = x.c.Box[:len(x.c.Box)/2]
}

// Runs of many steps over drawn code: behind each the cell is right, and its actor is what the steps on terms alone lead to. Where it ends or waits, both go on from elsewhere, with another word.
func TestRunsOfManyStepsOnCells(t *testing.T) {
	d := dice(110)
	kinds := map[int]int{}
	tidied, refused, old := 0, 0, 0
	for i := range 240 {
		l := anyCode(&d, 1+d.below([]int{6, 30, mostCode}[i%3]))
		for range len(l) / 3 {
			l[d.below(len(l)-1)] = []impl.Ins{{Op: impl.OpTuple, A: d.below(8), B: d.below(4), N: d.below(5)}, {Op: impl.OpCons, A: d.below(8), B: d.below(8), C: d.below(8)}, {Op: impl.OpNil, A: d.below(8)}}[d.below(3)]
		}
		a := impl.ActorNew(1+d.below(mostPid), d.below(len(l)), anyTerm(&d, 4))
		for k := range a.Regs {
			a.Regs[k] = []impl.Term{anyTerm(&d, 2), pid(d.below(9)), lst(num(k))}[d.below(3)]
		}
		x, room := lodge(t, a), 16+d.below([]int{20, 60, 600}[i%3])
		for range 150 {
			next := 1 + d.below(mostPid)
			got, act, ok := isCellStep(t, l, x, next, room)
			if !ok {
				refused++
				x.settle(&d)
				a, _ = x.actor()
				continue
			}
			behind, did := impl.StepActor(l, a, next)
			if is, right := actorOf(t, got); !right || !sameActor(is, behind) || !sameAct(act, did) {
				t.Fatalf("%q: %v, %v, not %v, %v", impl.InsText(l[x.c.Pc]), is, act, behind, did)
			}
			need, _ := needBy(l[x.c.Pc])
			if len(x.b.young)+len(x.b.old)+need > room && need > 0 {
				tidied++
			}
			if len(got.b.old) > 0 {
				old++
			}
			kinds[act.Kind]++
			if alike(act.T, faulted.T) {
				kinds[-1]++
			}
			x, a = got, behind
			if act.Kind == impl.ActEnd || act.Kind == impl.ActWait || d.below(20) == 0 {
				x.c.Pc = d.below(len(l))
				if y := anyTerm(&d, 3); d.below(3) == 0 && len(x.c.Box) < mostBox && len(x.b.young)+impl.NeedOf(y) <= mostGen {
					x.c.Box = append(x.c.Box, x.put(t, y))
				}
				a, _ = x.actor()
			}
		}
	}
	for _, kind := range []int{-1, impl.ActGo, impl.ActWait, impl.ActSend, impl.ActMake, impl.ActSay, impl.ActLink, impl.ActEnd} {
		if kinds[kind] < 100 {
			t.Error("too few of", kind, kinds)
		}
	}
	if tidied < 300 || refused < 150 || old < 3000 {
		t.Error("too few of a kind", tidied, refused, old)
	}
}

// A cell that makes and drops without end does so in little room.
func TestRunsInLittleRoom(t *testing.T) {
	l := linesOf(t, "int 0 1", "nil 1", "cons 1 0 1", "cons 1 0 1", "cons 1 0 1", "tuple 2 0 2", "tuple 3 1 2", "elem 4 3 1", "elem 5 4 1", "head 6 5", "tail 7 5", "same 1 5 0", "jump 0")
	x, a := plainCell(), withRegs()
	most, sweeps := 0, 0
	for range 3000 {
		got, act, ok := isCellStep(t, l, x, 9, 30)
		if !ok || act.Kind != impl.ActGo {
			t.Fatal("no room", act, x)
		}
		a, _ = impl.StepActor(l, a, 9)
		if is, _ := actorOf(t, got); !sameActor(is, a) {
			t.Fatal(is, a)
		}
		if len(got.b.young) < len(x.b.young) {
			sweeps++
		}
		x = got
		most = max(most, len(x.b.old)+len(x.b.young))
	}
	if most != 30 || sweeps < 100 {
		t.Error("at most", most, "words, swept", sweeps)
	}
}

// Cells on heaps whose things may stand on each other, in little room.
func TestCellsOnAnyHeap(t *testing.T) {
	d := dice(1011)
	good, bad, swept := 0, 0, 0
	for range 15000 {
		b := anyBrood(&d)
		x := plainCell()
		x.b = b
		x.c.Box = b.roots[min(8, len(b.roots)):]
		copy(x.c.Regs, b.roots)
		l := []impl.Ins{anyIns(&d, 2), {Op: impl.OpEnd}}
		if d.below(2) == 0 {
			l[0] = []impl.Ins{{Op: impl.OpTuple, A: d.below(8), B: d.below(4), N: d.below(5)}, {Op: impl.OpCons, A: d.below(8), B: d.below(8), C: d.below(8)}}[d.below(2)]
		}
		if okCell(t, l, x) != x.right(l) {
			t.Fatal("right or not", x)
		}
		isActorOf(t, x)
		got, _, ok := isCellStep(t, l, x, 9, d.below(30))
		switch {
		case !ok:
			bad++
		case len(got.b.old)+len(got.b.young) < len(b.old)+len(b.young):
			swept++
		default:
			good++
		}
	}
	if good < 3000 || bad < 2000 || swept < 500 {
		t.Error("too few of a kind", good, bad, swept)
	}
}

// A cell that is right or not in any of its fields, by chance.
func TestCellsByChance(t *testing.T) {
	d := dice(1012)
	right := 0
	for range 12000 {
		l := anyCode(&d, 1+d.below(5))
		x := lodge(t, withRegs(anyTerm(&d, 3), anyTerm(&d, 3), lst()))
		x.c.Pc, x.c.Links = d.below(len(l)), []int{1, 2, 4, 5}[:d.below(5)]
		x = x.aged()[d.below(4)]
		next, room := 1+d.below(9), d.below(60)
		for range d.below(3) {
			n := edgeNumbers[d.below(len(edgeNumbers))]
			switch d.below(12) {
			case 0:
				x.c.Pid = n
			case 1:
				x.c.Pc = d.below(8) - 1
			case 2:
				x.c.Regs = slices.Concat(x.c.Regs, x.c.Regs)[:d.below(4)+5]
			case 3:
				x.c.Box = slices.Repeat(x.c.Regs[:1], d.below(35))
			case 4:
				x.c.Links = []int{d.below(4), d.below(7), d.below(9)}
			case 5:
				x.c.Regs[d.below(len(x.c.Regs))] = []int{n, anyWord(&d, 20), anyWord(&d, 20) + 8*youngest}[d.below(3)]
			case 6:
				l[d.below(len(l))] = impl.Ins{Op: d.below(22), A: d.below(9), N: d.below(4)}
			case 7:
				next = n
			case 8:
				room = n
			case 9:
				x.b.mark = []int{n, d.below(20) - 2}[d.below(2)]
			case 10:
				x.b.atoms = []string{"a", "ab", "a", "B"}[:d.below(5)]
			case 11:
				if len(x.b.young) > 0 {
					x.b.young[d.below(len(x.b.young))] = []int{n, anyWord(&d, 20), anyWord(&d, 20) + 8*youngest}[d.below(3)]
				}
			}
		}
		ok := x.right(l)
		if okCell(t, l, x) != ok {
			t.Fatalf("%v is right: %v", x, !ok)
		}
		isActorOf(t, x)
		if _, _, ok := isCellStep(t, l, x, next, room); ok {
			right++
		}
	}
	if right < 2000 || right > 10000 {
		t.Error("right ones", right)
	}
}

// Lists that are far too long, words of any numbers, and lists that are one in memory: all are answered.
func TestCellsOfAnySize(t *testing.T) {
	l := linesOf(t, "tuple 0 0 8", "end 0")
	long := slices.Repeat(edgeNumbers, 2000)
	for _, x := range []lodger{
		{impl.Cell{Pid: 1, Regs: long, Box: long, Links: long}, brood{}},
		{impl.Cell{Pid: 1, Regs: intsOf(8), Box: intsOf(30), Links: long}, brood{old: long, young: long}},
		{impl.Cell{Pid: 1, Regs: intsOf(8), Box: intsOf(30000)}, brood{old: long, young: long, atoms: atomsOf(3000)}},
		{impl.Cell{Pid: 1, Regs: intsOf(100000)}, brood{atoms: atomsOf(500)}},
	} {
		isNoCell(t, l, x)
		if got := rootsOf(t, x.c); len(got) != len(x.c.Regs)+len(x.c.Box) {
			t.Error(len(got))
		}
	}
	one := intsOf(8)
	c := impl.Cell{Pid: 9, Regs: one, Box: one, Links: nil}
	c2, g, _, _, ok := impl.StepCell(l, c, impl.Gens{Old: one, Young: one, Mark: 8}, nil, 9, 100)
	if !ok || meet([]span{spanOf(one), spanOf(c2.Regs), spanOf(c2.Box), spanOf(g.Old), spanOf(g.Young)}) || !slices.Equal(one, intsOf(8)) {
		t.Error("lists that are one", c2, g)
	}
}

// What was answered ahead stays as it was, whatever is done to what comes behind it.
func TestCellsShareNothing(t *testing.T) {
	l := linesOf(t, "tuple 1 0 2", "atom 2 new", "say 1", "take 0", "jump 0")
	x := lodge(t, impl.Actor{Pid: 4, Regs: termOf(t, eight).L, Box: many(2, lst(num(4))), Links: []int{1, 2}})
	for range 4 {
		kept := x.clone()
		for _, room := range []int{mostRoom, 30, 5, -1} {
			c, g, atoms, act, _ := impl.StepCell(l, x.c, x.b.gens(), x.b.atoms, 9, room)
			for _, list := range [][]int{c.Regs, c.Box, c.Links, g.Old, g.Young} {
				clear(list[:cap(list)])
			}
			clear(atoms[:cap(atoms)])
			clear(act.T.L)
		}
		if !x.same(kept) {
			t.Fatal("an answer turned", x)
		}
		x, _, _ = isCellStep(t, l, x, 9, 40)
	}
}

// The shared tests find both in any layer: here it is asked of this one.
func TestACellEmbedsWhatBothKindsHave(t *testing.T) {
	f, err := parser.ParseFile(token.NewFileSet(), "../impl/l10_cell.go", nil, 0)
	if err != nil {
		t.Fatal(err)
	}
	embedded := []string{}
	ast.Inspect(f, func(n ast.Node) bool {
		if x, ok := n.(*ast.StructType); ok {
			for _, field := range x.Fields.List {
				if id, ok := field.Type.(*ast.Ident); ok && len(field.Names) == 0 {
					embedded = append(embedded, id.Name)
				}
			}
		}
		return true
	})
	// the method that is promoted is that of a layer ahead, which asks it of its own kind
	ahead, err := parser.ParseFile(token.NewFileSet(), "../impl/l09_actor.go", nil, 0)
	if err != nil {
		t.Fatal(err)
	}
	methods := map[string]int{}
	for _, d := range ahead.Decls {
		if x, ok := d.(*ast.FuncDecl); ok && x.Recv != nil {
			if id, ok := x.Recv.List[0].Type.(*ast.Ident); ok && slices.Contains(embedded, id.Name) {
				methods[x.Name.Name]++
			}
		}
	}
	used := map[*ast.File]int{}
	for _, file := range []*ast.File{ahead, f} {
		ast.Inspect(file, func(n ast.Node) bool {
			if x, ok := n.(*ast.SelectorExpr); ok && methods[x.Sel.Name] > 0 {
				used[file]++
			}
			return true
		})
	}
	if len(embedded) == 0 || used[ahead] == 0 || used[f] == 0 {
		t.Error("embedded:", embedded, "methods:", methods, "used:", used[ahead], used[f])
	}
}
