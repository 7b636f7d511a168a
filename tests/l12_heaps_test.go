package tests

import (
	"fmt"
	"go/ast"
	"go/parser"
	"go/token"
	"math"
	"slices"
	"strings"
	"testing"

	"loop.example/g00248/impl"
)

const (
	leastWords    = 40
	mostArena     = 4000
	leastHeapRoom = 20
	mostHeapRoom  = 1000
)

var noRoom = atom("noroom")

func dupHeaps(h impl.Heaps) impl.Heaps {
	p := dupPlain(impl.Plain{Code: h.Code, Out: h.Out})
	own := impl.Heaps{Code: p.Code, Atoms: slices.Clone(h.Atoms), A: impl.Arena{W: slices.Clone(h.A.W)}, Next: h.Next, Out: p.Out, Room: h.Room}
	for _, c := range h.Cells {
		own.Cells = append(own.Cells, dupCell(c))
	}
	return own
}

func sameHeaps(a, b impl.Heaps) bool {
	return slices.Equal(a.Code, b.Code) && slices.Equal(a.Atoms, b.Atoms) && slices.Equal(a.A.W, b.A.W) && slices.EqualFunc(a.Cells, b.Cells, sameCell) && a.Next == b.Next && sameOut(a.Out, b.Out) && a.Room == b.Room
}

// heapsText is a Heaps, as short as it can be told apart; of what was said the last ten.
func heapsText(h impl.Heaps) string {
	var b strings.Builder
	fmt.Fprintf(&b, "%q, next %d, room %d, %d words, blocks %v, used %v, %d atoms %v\n", impl.CodeText(h.Code), h.Next, h.Room, len(h.A.W), impl.Blocks(h.A), impl.UsedBlocks(h.A), len(h.Atoms), h.Atoms[:min(len(h.Atoms), 9)])
	for _, c := range h.Cells {
		g, ok := impl.LoadHome(h.A, c.At)
		a, _ := impl.ActorOf(c, g, h.Atoms)
		fmt.Fprintf(&b, "  %d at %d, home %d %v: %d old, %d young, mark %d; %s, box %s, links %v\n", c.Pid, c.Pc, c.At, ok, len(g.Old), len(g.Young), g.Mark, termsText(a.Regs), termsText(a.Box), c.Links)
	}
	for _, x := range h.Out[max(0, len(h.Out)-10):] {
		fmt.Fprintf(&b, "  said %d %d %s", x.Kind, x.Pid, impl.TermText(x.T))
	}
	fmt.Fprintf(&b, ", %d in all", len(h.Out))
	return b.String()
}

// lay is GensPut by the chapter, of whatever size.
func (b *brood) lay(x impl.Term) int {
	at := len(b.young)
	switch x.K {
	case impl.TInt:
		return wInt(x.N)
	case impl.TPid:
		return wPid(x.N)
	case impl.TAtom:
		k := slices.Index(b.atoms, x.S)
		if k < 0 {
			k = len(b.atoms)
			b.atoms = slices.Concat(b.atoms, []string{x.S})
		}
		return wAtom(k)
	case impl.TBin:
		b.young = append(b.young, len(x.S))
		for _, y := range []byte(x.S) {
			b.young = append(b.young, int(y))
		}
		return yBin(at)
	case impl.TTuple:
		b.young = append(append(b.young, len(x.L)), make([]int, len(x.L))...)
		for i, in := range x.L {
			w := b.lay(in)
			b.young[at+1+i] = w
		}
		return yTuple(at)
	}
	b.young = append(b.young, make([]int, 2*len(x.L))...)
	rest := wNil
	for i := len(x.L) - 1; i >= 0; i-- {
		b.young[at+2*i+1] = rest
		rest = yCons(at + 2*i)
	}
	for i, in := range x.L {
		w := b.lay(in)
		b.young[at+2*i] = w
	}
	return rest
}

// fitting tells whether there are no more words and atoms than there may be.
func (b brood) fitting() bool { return len(b.young) <= mostGen && len(b.atoms) <= mostAtoms }

// borough is a Heaps told by its parts: its arena by blocks, and each cell with its heap. The chapter is done to these. How many have ended for want of room is counted, since what was said may not be kept.
type borough struct {
	code    []impl.Ins
	atoms   []string
	s       store
	tenants []lodger
	next    int
	out     []impl.Said
	room    int
	noRooms int
}

func (x borough) heaps() impl.Heaps {
	h := impl.Heaps{Code: x.code, Atoms: x.atoms, A: impl.Arena{W: x.s.arena()}, Next: x.next, Out: x.out, Room: x.room}
	for _, y := range x.tenants {
		h.Cells = append(h.Cells, y.c)
	}
	return dupHeaps(h)
}

// storeBy are the blocks of an arena that Audit finds nothing in.
func storeBy(w []int) (store, bool) {
	s := store{}
	for at := 0; at < len(w); {
		n, used, ok := standsBy(w, at)
		if !ok || !used && len(s) > 0 && !s[len(s)-1].used {
			return nil, false
		}
		s = append(s, part{used, slices.Clone(w[at+2 : at+2+n])})
		at += n + 3
	}
	return s, true
}

// boroughOf tells by the chapter whether h is HeapsOk.
func boroughOf(h impl.Heaps) (borough, bool) {
	s, whole := storeBy(h.A.W)
	x := borough{code: h.Code, atoms: h.Atoms, s: s, next: h.Next, out: h.Out, room: h.Room}
	if !whole || len(h.A.W) > mostArena || h.Room < leastHeapRoom || h.Room > mostHeapRoom || len(s.usedPlaces()) != len(h.Cells) || !(brood{atoms: h.Atoms}).right() {
		return x, false
	}
	p := impl.Plain{Code: h.Code, Next: h.Next, Out: h.Out}
	for i, c := range h.Cells {
		at, there := s.part(c.At)
		if !there || slices.ContainsFunc(h.Cells[:i], func(o impl.Cell) bool { return o.At == c.At }) {
			return x, false
		}
		b, ok := fits(s[at].words)
		b.atoms = h.Atoms
		y := lodger{dupCell(c), b}
		if !ok || len(b.old)+len(b.young) > h.Room || !y.right(h.Code) {
			return x, false
		}
		a, _ := y.actor()
		p.Actors = append(p.Actors, a)
		x.tenants = append(x.tenants, y)
	}
	return x, rightPlain(p)
}

// plain is PlainOf by the chapter.
func (x borough) plain() impl.Plain {
	p := impl.Plain{Code: x.code, Next: x.next, Out: x.out}
	for _, y := range x.tenants {
		a, _ := y.actor()
		p.Actors = append(p.Actors, a)
	}
	return p
}

func (x *borough) at(number int) int {
	return slices.IndexFunc(x.tenants, func(y lodger) bool { return y.c.Pid == number })
}

func (x *borough) said(kind int, number int, t impl.Term) {
	x.out = slices.Concat(x.out, []impl.Said{{Kind: kind, Pid: number, T: t}})
	x.out = x.out[:min(len(x.out), mostOut)]
}

func (x *borough) noLinksTo(number int) {
	for i, y := range x.tenants {
		x.tenants[i].c.Links = slices.DeleteFunc(slices.Clone(y.c.Links), func(n int) bool { return n == number })
	}
}

// ends goes by a list of those that are still to end, the next one first.
func (x *borough) ends(number int, t impl.Term) bool {
	if x.at(number) < 0 {
		return false
	}
	for open := []int{number}; len(open) > 0; {
		number, open = open[0], open[1:]
		i := x.at(number)
		if i < 0 {
			continue
		}
		y := x.tenants[i]
		if !alike(t, atom("ok")) {
			open = slices.Concat(y.c.Links, open)
		}
		x.s, _ = x.s.take(y.c.At)
		x.tenants = slices.Delete(slices.Clone(x.tenants), i, i+1)
		x.noLinksTo(number)
		x.said(impl.SaidEnd, number, t)
	}
	return true
}

func (x *borough) lacks(number int) {
	x.noRooms++
	x.ends(number, noRoom)
}

// keeps has y stand where the one of its Pid stood, or behind all, if it has a home.
func (x *borough) keeps(y lodger) bool {
	s, at, ok := x.s.move(y.c.At, y.b)
	if !ok || len(y.b.old)+len(y.b.young) > x.room || !y.b.fitting() {
		return false
	}
	x.s, x.atoms, y.c.At = s, y.b.atoms, at
	if i := x.at(y.c.Pid); i >= 0 {
		x.tenants[i] = y
	} else {
		x.tenants = slices.Concat(x.tenants, []lodger{y})
	}
	return true
}

func (x *borough) withAtoms(i int) lodger {
	y := x.tenants[i].clone()
	y.b.atoms = x.atoms
	return y
}

func (x *borough) told(number int, t impl.Term) bool {
	i := x.at(number)
	if i < 0 || len(x.tenants[i].c.Box) == mostBox {
		return false
	}
	y := x.withAtoms(i)
	b, ok := tidyBy(y.heap(), impl.NeedOf(t), x.room)
	if ok {
		w := b.lay(t)
		y = y.on(b)
		y.c.Box = append(y.c.Box, w)
	}
	if !ok || !x.keeps(y) {
		x.lacks(number)
	}
	return true
}

// puts is a new cell of a.
func (x *borough) puts(a impl.Actor) bool {
	y := lodger{impl.Cell{Pid: a.Pid, Pc: a.Pc, At: -1}, brood{atoms: x.atoms}}
	for _, z := range a.Regs {
		y.c.Regs = append(y.c.Regs, y.b.lay(z))
	}
	return x.keeps(y)
}

func (x *borough) makes(one int, act impl.Act) {
	if len(x.tenants) == mostActors || x.next == mostNext {
		x.ends(one, atom("full"))
		return
	}
	x.next++
	x.noLinksTo(act.Pid)
	x.said(impl.SaidStart, act.Pid, act.T)
	if a := standing(act.Pid, act.T); !x.puts(impl.Actor{Pid: a.Pid, Pc: act.Pc, Regs: a.Regs}) {
		x.said(impl.SaidEnd, act.Pid, noRoom)
		x.noRooms++
	}
}

func (x *borough) linked(one int, other int) {
	i, k := x.at(one), x.at(other)
	if i == k || k < 0 || len(x.tenants[i].c.Links) >= mostLinks || len(x.tenants[k].c.Links) >= mostLinks {
		return
	}
	for _, y := range [][2]int{{i, other}, {k, one}} {
		l := append(slices.Clone(x.tenants[y[0]].c.Links), y[1])
		slices.Sort(l)
		x.tenants[y[0]].c.Links = slices.Compact(l)
	}
}

func (x *borough) run(i int, n int) bool {
	if len(x.tenants) == 0 || i < 0 || n < 1 || n > mostSteps {
		return false
	}
	number := x.tenants[i%len(x.tenants)].c.Pid
	for ; n > 0 && x.at(number) >= 0; n-- {
		y, act, ok := stepCellBy(x.code, x.withAtoms(x.at(number)), x.next, x.room)
		if !ok || !x.keeps(y) {
			x.lacks(number)
			return true
		}
		switch act.Kind {
		case impl.ActWait:
			return true
		case impl.ActSend:
			x.told(act.Pid, act.T)
		case impl.ActMake:
			x.makes(number, act)
		case impl.ActSay:
			x.said(impl.SaidSay, number, act.T)
		case impl.ActLink:
			x.linked(number, act.Pid)
		case impl.ActEnd:
			x.ends(number, act.T)
		}
	}
	return true
}

func (x *borough) sweeps(number int) bool {
	i := x.at(number)
	if i < 0 {
		return false
	}
	y := x.withAtoms(i)
	return x.keeps(y.on(sweptBy(y.heap(), false)))
}

func heapsNewBy(l []impl.Ins, arg impl.Term, words int, room int) (impl.Heaps, bool) {
	if words < leastWords || words > mostArena || room < leastHeapRoom || room > mostHeapRoom || !rightCode(l) || !impl.TermOk(arg) {
		return impl.Heaps{}, false
	}
	x := borough{code: l, s: storeOf(freeOf(words - 3)), next: 2, room: room}
	x.said(impl.SaidStart, 1, arg)
	if !x.puts(standing(1, arg)) {
		return impl.Heaps{}, false
	}
	return x.heaps(), true
}

// doneBy is what comes of h by the chapter, and how many have ended for want of room.
func doneBy(h impl.Heaps, do func(x *borough) bool) (impl.Heaps, bool, int) {
	if x, right := boroughOf(dupHeaps(h)); right && do(&x) {
		return x.heaps(), true, x.noRooms
	}
	return dupHeaps(h), false, 0
}

// tenancy are the lists of a Heaps that are lent, each with spare room behind it, and as they were.
type tenancy struct {
	staging
	cells, wasCells []impl.Cell
}

var spareCells = []impl.Cell{{Pid: -1}, {}, {Pid: 5, Regs: []int{1}, Links: []int{1}, At: 3}}

func (x *tenancy) heaps(h impl.Heaps) impl.Heaps {
	p := x.plain(impl.Plain{Code: h.Code, Out: h.Out})
	_, atoms := x.heap(brood{atoms: h.Atoms})
	x.cells = slices.Concat(h.Cells, spareCells)
	for i, c := range h.Cells {
		x.cells[i] = x.cell(c)
	}
	x.wasCells = slices.Clone(x.cells)
	return impl.Heaps{Code: p.Code, Atoms: atoms, A: impl.Arena{W: x.ints(h.A.W)}, Cells: x.cells[:len(h.Cells)], Next: h.Next, Out: p.Out, Room: h.Room}
}

func (x *tenancy) untouched(t *testing.T) {
	t.Helper()
	x.staging.untouched(t)
	for i, c := range x.cells {
		b := x.wasCells[i]
		if c.Pid != b.Pid || c.Pc != b.Pc || c.At != b.At || !sameList(c.Regs, b.Regs) || !sameList(c.Box, b.Box) || !sameList(c.Links, b.Links) {
			t.Fatal("a cell that was handed in was written, or the room behind it", c)
		}
	}
}

// lentSpans are where what was lent lies.
func (x *tenancy) lentSpans() (lists []span, texts []span) {
	lists = []span{spanOf(x.code), spanOf(x.cells), spanOf(x.out), spanOf(x.atoms)}
	for _, l := range x.letting.rooms {
		lists = append(lists, spanOf(l))
	}
	for _, l := range x.lending.rooms {
		lists = append(lists, spanOf(l))
		for _, y := range l {
			texts = append(texts, textSpan(y.S))
		}
	}
	for _, y := range x.code {
		texts = append(texts, textSpan(y.S))
	}
	for _, s := range x.atoms {
		texts = append(texts, textSpan(s))
	}
	return lists, texts
}

// isApart asks that these share memory neither with each other nor with what was lent.
func (x *tenancy) isApart(t *testing.T, lists []span, texts []span) {
	t.Helper()
	x.untouched(t)
	lent, lentTexts := x.lentSpans()
	if meet(slices.Concat(lists, lent)) {
		t.Fatal("an answer shares memory")
	}
	if meetOthers(texts, lentTexts) {
		t.Fatal("a text of an answer is one that was handed in")
	}
}

func noInt(n int) bool { return n == 0 }

// isNew asks for an answer in memory of its own, with nothing behind its lists.
func (x *tenancy) isNew(t *testing.T, h impl.Heaps) {
	t.Helper()
	lists, texts := spansOfPlain(impl.Plain{Code: h.Code, Out: h.Out})
	lists = append(lists, spanOf(h.Atoms), spanOf(h.A.W), spanOf(h.Cells))
	for _, c := range h.Cells {
		for _, l := range [][]int{c.Regs, c.Box, c.Links} {
			lists = append(lists, spanOf(l))
			nothingBehind(t, l, noInt)
		}
	}
	for _, s := range h.Atoms {
		texts = append(texts, textSpan(s))
	}
	x.isApart(t, lists, texts)
	nothingBehind(t, h.Code, func(y impl.Ins) bool { return y == impl.Ins{} })
	nothingBehind(t, h.Atoms, func(s string) bool { return s == "" })
	nothingBehind(t, h.A.W, noInt)
	nothingBehind(t, h.Cells, func(c impl.Cell) bool { return sameCell(c, impl.Cell{}) })
	nothingBehind(t, h.Out, func(y impl.Said) bool { return sameSaid(y, impl.Said{}) })
}

func newHeapsOf(t *testing.T, l []impl.Ins, arg impl.Term, words int, room int) (impl.Heaps, bool) {
	t.Helper()
	var x tenancy
	h, ok := impl.HeapsNew(x.lines(l), x.term(arg), words, room)
	x.isNew(t, h)
	return h, ok
}

func okHeaps(t *testing.T, h impl.Heaps) bool {
	t.Helper()
	var x tenancy
	ok := impl.HeapsOk(x.heaps(h))
	x.untouched(t)
	return ok
}

func onTermsOf(t *testing.T, h impl.Heaps) (impl.Plain, bool) {
	t.Helper()
	var x tenancy
	p, ok := impl.PlainOf(x.heaps(h))
	lists, texts := spansOfPlain(p)
	x.isApart(t, lists, texts)
	if !ok && !samePlain(p, impl.Plain{}) {
		t.Fatal("beside a false stands", plainText(p))
	}
	return p, ok
}

// isRightBehind asks that got is what the chapter tells of h, that all that was right is right still, and that no block is lost.
func isRightBehind(t *testing.T, what string, h impl.Heaps, got impl.Heaps, ok bool, want impl.Heaps, right bool) {
	t.Helper()
	if ok != right || !sameHeaps(got, want) {
		t.Fatalf("%s of %s\nis %v: %s\nnot %v: %s", what, heapsText(h), ok, heapsText(got), right, heapsText(want))
	}
	if !ok {
		if !sameHeaps(got, h) {
			t.Fatalf("%s is refused, but %s\nis not %s", what, heapsText(got), heapsText(h))
		}
		return
	}
	if _, right := boroughOf(got); !right || !okHeaps(t, got) {
		t.Fatalf("not right behind %s: %s", what, heapsText(got))
	}
	homes := []int{}
	for _, c := range got.Cells {
		homes = append(homes, c.At)
	}
	slices.Sort(homes)
	if impl.Audit(got.A) != -1 || len(got.A.W) != len(h.A.W) || !slices.Equal(homes, impl.UsedBlocks(got.A)) {
		t.Fatalf("a block is lost behind %s: %s", what, heapsText(got))
	}
	if len(got.Out) < len(h.Out) || !sameOut(got.Out[:len(h.Out)], h.Out) {
		t.Fatalf("behind %s what was said ahead is not said: %s", what, heapsText(got))
	}
}

// isSameOnTerms asks that what was done to h was done to its actors, too.
func isSameOnTerms(t *testing.T, what string, h impl.Heaps, got impl.Heaps, do func(p impl.Plain) (impl.Plain, bool)) {
	t.Helper()
	p, _ := impl.PlainOf(h)
	want, right := do(p)
	if is, ok := impl.PlainOf(got); !ok || !right || !samePlain(is, want) {
		t.Fatalf("%s of %s\nis %s\non terms %s", what, heapsText(h), plainText(is), plainText(want))
	}
}

func isHeapsRun(t *testing.T, h impl.Heaps, i int, n int) (impl.Heaps, bool) {
	t.Helper()
	var x tenancy
	got, ok := impl.HeapsRun(x.heaps(h), i, n)
	x.isNew(t, got)
	want, right, noRooms := doneBy(h, func(x *borough) bool { return x.run(i, n) })
	what := fmt.Sprintf("a run of %d, %d", i, n)
	isRightBehind(t, what, h, got, ok, want, right)
	if ok && noRooms == 0 {
		isSameOnTerms(t, what, h, got, func(p impl.Plain) (impl.Plain, bool) { return impl.PlainRun(p, i, n) })
	}
	return got, ok
}

func isHeapsTell(t *testing.T, h impl.Heaps, number int, y impl.Term) (impl.Heaps, bool) {
	t.Helper()
	var x tenancy
	got, ok := impl.HeapsTell(x.heaps(h), number, x.term(y))
	x.isNew(t, got)
	want, right, noRooms := doneBy(h, func(x *borough) bool { return impl.TermOk(y) && x.told(number, dup(y)) })
	what := fmt.Sprintf("%v told to %d", y, number)
	isRightBehind(t, what, h, got, ok, want, right)
	if ok && noRooms == 0 {
		isSameOnTerms(t, what, h, got, func(p impl.Plain) (impl.Plain, bool) { return impl.PlainTell(p, number, y) })
	}
	return got, ok
}

func isHeapsEnd(t *testing.T, h impl.Heaps, number int, y impl.Term) (impl.Heaps, bool) {
	t.Helper()
	var x tenancy
	got, ok := impl.HeapsEnd(x.heaps(h), number, x.term(y))
	x.isNew(t, got)
	want, right, _ := doneBy(h, func(x *borough) bool { return impl.TermOk(y) && x.ends(number, dup(y)) })
	what := fmt.Sprintf("an end of %d by %v", number, y)
	isRightBehind(t, what, h, got, ok, want, right)
	if ok {
		isSameOnTerms(t, what, h, got, func(p impl.Plain) (impl.Plain, bool) { return impl.PlainEnd(p, number, y) })
	}
	return got, ok
}

// isHeapsSweep asks, too, that each actor is as it was, and that its heap has what is live, and no more.
func isHeapsSweep(t *testing.T, h impl.Heaps, number int) (impl.Heaps, bool) {
	t.Helper()
	var x tenancy
	got, ok := impl.HeapsSweep(x.heaps(h), number)
	x.isNew(t, got)
	want, right, _ := doneBy(h, func(x *borough) bool { return x.sweeps(number) })
	what := fmt.Sprintf("a sweep of %d", number)
	isRightBehind(t, what, h, got, ok, want, right)
	if !ok {
		return got, ok
	}
	isSameOnTerms(t, what, h, got, func(p impl.Plain) (impl.Plain, bool) { return p, true })
	at := slices.IndexFunc(h.Cells, func(c impl.Cell) bool { return c.Pid == number })
	ahead, _ := impl.LoadHome(h.A, h.Cells[at].At)
	g, _ := impl.LoadHome(got.A, got.Cells[at].At)
	if len(g.Young) != 0 || g.Mark != 0 || len(g.Old) != impl.LiveOf(ahead, h.Atoms, impl.RootsOf(h.Cells[at])) || len(g.Old) != impl.LiveOf(g, got.Atoms, impl.RootsOf(got.Cells[at])) {
		t.Fatalf("behind %s there are %d and %d words: %s", what, len(g.Old), len(g.Young), heapsText(got))
	}
	return got, ok
}

func isStillHeaps(t *testing.T, h impl.Heaps, got impl.Heaps, ok bool) {
	t.Helper()
	if ok || !sameHeaps(got, h) {
		t.Fatalf("not refused: %s\nis %v: %s", heapsText(h), ok, heapsText(got))
	}
}

// isHeaps asks for a Heaps that is right, and its actors.
func isHeaps(t *testing.T, h impl.Heaps) {
	t.Helper()
	x, right := boroughOf(h)
	if !okHeaps(t, h) || !right {
		t.Fatalf("right is %v: %s", right, heapsText(h))
	}
	if p, ok := onTermsOf(t, h); !ok || !samePlain(p, x.plain()) || !impl.PlainOk(p) {
		t.Fatalf("on terms %s\nis %v: %s\nnot %s", heapsText(h), ok, plainText(p), plainText(x.plain()))
	}
	isHeapsRun(t, h, 0, 1)
	isHeapsTell(t, h, 1, num(1))
	isHeapsEnd(t, h, 1, num(1))
	isHeapsSweep(t, h, 1)
}

// isNoHeaps asks for a Heaps that is not right, to which nothing is done.
func isNoHeaps(t *testing.T, h impl.Heaps) {
	t.Helper()
	if _, right := boroughOf(h); okHeaps(t, h) || right {
		t.Fatalf("right is %v: %s", right, heapsText(h))
	}
	if p, ok := onTermsOf(t, h); ok {
		t.Fatalf("on terms %s", plainText(p))
	}
	got, ok := isHeapsRun(t, h, 0, 1)
	isStillHeaps(t, h, got, ok)
	for number := range 3 {
		got, ok = isHeapsTell(t, h, number, num(1))
		isStillHeaps(t, h, got, ok)
		got, ok = isHeapsEnd(t, h, number, num(1))
		isStillHeaps(t, h, got, ok)
		got, ok = isHeapsSweep(t, h, number)
		isStillHeaps(t, h, got, ok)
	}
}

// settled is p on heaps in homes that have no more words than they need, and spare ones, one behind the other; behind them a free block, if it is to have words.
func settled(p impl.Plain, room int, spare int, free int) impl.Heaps {
	x := borough{code: p.Code, next: p.Next, out: p.Out, room: room}
	at := 0
	for _, a := range p.Actors {
		y := lodger{impl.Cell{Pid: a.Pid, Pc: a.Pc, Links: a.Links, At: at}, brood{atoms: x.atoms}}
		for _, z := range a.Regs {
			y.c.Regs = append(y.c.Regs, y.b.lay(z))
		}
		for _, z := range a.Box {
			y.c.Box = append(y.c.Box, y.b.lay(z))
		}
		x.atoms = y.b.atoms
		x.tenants = append(x.tenants, y)
		x.s = append(x.s, landed(y.b, y.b.need()+spare))
		at += y.b.need() + spare + 3
	}
	if free > 0 {
		x.s = append(x.s, part{false, make([]int, free)})
	}
	return x.heaps()
}

// isDone asks for this answer: what is left on terms, and what was said behind the last word ahead, each as `+1 a`, `!1 a` or `-1 a`; and that all but the homes of those that are left is one free block, or none.
func isDone(t *testing.T, h impl.Heaps, got impl.Heaps, pids []int, said ...string) {
	t.Helper()
	texts, left := []string{}, []int{}
	for _, x := range got.Out[len(h.Out):] {
		texts = append(texts, fmt.Sprintf("%c%d %s", " +!-"[x.Kind], x.Pid, impl.TermText(x.T)))
	}
	for _, c := range got.Cells {
		left = append(left, c.Pid)
	}
	if !slices.Equal(texts, said) || !slices.Equal(left, pids) {
		t.Fatalf("left are %v, said %q, not %v, %q: %s", left, texts, pids, said, heapsText(got))
	}
	words := 0
	for _, at := range impl.UsedBlocks(got.A) {
		n, _, _ := impl.BlockAt(got.A, at)
		words += n + 3
	}
	for _, at := range impl.Blocks(got.A) {
		if n, used, _ := impl.BlockAt(got.A, at); !used {
			words += n + 3
		}
	}
	if words != len(got.A.W) || len(impl.UsedBlocks(got.A)) != len(pids) {
		t.Fatalf("a block is lost: %s", heapsText(got))
	}
}

func isNewHeaps(t *testing.T, l []impl.Ins, arg impl.Term, words int, room int) impl.Heaps {
	t.Helper()
	want, right := heapsNewBy(l, arg, words, room)
	h, ok := newHeapsOf(t, l, arg, words, room)
	if !ok || !right || !sameHeaps(h, want) {
		t.Fatalf("a new one of %v in %d, %d is %v: %s\nnot %v: %s", arg, words, room, ok, heapsText(h), right, heapsText(want))
	}
	isHeaps(t, h)
	p, _ := impl.PlainOf(h)
	if beside, ok := impl.PlainNew(l, arg); !ok || !samePlain(p, beside) {
		t.Fatalf("a new one is %s\non terms %s", plainText(p), plainText(beside))
	}
	return h
}

func isNotNewHeaps(t *testing.T, l []impl.Ins, arg impl.Term, words int, room int) {
	t.Helper()
	if h, ok := newHeapsOf(t, l, arg, words, room); ok || !sameHeaps(h, impl.Heaps{}) {
		t.Fatalf("new of %v in %d, %d: %v %s", arg, words, room, ok, heapsText(h))
	}
	if _, right := heapsNewBy(l, arg, words, room); right {
		t.Fatal("right", arg, words, room)
	}
}

// All of a new one, word for word.
func TestANewHeaps(t *testing.T) {
	l := linesOf(t, "atom 1 a", "end 0")
	arg := termOf(t, "{a,[b,#01]}")
	young := []int{2, wAtom(0), yCons(3), wAtom(1), yCons(5), yBin(7), wNil, 1, 1}
	w, _ := laid(zeros(20), freeOf(51))
	copy(w[2:], slices.Concat([]int{0, 9, 0}, young))
	want := impl.Heaps{
		Code: l, Atoms: []string{"a", "b"}, A: impl.Arena{W: w}, Next: 2, Room: 33,
		Cells: []impl.Cell{{Pid: 1, Regs: slices.Concat([]int{yTuple(0)}, intsOf(7))}},
		Out:   []impl.Said{{Kind: impl.SaidStart, Pid: 1, T: arg}},
	}
	if h := isNewHeaps(t, l, arg, 77, 33); !sameHeaps(h, want) {
		t.Errorf("new is %s\nnot %s", heapsText(h), heapsText(want))
	}
	// what has no words has a home all the same
	w, _ = laid(zeros(11), freeOf(23))
	want.Atoms, want.A.W, want.Room, want.Cells[0].Regs, want.Out[0].T = nil, w, 20, intsOf(8), num(0)
	if h := isNewHeaps(t, l, num(0), 40, 20); !sameHeaps(h, want) {
		t.Errorf("new is %s\nnot %s", heapsText(h), heapsText(want))
	}
}

func TestNewHeaps(t *testing.T) {
	codes := [][]impl.Ins{linesOf(t, "end 0"), linesOf(t, "jump 0"), endless(200)}
	for _, l := range codes {
		for _, arg := range rightTerms {
			isNewHeaps(t, l, arg, 4000, 1000)
		}
		for _, arg := range wrongTerms {
			isNotNewHeaps(t, l, arg, 4000, 1000)
		}
	}
	for _, l := range noCodes {
		isNotNewHeaps(t, l, num(1), 4000, 1000)
		isNotNewHeaps(t, l, num(1000001), 4000, 1000)
	}
	d := dice(12)
	for range 100 {
		l, arg, words, room := anyCode(&d, 1+d.below(30)), anyTerm(&d, 4), 30+d.below(70), 15+d.below(40)
		if _, right := heapsNewBy(l, arg, words, room); right {
			isNewHeaps(t, l, arg, words, room)
		} else {
			isNotNewHeaps(t, l, arg, words, room)
		}
	}
}

func TestWordsAndRoomOfNewHeaps(t *testing.T) {
	l := linesOf(t, "end 0")
	for _, words := range []int{40, 41, 200, 3999, 4000} {
		for _, room := range []int{20, 21, 500, 999, 1000} {
			h := isNewHeaps(t, l, num(3), words, room)
			if len(h.A.W) != words || h.Room != room {
				t.Error("words", words, "room", room, heapsText(h))
			}
		}
		for _, room := range []int{math.MinInt, -20, -1, 0, 1, 4, 19, 1001, 1002, 2000, 4000, math.MaxInt} {
			isNotNewHeaps(t, l, num(3), words, room)
		}
	}
	for _, words := range []int{math.MinInt, -40, -1, 0, 1, 4, 39, 4001, 4002, math.MaxInt} {
		for _, room := range []int{20, 100, 1000, 19, 1001} {
			isNotNewHeaps(t, l, num(3), words, room)
		}
	}
}

// binsOf is a term that needs just n words (0 .. 1600), most of them bytes.
func binsOf(t *testing.T, n int) impl.Term {
	t.Helper()
	y := num(0)
	switch {
	case n > 800:
		y = tup(binsOf(t, 790), binsOf(t, n-793))
	case n > 41:
		for left := n; left > 0; {
			k := min(left, 43)
			if rest := left - k; rest > 0 && rest < 3 {
				k -= 3
			}
			y.K, y.L = impl.TList, append(y.L, bin(strings.Repeat("x", k-3)))
			left -= k
		}
	case n > 0:
		y = bin(strings.Repeat("x", n-1))
	}
	if got := impl.NeedOf(y); got != n || !impl.TermOk(y) {
		t.Fatal("needs", got, "not", n)
	}
	return y
}

// A first term that needs as much as there is room for, of the heap and of the arena, and one more.
func TestArgumentsOfNewHeaps(t *testing.T) {
	l := linesOf(t, "end 0")
	for _, n := range []int{20, 21, 40, 41, 60, 100, 250, 800, 999, 1000} {
		y := binsOf(t, n)
		isNewHeaps(t, l, y, 4000, n)
		if n > 20 {
			isNotNewHeaps(t, l, y, 4000, n-1)
		}
		// a home has three words, those of the heap, and eight to spare, between three more
		if n+14 >= 40 {
			isNewHeaps(t, l, y, n+14, n)
			isNotNewHeaps(t, l, y, n+13, n)
			h := isNewHeaps(t, l, y, n+17, n)
			if !slices.Equal(impl.Blocks(h.A), []int{0}) {
				t.Error("a rest of three words is no block", impl.Blocks(h.A))
			}
			h = isNewHeaps(t, l, y, n+18, n)
			if !slices.Equal(impl.Blocks(h.A), []int{0, n + 14}) {
				t.Error("a rest of four words is a block", impl.Blocks(h.A))
			}
		}
	}
	// more words than Young may have
	big := tup(many(8, tup(many(3, bin(strings.Repeat("y", 40)))...))...)
	isNotNewHeaps(t, l, big, 4000, 1000)
	if impl.NeedOf(big) <= 1000 || !impl.TermOk(big) {
		t.Error("needs", impl.NeedOf(big))
	}
}

// threeHeaps are three that are linked in a chain, with words that wait, on homes with some words to spare, and some more at the end.
func threeHeaps(t *testing.T) impl.Heaps {
	t.Helper()
	p := join(plainOf(t, 3, "take 1", "tuple 2 0 2", "say 2", "jump 0"), [2]int{1, 2}, [2]int{2, 3})
	for i := range p.Actors {
		p.Actors[i].Box = []impl.Term{atom("hi"), lst(num(i), atom("bye"))}
	}
	h := settled(p, 40, 5, 60)
	isHeaps(t, h)
	return h
}

func TestSystemsOfHeapsThatAreRight(t *testing.T) {
	threeHeaps(t)
	for _, n := range []int{0, 1, 2, 5, 19, 20} {
		p := plainOf(t, n, "make 0 0 0", "end 0")
		for _, room := range []int{20, 21, 500, 999, 1000} {
			for _, spare := range []int{0, 1, 8} {
				for _, free := range []int{0, 1, 20} {
					isHeaps(t, settled(p, room, spare, free))
				}
			}
		}
	}
	// without cells the arena may have no words, too
	h := settled(plainOf(t, 0, "end 0"), 20, 0, 0)
	isHeaps(t, h)
	for _, n := range []int{4, 5, 39, 40, 4000} {
		h.A = impl.ArenaNew(n)
		isHeaps(t, h)
	}
}

func TestRoomOfHeaps(t *testing.T) {
	h := threeHeaps(t)
	for _, h.Room = range []int{20, 21, 999, 1000} {
		isHeaps(t, h)
	}
	for _, h.Room = range []int{math.MinInt, -1, 0, 1, 7, 19, 1001, 1002, 2000, math.MaxInt} {
		isNoHeaps(t, h)
	}
	// Old and Young together: what is dead counts
	for _, x := range [][6]int{{5, 0, 5, 0, 10, 0}, {20, 0, 0, 0, 0, 0}, {0, 0, 0, 0, 20, 0}, {0, 20, 0, 0, 0, 0}, {0, 0, 0, 7, 0, 13}, {100, 20, 30, 40, 50, 10}, {500, 0, 0, 0, 500, 0}, {0, 1000, 0, 0, 0, 0}, {0, 0, 0, 0, 900, 100}} {
		b := heapOfSix(x[0], x[1], x[2], x[3], x[4], x[5])
		n := len(b.old) + len(b.young)
		for _, spare := range []int{0, 3} {
			h := oneOn(t, b, n, spare, "take 0", "end 0")
			isHeaps(t, h)
			for _, h.Room = range []int{n + 1, 1000} {
				if h.Room <= 1000 {
					isHeaps(t, h)
				}
			}
			h.Room = n - 1
			isNoHeaps(t, h)
		}
	}
}

// oneOn is a Heaps with one cell on b, the roots of which are its words, in the only block.
func oneOn(t *testing.T, b brood, room int, spare int, lines ...string) impl.Heaps {
	t.Helper()
	y := lodger{impl.Cell{Pid: 1, Regs: intsOf(8)}, b.clone()}
	copy(y.c.Regs, b.roots)
	y.c.Box = slices.Clone(b.roots[min(8, len(b.roots)):])
	x := borough{code: linesOf(t, lines...), atoms: b.atoms, s: store{landed(y.b, y.b.need()+spare)}, tenants: []lodger{y}, next: 2, room: room}
	return x.heaps()
}

func TestArenasOfHeapsThatAreStruck(t *testing.T) {
	h := threeHeaps(t)
	inHolder := func(at int) bool {
		for _, place := range impl.UsedBlocks(h.A) {
			if n, _, _ := impl.BlockAt(h.A, place); at >= place+2 && at < place+2+n {
				return true
			}
		}
		return false
	}
	found := 0
	for at := range h.A.W {
		for _, by := range []int{1, -1, 1 << 40} {
			struck := dupHeaps(h)
			struck.A.W[at] += by
			if _, right := boroughOf(struck); okHeaps(t, struck) != right {
				t.Fatal("right or not:", right, at, by)
			} else if !right && !inHolder(at) {
				found++
			} else if right && !inHolder(at) {
				t.Fatal("a struck word is not found", at, by)
			}
		}
	}
	if found < 150 {
		t.Error("found", found)
	}
	struck := dupHeaps(h)
	struck.A.W[0]++
	isNoHeaps(t, struck)
	struck = dupHeaps(h)
	struck.A.W[len(h.A.W)-5]++
	isNoHeaps(t, struck)
	// words cut off, or too many
	for _, w := range [][]int{nil, h.A.W[:len(h.A.W)-1], slices.Concat(h.A.W, []int{0}), slices.Concat(h.A.W, h.A.W), h.A.W[:4]} {
		struck = dupHeaps(h)
		struck.A.W = w
		isNoHeaps(t, struck)
	}
	// two free ones side by side
	x, _ := boroughOf(dupHeaps(h))
	x.s = append(x.s, part{false, make([]int, 9)})
	isNoHeaps(t, x.heaps())
}

func TestHowManyWordsTheArenaOfHeapsMayHave(t *testing.T) {
	p := plainOf(t, 2, "take 0", "end 0")
	used := len(settled(p, 20, 4, 0).A.W)
	for _, n := range []int{3999, 4000} {
		isHeaps(t, settled(p, 20, 4, n-used-3))
	}
	// more are blocks, too, but too many
	for n := 4001; n <= 4003; n++ {
		h := settled(p, 20, 4, n-used-3)
		if impl.Audit(h.A) != -1 || len(h.A.W) != n {
			t.Fatal("no arena", n)
		}
		isNoHeaps(t, h)
	}
}

func TestHomesOfHeaps(t *testing.T) {
	h := threeHeaps(t)
	for i := range h.Cells {
		for _, at := range []int{math.MinInt, -1, 1, 2, h.Cells[(i+1)%3].At, h.Cells[(i+2)%3].At, h.Cells[i].At + 1, h.Cells[i].At + 2, impl.Blocks(h.A)[3], len(h.A.W), 4000, math.MaxInt} {
			x := dupHeaps(h)
			x.Cells[i].At = at
			isNoHeaps(t, x)
		}
	}
	// two that have each other's homes are right, if their words are terms there
	x := dupHeaps(h)
	x.Cells[0].At, x.Cells[1].At = x.Cells[1].At, x.Cells[0].At
	isHeaps(t, x)
	// one block more that is used, or one cell less
	y, _ := boroughOf(dupHeaps(h))
	y.s[3].used = true
	isNoHeaps(t, y.heaps())
	y.s[3].words = brood{}.inRoom(60)
	isNoHeaps(t, y.heaps())
	for i := range 3 {
		x = dupHeaps(h)
		x.Cells = slices.Delete(x.Cells, i, i+1)
		for k := range x.Cells {
			x.Cells[k].Links = nil
		}
		isNoHeaps(t, x)
		y, _ = boroughOf(dupHeaps(h))
		y.ends(i+1, atom("ok"))
		isHeaps(t, y.heaps())
	}
	// a block within a holder's words is none
	b := brood{young: append([]int{0}, make([]int, 60)...)}
	one := oneOn(t, b, 1000, 0, "take 0", "end 0")
	inner, _ := laid(zeros(20))
	at := 10
	inner[0], inner[22] = guardBy(at, 20, true, 1000), guardBy(at, 20, true, 1001)
	copy(one.A.W[at:], inner)
	isHeaps(t, one)
	one.Cells[0].At = at
	if n, used, ok := impl.BlockAt(one.A, at); n != 20 || !used || !ok {
		t.Error("no block", n, used, ok)
	}
	isNoHeaps(t, one)
}

// First words of a home that do not fit it.
func TestHomesOfHeapsThatAreNotLoaded(t *testing.T) {
	h := threeHeaps(t)
	for i, c := range h.Cells {
		n, _, _ := impl.BlockAt(h.A, c.At)
		for k := range 3 {
			for _, w := range []int{math.MinInt, -1, n - 2, n, 1001, math.MaxInt} {
				x := dupHeaps(h)
				x.A.W[c.At+2+k] = w
				if _, ok := impl.LoadHome(x.A, c.At); ok {
					t.Fatal("loaded", i, k, w)
				}
				isNoHeaps(t, x)
			}
		}
	}
	p := plainOf(t, 2, "take 0", "end 0")
	for i := range p.Actors {
		p.Actors[i] = standing(i + 1)
	}
	isHeaps(t, settled(p, 20, 0, 0))
	// a home of less than three words
	x, _ := boroughOf(settled(p, 20, 0, 0))
	x.s[1].words = []int{0, 0}
	isNoHeaps(t, x.heaps())
}

// A word that leads nowhere, or a heap whose ages are not right.
func TestCellsOfHeapsThatAreNotRight(t *testing.T) {
	h := threeHeaps(t)
	for i := range h.Cells {
		for _, w := range append(slices.Clone(noWords), wInt(1000001), wAtom(2), wAtom(200), wPid(100000), wTuple(0), wCons(0), yTuple(999), yCons(0), yBin(40)) {
			for k := range 3 {
				x := dupHeaps(h)
				if k < 2 {
					x.Cells[i].Regs[[]int{0, 7}[k]] = w
				} else {
					x.Cells[i].Box[1] = w
				}
				if _, right := boroughOf(x); !right {
					isNoHeaps(t, x)
				} else {
					isHeaps(t, x)
				}
			}
		}
	}
	for _, b := range wrongHeaps() {
		if len(b.atoms) > 1 || len(b.old)+len(b.young) > mostHeapRoom || b.mark < 0 || b.mark > len(b.young) {
			continue
		}
		isNoHeaps(t, oneOn(t, b, 1000, 2, "take 0", "end 0"))
	}
}

func TestAtomsOfHeaps(t *testing.T) {
	h := threeHeaps(t)
	names := slices.Clone(h.Atoms)
	for _, n := range []int{2, 3, 100, 199, 200} {
		h.Atoms = append(slices.Clone(names), atomsOf(n-2)...)
		isHeaps(t, h)
	}
	for _, n := range []int{201, 202, 1000} {
		h.Atoms = append(slices.Clone(names), atomsOf(n-2)...)
		isNoHeaps(t, h)
	}
	for _, s := range append(slices.Clone(noAtoms), names...) {
		for at := range 4 {
			h.Atoms = slices.Insert(slices.Concat(names, []string{"last"}), at, s)
			if at < 2 {
				h.Atoms = slices.Concat(names, []string{"x", "y"})
				h.Atoms[at+2] = s
			}
			isNoHeaps(t, h)
		}
	}
	h.Atoms = names[:1]
	isNoHeaps(t, h)
	h.Atoms = nil
	isNoHeaps(t, h)
	// without cells they are asked for, too
	h = settled(plainOf(t, 0, "end 0"), 20, 0, 1)
	for _, h.Atoms = range [][]string{nil, {"a"}, {"a", "b"}, atomsOf(200)} {
		isHeaps(t, h)
	}
	for _, h.Atoms = range [][]string{{""}, {"a", "a"}, {"a", "B"}, {"a", "b", "a"}, atomsOf(201)} {
		isNoHeaps(t, h)
	}
}

// All that is no Plain is no Heaps.
func TestWhatPlainOkRefuses(t *testing.T) {
	for k, spoil := range []func(h *impl.Heaps){
		func(h *impl.Heaps) { h.Code = nil },
		func(h *impl.Heaps) { h.Code = h.Code[:3] },
		func(h *impl.Heaps) { h.Code = endless(201) },
		func(h *impl.Heaps) { h.Next = 3 },
		func(h *impl.Heaps) { h.Next = 0 },
		func(h *impl.Heaps) { h.Next = -1 },
		func(h *impl.Heaps) { h.Next = 90001 },
		func(h *impl.Heaps) { h.Next = math.MaxInt },
		func(h *impl.Heaps) { h.Cells[0], h.Cells[1] = h.Cells[1], h.Cells[0] },
		func(h *impl.Heaps) { h.Cells[1].Pid = 1 },
		func(h *impl.Heaps) { h.Cells[0].Pid = 0 },
		func(h *impl.Heaps) { h.Cells[0].Pid = -1 },
		func(h *impl.Heaps) { h.Cells[2].Pid = 4 },
		func(h *impl.Heaps) { h.Cells[2].Pid = 100000 },
		func(h *impl.Heaps) { h.Cells[1].Pc = -1 },
		func(h *impl.Heaps) { h.Cells[1].Pc = 4 },
		func(h *impl.Heaps) { h.Cells[1].Regs = h.Cells[1].Regs[:7] },
		func(h *impl.Heaps) { h.Cells[1].Regs = append(h.Cells[1].Regs, wInt(0)) },
		func(h *impl.Heaps) { h.Cells[1].Regs = nil },
		func(h *impl.Heaps) { h.Cells[2].Box = intsOf(31) },
		func(h *impl.Heaps) { h.Cells[0].Links = nil },
		func(h *impl.Heaps) { h.Cells[0].Links = []int{2, 3} },
		func(h *impl.Heaps) { h.Cells[0].Links = []int{1, 2} },
		func(h *impl.Heaps) { h.Cells[1].Links = []int{3, 1} },
		func(h *impl.Heaps) { h.Cells[1].Links = []int{1, 1, 3} },
		func(h *impl.Heaps) { h.Cells[1].Links = []int{0, 1, 3} },
		func(h *impl.Heaps) { h.Cells[1].Links = []int{1, 3, 100000} },
		func(h *impl.Heaps) { h.Cells[1].Links = slices.Concat([]int{1, 3}, links(10, 49)) },
		func(h *impl.Heaps) { h.Out = saidOf(501) },
		func(h *impl.Heaps) { h.Out[1].Kind = 0 },
		func(h *impl.Heaps) { h.Out[1].Kind = 4 },
		func(h *impl.Heaps) { h.Out[0].Pid = 0 },
		func(h *impl.Heaps) { h.Out[0].Pid = 100000 },
		func(h *impl.Heaps) { h.Out[2].T = impl.Term{} },
		func(h *impl.Heaps) { h.Out[2].T = num(1000001) },
		func(h *impl.Heaps) { *h = impl.Heaps{} },
		func(h *impl.Heaps) { h.Cells = nil },
	} {
		h := threeHeaps(t)
		spoil(&h)
		if okHeaps(t, h) {
			t.Fatalf("right with spoil %d: %s", k, heapsText(h))
		}
		isNoHeaps(t, h)
	}
	// the same, met exactly
	for _, fit := range []func(h *impl.Heaps){
		func(h *impl.Heaps) { h.Code = endless(200) },
		func(h *impl.Heaps) { h.Next = 90000 },
		func(h *impl.Heaps) { h.Next, h.Cells[2].Pid, h.Cells[1].Links = 90000, 89999, []int{1, 89999} },
		func(h *impl.Heaps) { h.Cells[1].Pc = 3 },
		func(h *impl.Heaps) { h.Cells[2].Box = intsOf(30) },
		func(h *impl.Heaps) { h.Cells[1].Links = slices.Concat([]int{1, 3}, links(10, 48)) },
		func(h *impl.Heaps) { h.Cells[1].Links = []int{1, 3, 99999} },
		func(h *impl.Heaps) { h.Out = saidOf(500) },
		func(h *impl.Heaps) { h.Out[0].Pid = 99999 },
		func(h *impl.Heaps) { h.Out = nil },
	} {
		h := threeHeaps(t)
		fit(&h)
		isHeaps(t, h)
	}
	for _, n := range []int{21, 22, 60} {
		isNoHeaps(t, settled(plainOf(t, n, "make 0 0 0", "end 0"), 20, 2, 5))
	}
}

func isHeapsRunTo(t *testing.T, h impl.Heaps, i int, n int, pids []int, said ...string) impl.Heaps {
	t.Helper()
	got, ok := isHeapsRun(t, h, i, n)
	if !ok {
		t.Fatalf("not run: %s", heapsText(h))
	}
	isDone(t, h, got, pids, said...)
	return got
}

func isHeapsTellTo(t *testing.T, h impl.Heaps, number int, y impl.Term, pids []int, said ...string) impl.Heaps {
	t.Helper()
	got, ok := isHeapsTell(t, h, number, y)
	if !ok {
		t.Fatalf("not told: %s", heapsText(h))
	}
	isDone(t, h, got, pids, said...)
	return got
}

// A run by what the chapter tells of it: a word is sent, an actor made, linked, told of, and ended.
func TestARunOfSeveralCells(t *testing.T) {
	l := linesOf(t, "make 1 0 6", "link 1", "self 2", "send 1 0", "take 3", "end 3", "take 4", "say 4", "send 2 4", "take 5", "jump 9")
	h := isNewHeaps(t, l, termOf(t, "{hi,[1]}"), 100, 40)
	h = isHeapsRunTo(t, h, 0, 20, []int{1, 2}, "+2 {hi,[1]}")
	if len(h.Atoms) != 1 || h.Next != 3 || h.Cells[0].Pc != 4 || !slices.Equal(h.Cells[0].Links, []int{2}) || !slices.Equal(h.Cells[1].Links, []int{1}) {
		t.Error("behind the first run", heapsText(h))
	}
	// what is told stands in the heap of who is told
	g, _ := impl.LoadHome(h.A, h.Cells[1].At)
	if !slices.Equal(h.Cells[1].Box, []int{yTuple(5)}) || len(g.Young) != 10 || h.Cells[0].At == h.Cells[1].At {
		t.Error("told", heapsText(h))
	}
	// 2 has no Pid in its third register
	h = isHeapsRunTo(t, h, 1, 20, nil, "!2 {hi,[1]}", "-2 fault", "-1 fault")
	if impl.FreeWords(h.A) != 97 {
		t.Error("free words", impl.FreeWords(h.A))
	}
	_, ok := isHeapsRun(t, h, 0, 1)
	if ok {
		t.Error("nobody is left to run")
	}
}

func TestPlacesAndStepsOfRunsOnHeaps(t *testing.T) {
	for _, n := range []int{1, 2, 3, 20} {
		h := settled(plainOf(t, n, "say 0", "jump 0"), 20, 1, 0)
		pids := links(1, n)
		for _, i := range []int{0, 1, n - 1, n, 2*n + 1, 1000, math.MaxInt} {
			isHeapsRunTo(t, h, i, 1, pids, fmt.Sprintf("!%d {%d}", i%n+1, i%n+1))
		}
		for _, i := range []int{-1, -n, math.MinInt} {
			got, ok := isHeapsRun(t, h, i, 1)
			isStillHeaps(t, h, got, ok)
		}
		for _, k := range []int{1, 2, 19, 20} {
			isHeapsRunTo(t, h, n-1, k, pids, slices.Repeat([]string{fmt.Sprintf("!%d {%d}", n, n)}, (k+1)/2)...)
		}
		for _, k := range []int{math.MinInt, -1, 0, 21, 22, math.MaxInt} {
			got, ok := isHeapsRun(t, h, 0, k)
			isStillHeaps(t, h, got, ok)
		}
	}
}

func TestHeapsWithoutCells(t *testing.T) {
	for _, words := range []int{0, 4, 40} {
		h := settled(impl.Plain{Code: linesOf(t, "end 0"), Next: 5, Out: saidOf(3)}, 20, 0, 0)
		h.A = impl.ArenaNew(words)
		h.Atoms = []string{"a"}
		isHeaps(t, h)
		for _, i := range []int{0, 1, 4, 5, -1, math.MaxInt, math.MinInt} {
			for _, n := range []int{0, 1, 20, 21} {
				got, ok := isHeapsRun(t, h, i, n)
				isStillHeaps(t, h, got, ok)
			}
			got, ok := isHeapsTell(t, h, i, num(1))
			isStillHeaps(t, h, got, ok)
			got, ok = isHeapsEnd(t, h, i, num(1))
			isStillHeaps(t, h, got, ok)
			got, ok = isHeapsSweep(t, h, i)
			isStillHeaps(t, h, got, ok)
		}
	}
}

func TestPidsThatNobodyHas(t *testing.T) {
	p := join(impl.Plain{Code: linesOf(t, "end 0"), Next: 9, Actors: []impl.Actor{standing(2, tup()), standing(5), standing(8)}}, [2]int{2, 8})
	h := settled(p, 100, 60, 20)
	for _, number := range []int{math.MinInt, -5, -1, 0, 1, 3, 4, 6, 7, 9, 10, 90000, 99999, 100000, math.MaxInt} {
		for _, y := range []impl.Term{num(1), atom("ok"), {}} {
			got, ok := isHeapsTell(t, h, number, y)
			isStillHeaps(t, h, got, ok)
			got, ok = isHeapsEnd(t, h, number, y)
			isStillHeaps(t, h, got, ok)
		}
		got, ok := isHeapsSweep(t, h, number)
		isStillHeaps(t, h, got, ok)
	}
	for _, number := range []int{2, 5, 8} {
		for _, y := range wrongTerms {
			got, ok := isHeapsTell(t, h, number, y)
			isStillHeaps(t, h, got, ok)
			got, ok = isHeapsEnd(t, h, number, y)
			isStillHeaps(t, h, got, ok)
		}
		for _, y := range rightTerms {
			if _, ok := isHeapsTell(t, h, number, y); !ok {
				t.Error("not told", number, y)
			}
			if _, ok := isHeapsEnd(t, h, number, y); !ok {
				t.Error("not ended", number, y)
			}
		}
		if _, ok := isHeapsSweep(t, h, number); !ok {
			t.Error("not swept", number)
		}
	}
}

// A cell that makes words in just so much room, and in one word less.
func TestRoomForWhoRuns(t *testing.T) {
	for _, x := range []struct {
		line string
		need int
	}{{"nil 7", 0}, {"cons 7 0 6", 2}, {"tuple 7 0 0", 1}, {"tuple 7 0 1", 2}, {"tuple 7 1 3", 4}, {"tuple 7 0 8", 9}} {
		for _, b := range []brood{heapOfSix(5, 0, 6, 0, 9, 0), heapOfSix(30, 0, 0, 0, 0, 0), heapOfSix(0, 0, 0, 0, 22, 0)} {
			n := len(b.old) + len(b.young)
			b.roots = append(b.roots, intsOf(6-len(b.roots))...)
			b.roots = append(b.roots, wNil, wNil)
			for _, spare := range []int{0, 1, 9, 20} {
				for _, room := range []int{n + x.need, n + x.need + 1} {
					h := withFree(t, oneOn(t, b, room, spare, x.line, "say 6", "jump 1"), 100)
					got := isHeapsRunTo(t, h, 0, 2, []int{1}, "!1 []")
					g, _ := impl.LoadHome(got.A, got.Cells[0].At)
					if len(g.Old)+len(g.Young) != n+x.need {
						t.Error("words", len(g.Old), len(g.Young), "not", n+x.need)
					}
				}
				if x.need > 0 {
					h := withFree(t, oneOn(t, b, n+x.need-1, spare, x.line, "say 6", "jump 1"), 100)
					got := isHeapsRunTo(t, h, 0, 20, nil, "-1 noroom")
					if impl.FreeWords(got.A) != len(h.A.W)-3 {
						t.Error("free words", impl.FreeWords(got.A))
					}
				}
			}
		}
	}
	// what is dead is swept away ahead of that
	for _, x := range [][6]int{{5, 0, 6, 0, 9, 1}, {5, 0, 6, 1, 9, 0}, {5, 1, 6, 0, 9, 0}} {
		b := heapOfSix(x[0], x[1], x[2], x[3], x[4], x[5])
		h := withFree(t, oneOn(t, b, 22, 0, "tuple 7 6 0", "say 7", "jump 1"), 1)
		// not swept, it would have to move
		isHeapsRunTo(t, h, 0, 2, nil, "-1 noroom")
		h.Room = 21
		isHeapsRunTo(t, h, 0, 2, []int{1}, "!1 {}")
		b = heapOfSix(x[0], x[1], x[2], x[3], x[4], x[5])
		h = withFree(t, oneOn(t, b, 21, 0, "tuple 7 6 1", "say 7", "jump 1"), 1)
		isHeapsRunTo(t, h, 0, 2, nil, "-1 noroom")
	}
}

// withFree is h with n words more in a free block at its end.
func withFree(t *testing.T, h impl.Heaps, n int) impl.Heaps {
	t.Helper()
	x, right := boroughOf(h)
	if !right {
		t.Fatalf("not right: %s", heapsText(h))
	}
	x.s = append(x.s, part{false, make([]int, n)})
	return x.heaps()
}

// A fault comes where there is room, and no words are made for it.
func TestFaultsAndRoom(t *testing.T) {
	b := heapOfSix(0, 0, 0, 0, 20, 0)
	for _, x := range []struct {
		room int
		end  string
	}{{20, "-1 noroom"}, {21, "-1 noroom"}, {22, "-1 fault"}, {30, "-1 fault"}} {
		isHeapsRunTo(t, oneOn(t, b, x.room, 0, "cons 7 6 0", "end 0"), 0, 1, nil, x.end)
	}
	// other faults ask for no room
	isHeapsRunTo(t, oneOn(t, b, 20, 0, "head 7 6", "end 0"), 0, 1, nil, "-1 fault")
	isHeapsRunTo(t, oneOn(t, b, 20, 0, "take 7", "end 0"), 0, 20, []int{1})
}

// A heap that grows out of its home: the new one has room in what is free, or in what it leaves.
func TestHomesForWhoRuns(t *testing.T) {
	for _, x := range []struct {
		line string
		need int
	}{{"cons 7 0 6", 2}, {"tuple 7 0 8", 9}, {"tuple 7 0 0", 1}} {
		for _, n := range []int{1, 5, 20} {
			p := plainOf(t, 2, x.line, "say 5", "jump 1")
			for i := range p.Actors {
				p.Actors[i].Regs = standing(1, binsOf(t, n), num(0), num(0), num(0), num(0), num(i), lst()).Regs
			}
			most := n + x.need + 3 + 8
			for at := range 2 {
				fine := fmt.Sprintf("!%d %d", at+1, at)
				// there is room in the home that it has
				isHeapsRunTo(t, settled(p, 100, x.need, 0), at, 2, []int{1, 2}, fine)
				for _, free := range []int{most, most + 1, most + 3, most + 4, most + 50} {
					h := settled(p, 100, x.need-1, free)
					got := isHeapsRunTo(t, h, at, 2, []int{1, 2}, fine)
					if got.Cells[at].At == h.Cells[at].At && at == 0 || got.Cells[1-at].At != h.Cells[1-at].At {
						t.Error("moved", heapsText(h), heapsText(got))
					}
				}
				// behind the home of the second one there is what it leaves, too
				left := 0
				if at == 1 {
					left = n + 3 + x.need - 1 + 3
				}
				if free := most - left; free > 0 {
					isHeapsRunTo(t, settled(p, 100, x.need-1, free), at, 2, []int{1, 2}, fine)
				}
				if free := most - left - 1; free > 0 {
					isHeapsRunTo(t, settled(p, 100, x.need-1, free), at, 2, []int{2 - at}, fmt.Sprintf("-%d noroom", at+1))
				}
			}
			isHeapsRunTo(t, settled(p, 100, x.need-1, 0), 0, 20, []int{2}, "-1 noroom")
			isHeapsRunTo(t, settled(p, 100, x.need-1, 0), 1, 20, []int{1}, "-2 noroom")
		}
	}
	// all of a small arena, word by word: of 37 words 3 stand ahead, and a new home has 8 to spare
	h := isNewHeaps(t, linesOf(t, "cons 0 1 0", "jump 0"), lst(), 40, 1000)
	sizes := []int{}
	for len(h.Cells) > 0 {
		n, _, _ := impl.BlockAt(h.A, h.Cells[0].At)
		sizes = append(sizes, n)
		h, _ = isHeapsRun(t, h, 0, 2)
	}
	if want := []int{11, 11, 11, 11, 11, 21, 21, 21, 21, 21, 31, 31, 31, 31, 31}; !slices.Equal(sizes, want) || impl.FreeWords(h.A) != 37 || !sameSaid(h.Out[1], impl.Said{Kind: impl.SaidEnd, Pid: 1, T: noRoom}) {
		t.Error("homes of", sizes, "not", want)
	}
}

// Atoms have room for two hundred of all.
func TestAtomsForWhoRuns(t *testing.T) {
	for _, n := range []int{0, 198, 199, 200} {
		h := settled(plainOf(t, 2, "atom 1 new", "say 1", "jump 0"), 50, 9, 0)
		h.Atoms = atomsOf(n)
		if n == 200 {
			got := isHeapsRunTo(t, h, 1, 20, []int{1}, "-2 noroom")
			if len(got.Atoms) != 200 {
				t.Error("atoms", got.Atoms)
			}
			// one that is there needs no room
			h.Code[0].S = "a199"
			isHeapsRunTo(t, h, 1, 2, []int{1, 2}, "!2 a199")
			continue
		}
		got := isHeapsRunTo(t, h, 1, 2, []int{1, 2}, "!2 new")
		if len(got.Atoms) != n+1 || got.Atoms[n] != "new" {
			t.Error("atoms", got.Atoms)
		}
		// the atom of one is the atom of all
		got = isHeapsRunTo(t, got, 0, 2, []int{1, 2}, "!1 new")
		if len(got.Atoms) != n+1 {
			t.Error("atoms", got.Atoms)
		}
	}
}

// Who runs without room takes those along that it is linked to, and does no more; whoever comes to stand at its place does not run for it.
func TestWhoGoesWithWhoRunsWithoutRoom(t *testing.T) {
	p := join(plainOf(t, 7, "say 0", "tuple 1 0 2", "say 1", "jump 0"), [2]int{3, 7}, [2]int{7, 5}, [2]int{3, 1}, [2]int{5, 2}, [2]int{4, 6})
	h := settled(p, 20, 0, 0)
	isHeapsRunTo(t, h, 2, 20, []int{4, 6}, "!3 {3}", "-3 noroom", "-1 noroom", "-7 noroom", "-5 noroom", "-2 noroom")
	isHeapsRunTo(t, h, 0, 20, []int{4, 6}, "!1 {1}", "-1 noroom", "-3 noroom", "-7 noroom", "-5 noroom", "-2 noroom")
	isHeapsRunTo(t, h, 1, 20, []int{4, 6}, "!2 {2}", "-2 noroom", "-5 noroom", "-7 noroom", "-3 noroom", "-1 noroom")
	isHeapsRunTo(t, h, 3, 20, []int{1, 2, 3, 5, 7}, "!4 {4}", "-4 noroom", "-6 noroom")
	h = settled(plainOf(t, 3, "tuple 1 0 2", "say 1", "jump 0"), 20, 0, 0)
	isHeapsRunTo(t, h, 1, 20, []int{1, 3}, "-2 noroom")
}

// toldCells are two: what the first one tells, the second one hears. It has n words, all live, in a home without words to spare.
func toldCells(t *testing.T, y impl.Term, n int, room int, free int) impl.Heaps {
	t.Helper()
	p := plainOf(t, 2, "send 1 2", "say 3", "jump 1")
	p.Actors[0].Regs = standing(1, num(0), pid(2), y, num(7)).Regs
	p.Actors[1].Regs = standing(2, binsOf(t, n)).Regs
	h := settled(p, room, 0, free)
	isHeaps(t, h)
	return h
}

// Who is told has room for just the word, in its heap and in the arena, or one word less.
func TestRoomForWhoIsTold(t *testing.T) {
	for _, y := range []impl.Term{tup(), tup(num(1)), lst(num(1)), lst(num(1), tup(pid(3))), bin("abc"), tup(lst(), lst(lst(num(4))))} {
		need := impl.NeedOf(y)
		for _, n := range []int{14, 20, 60} {
			// its heap
			if n+need >= 20 {
				h := toldCells(t, y, n, n+need, 200)
				got := isHeapsRunTo(t, h, 0, 2, []int{1, 2}, "!1 7")
				if len(got.Cells[1].Box) != 1 {
					t.Error("not told", heapsText(got))
				}
				isHeapsTellTo(t, h, 2, y, []int{1, 2})
			}
			if n+need > 20 {
				h := toldCells(t, y, n, n+need-1, 200)
				isHeapsRunTo(t, h, 0, 2, []int{1}, "-2 noroom", "!1 7")
				isHeapsTellTo(t, h, 2, y, []int{1}, "-2 noroom")
			}
			// its home: what it leaves is behind the first one, and ahead of what is free
			free := n + need + 11 - (n + 3) - 3
			h := toldCells(t, y, n, 100, free)
			isHeapsRunTo(t, h, 0, 2, []int{1, 2}, "!1 7")
			isHeapsTellTo(t, h, 2, y, []int{1, 2})
			h = toldCells(t, y, n, 100, free-1)
			isHeapsRunTo(t, h, 0, 2, []int{1}, "-2 noroom", "!1 7")
			isHeapsTellTo(t, h, 2, y, []int{1}, "-2 noroom")
			h = toldCells(t, y, n, 100, 0)
			isHeapsRunTo(t, h, 0, 2, []int{1}, "-2 noroom", "!1 7")
			isHeapsTellTo(t, h, 2, y, []int{1}, "-2 noroom")
		}
	}
	// what needs no words needs no room
	for _, y := range []impl.Term{num(5), pid(2), lst()} {
		h := toldCells(t, y, 20, 20, 0)
		isHeapsRunTo(t, h, 0, 2, []int{1, 2}, "!1 7")
		isHeapsTellTo(t, h, 2, y, []int{1, 2})
	}
	// more words than a heap may ever have
	h := toldCells(t, num(0), 20, 1000, 1500)
	isHeapsTellTo(t, h, 2, binsOf(t, 980), []int{1, 2})
	for _, n := range []int{981, 1000, 1001, 1500} {
		isHeapsTellTo(t, h, 2, binsOf(t, n), []int{1}, "-2 noroom")
	}
	great := tup(many(8, tup(many(8, bin(strings.Repeat("y", 40)))...))...)
	if impl.NeedOf(great) <= 2000 {
		t.Error("needs", impl.NeedOf(great))
	}
	isHeapsTellTo(t, h, 2, great, []int{1}, "-2 noroom")
}

// What is dead with who is told is swept away for the word.
func TestSweepsForWhoIsTold(t *testing.T) {
	for _, x := range [][6]int{{6, 0, 4, 0, 5, 5}, {6, 0, 4, 5, 5, 0}, {6, 5, 4, 0, 5, 0}, {2, 2, 2, 2, 9, 3}, {0, 20, 0, 0, 0, 0}} {
		b := heapOfSix(x[0], x[1], x[2], x[3], x[4], x[5])
		live, all := x[0]+x[2]+x[4], len(b.old)+len(b.young)
		for need := 1; need <= 12; need++ {
			h := oneOn(t, b, 20, 3, "take 0", "say 0", "jump 0")
			h = withFree(t, h, 40)
			if live+need > 20 {
				isHeapsTellTo(t, h, 1, binsOf(t, need), nil, "-1 noroom")
				continue
			}
			got := isHeapsTellTo(t, h, 1, binsOf(t, need), []int{1})
			g, _ := impl.LoadHome(got.A, got.Cells[0].At)
			if n := len(g.Old) + len(g.Young); n > 20 || n < live+need || all+need > 20 && n >= all+need {
				t.Error("words", n)
			}
		}
	}
}

// An atom that nobody has said yet comes from outside alone.
func TestAtomsThatAreTold(t *testing.T) {
	for _, n := range []int{0, 1, 197, 198, 199, 200} {
		h := settled(plainOf(t, 2, "take 0", "say 0", "jump 0"), 50, 9, 50)
		h.Atoms = atomsOf(n)
		for k, y := range []impl.Term{num(1), atom("new"), tup(atom("new"), atom("newer"))} {
			if n+k > 200 {
				got := isHeapsTellTo(t, h, 2, y, []int{1}, "-2 noroom")
				if !slices.Equal(got.Atoms, h.Atoms) {
					t.Error("atoms", got.Atoms)
				}
				continue
			}
			got := isHeapsTellTo(t, h, 2, y, []int{1, 2})
			if !slices.Equal(got.Atoms, slices.Concat(h.Atoms, []string{"new", "newer"}[:k])) {
				t.Error("atoms", got.Atoms)
			}
			isHeapsRunTo(t, got, 1, 2, []int{1, 2}, "!2 "+impl.TermText(y))
		}
		if n > 0 {
			isHeapsTellTo(t, h, 2, lst(atom("a0"), atom(fmt.Sprint("a", n-1))), []int{1, 2})
		}
	}
	// where there is no home for the word, its atoms are nobody's
	h := toldCells(t, num(0), 20, 100, 0)
	got := isHeapsTellTo(t, h, 2, tup(atom("new")), []int{1}, "-2 noroom")
	if len(got.Atoms) != 0 {
		t.Error("atoms", got.Atoms)
	}
}

func TestActorsThatTellThemselvesWithoutRoom(t *testing.T) {
	for _, x := range []struct{ room, free int }{{20, 100}, {23, 100}, {24, 0}, {24, 4}} {
		p := plainOf(t, 3, "send 1 0", "say 2", "jump 0")
		for i := range p.Actors {
			p.Actors[i].Regs = standing(1, binsOf(t, 12), pid(i+1), num(7)).Regs
		}
		h := settled(p, x.room, 0, x.free)
		if x.room == 24 {
			// its heap has room, but the last one alone stands beside what is free
			isHeapsRunTo(t, h, 1, 20, []int{1, 3}, "-2 noroom")
			isHeapsRunTo(t, h, 2, 20, []int{1, 2}, "-3 noroom")
			continue
		}
		for i := range 3 {
			isHeapsRunTo(t, h, i, 20, slices.Delete([]int{1, 2, 3}, i, i+1), fmt.Sprintf("-%d noroom", i+1))
		}
	}
	p := plainOf(t, 1, "send 1 0", "say 2", "jump 0")
	p.Actors[0].Regs = standing(1, binsOf(t, 12), pid(1), num(7)).Regs
	isHeapsRunTo(t, settled(p, 24, 0, 6), 0, 20, nil, "-1 noroom")
	isHeapsRunTo(t, settled(p, 24, 0, 17), 0, 2, []int{1}, "!1 7")
	isHeapsRunTo(t, settled(p, 24, 0, 17), 0, 20, nil, "!1 7", "-1 noroom")
}

// Who is told without room takes those along that it is linked to, who tells it among them.
func TestWhoGoesWithWhoIsToldWithoutRoom(t *testing.T) {
	p := plainOf(t, 6, "say 0", "send 1 0", "say 2", "jump 0")
	for i := range p.Actors {
		p.Actors[i].Regs = standing(1, tup(num(i+1)), pid(4), num(7)).Regs
	}
	p.Actors[3].Regs[3] = binsOf(t, 18)
	h := settled(join(p, [2]int{4, 6}, [2]int{6, 2}, [2]int{4, 5}), 20, 0, 0)
	isHeapsRunTo(t, h, 0, 4, []int{1, 3}, "!1 {1}", "-4 noroom", "-5 noroom", "-6 noroom", "-2 noroom", "!1 7")
	isHeapsRunTo(t, h, 1, 20, []int{1, 3}, "!2 {2}", "-4 noroom", "-5 noroom", "-6 noroom", "-2 noroom")
	isHeapsRunTo(t, h, 4, 20, []int{1, 3}, "!5 {5}", "-4 noroom", "-5 noroom", "-6 noroom", "-2 noroom")
	isHeapsRunTo(t, h, 3, 20, []int{1, 3}, "!4 {4}", "-4 noroom", "-5 noroom", "-6 noroom", "-2 noroom")
	isHeapsTellTo(t, h, 4, tup(), []int{1, 3}, "-4 noroom", "-5 noroom", "-6 noroom", "-2 noroom")
}

// Where one has ended in a run, a new one may come to have its block in the same run: that is the new one's, whoever is told or ends behind that.
func TestBlocksThatAreGivenAgain(t *testing.T) {
	for _, line := range []string{"say 5", "send 1 5", "send 1 6", "link 1"} {
		p := plainOf(t, 3, "send 1 4", line, "make 5 7 6", line, "send 2 4", line, "say 3", "send 5 6", "take 0", "jump 6")
		for i, n := range []int{0, 8, 12} {
			p.Actors[i].Regs = standing(i+1, binsOf(t, n), pid(2), pid(3), num(7), binsOf(t, 20), pid(9), lst(num(4)), num(8)).Regs
		}
		h := settled(p, 40, 8, 0)
		said := []string{"-2 noroom", "+4 8", "-3 noroom", "!1 7"}
		if line == "say 5" {
			said = []string{"-2 noroom", "!1 <9>", "+4 8", "!1 <4>", "-3 noroom", "!1 <4>", "!1 7"}
		}
		got := isHeapsRunTo(t, h, 0, 9, []int{1, 4}, said...)
		if got.Cells[1].At != h.Cells[1].At || len(got.Cells[1].Box) != 1 {
			t.Error("not in its place", heapsText(got))
		}
	}
}

// A box of thirty takes no more, whether there is room on the heap or none: the word is lost, and nobody ends.
func TestFullBoxes(t *testing.T) {
	for _, n := range []int{28, 29, 30} {
		for _, y := range []impl.Term{num(1), tup(num(1)), binsOf(t, 30)} {
			p := plainOf(t, 2, "send 1 2", "say 3", "jump 1")
			p.Actors[0].Regs = standing(1, num(0), pid(2), y, num(7)).Regs
			p.Actors[1].Box = many(n, num(4))
			h := settled(p, 40, 0, 0)
			got, ok := isHeapsTell(t, h, 2, y)
			if n == 30 {
				isStillHeaps(t, h, got, ok)
				isHeapsRunTo(t, h, 0, 2, []int{1, 2}, "!1 7")
				continue
			}
			if !ok {
				t.Error("refused", n, y)
			}
			if y.K == impl.TInt {
				isDone(t, h, got, []int{1, 2})
			} else {
				isDone(t, h, got, []int{1}, "-2 noroom")
				isHeapsRunTo(t, h, 0, 2, []int{1}, "-2 noroom", "!1 7")
			}
		}
	}
	// one to itself, and to nobody
	p := plainOf(t, 1, "send 1 0", "say 2", "jump 0")
	p.Actors[0].Regs, p.Actors[0].Box = standing(1, binsOf(t, 20), pid(1), num(7)).Regs, many(30, num(4))
	isHeapsRunTo(t, settled(p, 20, 0, 0), 0, 2, []int{1}, "!1 7")
	p.Actors[0].Regs[1] = pid(3)
	isHeapsRunTo(t, settled(p, 20, 0, 0), 0, 2, []int{1}, "!1 7")
}

// Who is new has a home where there is one, on a heap of as much as Room; else it is started, and ends.
func TestRoomForWhoIsNew(t *testing.T) {
	for _, n := range []int{0, 1, 9, 20, 30} {
		p := plainOf(t, 2, "make 1 0 1", "say 2", "jump 1")
		y := binsOf(t, n)
		p.Actors[1].Regs = standing(2, y, num(0), num(7)).Regs
		fine, short := "+3 "+impl.TermText(y), "-3 noroom"
		// the arena
		for _, free := range []int{n + 11, n + 12, n + 15, n + 40} {
			got := isHeapsRunTo(t, settled(p, 30, 0, free), 1, 2, []int{1, 2, 3}, fine, "!2 7")
			if got.Next != 4 || got.Cells[2].Pc != 1 || got.Cells[1].Regs[1] != wPid(3) || len(got.Cells[2].Links) != 0 {
				t.Error("new", heapsText(got))
			}
		}
		for _, free := range []int{0, 1, n + 10} {
			got := isHeapsRunTo(t, settled(p, 30, 0, free), 1, 2, []int{1, 2}, fine, short, "!2 7")
			if got.Next != 4 || got.Cells[1].Regs[1] != wPid(3) {
				t.Error("new", heapsText(got))
			}
		}
	}
}

// What is one on the heap of who makes is two on the heap of who is new.
func TestHeapsOfWhoIsNew(t *testing.T) {
	for _, x := range []struct{ n, times, room int }{{9, 2, 21}, {6, 3, 22}, {4, 5, 26}, {41, 8, 337}, {1, 8, 20}} {
		lines := []string{"tuple 0 0 " + fmt.Sprint(x.times), "make 1 0 3", "say 2", "take 3", "jump 3"}
		b := brood{}
		w := b.lay(binsOf(t, x.n))
		b.roots = slices.Repeat([]int{w}, 8)
		need := 1 + x.times + x.times*x.n
		for _, room := range []int{need - 1, need} {
			if room < 20 {
				continue
			}
			h := withFree(t, oneOn(t, b, room, x.times+1, lines...), 1000)
			got, _ := isHeapsRun(t, h, 0, 2)
			if room == need {
				isDone(t, h, got, []int{1, 2}, "+2 "+impl.TermText(got.Out[0].T))
			} else {
				isDone(t, h, got, []int{1}, "+2 "+impl.TermText(got.Out[0].T), "-2 noroom")
			}
		}
	}
	// more words than Young may have, and more than there may be at all
	for _, times := range []int{3, 8} {
		b := brood{}
		w := b.lay(bin(strings.Repeat("z", 40)))
		b.roots = slices.Repeat([]int{w}, 8)
		h := withFree(t, oneOn(t, b, 1000, 60, "tuple 0 0 8", "move 1 0", "move 2 0", "move 3 0", "move 4 0", "move 5 0", "move 6 0", "move 7 0", fmt.Sprint("tuple 0 0 ", times), "make 1 0 0", "say 1", "take 3", "end 3"), 3000)
		got, _ := isHeapsRun(t, h, 0, 11)
		if need := impl.NeedOf(got.Out[0].T); need <= 1000 || (times == 8) != (need > 2000) {
			t.Fatal("needs", need)
		}
		isDone(t, h, got, []int{1}, "+2 "+impl.TermText(got.Out[0].T), "-2 noroom", "!1 <2>")
	}
}

// One that can't be put has its Pid all the same; words to it are lost, and links to it are none.
func TestPidsOfThoseThatCannotBePut(t *testing.T) {
	h := isNewHeaps(t, linesOf(t, "make 1 0 0", "link 1", "send 1 0", "say 1", "jump 0"), tup(num(1)), 40, 20)
	h = isHeapsRunTo(t, h, 0, 5, []int{1, 2}, "+2 {1}", "!1 <2>")
	h = isHeapsRunTo(t, h, 0, 5, []int{1, 2}, "+3 {1}", "-3 noroom", "!1 <3>")
	h = isHeapsRunTo(t, h, 0, 10, []int{1, 2}, "+4 {1}", "-4 noroom", "!1 <4>", "+5 {1}", "-5 noroom", "!1 <5>")
	if h.Next != 6 || !slices.Equal(h.Cells[0].Links, []int{2}) {
		t.Error("links", heapsText(h))
	}
	// links that led to the Pid while nobody had it lead to nobody
	p := plainOf(t, 1, "make 1 0 0", "say 1", "jump 0")
	p.Actors[0].Links = []int{2, 3, 4}
	got := isHeapsRunTo(t, settled(p, 20, 0, 5), 0, 2, []int{1}, "+2 {1}", "-2 noroom", "!1 <2>")
	if !slices.Equal(got.Cells[0].Links, []int{3, 4}) {
		t.Error("links", heapsText(got))
	}
	got = isHeapsRunTo(t, settled(p, 20, 0, 50), 0, 2, []int{1, 2}, "+2 {1}", "!1 <2>")
	if !slices.Equal(got.Cells[0].Links, []int{3, 4}) || len(got.Cells[1].Links) != 0 {
		t.Error("links", heapsText(got))
	}
}

// Twenty cells, and the last Pid: who makes one more ends by full, whether there is room or none.
func TestWhereNoMoreCellsMayBeMade(t *testing.T) {
	for _, n := range []int{1, 2, 18, 19, 20} {
		for _, next := range []int{n + 1, 89998, 89999, 90000} {
			for _, free := range []int{0, 60} {
				p := plainOf(t, n, "make 1 0 2", "jump 0", "take 0", "jump 2")
				p.Next = next
				h := settled(p, 20, 0, free)
				at := n / 2
				pids := links(1, n)
				switch {
				case n == 20 || next == 90000:
					got := isHeapsRunTo(t, h, at, 20, slices.Delete(pids, at, at+1), fmt.Sprintf("-%d full", at+1))
					if got.Next != next {
						t.Error("next", got.Next)
					}
				case free == 0:
					got := isHeapsRunTo(t, h, at, 1, pids, fmt.Sprintf("+%d {%d}", next, at+1), fmt.Sprintf("-%d noroom", next))
					if got.Next != next+1 {
						t.Error("next", got.Next)
					}
				default:
					isHeapsRunTo(t, h, at, 1, append(pids, next), fmt.Sprintf("+%d {%d}", next, at+1))
				}
			}
		}
	}
	p := join(plainOf(t, 20, "make 1 0 0", "say 0", "jump 0"), [2]int{3, 7}, [2]int{7, 5}, [2]int{3, 20}, [2]int{1, 2})
	h := settled(p, 20, 0, 9)
	isHeapsRunTo(t, h, 2, 20, slices.DeleteFunc(links(1, 20), func(n int) bool { return n == 3 || n == 7 || n == 5 || n == 20 }), "-3 full", "-7 full", "-5 full", "-20 full")
	// up to the last one that may be made, and one more
	h = isNewHeaps(t, linesOf(t, "make 1 0 2", "jump 0", "take 0", "jump 2"), num(7), 4000, 20)
	for range 5 {
		h, _ = isHeapsRun(t, h, 0, 8)
	}
	if len(h.Cells) != 19 || h.Cells[0].Pid != 2 || h.Next != 21 || len(h.Out) != 21 || !sameSaid(h.Out[20], impl.Said{Kind: impl.SaidEnd, Pid: 1, T: atom("full")}) {
		t.Error("one too many was made", heapsText(h))
	}
}

// What comes behind 500 is not kept, whatever it is; what it tells of is done.
func TestWhatIsNotKeptOfHeaps(t *testing.T) {
	for n := 494; n <= 500; n++ {
		p := join(plainOf(t, 4, "make 1 0 0", "say 0", "tuple 1 0 2", "end 0"), [2]int{1, 3}, [2]int{3, 2})
		p.Out = saidOf(n)
		all := []string{"+5 {1}", "-5 noroom", "!1 {1}", "-1 noroom", "-3 noroom", "-2 noroom"}
		got := isHeapsRunTo(t, settled(p, 20, 0, 5), 0, 20, []int{4}, all[:min(500-n, 6)]...)
		if got.Next != 6 {
			t.Error("next", got.Next)
		}
		isHeapsTellTo(t, settled(p, 20, 0, 5), 3, binsOf(t, 30), []int{4}, []string{"-3 noroom", "-1 noroom", "-2 noroom"}[:min(500-n, 3)]...)
		for _, number := range []int{1, 2, 3} {
			got, _ := isHeapsEnd(t, settled(p, 20, 0, 5), number, num(1))
			if len(got.Cells) != 1 || len(got.Out) != min(500, n+3) {
				t.Error("ended", heapsText(got))
			}
		}
	}
}

// Each that ends gives its block back, in whatever order they stand; what is free comes together.
func TestHomesOfThoseThatEnd(t *testing.T) {
	for _, order := range ordersOf(4) {
		h := settled(plainOf(t, 4, "take 0", "end 0"), 20, 2, 7)
		for i, k := range order {
			h, _ = isHeapsEnd(t, h, k+1, num(i))
			if impl.FreeWords(h.A) < 7+(i+1)*7 {
				t.Error("free", impl.FreeWords(h.A))
			}
		}
		if impl.FreeWords(h.A) != len(h.A.W)-3 || len(impl.Blocks(h.A)) != 1 {
			t.Error("not one free block", impl.Blocks(h.A))
		}
	}
	for _, x := range []struct {
		first int
		by    impl.Term
		left  []int
		said  []string
	}{
		{3, num(9), []int{4}, []string{"-3 9", "-1 9", "-5 9", "-2 9"}},
		{5, atom("x"), []int{4}, []string{"-5 x", "-2 x", "-3 x", "-1 x"}},
		{3, atom("ok"), []int{1, 2, 4, 5}, []string{"-3 ok"}},
		{4, num(9), []int{1, 2, 3, 5}, []string{"-4 9"}},
		{1, noRoom, []int{4}, []string{"-1 noroom", "-3 noroom", "-5 noroom", "-2 noroom"}},
	} {
		h := settled(join(plainOf(t, 5, "take 0", "end 0"), [2]int{3, 1}, [2]int{3, 5}, [2]int{5, 2}), 20, 2, 7)
		got, ok := isHeapsEnd(t, h, x.first, x.by)
		if !ok {
			t.Error("not ended", x.first)
		}
		isDone(t, h, got, x.left, x.said...)
	}
}

func TestSweepsOfHeaps(t *testing.T) {
	for _, x := range [][6]int{{3, 4, 5, 6, 7, 8}, {1, 1, 1, 1, 1, 1}, {0, 9, 0, 9, 0, 2}, {20, 0, 0, 0, 0, 0}, {0, 0, 0, 0, 20, 30}, {0, 0, 0, 0, 0, 0}, {300, 100, 100, 200, 100, 200}} {
		b := heapOfSix(x[0], x[1], x[2], x[3], x[4], x[5])
		for _, spare := range []int{0, 4} {
			h := oneOn(t, b, 1000, spare, "take 0", "end 0")
			got, ok := isHeapsSweep(t, h, 1)
			g, _ := impl.LoadHome(got.A, got.Cells[0].At)
			if !ok || len(g.Old) != x[0]+x[2]+x[4] || len(g.Young) != 0 || g.Mark != 0 || got.Cells[0].At != 0 {
				t.Error("swept", x, heapsText(got))
			}
			again, ok := isHeapsSweep(t, got, 1)
			if !ok || !sameHeaps(again, got) {
				t.Error("swept again", heapsText(again))
			}
		}
	}
	h := threeHeaps(t)
	for _, number := range []int{1, 2, 3} {
		got, ok := isHeapsSweep(t, h, number)
		if !ok {
			t.Error("not swept", number)
		}
		for i, c := range h.Cells {
			if i != number-1 && !sameCell(c, got.Cells[i]) {
				t.Error("another one was swept", heapsText(got))
			}
		}
		h = got
	}
}

// Words that stand on each other may be more behind a sweep: it is refused where these have no room.
func TestSweepsOfHeapsThatHaveNoRoom(t *testing.T) {
	old := slices.Concat([]int{0, 8}, slices.Repeat([]int{wTuple(0)}, 8), []int{8}, slices.Repeat([]int{wTuple(0)}, 8))
	b := brood{old: old, roots: []int{wTuple(1), wBin(1), wTuple(10), wBin(10)}}
	for _, x := range []struct {
		room, free int
		ok         bool
	}{{20, 100, false}, {36, 100, false}, {37, 100, true}, {37, 0, false}, {1000, 22, false}, {1000, 23, true}} {
		h := oneOn(t, b, x.room, 0, "tuple 7 0 0", "end 7")
		if x.free > 0 {
			h = withFree(t, h, x.free)
		}
		got, ok := isHeapsSweep(t, h, 1)
		if ok != x.ok {
			t.Error("swept", x, heapsText(got))
		}
		isHeapsRun(t, h, 0, 2)
		isHeapsTell(t, h, 1, tup(num(1)))
	}
}

// growingLines are livelyLines, and instructions by which heaps grow, some of them several at once, that few end by a fault.
var growingLines = slices.Concat(livelyLines, []string{"nil 7\ncons 7 0 7\ncons 7 4 7", "nil 5\ncons 5 4 5", "nil 7\ncons 7 1 7\ncons 7 1 7\ncons 7 2 7", "tuple 6 0 2", "tuple 7 1 3", "tuple 6 4 1", "send 0 7", "send 3 6", "atom 5 growing", "atom 7 x"})

// anyHeaps is right: drawn actors on heaps that were swept now and then, in blocks that stand in any order, with room to spare or none, and free ones between them.
func anyHeaps(d *dice) impl.Heaps {
	p := anyPlain(d)
	x := borough{code: p.Code, next: p.Next, out: p.Out, room: []int{20, 25, 40, 100, 300, 1000}[d.below(6)]}
	if d.below(2) == 0 {
		x.code = codeOfLines(d, growingLines)
	}
	x.atoms = atomsOf([]int{0, 0, 0, 5, 193, 197, 199, 200}[d.below(8)])
	for _, a := range p.Actors {
		x.tenants = append(x.tenants, x.anyTenant(d, a))
	}
	x.settleBlocks(d)
	return x.heaps()
}

// anyTenant is a on a heap of no more than there is room for: as often as not of just so much.
func (x *borough) anyTenant(d *dice, a impl.Actor) lodger {
	y := lodger{impl.Cell{Pid: a.Pid, Pc: a.Pc % len(x.code), Links: a.Links}, brood{atoms: x.atoms}}
	roots := []int{}
	for _, z := range slices.Concat(a.Regs, a.Box) {
		ahead := y.b.clone()
		w := y.b.lay(z)
		if !y.b.fitting() || len(y.b.young) > x.room || len(y.b.young) > 150 {
			y.b, w = ahead, wPid(1+d.below(9))
		}
		roots = append(roots, w)
	}
	x.atoms = y.b.atoms
	y.c.Regs, y.c.Box = roots[:8:8], roots[8:]
	for range d.below(3) {
		if next := y.aged()[d.below(4)]; len(next.b.old)+len(next.b.young) <= x.room {
			y = next
		}
		for i, w := range y.c.Regs {
			if w&7 >= impl.WTuple && d.below(3) == 0 {
				y.c.Regs[i] = wInt(d.below(3))
			}
		}
	}
	return y
}

func (x *borough) settleBlocks(d *dice) {
	const atEnd = 400
	words, free := 0, false
	addFree := func(n int) {
		if !free && words+n+3 <= mostArena {
			x.s = append(x.s, part{false, make([]int, n)})
			words, free = words+n+3, true
		}
	}
	for _, i := range orderOfDice(d, len(x.tenants)) {
		if d.below(3) == 0 && words < 1500 {
			addFree(1 + d.below(30))
		}
		y := &x.tenants[i]
		n := y.b.need() + []int{0, 1, 2, 8, 20}[d.below(5)]
		if words+n+3 > mostArena-atEnd {
			y.b, y.c.Regs, y.c.Box = brood{}, intsOf(8), nil
			n = 3
		}
		y.c.At = words
		x.s = append(x.s, landed(y.b, n))
		words, free = words+n+3, false
	}
	if d.below(3) > 0 {
		addFree(1 + d.below(atEnd-50))
	}
}

func orderOfDice(d *dice, n int) []int {
	l := links(0, n)
	for i := range l {
		k := i + d.below(n-i)
		l[i], l[k] = l[k], l[i]
	}
	return l
}

// Drawn systems, to each of which something is done.
func TestHeapsByChance(t *testing.T) {
	d := dice(120)
	counts := map[string]int{}
	for range 1100 {
		h := anyHeaps(&d)
		if _, right := boroughOf(h); !right || !okHeaps(t, h) {
			t.Fatalf("drawn, but right is %v: %s", right, heapsText(h))
		}
		number := 1 + d.below(h.Next)
		if len(h.Cells) > 0 && d.below(8) > 0 {
			number = h.Cells[d.below(len(h.Cells))].Pid
		}
		got, ok := h, false
		what := "run"
		switch d.below(8) {
		case 0:
			got, ok = isHeapsTell(t, h, number, anyTerm(&d, 4))
			what = "tell"
		case 1:
			got, ok = isHeapsTell(t, h, number, binsOf(t, d.below(60)))
			what = "tell"
		case 2:
			got, ok = isHeapsEnd(t, h, number, []impl.Term{atom("ok"), num(1)}[d.below(2)])
			what = "end"
		case 3:
			got, ok = isHeapsSweep(t, h, number)
			what = "sweep"
		default:
			got, ok = isHeapsRun(t, h, d.below(45)-2, d.below(22))
		}
		counts[fmt.Sprint(what, " ", ok)]++
		for _, x := range got.Out[len(h.Out):] {
			counts[fmt.Sprint("said ", x.Kind)]++
			if x.Kind == impl.SaidEnd && alike(x.T, noRoom) {
				counts[what+" noroom"]++
			}
		}
	}
	for _, what := range []string{"run true", "run false", "tell true", "tell false", "end true", "end false", "sweep true", "sweep false", "said 1", "said 2", "said 3", "run noroom", "tell noroom"} {
		if counts[what] < 15 {
			t.Error("too few of", what, counts)
		}
	}
}

// isInOrder asks that each Pid starts once, as Pids rise, and ends once at most, behind its start; and that those are there that have not ended.
func isInOrder(t *testing.T, h impl.Heaps) {
	t.Helper()
	if len(h.Out) == mostOut {
		return
	}
	there, started := map[int]bool{}, 0
	for _, x := range h.Out {
		switch {
		case x.Kind == impl.SaidStart && x.Pid == started+1:
			started++
			there[x.Pid] = true
		case x.Kind == impl.SaidSay && there[x.Pid]:
		case x.Kind == impl.SaidEnd && there[x.Pid]:
			delete(there, x.Pid)
		default:
			t.Fatalf("out of order: %v in %s", x, heapsText(h))
		}
	}
	for _, c := range h.Cells {
		if !there[c.Pid] {
			t.Fatalf("%d has ended: %s", c.Pid, heapsText(h))
		}
	}
	if len(there) != len(h.Cells) || h.Next != started+1 {
		t.Fatalf("some are lost: %s", heapsText(h))
	}
}

// noRoomsIn are how many ended for want of room, of a code that says no such end itself.
func noRoomsIn(out []impl.Said) int {
	n := 0
	for _, x := range out {
		if x.Kind == impl.SaidEnd && alike(x.T, noRoom) {
			n++
		}
	}
	return n
}

// besides are a Heaps and a Plain to which the same is done.
type besides struct {
	h impl.Heaps
	p impl.Plain
}

func (x *besides) next(t *testing.T, d *dice) {
	t.Helper()
	number := 1 + d.below(x.h.Next)
	if d.below(4) > 0 {
		number = x.h.Cells[d.below(len(x.h.Cells))].Pid
	}
	same := true
	check := func(got impl.Heaps, ok bool) func(p impl.Plain, right bool) {
		return func(p impl.Plain, right bool) { x.h, x.p, same = got, p, ok == right }
	}
	switch d.below(16) {
	case 0, 1:
		y := pid(1 + d.below(x.h.Next))
		check(isHeapsTell(t, x.h, number, y))(impl.PlainTell(x.p, number, y))
	case 2, 3:
		y := anyTerm(d, 3)
		check(isHeapsTell(t, x.h, number, y))(impl.PlainTell(x.p, number, y))
	case 4:
		if y := []impl.Term{atom("ok"), num(1)}[d.below(2)]; d.below(3) == 0 {
			check(isHeapsEnd(t, x.h, number, y))(impl.PlainEnd(x.p, number, y))
		}
	case 5, 6:
		_, ok := impl.PlainTell(x.p, number, num(0))
		there := slices.ContainsFunc(x.p.Actors, func(a impl.Actor) bool { return a.Pid == number })
		check(isHeapsSweep(t, x.h, number))(x.p, ok || there)
	default:
		i, n := d.below(30), 1+d.below(20)
		check(isHeapsRun(t, x.h, i, n))(impl.PlainRun(x.p, i, n))
	}
	isInOrder(t, x.h)
	if p, ok := impl.PlainOf(x.h); noRoomsIn(x.h.Out) == 0 && len(x.h.Out) < mostOut && (!ok || !same || !samePlain(p, x.p)) {
		t.Fatalf("on heaps %s\non terms %s", heapsText(x.h), plainText(x.p))
	}
}

// Runs of drawn code over several cells, from one on, with words, ends and sweeps from outside: as long as none ends by noroom, the same is done on terms.
func TestRunsOfManyCells(t *testing.T) {
	d := dice(121)
	most, longest, short, long := 0, 0, 0, 0
	for range 160 {
		l, arg := codeOfLines(&d, growingLines), tup(pid(1), binsOf(t, d.below(17)))
		words, room := 60+d.below(60), 20+d.below(30)
		if d.below(3) == 0 {
			words, room = 4000, 200+d.below(801)
		}
		x := besides{h: isNewHeaps(t, l, arg, words, room)}
		x.p, _ = impl.PlainNew(l, arg)
		regs, terms := x.h.Cells[0].Regs, x.p.Actors[0].Regs
		regs[4], terms[4] = regs[0], dup(terms[0])
		for k := range 4 {
			number := 1 + d.below(4)
			regs[k], terms[k] = wPid(number), pid(number)
		}
		done := 0
		for ; done < 50 && len(x.h.Cells) > 0; done++ {
			x.next(t, &d)
			most = max(most, len(x.h.Cells))
		}
		longest = max(longest, done)
		if noRoomsIn(x.h.Out) > 0 {
			short++
		} else if done == 50 {
			long++
		}
	}
	if most < 15 || longest < 50 || short < 20 || long < 20 {
		t.Error("too few cells, too short, or too few of a kind:", most, longest, short, long)
	}
}

// Steps one by one are as one run, also where somebody ends for want of room.
func TestRunsOnHeapsStepByStep(t *testing.T) {
	d := dice(122)
	for range 150 {
		h := anyHeaps(&d)
		if len(h.Cells) == 0 {
			continue
		}
		i, n := d.below(len(h.Cells)), 1+d.below(20)
		number := h.Cells[i].Pid
		want, _ := impl.HeapsRun(h, i, n)
		for range n {
			at := slices.IndexFunc(h.Cells, func(c impl.Cell) bool { return c.Pid == number })
			if at < 0 {
				break
			}
			h, _ = impl.HeapsRun(h, at, 1)
		}
		if !sameHeaps(h, want) {
			t.Fatalf("step by step %s\nnot %s", heapsText(h), heapsText(want))
		}
	}
}

// A cell that makes and drops without end, and tells another one that does so, too, does it in little room, and loses no block.
func TestLongRunsInLittleRoom(t *testing.T) {
	l := linesOf(t, "make 1 0 6", "tuple 2 0 2", "send 1 2", "tuple 3 2 1", "take 4", "jump 1", "take 0", "elem 2 0 1", "nil 4", "cons 3 0 4", "self 2", "tuple 5 0 1", "jump 6")
	x := besides{h: isNewHeaps(t, l, num(3), 100, 20)}
	x.p, _ = impl.PlainNew(l, num(3))
	for i := range 150 {
		y := num(i)
		x.h, _ = isHeapsTell(t, x.h, 1, y)
		x.p, _ = impl.PlainTell(x.p, 1, y)
		for k := range 2 {
			x.h, _ = isHeapsRun(t, x.h, k, 20)
			x.p, _ = impl.PlainRun(x.p, k, 20)
		}
		if i == 0 && len(x.h.Cells) != 2 {
			t.Fatal("not two", heapsText(x.h))
		}
	}
	if p, _ := impl.PlainOf(x.h); noRoomsIn(x.h.Out) != 0 || !samePlain(p, x.p) {
		t.Errorf("on heaps %s\non terms %s", heapsText(x.h), plainText(x.p))
	}
}

// A Heaps that is right or not in any of its fields, by chance.
func TestHeapsThatMayBeWrong(t *testing.T) {
	d := dice(123)
	right := 0
	for range 900 {
		h := anyHeaps(&d)
		for range d.below(3) {
			spoilHeaps(&d, &h)
		}
		if _, is := boroughOf(h); okHeaps(t, h) != is {
			t.Fatalf("is right: %v, %s", is, heapsText(h))
		} else if is {
			right++
		}
		number := d.below(20)
		switch d.below(4) {
		case 0:
			isHeapsRun(t, h, d.below(20), 1+d.below(20))
		case 1:
			isHeapsTell(t, h, number, anyTerm(&d, 3))
		case 2:
			isHeapsEnd(t, h, number, anyTerm(&d, 3))
		case 3:
			isHeapsSweep(t, h, number)
		}
	}
	if right < 250 || right > 700 {
		t.Error("right ones", right)
	}
}

func spoilHeaps(d *dice, h *impl.Heaps) {
	n := edgeNumbers[d.below(len(edgeNumbers))]
	switch d.below(5) {
	case 0:
		h.Room = []int{n, 19, 20, 30, 1000, 1001}[d.below(6)]
	case 1:
		h.Atoms = append(h.Atoms, []string{"", "a", "a1", "B", "fine"}[d.below(5)])
	case 2:
		h.Next = n
	}
	if len(h.A.W) > 0 && d.below(3) == 0 {
		h.A.W[d.below(len(h.A.W))] += []int{1, -1, 8, n}[d.below(4)]
	}
	if len(h.Cells) == 0 {
		return
	}
	a, b := &h.Cells[d.below(len(h.Cells))], &h.Cells[d.below(len(h.Cells))]
	switch d.below(12) {
	case 0:
		a.Pid = n
	case 1:
		*a, *b = *b, *a
	case 2:
		a.At, b.At = b.At, a.At
	case 3:
		a.At = []int{n, b.At, b.At + 1}[d.below(3)]
	case 4:
		a.Regs[d.below(len(a.Regs))] = []int{n, anyWord(d, 20), anyWord(d, 20) + 8*youngest}[d.below(3)]
	case 5:
		a.Links, b.Links = b.Links, a.Links
	case 6:
		h.Cells = append(h.Cells, dupCell(*a))
	case 7:
		h.Cells = h.Cells[:len(h.Cells)-1]
	}
}

// Lists that stand in a Heaps several times are several in what comes of it.
func TestHeapsWhoseListsAreOne(t *testing.T) {
	one := many(3, lst(num(1), num(2)))
	for _, line := range []string{"say 0", "make 1 0 0", "tuple 0 0 1", "end 0", "take 1", "link 0", "send 0 1"} {
		p := impl.Plain{Code: linesOf(t, line, "jump 0"), Next: 3, Out: slices.Repeat([]impl.Said{{Kind: 2, Pid: 1, T: lst(one...)}}, 20)}
		p.Actors = []impl.Actor{standing(1, pid(2)), standing(2, pid(1))}
		h := settled(p, 50, 4, 60)
		words, shared := intsOf(8), []int{70, 80}
		words[0] = wPid(2)
		for i := range h.Cells {
			h.Cells[i].Regs, h.Cells[i].Box, h.Cells[i].Links = words, words[:3], shared
		}
		for i := range h.Out {
			h.Out[i].T = lst(one...)
		}
		ahead := dupHeaps(h)
		check := func(got impl.Heaps, ok bool) {
			t.Helper()
			lists, _ := spansOfPlain(impl.Plain{Code: got.Code, Out: got.Out})
			lists = append(lists, spanOf(got.Atoms), spanOf(got.A.W), spanOf(got.Cells), spanOf(one), spanOf(one[0].L), spanOf(words), spanOf(shared))
			for _, c := range got.Cells {
				lists = append(lists, spanOf(c.Regs), spanOf(c.Box), spanOf(c.Links))
			}
			if !ok || meet(lists) {
				t.Fatalf("%q of lists that are one: %v %s", line, ok, heapsText(got))
			}
			if !sameHeaps(h, ahead) {
				t.Fatal("an argument was written")
			}
		}
		for _, n := range []int{1, 5, 20} {
			check(impl.HeapsRun(h, 0, n))
		}
		check(impl.HeapsTell(h, 2, tup(one...)))
		check(impl.HeapsEnd(h, 2, tup(one...)))
		check(impl.HeapsSweep(h, 1))
		check(impl.HeapsNew(h.Code, tup(one...), 200, 100))
	}
}

// Terms of any depth, or that come round to themselves, are refused, wherever they stand.
func TestHeapsWithTermsWithoutEnd(t *testing.T) {
	twice := num(1)
	for range 60 {
		twice = tup(twice, twice)
	}
	for _, y := range []impl.Term{round(impl.TTuple, true, num(1)), round(impl.TList, false, num(2)), nested(100000, tup, num(1)), twice} {
		h := settled(plainOf(t, 2, "say 0", "jump 0"), 50, 4, 60)
		if got, ok := impl.HeapsNew(h.Code, y, 400, 100); ok || !sameHeaps(got, impl.Heaps{}) {
			t.Fatal("new", ok)
		}
		for _, number := range []int{0, 1, 2, 3} {
			got, ok := impl.HeapsTell(h, number, y)
			isStillHeaps(t, h, got, ok)
			got, ok = impl.HeapsEnd(h, number, y)
			isStillHeaps(t, h, got, ok)
		}
		bad := dupHeaps(h)
		bad.Out[1].T = y
		run, ran := impl.HeapsRun(bad, 0, 3)
		told, heard := impl.HeapsTell(bad, 1, num(1))
		gone, ended := impl.HeapsEnd(bad, 1, num(1))
		swept, clean := impl.HeapsSweep(bad, 1)
		if _, plain := impl.PlainOf(bad); impl.HeapsOk(bad) || plain || ran || heard || ended || clean {
			t.Fatal("not refused")
		}
		for _, x := range []impl.Heaps{run, told, gone, swept} {
			if !impl.SameTerm(x.Out[1].T, y) {
				t.Fatal("not as it was")
			}
			x.Out[1].T = h.Out[1].T
			isStillHeaps(t, h, x, false)
		}
	}
}

// What was answered ahead stays as it was, whatever is done to what comes behind it.
func TestSystemsOfHeapsShareNothing(t *testing.T) {
	l := linesOf(t, "make 1 0 2", "link 1", "tuple 2 0 2", "send 1 2", "say 2", "jump 2")
	h, _ := impl.HeapsNew(l, lst(atom("a"), tup(num(2))), 600, 200)
	one, _ := impl.HeapsRun(h, 0, 7)
	kept := dupHeaps(one)
	want, _, _ := doneBy(one, func(x *borough) bool { return x.run(1, 5) })
	p, _ := impl.PlainOf(one)
	two, _ := impl.HeapsRun(one, 1, 5)
	told, _ := impl.HeapsTell(one, 2, lst(atom("b")))
	gone, _ := impl.HeapsEnd(one, 1, lst(num(5)))
	swept, _ := impl.HeapsSweep(one, 2)
	still, _ := impl.HeapsRun(one, -1, 5)
	for _, x := range []impl.Heaps{h, two, told, gone, swept, still} {
		for _, c := range x.Cells {
			clear(c.Regs[:cap(c.Regs)])
			clear(c.Box[:cap(c.Box)])
			clear(c.Links[:cap(c.Links)])
		}
		for _, y := range x.Out {
			clear(y.T.L)
		}
		clear(x.Cells[:cap(x.Cells)])
		clear(x.Out[:cap(x.Out)])
		clear(x.Code[:cap(x.Code)])
		clear(x.Atoms[:cap(x.Atoms)])
		clear(x.A.W[:cap(x.A.W)])
	}
	clear(p.Code)
	clear(p.Out)
	if again, _ := impl.HeapsRun(one, 1, 5); !sameHeaps(one, kept) || !sameHeaps(again, want) {
		t.Error("an answer turned", heapsText(one), heapsText(again))
	}
}

// The shared tests find errors.Is wherever it stands; here it is held against a named error alone, what is wrapped can be unwrapped, and the loop over steps goes on by its label.
func TestNoRoomIsAnError(t *testing.T) {
	f, err := parser.ParseFile(token.NewFileSet(), "../impl/l12_heaps.go", nil, 0)
	if err != nil {
		t.Fatal(err)
	}
	named, asked, unwraps, goesOn := map[string]int{}, 0, 0, 0
	for _, d := range f.Decls {
		if x, ok := d.(*ast.FuncDecl); ok && x.Name.Name == "Unwrap" {
			unwraps++
		}
		if x, ok := d.(*ast.GenDecl); ok && x.Tok == token.VAR {
			for _, s := range x.Specs {
				named[s.(*ast.ValueSpec).Names[0].Name]++
			}
		}
	}
	ast.Inspect(f, func(n ast.Node) bool {
		switch x := n.(type) {
		case *ast.CallExpr:
			if s, ok := x.Fun.(*ast.SelectorExpr); ok && s.Sel.Name == "Is" {
				asked++
				if target, ok := x.Args[1].(*ast.Ident); !ok || named[target.Name] == 0 {
					t.Error("not held against a named error")
				}
			}
		case *ast.BranchStmt:
			if x.Tok == token.CONTINUE && x.Label != nil {
				goesOn++
			}
		}
		return true
	})
	if asked == 0 || unwraps == 0 || goesOn == 0 {
		t.Error("asked:", asked, "unwraps:", unwraps, "goes on by a label:", goesOn)
	}
}
