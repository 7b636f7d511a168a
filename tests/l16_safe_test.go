package tests

import (
	"fmt"
	"go/ast"
	"go/parser"
	"go/token"
	"math"
	"slices"
	"testing"

	"loop.example/g00248/impl"
)

// holding is what is asked of a system, but for the plain one beside it.
type holding struct {
	sound, owned, within bool
	safe                 int
}

var allHeld = holding{true, true, true, 0}

// heldOf asks the program; nothing is written.
func heldOf(t *testing.T, h impl.Heaps) holding {
	t.Helper()
	var x tenancy
	lent := x.heaps(h)
	got := holding{impl.Sound(lent), impl.Owned(lent), impl.Within(lent), impl.Safe(lent)}
	x.untouched(t)
	return got
}

// wholeBlocks are the blocks from 0 on, by the chapter: their places and how many words their holders have, and the places of the used ones.
func wholeBlocks(w []int) (blocks [][2]int, used []int) {
	for at := 0; ; {
		n, is, ok := standsBy(w, at)
		if !ok {
			return blocks, used
		}
		if is {
			used = append(used, at)
		}
		blocks = append(blocks, [2]int{at, n})
		at += n + 3
	}
}

func soundBy(w []int) bool {
	_, whole := storeBy(w)
	words := 0
	blocks, _ := wholeBlocks(w)
	for _, x := range blocks {
		words += x[1] + 3
	}
	return whole && words == len(w)
}

func ownedBy(h impl.Heaps) bool {
	_, used := wholeBlocks(h.A.W)
	times := map[int]int{}
	for _, c := range h.Cells {
		times[c.At]++
		if !slices.Contains(used, c.At) {
			return false
		}
	}
	return !slices.ContainsFunc(used, func(at int) bool { return times[at] != 1 })
}

func withinBy(h impl.Heaps) bool {
	blocks, _ := wholeBlocks(h.A.W)
	for _, c := range h.Cells {
		n, used, ok := standsBy(h.A.W, c.At)
		if !ok || !used || slices.ContainsFunc(blocks, func(x [2]int) bool { return x[0] < c.At && c.At < x[0]+x[1]+3 }) {
			return false
		}
		if b, ok := fits(h.A.W[c.At+2 : c.At+2+n]); !ok || len(b.old)+len(b.young) > h.Room {
			return false
		}
	}
	return true
}

// heldBy asks the chapter.
func heldBy(h impl.Heaps) holding {
	x := holding{soundBy(h.A.W), ownedBy(h), withinBy(h), 0}
	if _, right := boroughOf(h); !right {
		x.safe = 1
	} else if x != allHeld {
		panic("what is right is not safe")
	}
	return x
}

// isHeld asks for just this answer.
func isHeld(t *testing.T, h impl.Heaps, want holding) {
	t.Helper()
	if got, by := heldOf(t, h), heldBy(h); got != want || by != want {
		t.Fatalf("%s\nis %v, by the chapter %v, not %v", heapsText(h), got, by, want)
	}
}

// changedOf is h with a change, in memory of its own.
func changedOf(h impl.Heaps, change func(h *impl.Heaps)) impl.Heaps {
	own := dupHeaps(h)
	change(&own)
	return own
}

func TestSystemsThatAreSafe(t *testing.T) {
	for _, n := range []int{0, 1, 2, 19, 20} {
		for _, spare := range []int{0, 1, 8} {
			for _, free := range []int{0, 1, 30} {
				isHeld(t, settled(plainOf(t, n, "take 0", "end 0"), 20, spare, free), allHeld)
			}
		}
	}
	for _, words := range []int{40, 41, 4000} {
		for _, room := range []int{20, 1000} {
			h, _ := impl.HeapsNew(linesOf(t, "end 0"), tup(num(1), lst(atom("a"))), words, room)
			isHeld(t, h, allHeld)
		}
	}
	x := threeOfBoth(t)
	for _, list := range [][]impl.Event{nil, {evRun(0, 20)}, {evTell(2, tup(num(1)))}, {evEnd(3, atom("ok"))}, {evEnd(1, num(1))}, {evSweep(2)}, {evTell(1, binsOf(t, 40))}} {
		isHeld(t, impl.PlayHeaps(x.h, list), allHeld)
	}
	// each other's homes
	isHeld(t, changedOf(x.h, func(h *impl.Heaps) { h.Cells[0].At, h.Cells[2].At = h.Cells[2].At, h.Cells[0].At }), allHeld)
}

// Nothing is lost where nothing is; that is no system all the same.
func TestSystemsOfNothing(t *testing.T) {
	isHeld(t, impl.Heaps{}, holding{true, true, true, 1})
	none := settled(plainOf(t, 0, "end 0"), 20, 0, 0)
	isHeld(t, none, allHeld)
	for _, n := range []int{4, 5, 39, 40, 4000} {
		h := none
		h.A = impl.ArenaNew(n)
		isHeld(t, h, allHeld)
		isHeld(t, impl.Heaps{A: h.A}, holding{true, true, true, 1})
		// the room of nobody's heap
		for _, h.Room = range []int{math.MinInt, -1, 0, 19, 1001, math.MaxInt} {
			isHeld(t, h, holding{true, true, true, 1})
		}
		h.Room = 20
		for k := 1; k < 4; k++ {
			h.A.W = impl.ArenaNew(n).W[:k]
			isHeld(t, h, holding{false, true, true, 1})
		}
	}
	// cells without words to live in
	for _, n := range []int{1, 3} {
		h := settled(plainOf(t, n, "end 0"), 20, 0, 0)
		h.A.W = nil
		isHeld(t, h, holding{true, false, false, 1})
		h.A = impl.ArenaNew(100)
		isHeld(t, h, holding{true, false, false, 1})
	}
	// words that no cell lives in
	h := settled(plainOf(t, 1, "end 0"), 20, 0, 0)
	h.Cells = nil
	isHeld(t, h, holding{true, false, true, 1})
	h.Cells = []impl.Cell{}
	isHeld(t, h, holding{true, false, true, 1})
}

// Each word of a system is struck; what holders have is theirs, and may be right still.
func TestSystemsThatAreStruck(t *testing.T) {
	h := settled(plainOf(t, 3, "take 0", "end 0"), 30, 2, 6)
	h, _ = impl.HeapsEnd(h, 2, atom("ok"))
	first, free, third, last := 0, 10, 20, 30
	if got := impl.Blocks(h.A); !slices.Equal(got, []int{first, free, third, last}) || !slices.Equal(impl.UsedBlocks(h.A), []int{first, third}) {
		t.Fatal("blocks", got)
	}
	isHeld(t, h, allHeld)
	for at := range h.A.W {
		for _, by := range []int{1, -1, 8, 1000003, 1 << 40, math.MinInt} {
			struck := changedOf(h, func(h *impl.Heaps) { h.A.W[at] += by })
			got := heldOf(t, struck)
			if by := heldBy(struck); got != by {
				t.Fatal("struck at", at, "is", got, "not", by)
			}
			switch {
			case at >= first+2 && at < free-1, at >= third+2 && at < last-1:
				if !got.sound || !got.owned {
					t.Fatal("what a holder has was struck at", at, got)
				}
			case at < free:
				isHeld(t, struck, holding{false, false, false, 1})
			case at < third:
				// the third stands behind a place where there is no block
				isHeld(t, struck, holding{false, false, true, 1})
			case at < last:
				isHeld(t, struck, holding{false, false, false, 1})
			default:
				isHeld(t, struck, holding{false, true, true, 1})
			}
		}
	}
	// words that are missing at the end, and too many
	for k := range len(h.A.W) {
		short := changedOf(h, func(h *impl.Heaps) { h.A.W = h.A.W[:k] })
		if got := heldOf(t, short); got != heldBy(short) || got.sound != (k == 0 || k == free || k == third || k == last) || (got == allHeld) != (k == last) || (got.safe == 0) != (k == last) {
			t.Fatal("cut at", k, got)
		}
	}
	for _, more := range [][]int{{0}, {1}, {0, 0, 0}, {0, 0, 0, 0}, h.A.W[:4], h.A.W} {
		isHeld(t, changedOf(h, func(h *impl.Heaps) { h.A.W = append(h.A.W, more...) }), holding{false, true, true, 1})
	}
	// as many words as there are, but not these
	isHeld(t, changedOf(h, func(h *impl.Heaps) { clear(h.A.W) }), holding{false, false, false, 1})
}

func TestFreeBlocksOfSystemsSideBySide(t *testing.T) {
	x, _ := boroughOf(settled(plainOf(t, 2, "take 0", "end 0"), 20, 2, 6))
	for at := range 4 {
		for _, n := range []int{1, 9} {
			y := x
			y.s = slices.Insert(slices.Clone(x.s), at, part{false, make([]int, n)})
			h := y.heaps()
			for i, place := range y.s.usedPlaces() {
				h.Cells[i].At = place
			}
			// ahead of the first, between the two, ahead of the free one and behind it
			want := allHeld
			if at >= 2 {
				want = holding{false, true, true, 1}
			}
			isHeld(t, h, want)
		}
	}
	// ahead of those that are used
	x.s = slices.Concat([]part{{false, make([]int, 5)}, {false, make([]int, 5)}}, x.s)
	h := x.heaps()
	for i, place := range x.s.usedPlaces() {
		h.Cells[i].At = place
	}
	isHeld(t, h, holding{false, true, true, 1})
}

// More words than an arena may have may be blocks all the same.
func TestSystemsOfMoreWordsThanAnArena(t *testing.T) {
	p := plainOf(t, 2, "take 0", "end 0")
	used := len(settled(p, 20, 4, 0).A.W)
	for n := 3999; n <= 4003; n++ {
		want := allHeld
		if n > 4000 {
			want.safe = 1
		}
		isHeld(t, settled(p, 20, 4, n-used-3), want)
	}
}

// A used block is At of one cell, of two, of three or of none.
func TestWhoseBlockItIs(t *testing.T) {
	h := settled(plainOf(t, 3, "take 0", "end 0"), 30, 2, 6)
	homes := []int{h.Cells[0].At, h.Cells[1].At, h.Cells[2].At}
	for a := range 3 {
		for b := range 3 {
			for c := range 3 {
				x := changedOf(h, func(h *impl.Heaps) {
					h.Cells[0].At, h.Cells[1].At, h.Cells[2].At = homes[a], homes[b], homes[c]
				})
				if a != b && b != c && a != c {
					isHeld(t, x, allHeld)
				} else {
					isHeld(t, x, holding{true, false, true, 1})
				}
			}
		}
	}
	for i := range 3 {
		// a cell less: its block is nobody's
		less := changedOf(h, func(h *impl.Heaps) { h.Cells = slices.Delete(h.Cells, i, i+1) })
		isHeld(t, less, holding{true, false, true, 1})
		for k := range less.Cells {
			// two of one block, and a block that is nobody's: as many blocks as cells
			isHeld(t, changedOf(less, func(h *impl.Heaps) { h.Cells = append(h.Cells, h.Cells[k]) }), holding{true, false, true, 1})
		}
		// a cell more: its block is another one's, too
		isHeld(t, changedOf(h, func(h *impl.Heaps) { h.Cells = append(h.Cells, h.Cells[i]) }), holding{true, false, true, 1})
		isHeld(t, changedOf(h, func(h *impl.Heaps) { h.Cells = slices.Insert(h.Cells, i, h.Cells[i]) }), holding{true, false, true, 1})
	}
	// a block more, with a heap in it or without
	x, _ := boroughOf(h)
	for _, more := range [][]int{{0}, {0, 0, 0}, {7, 7, 7, 7}} {
		for at := range 5 {
			y := x
			y.s = slices.Insert(slices.Clone(x.s), at, part{true, more})
			z := y.heaps()
			nobodys := min(at, 3)
			places := slices.Delete(y.s.usedPlaces(), nobodys, nobodys+1)
			for i := range z.Cells {
				z.Cells[i].At = places[i]
			}
			isHeld(t, z, holding{true, false, true, 1})
		}
	}
	// behind the lists stands nothing
	isHeld(t, changedOf(h, func(h *impl.Heaps) { h.Cells = h.Cells[:2] }), holding{true, false, true, 1})
	z := h
	z.Cells = h.Cells[:2]
	if impl.Owned(z) || !impl.Within(z) || impl.Safe(z) != 1 {
		t.Error("a cell behind the list is looked at")
	}
	z = h
	z.A.W = h.A.W[:len(h.A.W)-1]
	if impl.Sound(z) || !impl.Owned(z) || impl.Safe(z) != 1 {
		t.Error("a word behind the list is looked at")
	}
}

// A cell whose home is no used block.
func TestPlacesThatAreNoHomes(t *testing.T) {
	h := threeHeaps(t)
	free := impl.Blocks(h.A)[3]
	want := holding{true, false, false, 1}
	for i := range h.Cells {
		places := []int{math.MinInt, -4000, -2, -1, free, free + 1, len(h.A.W) - 1, len(h.A.W), len(h.A.W) + 1, 3999, 4000, 4001, 1<<32 + h.Cells[i].At, math.MaxInt}
		for _, c := range h.Cells {
			places = append(places, c.At+1, c.At+2, c.At+5)
		}
		for _, at := range places {
			isHeld(t, changedOf(h, func(h *impl.Heaps) { h.Cells[i].At = at }), want)
			// beside all that have one
			isHeld(t, changedOf(h, func(h *impl.Heaps) {
				h.Cells = append(h.Cells, h.Cells[i])
				h.Cells[3].At = at
			}), want)
		}
	}
	// what looks like a used block, with a heap in it, stands within another one
	one := oneOn(t, brood{young: make([]int, 61)}, 1000, 0, "take 0", "end 0")
	inner, _ := laid(zeros(20))
	at := 10
	inner[0], inner[22] = guardBy(at, 20, true, 1000), guardBy(at, 20, true, 1001)
	copy(one.A.W[at:], inner)
	isHeld(t, one, allHeld)
	one.Cells[0].At = at
	isHeld(t, one, want)
	one.Cells = append(one.Cells, dupCell(one.Cells[0]))
	one.Cells[0].At = 0
	isHeld(t, one, want)
}

// A block that is used behind a place where there is none is not among the used ones, though a heap is loaded from it.
func TestHomesBehindABreak(t *testing.T) {
	x, _ := boroughOf(settled(plainOf(t, 2, "take 0", "end 0"), 20, 0, 0))
	x.s = slices.Insert(x.s, 1, part{false, make([]int, 9)})
	h := x.heaps()
	h.Cells[1].At = x.s.places()[2]
	isHeld(t, h, allHeld)
	h.A.W[x.s.places()[1]+4]++
	if _, ok := impl.LoadHome(h.A, h.Cells[1].At); !ok {
		t.Fatal("not loaded")
	}
	isHeld(t, h, holding{false, false, true, 1})
	h.Cells = h.Cells[:1]
	isHeld(t, h, holding{false, true, true, 1})
}

// Old and Young together have just as many words as Room, or one more.
func TestWordsWithinRoom(t *testing.T) {
	tooMany := holding{true, true, false, 1}
	for _, x := range [][6]int{{20, 0, 0, 0, 0, 0}, {0, 20, 0, 0, 0, 0}, {0, 0, 20, 0, 0, 0}, {0, 0, 0, 0, 20, 0}, {0, 0, 0, 7, 0, 13}, {10, 0, 0, 0, 10, 0}, {5, 5, 5, 5, 5, 5}, {500, 0, 0, 0, 500, 0}, {999, 0, 0, 0, 1, 0}, {1, 0, 0, 0, 999, 0}, {0, 1000, 0, 0, 0, 0}, {0, 0, 0, 0, 900, 100}} {
		b := heapOfSix(x[0], x[1], x[2], x[3], x[4], x[5])
		n := len(b.old) + len(b.young)
		for _, spare := range []int{0, 3} {
			h := oneOn(t, b, n, spare, "take 0", "end 0")
			isHeld(t, h, allHeld)
			for _, h.Room = range []int{n - 1, len(b.old), len(b.young), n / 2, 1, 0, -1, -n, math.MinInt} {
				want := tooMany
				if h.Room == n {
					want = allHeld
				}
				isHeld(t, h, want)
			}
			// Within does not ask what Room may be
			for _, h.Room = range []int{n + 1, 1000, 1001, 4000, math.MaxInt} {
				want := allHeld
				if h.Room > 1000 {
					want.safe = 1
				}
				isHeld(t, h, want)
			}
		}
	}
	// below what Room may be
	for n := range 21 {
		h := oneOn(t, brood{old: make([]int, n/2), young: make([]int, n-n/2)}, 20, 0, "take 0", "end 0")
		isHeld(t, h, allHeld)
		for h.Room = range 20 {
			isHeld(t, h, holding{true, true, h.Room >= n, 1})
		}
	}
	empty := oneOn(t, brood{}, 20, 0, "take 0", "end 0")
	for _, empty.Room = range []int{0, -1, math.MinInt} {
		isHeld(t, empty, holding{true, true, empty.Room == 0, 1})
	}
	// each of several counts, and none for another one
	for at := range 3 {
		p := plainOf(t, 3, "take 0", "end 0")
		for i := range p.Actors {
			p.Actors[i].Regs[0] = binsOf(t, 20)
		}
		isHeld(t, settled(p, 20, 0, 0), allHeld)
		p.Actors[at].Regs[0] = binsOf(t, 21)
		isHeld(t, settled(p, 20, 0, 0), tooMany)
		isHeld(t, settled(p, 21, 0, 0), allHeld)
	}
}

// First words that do not fit their block.
func TestHomesOfSystemsThatDoNotFit(t *testing.T) {
	h := threeHeaps(t)
	h.Room = 1000
	want := holding{true, true, false, 1}
	for _, c := range h.Cells {
		n, _, _ := impl.BlockAt(h.A, c.At)
		for k := range 3 {
			for _, w := range []int{math.MinInt, -1, n - 2, n, 1001, math.MaxInt} {
				isHeld(t, changedOf(h, func(h *impl.Heaps) { h.A.W[c.At+2+k] = w }), want)
			}
		}
		// all words that a block has, though they lead nowhere, or one more
		isHeld(t, changedOf(h, func(h *impl.Heaps) { copy(h.A.W[c.At+2:], []int{n - 3, 0, 0}) }), holding{true, true, true, 1})
		isHeld(t, changedOf(h, func(h *impl.Heaps) { copy(h.A.W[c.At+2:], []int{n - 3, 1, 0}) }), want)
		isHeld(t, changedOf(h, func(h *impl.Heaps) { copy(h.A.W[c.At+2:], []int{0, n - 2, 0}) }), want)
	}
	x, _ := boroughOf(settled(plainOf(t, 2, "take 0", "end 0"), 20, 0, 0))
	for n := 1; n <= 3; n++ {
		x.s[1].words = make([]int, n)
		got := heldOf(t, x.heaps())
		if got != heldBy(x.heaps()) || got.within != (n == 3) || !got.sound || !got.owned || got.safe != 1 {
			t.Error("a home of", n, "words", got)
		}
	}
}

// What would fall alone behind HeapsOk: that is asked first, and falls first.
func TestWhichIsAskedFirst(t *testing.T) {
	h := threeHeaps(t)
	free := impl.Blocks(h.A)[3]
	strike := func(h *impl.Heaps) { h.A.W[free+3]++ }
	disown := func(h *impl.Heaps) { h.Cells = append(h.Cells, h.Cells[2]) }
	narrow := func(h *impl.Heaps) { h.Room = 3 }
	for k := range 8 {
		want := allHeld
		x := dupHeaps(h)
		for i, spoil := range []func(h *impl.Heaps){strike, disown, narrow} {
			if k>>i&1 == 0 {
				continue
			}
			spoil(&x)
			want.safe = 1
			*[]*bool{&want.sound, &want.owned, &want.within}[i] = false
		}
		isHeld(t, x, want)
	}
}

// Systems that are not right by what the other three do not ask.
func TestSystemsThatAreNotRightAreNotSafe(t *testing.T) {
	h := threeHeaps(t)
	for _, spoil := range []func(h *impl.Heaps){
		func(h *impl.Heaps) { h.Code = nil },
		func(h *impl.Heaps) { h.Code = h.Code[:3] },
		func(h *impl.Heaps) { h.Code[0].A = 8 },
		func(h *impl.Heaps) { h.Code = endless(201) },
		func(h *impl.Heaps) { h.Next = 3 },
		func(h *impl.Heaps) { h.Next = 0 },
		func(h *impl.Heaps) { h.Next = 90001 },
		func(h *impl.Heaps) { h.Room = 1001 },
		func(h *impl.Heaps) { h.Room = math.MaxInt },
		func(h *impl.Heaps) { h.Room = 19 },
		func(h *impl.Heaps) { h.Atoms = nil },
		func(h *impl.Heaps) { h.Atoms = append(h.Atoms, h.Atoms[0]) },
		func(h *impl.Heaps) { h.Atoms = append(h.Atoms, "A") },
		func(h *impl.Heaps) { h.Atoms = atomsOf(201) },
		func(h *impl.Heaps) { h.Cells[0], h.Cells[1] = h.Cells[1], h.Cells[0] },
		func(h *impl.Heaps) { h.Cells[1].Pid = 1 },
		func(h *impl.Heaps) { h.Cells[0].Pid = 0 },
		func(h *impl.Heaps) { h.Cells[2].Pid = 4 },
		func(h *impl.Heaps) { h.Cells[1].Pc = -1 },
		func(h *impl.Heaps) { h.Cells[1].Pc = 4 },
		func(h *impl.Heaps) { h.Cells[1].Regs = h.Cells[1].Regs[:7] },
		func(h *impl.Heaps) { h.Cells[1].Regs[3] = yTuple(999) },
		func(h *impl.Heaps) { h.Cells[1].Regs[3] = -1 },
		func(h *impl.Heaps) { h.Cells[2].Box = intsOf(31) },
		func(h *impl.Heaps) { h.Cells[2].Box[0] = 7 },
		func(h *impl.Heaps) { h.Cells[0].Links = nil },
		func(h *impl.Heaps) { h.Cells[0].Links = []int{1, 2} },
		func(h *impl.Heaps) { h.Cells[1].Links = []int{3, 1} },
		func(h *impl.Heaps) { h.Out = saidOf(501) },
		func(h *impl.Heaps) { h.Out[1].Kind = 4 },
		func(h *impl.Heaps) { h.Out[0].Pid = 0 },
		func(h *impl.Heaps) { h.Out[2].T = num(1000001) },
		func(h *impl.Heaps) { h.Out[2].T.S = "x" },
	} {
		isHeld(t, changedOf(h, spoil), holding{true, true, true, 1})
	}
	// the same, met exactly
	for _, fit := range []func(h *impl.Heaps){
		func(h *impl.Heaps) { h.Code = endless(200) },
		func(h *impl.Heaps) { h.Next = 90000 },
		func(h *impl.Heaps) { h.Room = 1000 },
		func(h *impl.Heaps) { h.Room = 20 },
		func(h *impl.Heaps) { h.Atoms = append(h.Atoms, atomsOf(198)...) },
		func(h *impl.Heaps) { h.Cells[1].Pc = 3 },
		func(h *impl.Heaps) { h.Cells[2].Box = intsOf(30) },
		func(h *impl.Heaps) { h.Out = saidOf(500) },
	} {
		isHeld(t, changedOf(h, fit), allHeld)
	}
	// ages that are not right
	for _, b := range wrongHeaps() {
		if len(b.atoms) > 1 || len(b.old)+len(b.young) > mostHeapRoom || b.mark < 0 || b.mark > len(b.young) {
			continue
		}
		isHeld(t, oneOn(t, b, 1000, 2, "take 0", "end 0"), holding{true, true, true, 1})
	}
	// actors that are too many
	isHeld(t, settled(plainOf(t, 21, "end 0"), 20, 2, 5), holding{true, true, true, 1})
	// terms without end
	for _, y := range []impl.Term{round(impl.TTuple, true, num(1)), round(impl.TList, false, num(2)), nested(100000, tup, num(1))} {
		x := dupHeaps(h)
		x.Out[1].T = y
		if impl.Safe(x) != 1 || !impl.Sound(x) || !impl.Owned(x) || !impl.Within(x) {
			t.Error("safe with a term without end")
		}
	}
}

// Drawn systems, most of them spoilt.
func TestWhatIsHeldByChance(t *testing.T) {
	d := dice(162)
	counts := map[holding]int{}
	for range 600 {
		h := anyHeaps(&d)
		for range d.below(4) {
			spoilHeaps(&d, &h)
		}
		if len(h.Cells) > 0 && d.below(4) == 0 {
			h.Room = d.below(60)
		}
		got := heldOf(t, h)
		if by := heldBy(h); got != by {
			t.Fatalf("%s\nis %v, by the chapter %v", heapsText(h), got, by)
		}
		counts[got]++
	}
	for _, x := range []holding{allHeld, {true, true, true, 1}, {false, true, true, 1}, {true, false, true, 1}, {true, true, false, 1}, {true, false, false, 1}, {false, false, false, 1}} {
		if counts[x] < 8 {
			t.Error("too few of", x, counts)
		}
	}
}

// isPromised does events one by one, and asks behind each for what promise 16 tells: that the system is safe, and, as long as none has ended by noroom, alike with the plain one; what was said ahead of the first such end is what the plain one said.
func (x both) isPromised(t *testing.T, list []impl.Event) both {
	t.Helper()
	for k, e := range list {
		x = both{second(impl.DoPlain(x.p, e)), second(impl.DoHeaps(x.h, e))}
		if n := impl.Safe(x.h); n != 0 {
			t.Fatalf("behind %d events, the last one %v, %d falls: %s", k+1, e, n, heapsText(x.h))
		}
		if k%16 == 0 || k == len(list)-1 {
			isHeld(t, x.h, allHeld)
		}
		first := slices.IndexFunc(x.h.Out, func(y impl.Said) bool { return y.Kind == impl.SaidEnd && alike(y.T, noRoom) })
		if (first < 0) != (impl.NoRooms(x.h.Out) == 0) {
			t.Fatal("the first noroom is at", first, "of", impl.NoRooms(x.h.Out))
		}
		if first < 0 && !impl.Alike(x.h, x.p) {
			t.Fatalf("behind %d events, the last one %v, on heaps %s\non terms %s", k+1, e, heapsText(x.h), plainText(x.p))
		}
		if first > len(x.p.Out) || first > 0 && !sameOut(x.h.Out[:first], x.p.Out[:first]) {
			t.Fatalf("behind %d events, the last one %v, ahead of noroom %s\non terms %s", k+1, e, heapsText(x.h), plainText(x.p))
		}
	}
	return x
}

func second[T any](x T, _ bool) T { return x }

// meetingCode has the first actor make two more, and each of them know some Pids, ahead of drawn code.
func meetingCode(t *testing.T, d *dice, from []string) []impl.Ins {
	t.Helper()
	// the last line is there to make it code, and to be the place behind
	ahead := linesOf(t, "move 4 0", "self 0", "self 3", "make 1 0 6", "make 2 1 6", "jump 10", "self 3", "move 1 0", "nil 4", "move 2 0", "jump 0")[:10]
	l := codeOfLines(d, from)
	for i := range l {
		switch l[i].Op {
		case impl.OpJump, impl.OpSame, impl.OpKind, impl.OpMake:
			l[i].N += len(ahead)
		}
	}
	return slices.Concat(ahead, l)
}

// meetingEvents are runs, words, ends and sweeps, of Pids that there are and that there are not.
func meetingEvents(t *testing.T, d *dice, n int) []impl.Event {
	t.Helper()
	list := anyEvents(d, n)
	for i := range list {
		switch list[i].Kind {
		case impl.EvTell:
			list[i].T = []impl.Term{pid(1 + d.below(6)), anyTerm(d, 3), binsOf(t, d.below(25)), list[i].T}[d.below(4)]
		case impl.EvEnd:
			if d.below(3) > 0 {
				list[i].Kind = impl.EvRun
			}
		}
	}
	return list
}

// Long plays of drawn events upon new systems.
func TestPromiseOfManyEvents(t *testing.T) {
	d := dice(163)
	const plays = 90
	short, long, most, told := 0, 0, 0, 0
	for k := range plays {
		words, room := 4000, 300+d.below(701)
		switch k % 3 {
		case 0:
			words, room = 40+d.below(60), 20
		case 1:
			words, room = 40+d.below(200), 20+d.below(30)
		}
		x := newBoth(t, meetingCode(t, &d, growingLines), tup(pid(1+d.below(3)), binsOf(t, d.below(16))), words, room)
		isHeld(t, x.h, allHeld)
		isAlike(t, true, x.h, x.p)
		list := meetingEvents(t, &d, 100)
		got := x.isPromised(t, list)
		if one := (both{impl.PlayPlain(x.p, list), impl.PlayHeaps(x.h, list)}); !one.same(got) {
			t.Fatalf("played at once %s\nnot %s", heapsText(one.h), heapsText(got.h))
		}
		most, told = max(most, len(got.h.Cells)), told+len(got.h.Out)
		if impl.NoRooms(got.h.Out) > 0 {
			short++
		} else if len(got.h.Cells) > 0 {
			isAlike(t, true, got.h, got.p)
			long++
		}
	}
	if short < plays/4 || long < plays/10 || most < 6 || told < 12*plays {
		t.Error("too few of a kind:", short, long, most, told)
	}
}

// Systems that end in little room: the one by the room of its heap, the other one by that of the arena, each just behind the last word that fits.
func TestPromiseInLittleRoom(t *testing.T) {
	lines := []string{"nil 0", "take 1", "cons 0 1 0", "jump 1"}
	for _, x := range []struct {
		words, room, fits, noRooms int
	}{{4000, 20, 10, 1}, {40, 1000, 14, 1}, {40, 20, 10, 1}, {60, 400, 20, 0}} {
		start, list := newBoth(t, linesOf(t, lines...), num(1), x.words, x.room), []impl.Event{}
		for n := range x.fits {
			list = append(list, evTell(1, num(n)), evRun(0, 20))
		}
		got := start.isPromised(t, list)
		if len(got.h.Cells) != 1 || len(got.p.Actors[0].Regs[0].L) != x.fits {
			t.Fatalf("no room for %d: %s", x.fits, heapsText(got.h))
		}
		// a list of more than twenty is none on terms, either
		got = got.isPromised(t, []impl.Event{evTell(1, num(0)), evRun(0, 20), evRun(0, 20), evSweep(1), evTell(1, num(0)), evEnd(1, num(1))})
		if impl.NoRooms(got.h.Out) != x.noRooms || len(got.h.Cells) != 0 || len(got.h.Out) != 2 || impl.FreeWords(got.h.A) != x.words-3 {
			t.Fatalf("room for %d: %s", x.fits+1, heapsText(got.h))
		}
	}
}

// Who has no room takes those along that it is linked to; the others go on.
func TestPromiseOfThoseThatAreLinked(t *testing.T) {
	l := linesOf(t, "make 1 0 4", "link 1", "make 2 0 4", "jump 5", "take 3", "take 3", "jump 5")
	x := newBoth(t, l, tup(num(1)), 200, 20).isPromised(t, []impl.Event{evRun(0, 20)})
	if len(x.h.Cells) != 3 || len(x.h.Cells[0].Links) != 1 {
		t.Fatal("not three", heapsText(x.h))
	}
	for number := 1; number <= 3; number++ {
		got := x.isPromised(t, []impl.Event{evTell(number, binsOf(t, 19)), evRun(0, 1), evRun(1, 20), evSweep(3), evTell(2, num(4)), evRun(0, 20)})
		if want := []int{2, 2, 1}[number-1]; impl.NoRooms(got.h.Out) != want || len(got.h.Cells) != 3-want || len(got.p.Actors) != 3 {
			t.Errorf("told to %d: %s", number, heapsText(got.h))
		}
	}
}

// Two hundred atoms have room, and one more has none, whoever told them, and though nobody has them any more.
func TestPromiseOfManyAtoms(t *testing.T) {
	x := newBoth(t, linesOf(t, "take 0", "jump 0"), atom("a0"), 300, 60)
	list := []impl.Event{}
	for n := 1; n < 200; n++ {
		list = append(list, evTell(1, tup(atom(fmt.Sprint("a", n)), atom("a0"))), evRun(0, 20))
	}
	list = append(list, evSweep(1), evTell(1, tup(atom("a7"), atom("a199"))), evRun(0, 20))
	x = x.isPromised(t, list)
	if len(x.h.Atoms) != 200 || impl.NoRooms(x.h.Out) != 0 {
		t.Fatal("atoms", len(x.h.Atoms), heapsText(x.h))
	}
	x = x.isPromised(t, []impl.Event{evTell(1, atom("new")), evTell(1, num(1)), evRun(0, 1)})
	if len(x.h.Atoms) != 200 || impl.NoRooms(x.h.Out) != 1 || len(x.h.Cells) != 0 {
		t.Error("atoms", len(x.h.Atoms), heapsText(x.h))
	}
}

// Twenty, the last Pid, and boxes of thirty: both end by full, and both lose words.
func TestPromiseWhereNoMoreMayBe(t *testing.T) {
	l := linesOf(t, "make 1 0 2", "jump 0", "take 0", "jump 2")
	x := newBoth(t, l, num(7), 4000, 20).isPromised(t, slices.Repeat([]impl.Event{evRun(0, 8)}, 6))
	if len(x.h.Cells) != 19 || x.h.Next != 21 || !sameSaid(x.h.Out[20], impl.Said{Kind: impl.SaidEnd, Pid: 1, T: atom("full")}) {
		t.Error("full", heapsText(x.h))
	}
	x = newBoth(t, l, num(7), 4000, 20)
	x.p.Next, x.h.Next = 89998, 89998
	x = x.isPromised(t, []impl.Event{evRun(0, 3), evRun(0, 1), evEnd(89999, atom("ok")), evRun(0, 5), evRun(0, 1)})
	if len(x.h.Cells) != 1 || x.h.Next != 90000 || !sameSaid(x.h.Out[len(x.h.Out)-1], impl.Said{Kind: impl.SaidEnd, Pid: 1, T: atom("full")}) {
		t.Error("the last Pid", heapsText(x.h))
	}
	x = newBoth(t, linesOf(t, "self 1", "send 1 0", "jump 1"), tup(num(7)), 4000, 400).isPromised(t, slices.Repeat([]impl.Event{evRun(0, 20), evTell(1, lst(num(2)))}, 30))
	if len(x.h.Cells) != 1 || len(x.h.Cells[0].Box) != 30 {
		t.Error("boxes", heapsText(x.h))
	}
}

// What is said is kept up to 500: an end by noroom behind that is not told of, so that NoRooms is 0 where both differ; it is safe all the same.
func TestPromiseOfWhatIsNotKept(t *testing.T) {
	x := newBoth(t, linesOf(t, "say 0", "jump 0"), num(7), 100, 20)
	x = x.isPromised(t, slices.Repeat([]impl.Event{evRun(0, 20)}, 49))
	x = x.isPromised(t, []impl.Event{evRun(0, 17)})
	for n := 500; n <= 503; n++ {
		if got := len(x.h.Out); got != min(n, 500) || !sameOut(x.h.Out, x.p.Out) {
			t.Fatal("said", got, "not", n)
		}
		h, _ := impl.HeapsTell(x.h, 1, binsOf(t, 21))
		p, _ := impl.PlainTell(x.p, 1, binsOf(t, 21))
		isHeld(t, h, allHeld)
		isAlike(t, false, h, p)
		if len(h.Cells) != 0 || impl.NoRooms(h.Out) != 0 || !sameOut(h.Out, p.Out) {
			t.Fatal("not ended by noroom unheard", heapsText(h))
		}
		x = x.isPromised(t, []impl.Event{evRun(0, 2)})
	}
	// the last one that is kept
	x = newBoth(t, linesOf(t, "say 0", "jump 0"), num(7), 100, 20)
	x = x.isPromised(t, slices.Repeat([]impl.Event{evRun(0, 20)}, 49))
	x = x.isPromised(t, []impl.Event{evRun(0, 16), evTell(1, binsOf(t, 21)), evRun(0, 20)})
	if len(x.h.Out) != 500 || impl.NoRooms(x.h.Out) != 1 {
		t.Error("said", len(x.h.Out), heapsText(x.h))
	}
}

// An end by noroom that is asked for from outside, or by an actor itself, is counted, and yet both do the same.
func TestPromiseOfNoRoomThatIsAskedFor(t *testing.T) {
	x := newBoth(t, linesOf(t, "make 1 0 2", "take 3", "atom 4 noroom", "end 4"), num(7), 100, 20)
	x = x.isPromised(t, []impl.Event{evRun(0, 20)})
	isAlike(t, true, x.h, x.p)
	for _, e := range []impl.Event{evRun(1, 20), evEnd(1, noRoom), evEnd(2, noRoom)} {
		got := x.isPromised(t, []impl.Event{e, evRun(0, 3), evSweep(1)})
		isAlike(t, true, got.h, got.p)
		if impl.NoRooms(got.h.Out) < 1 || impl.NoRooms(got.p.Out) != impl.NoRooms(got.h.Out) {
			t.Error("not counted", heapsText(got.h))
		}
	}
}

// isAlike is Alike, held against the chapter; it writes nothing.
func isAlike(t *testing.T, want bool, h impl.Heaps, p impl.Plain) {
	t.Helper()
	var x tenancy
	var y staging
	ok := impl.Alike(x.heaps(h), y.plain(p))
	x.untouched(t)
	y.untouched(t)
	b, right := boroughOf(h)
	if by := right && samePlain(b.plain(), p); ok != want || by != want {
		t.Fatalf("%s\nand %s\nare alike: %v, by the chapter %v, not %v", heapsText(h), plainText(p), ok, by, want)
	}
}

func TestSystemsThatAreAlike(t *testing.T) {
	x := threeOfBoth(t)
	isAlike(t, true, x.h, x.p)
	// what terms have not is not told apart: sweeps, room, and where a home stands
	swept := impl.PlayHeaps(x.h, []impl.Event{evSweep(1), evSweep(3)})
	isAlike(t, true, swept, x.p)
	swept.Room = 900
	isAlike(t, true, swept, x.p)
	for _, list := range [][]impl.Event{{evRun(0, 1)}, {evTell(2, num(7))}, {evEnd(3, atom("ok"))}, {evEnd(1, num(1))}} {
		h, p := impl.PlayHeaps(x.h, list), impl.PlayPlain(x.p, list)
		isAlike(t, true, h, p)
		isAlike(t, false, h, x.p)
		isAlike(t, false, x.h, p)
	}
	for _, n := range []int{0, 1, 2, 19, 20} {
		p := plainOf(t, n, "take 0", "end 0")
		isAlike(t, true, settled(p, 100, 3, 40), p)
	}
	d := dice(161)
	for range 150 {
		h := anyHeaps(&d)
		p, _ := impl.PlainOf(h)
		isAlike(t, true, h, p)
		isAlike(t, samePlain(p, x.p), h, x.p)
	}
}

// One that differs in each of its fields.
func TestSystemsThatAreNotAlike(t *testing.T) {
	x := threeOfBoth(t)
	for k, change := range []func(p *impl.Plain){
		func(p *impl.Plain) { p.Code[1].B = 1 },
		func(p *impl.Plain) { p.Code = append(p.Code, impl.Ins{Op: impl.OpEnd}) },
		func(p *impl.Plain) { p.Code = p.Code[:1] },
		func(p *impl.Plain) { p.Actors[2].Pid = 4 },
		func(p *impl.Plain) { p.Actors[0].Pc = 1 },
		func(p *impl.Plain) { p.Actors[2].Pc = 3 },
		func(p *impl.Plain) { p.Actors = p.Actors[:2] },
		func(p *impl.Plain) { p.Actors = nil },
		func(p *impl.Plain) { p.Actors = append(p.Actors, standing(5)) },
		func(p *impl.Plain) { p.Actors[0].Regs[0].L[0] = num(9) },
		func(p *impl.Plain) { p.Actors[1].Regs[7] = pid(0) },
		func(p *impl.Plain) { p.Actors[1].Regs[7] = num(1) },
		func(p *impl.Plain) { p.Actors[1].Box[0] = bin("hi") },
		func(p *impl.Plain) { p.Actors[2].Box[1].L[1] = atom("byf") },
		func(p *impl.Plain) { p.Actors[2].Box = p.Actors[2].Box[:1] },
		func(p *impl.Plain) { slices.Reverse(p.Actors[2].Box) },
		func(p *impl.Plain) { slices.Reverse(p.Actors[0].Box) },
		func(p *impl.Plain) { p.Actors[2].Box = append(p.Actors[2].Box, num(0)) },
		func(p *impl.Plain) { p.Actors[0].Links, p.Actors[1].Links = nil, []int{3} },
		func(p *impl.Plain) { p.Actors[0].Links = append(p.Actors[0].Links, 70) },
		func(p *impl.Plain) { p.Next = 7 },
		func(p *impl.Plain) { p.Out[0].Kind = impl.SaidSay },
		func(p *impl.Plain) { p.Out[6].Pid = 6 },
		func(p *impl.Plain) { p.Out[6].T = bin("noroom") },
		func(p *impl.Plain) { p.Out = p.Out[:6] },
		func(p *impl.Plain) { p.Out = append(p.Out, saidOf(1)...) },
	} {
		p := dupPlain(x.p)
		change(&p)
		if samePlain(p, x.p) {
			t.Fatal("not changed", k)
		}
		isAlike(t, false, x.h, p)
	}
	// a Pid alone, of one that is linked to nobody, so that both are right
	p := plainOf(t, 2, "take 0", "end 0")
	p.Next = 9
	h := settled(p, 100, 3, 40)
	for _, p.Actors[1].Pid = range []int{3, 8} {
		if !impl.PlainOk(p) {
			t.Fatal("not right", plainText(p))
		}
		isAlike(t, false, h, p)
	}
}

// One on heaps that differs in each of its fields, and is right.
func TestSystemsOnHeapsThatDiffer(t *testing.T) {
	x := threeOfBoth(t)
	within := func(h *impl.Heaps, i int, k int) *int { return &h.A.W[h.Cells[i].At+5+k] }
	for k, change := range []func(h *impl.Heaps){
		func(h *impl.Heaps) { h.Code[1].B = 1 },
		func(h *impl.Heaps) { h.Code[0].A = 2 },
		func(h *impl.Heaps) { h.Code = append(h.Code, impl.Ins{Op: impl.OpEnd}) },
		func(h *impl.Heaps) { h.Cells[2].Pid, h.Cells[1].Links = 4, []int{1, 4} },
		func(h *impl.Heaps) { h.Cells[0].Pc = 1 },
		func(h *impl.Heaps) { h.Cells[2].Pc = 3 },
		func(h *impl.Heaps) { h.Cells[0].Regs[0] = wInt(1) },
		func(h *impl.Heaps) { h.Cells[1].Regs[7] = wInt(1) },
		func(h *impl.Heaps) { h.Cells[1].Regs[7] = wPid(0) },
		func(h *impl.Heaps) { h.Cells[1].Regs[3], h.Cells[1].Regs[0] = h.Cells[1].Regs[0], h.Cells[1].Regs[3] },
		func(h *impl.Heaps) { *within(h, 0, 1) = wInt(9) },
		func(h *impl.Heaps) { *within(h, 2, 2) = wInt(9) },
		func(h *impl.Heaps) { *within(h, 2, 4) = wAtom(0) },
		func(h *impl.Heaps) { *within(h, 2, 3) = wNil },
		func(h *impl.Heaps) { h.Atoms[1] = "byf" },
		func(h *impl.Heaps) { h.Atoms[0], h.Atoms[1] = h.Atoms[1], h.Atoms[0] },
		func(h *impl.Heaps) { slices.Reverse(h.Cells[1].Box) },
		func(h *impl.Heaps) { h.Cells[1].Box = h.Cells[1].Box[:1] },
		func(h *impl.Heaps) { h.Cells[1].Box = h.Cells[1].Box[1:] },
		func(h *impl.Heaps) { h.Cells[0].Box = append(h.Cells[0].Box, wInt(0)) },
		func(h *impl.Heaps) { h.Cells[0].At, h.Cells[1].At = h.Cells[1].At, h.Cells[0].At },
		func(h *impl.Heaps) { h.Cells[0].Links, h.Cells[1].Links = nil, []int{3} },
		func(h *impl.Heaps) { h.Cells[0].Links, h.Cells[2].Links = []int{2, 3}, []int{1, 2} },
		func(h *impl.Heaps) { h.Cells[2].Links = append(h.Cells[2].Links, 70) },
		func(h *impl.Heaps) { h.Next = 7 },
		func(h *impl.Heaps) { h.Next = 90000 },
		func(h *impl.Heaps) { h.Out[0].Kind = impl.SaidEnd },
		func(h *impl.Heaps) { h.Out[1].Pid = 1 },
		func(h *impl.Heaps) { h.Out[6].T = atom("full") },
		func(h *impl.Heaps) { h.Out[0].T.L[0] = num(2) },
		func(h *impl.Heaps) { h.Out[3], h.Out[4] = h.Out[4], h.Out[3] },
		func(h *impl.Heaps) { h.Out = h.Out[:6] },
		func(h *impl.Heaps) { h.Out = h.Out[1:] },
		func(h *impl.Heaps) { h.Out = nil },
		func(h *impl.Heaps) { h.Out = append(h.Out, h.Out[6]) },
	} {
		h := changedOf(x.h, change)
		if !impl.HeapsOk(h) {
			t.Fatal("not right", k, heapsText(h))
		}
		isHeld(t, h, allHeld)
		isAlike(t, false, h, x.p)
	}
	// one less, though as much was said
	h, _ := impl.HeapsEnd(x.h, 3, atom("ok"))
	h.Out = h.Out[:len(x.h.Out)]
	isHeld(t, h, allHeld)
	isAlike(t, false, h, x.p)
	p, _ := impl.PlainEnd(x.p, 3, atom("ok"))
	p.Out = p.Out[:len(x.p.Out)]
	isAlike(t, true, h, p)
}

// What is not right is alike with nothing, not even with what it leads to.
func TestAlikeOfWhatIsNotRight(t *testing.T) {
	x := threeOfBoth(t)
	for _, spoil := range []func(h *impl.Heaps){
		func(h *impl.Heaps) { h.Room = 19 },
		func(h *impl.Heaps) { h.A.W[0]++ },
		func(h *impl.Heaps) { h.Atoms = append(h.Atoms, "A") },
		func(h *impl.Heaps) { h.Cells[0].At = h.Cells[1].At },
		func(h *impl.Heaps) { h.Next = 90001 },
		func(h *impl.Heaps) { *h = impl.Heaps{} },
	} {
		h := dupHeaps(x.h)
		spoil(&h)
		isAlike(t, false, h, x.p)
		isAlike(t, false, h, impl.Plain{})
	}
	isAlike(t, false, x.h, impl.Plain{})
	// fields that a kind does not name
	for _, spoil := range []func(p *impl.Plain){
		func(p *impl.Plain) { p.Actors[0].Regs[7].S = "x" },
		func(p *impl.Plain) { p.Actors[0].Regs[7].L = many(1, num(0)) },
		func(p *impl.Plain) { p.Actors[1].Box[0].N = 1 },
		func(p *impl.Plain) { p.Out[1].T.S = "x" },
		func(p *impl.Plain) { p.Code[0].N = 1 },
	} {
		p := dupPlain(x.p)
		spoil(&p)
		isAlike(t, false, x.h, p)
	}
	for _, y := range []impl.Term{round(impl.TTuple, true, num(1)), round(impl.TList, false, num(2)), nested(100000, tup, num(1))} {
		p := dupPlain(x.p)
		p.Actors[1].Regs[2], p.Out[0].T = y, y
		if impl.Alike(x.h, p) {
			t.Error("alike with a term without end")
		}
	}
}

// The shared tests find a function in a field, and structs that are compared, wherever they stand; here both stand in this layer, and what is asked is a list of such fields.
func TestWhatIsAskedIsAList(t *testing.T) {
	f, err := parser.ParseFile(token.NewFileSet(), "../impl/l16_safe.go", nil, 0)
	if err != nil {
		t.Fatal(err)
	}
	withFields, structs := map[string]bool{}, map[string]bool{}
	returns := map[string]string{}
	lists, compared := 0, 0
	ast.Inspect(f, func(n ast.Node) bool {
		switch x := n.(type) {
		case *ast.TypeSpec:
			y, ok := x.Type.(*ast.StructType)
			structs[x.Name.Name] = ok
			for i := 0; ok && i < len(y.Fields.List); i++ {
				if _, is := y.Fields.List[i].Type.(*ast.FuncType); is {
					withFields[x.Name.Name] = true
				}
			}
		case *ast.FuncDecl:
			if r := x.Type.Results; r != nil && len(r.List) == 1 {
				returns[x.Name.Name] = fmt.Sprint(r.List[0].Type)
			}
		}
		return true
	})
	ast.Inspect(f, func(n ast.Node) bool {
		switch x := n.(type) {
		case *ast.CompositeLit:
			if y, ok := x.Type.(*ast.ArrayType); ok && withFields[fmt.Sprint(y.Elt)] && len(x.Elts) == 4 {
				lists++
			}
		case *ast.BinaryExpr:
			if y, ok := x.X.(*ast.CallExpr); ok && x.Op == token.EQL && structs[returns[fmt.Sprint(y.Fun)]] {
				compared++
			}
		}
		return true
	})
	if lists == 0 || compared == 0 {
		t.Error("lists of function fields:", lists, "structs compared:", compared)
	}
}
