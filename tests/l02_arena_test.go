package tests

import (
	"math"
	"slices"
	"testing"

	"loop.example/g00248/impl"
)

// piece is a block to be laid: the words of its holder are fill, or the poison of a free one.
type piece struct {
	n    int
	used bool
	fill int
}

func usedOf(n int) piece { return piece{n: n, used: true, fill: 5} }
func freeOf(n int) piece { return piece{n: n} }

// guardBy reckons by the chapter, apart from the program.
func guardBy(at, n int, used bool, more int) int {
	if at < 0 || at > 4000 || n < 0 || n > 4000 {
		return 0
	}
	sum := at*7919 + n*104729 + 1
	if used {
		sum++
	}
	return (sum*3 + more) % 1000003
}

func poisonBy(at int) int {
	if at < 0 || at > 4000 {
		return 0
	}
	return (at*31 + 7777) % 1000003
}

// laid are the words of blocks one behind the other, and the places of these.
func laid(list ...piece) ([]int, []int) {
	var words, places []int
	for _, p := range list {
		at := len(words)
		places = append(places, at)
		words = append(words, guardBy(at, p.n, p.used, 1000), p.n)
		for range p.n {
			if p.used {
				words = append(words, p.fill)
			} else {
				words = append(words, poisonBy(len(words)))
			}
		}
		words = append(words, guardBy(at, p.n, p.used, 1001))
	}
	return words, places
}

// standsBy tells by the chapter what block stands there.
func standsBy(w []int, at int) (int, bool, bool) {
	if at < 0 || at > 4000 || len(w)-at < 4 || w[at+1] < 1 || w[at+1] > 4000 || w[at+1] > len(w)-at-3 {
		return 0, false, false
	}
	n := w[at+1]
	for _, used := range []bool{true, false} {
		whole, _ := laid(piece{n: n, used: used})
		shape := slices.Clone(w[at : at+n+3])
		for i := range whole[2 : n+2] {
			whole[2+i] = shape[2+i]
			if !used {
				whole[2+i] = poisonBy(at + 2 + i)
			}
		}
		whole[0], whole[n+2] = guardBy(at, n, used, 1000), guardBy(at, n, used, 1001)
		if slices.Equal(whole, shape) {
			return n, used, true
		}
	}
	return 0, false, false
}

// shown are the words that a failing test tells: few enough to be read.
func shown(w []int) []int { return w[:min(len(w), 100)] }

// checkArena holds all that is told of an arena against the chapter.
func checkArena(t *testing.T, w []int) {
	t.Helper()
	a := impl.Arena{W: w}
	ahead := slices.Clone(w)
	for at := -2; at < len(w)+3; at++ {
		n, used, ok := impl.BlockAt(a, at)
		wantN, wantUsed, wantOk := standsBy(w, at)
		if n != wantN || used != wantUsed || ok != wantOk {
			t.Fatal("block at", at, "of", shown(w), "is", n, used, ok)
		}
	}
	var places []int
	audit, at, behindFree := -1, 0, false
	for at < len(w) {
		n, used, ok := standsBy(w, at)
		if audit < 0 && (!ok || behindFree && !used) {
			audit = at
		}
		if !ok {
			break
		}
		places = append(places, at)
		behindFree = !used
		at += n + 3
	}
	if got := impl.Blocks(a); !slices.Equal(got, places) {
		t.Fatal("blocks of", shown(w), "are", got, "not", places)
	}
	if got := impl.Audit(a); got != audit {
		t.Fatal("audit of", shown(w), "is", got, "not", audit)
	}
	if !slices.Equal(w, ahead) {
		t.Fatal("the arena was written to", shown(w))
	}
}

func isAudit(t *testing.T, w []int, place int, blocks ...int) {
	t.Helper()
	a := impl.Arena{W: w}
	if got := impl.Audit(a); got != place {
		t.Error("audit", got, "not", place, "of", len(w), "words")
	}
	if got := impl.Blocks(a); !slices.Equal(got, blocks) {
		t.Error("blocks", got, "not", blocks, "of", len(w), "words")
	}
}

func isBlock(t *testing.T, w []int, at int, n int, used bool) {
	t.Helper()
	if gotN, gotUsed, ok := impl.BlockAt(impl.Arena{W: w}, at); !ok || gotN != n || gotUsed != used {
		t.Error("block at", at, "is", gotN, gotUsed, ok, "not", n, used)
	}
}

func isNoBlock(t *testing.T, w []int, at int) {
	t.Helper()
	if n, used, ok := impl.BlockAt(impl.Arena{W: w}, at); ok || used || n != 0 {
		t.Error("there is no block at", at, "but", n, used, ok)
	}
}

// edgeNumbers lie about the edges of what guards are reckoned of, and about those of an int.
var edgeNumbers = []int{math.MinInt, math.MinInt + 1, -4000, -2, -1, 0, 1, 2, 3, 7, 129, 3999, 4000, 4001, 4002, 1000003, math.MaxInt - 1, math.MaxInt}

func TestGuardsByTheReckoning(t *testing.T) {
	for _, at := range edgeNumbers {
		for _, n := range edgeNumbers {
			for _, used := range []bool{false, true} {
				if got := impl.Guard(at, n, used); got != guardBy(at, n, used, 1000) {
					t.Error("guard", at, n, used, got)
				}
				if got := impl.Rear(at, n, used); got != guardBy(at, n, used, 1001) {
					t.Error("rear", at, n, used, got)
				}
			}
		}
		if got := impl.Poison(at); got != poisonBy(at) {
			t.Error("poison", at, got)
		}
	}
}

func TestGuardsByNumber(t *testing.T) {
	for _, x := range []struct{ got, want int }{
		{impl.Guard(0, 0, false), 1003}, {impl.Guard(0, 0, true), 1006},
		{impl.Rear(0, 0, false), 1004}, {impl.Rear(0, 0, true), 1007},
		{impl.Guard(1, 0, false), 24760}, {impl.Guard(0, 1, false), 315190},
		{impl.Rear(4, 1, false), 410219}, {impl.Guard(159, 1503, false), 1000002}, {impl.Rear(159, 1503, false), 0},
		{impl.Guard(4000, 4000, true), 772953}, {impl.Rear(4000, 4000, false), 772951},
		{impl.Poison(0), 7777}, {impl.Poison(1), 7808}, {impl.Poison(4000), 131777},
		{impl.Guard(-1, 0, true), 0}, {impl.Guard(4001, 0, true), 0}, {impl.Guard(0, -1, true), 0}, {impl.Guard(0, 4001, true), 0},
		{impl.Rear(-1, 0, true), 0}, {impl.Rear(4001, 0, true), 0}, {impl.Rear(0, -1, true), 0}, {impl.Rear(0, 4001, true), 0},
		{impl.Poison(-1), 0}, {impl.Poison(4001), 0},
	} {
		if x.got != x.want {
			t.Error("it is", x.got, "not", x.want)
		}
	}
}

func TestNoTwoHaveTheSameGuards(t *testing.T) {
	for _, at := range []int{0, 1, 2, 996, 2001, 4000} {
		met := map[int]bool{}
		for n := 0; n <= 4000; n++ {
			for _, used := range []bool{false, true} {
				for _, g := range []int{impl.Guard(at, n, used), impl.Rear(at, n, used)} {
					if met[g] {
						t.Fatal("met twice at", at, n, used, g)
					}
					met[g] = true
				}
			}
		}
	}
}

func TestNewArenaIsOneFreeBlock(t *testing.T) {
	for _, n := range []int{4, 5, 6, 40, 1000, 3999, 4000} {
		w, _ := laid(freeOf(n - 3))
		a := impl.ArenaNew(n)
		if !slices.Equal(a.W, w) {
			t.Error("an arena of", n, "is", a.W)
		}
		isBlock(t, a.W, 0, n-3, false)
		isAudit(t, a.W, -1, 0)
	}
	for _, n := range []int{math.MinInt, -4000, -4, -1, 0, 1, 2, 3, 4001, 5000, 1000003, math.MaxInt} {
		if a := impl.ArenaNew(n); len(a.W) != 0 {
			t.Error("there is no arena of", n, "but", len(a.W))
		}
	}
}

func TestArenasShareNothing(t *testing.T) {
	a, b := impl.ArenaNew(9), impl.ArenaNew(9)
	clear(a.W)
	isAudit(t, b.W, -1, 0)
	isAudit(t, impl.ArenaNew(9).W, -1, 0)
	first := impl.Blocks(b)
	first[0] = 77
	isAudit(t, b.W, -1, 0)
}

func TestBlocksOneBehindTheOther(t *testing.T) {
	for _, list := range [][]piece{
		{usedOf(1)},
		{usedOf(3997)},
		{usedOf(1), usedOf(1)},
		{usedOf(1), freeOf(1)},
		{freeOf(1), usedOf(1)},
		{freeOf(1), usedOf(1), freeOf(1)},
		{usedOf(2), freeOf(30), usedOf(1), usedOf(9), freeOf(1), usedOf(4)},
		{freeOf(1993), usedOf(1), freeOf(1997)},
	} {
		w, places := laid(list...)
		for i, p := range list {
			isBlock(t, w, places[i], p.n, p.used)
		}
		isAudit(t, w, -1, places...)
	}
}

// manyPieces has no two free ones side by side, unless loose.
func manyPieces(d *dice, loose bool) []piece {
	list := make([]piece, 1+d.below(7))
	for i := range list {
		list[i] = usedOf(1 + d.below(6))
		if d.below(2) == 0 && (loose || i == 0 || list[i-1].used) {
			list[i] = freeOf(list[i].n)
		}
	}
	return list
}

func TestManyArenas(t *testing.T) {
	d := dice(2)
	for range 300 {
		w, places := laid(manyPieces(&d, false)...)
		isAudit(t, w, -1, places...)
		checkArena(t, w)
		w, _ = laid(manyPieces(&d, true)...)
		checkArena(t, w)
	}
}

// Each word that is not a used block's holder's is struck, and is found where its block stands.
func TestStruckWordsAreFound(t *testing.T) {
	d := dice(3)
	for range 60 {
		list := manyPieces(&d, false)
		w, places := laid(list...)
		for b, p := range list {
			for i := range p.n + 3 {
				at := places[b] + i
				was := w[at]
				for _, now := range []int{was + 1, was - 1, 0, -was, math.MaxInt, math.MinInt, was + 1000003} {
					if now == was {
						continue
					}
					w[at] = now
					if p.used && i >= 2 && i < p.n+2 {
						isBlock(t, w, places[b], p.n, true)
						isAudit(t, w, -1, places...)
					} else {
						isNoBlock(t, w, places[b])
						isAudit(t, w, places[b], places[:b]...)
					}
				}
				w[at] = was
			}
		}
	}
}

func TestArenasStruckByChance(t *testing.T) {
	d := dice(4)
	for range 2000 {
		w, _ := laid(manyPieces(&d, true)...)
		for range 1 + d.below(3) {
			at, from := d.below(len(w)), d.below(len(w))
			switch d.below(3) {
			case 0:
				w[at] = w[from]
			case 1:
				w[at] += d.below(7) - 3
			default:
				w = w[:at]
			}
			if len(w) == 0 {
				break
			}
		}
		checkArena(t, w)
	}
}

func TestGuardsOfTheOtherUse(t *testing.T) {
	w, _ := laid(usedOf(2), freeOf(2), usedOf(1))
	struck := slices.Clone(w)
	struck[0] = impl.Guard(0, 2, false)
	isAudit(t, struck, 0)
	struck[4] = impl.Rear(0, 2, false)
	isAudit(t, struck, 0)
	struck[2], struck[3] = impl.Poison(2), impl.Poison(3)
	isBlock(t, struck, 0, 2, false)
	isAudit(t, struck, 5, 0, 5, 10)
	struck = slices.Clone(w)
	struck[9] = impl.Rear(5, 2, true)
	isAudit(t, struck, 5, 0)
	struck[5] = impl.Guard(5, 2, true)
	isBlock(t, struck, 5, 2, true)
	isAudit(t, struck, -1, 0, 5, 10)
	// what is right at one place is not at another
	isNoBlock(t, append([]int{0}, w...), 1)
	isNoBlock(t, w[1:], 4)
}

func TestFreeBlocksSideBySide(t *testing.T) {
	for _, x := range []struct {
		list  []piece
		place int
	}{
		{[]piece{freeOf(1), freeOf(1)}, 4},
		{[]piece{freeOf(3), freeOf(1), freeOf(2)}, 6},
		{[]piece{usedOf(1), freeOf(1), freeOf(1)}, 8},
		{[]piece{freeOf(1), usedOf(1), freeOf(1), usedOf(1), freeOf(1), freeOf(9), usedOf(1)}, 20},
		{[]piece{freeOf(1), usedOf(1), freeOf(1)}, -1},
	} {
		w, places := laid(x.list...)
		isAudit(t, w, x.place, places...)
	}
	// whichever stands first counts
	w, _ := laid(freeOf(1), freeOf(1), usedOf(1))
	w[8]++
	isAudit(t, w, 4, 0, 4)
	w[5]++
	isAudit(t, w, 4, 0)
	w, _ = laid(usedOf(1), freeOf(1), freeOf(1))
	w[0]++
	isAudit(t, w, 0)
}

func TestLengthsThatAreNone(t *testing.T) {
	w, _ := laid(piece{n: 0}, usedOf(1))
	isAudit(t, w, 0)
	w, _ = laid(piece{n: 0, used: true}, usedOf(1))
	isAudit(t, w, 0)
	w, _ = laid(usedOf(5), usedOf(5))
	for _, n := range []int{math.MinInt, math.MinInt + 1, -8, -3, -2, -1, 0, 6, 13, 14, 4000, 4001, math.MaxInt - 3, math.MaxInt} {
		for _, used := range []bool{false, true} {
			struck := slices.Clone(w)
			struck[0], struck[1], struck[len(w)-1] = impl.Guard(0, n, used), n, impl.Rear(0, n, used)
			checkArena(t, struck)
			if n != 13 {
				isAudit(t, struck, 0)
			} else if used {
				isAudit(t, struck, -1, 0)
			}
		}
	}
}

func TestBlocksAtTheEnd(t *testing.T) {
	w, _ := laid(usedOf(2), usedOf(3))
	isBlock(t, w, 5, 3, true)
	for cut := 1; cut < 6; cut++ {
		isNoBlock(t, w[:len(w)-cut], 5)
		isAudit(t, w[:len(w)-cut:len(w)-cut], 5, 0)
	}
	isAudit(t, w[:5], -1, 0)
	for more := 1; more < 6; more++ {
		isAudit(t, append(slices.Clone(w), make([]int, more)...), 11, 0, 5)
	}
	for _, at := range []int{math.MinInt, -11, -5, -1, 1, 4, 6, 7, 8, 9, 10, 11, 12, 4000, 4001, math.MaxInt - 3, math.MaxInt} {
		isNoBlock(t, w, at)
	}
}

// A holder may write what looks like a block; nobody who goes from block to block is led there.
func TestBlocksWithinHolders(t *testing.T) {
	w, _ := laid(usedOf(6))
	w[3], w[4], w[5], w[6] = impl.Guard(3, 1, true), 1, 0, impl.Rear(3, 1, true)
	isBlock(t, w, 3, 1, true)
	isAudit(t, w, -1, 0)
}

func TestSpareRoomIsNotLookedAt(t *testing.T) {
	w, _ := laid(usedOf(2), freeOf(4), usedOf(1))
	ahead := slices.Clone(w)
	for n := range len(w) + 1 {
		checkArena(t, w[:n])
	}
	if !slices.Equal(w, ahead) {
		t.Error("spare room was written to")
	}
}

func TestArenasOfTooFewWordsOrTooMany(t *testing.T) {
	for n := range 4 {
		w, _ := laid(freeOf(1))
		isNoBlock(t, w[:n], 0)
		isNoBlock(t, make([]int, n), 0)
	}
	isAudit(t, nil, -1)
	isAudit(t, []int{}, -1)
	isAudit(t, []int{impl.Guard(0, 1, true)}, 0)
	isAudit(t, []int{impl.Guard(0, 1, true), 1, 0}, 0)
	w, places := laid(usedOf(3998))
	isAudit(t, w, -1, places...)
	w, places = laid(freeOf(3998))
	isAudit(t, w, -1, places...)
	w, _ = laid(usedOf(3997), usedOf(1), usedOf(2))
	checkArena(t, w)
	checkArena(t, make([]int, 4100))
}

func TestNoBlockWhereNoGuardsAre(t *testing.T) {
	for _, used := range []bool{false, true} {
		w, _ := laid(piece{n: 4000, used: used})
		isBlock(t, w, 0, 4000, used)
		isAudit(t, w, -1, 0)
		checkArena(t, w)
		w, _ = laid(usedOf(3997), piece{n: 1, used: used})
		isBlock(t, w, 4000, 1, used)
		isAudit(t, w, -1, 0, 4000)
		checkArena(t, w)
		w, _ = laid(usedOf(3997), piece{n: 4000, used: used})
		isBlock(t, w, 4000, 4000, used)
		isAudit(t, w, -1, 0, 4000)
		for _, n := range []int{4001, 4002, 5000} {
			w, _ = laid(piece{n: n, used: used})
			isNoBlock(t, w, 0)
			isAudit(t, w, 0)
			checkArena(t, w)
			w, _ = laid(usedOf(1), piece{n: n, used: used})
			isAudit(t, w, 4, 0)
			w, _ = laid(usedOf(n-3), piece{n: 1, used: used})
			isNoBlock(t, w, n)
			checkArena(t, w)
		}
		w, _ = laid(usedOf(3998), piece{n: 1, used: used})
		isAudit(t, w, 4001, 0)
		checkArena(t, w)
		w, _ = laid(usedOf(3997), usedOf(1), piece{n: 1, used: used})
		isAudit(t, w, 4004, 0, 4000)
		checkArena(t, w)
	}
}

// A free block may reach behind the last place that a poison is reckoned of; the 0 there is looked at, too.
func TestPoisonBehindTheLastPlace(t *testing.T) {
	w, _ := laid(usedOf(97), freeOf(4000))
	isAudit(t, w, -1, 0, 100)
	for _, at := range []int{4000, 4001, 4101} {
		w[at]++
		isAudit(t, w, 100, 0)
		w[at]--
	}
}
