package tests

import (
	"math"
	"slices"
	"testing"

	"loop.example/g00248/impl"
)

// part is a block of a store: the words of its holder. Of a free one only how many there are counts.
type part struct {
	used  bool
	words []int
}

// store is an arena told by its blocks alone; what the program does to words is held against what the chapter does to these.
type store []part

func storeOf(list ...piece) store {
	s := store{}
	for _, p := range list {
		words := make([]int, p.n)
		for i := range words {
			words[i] = p.fill
		}
		s = append(s, part{p.used, words})
	}
	return s
}

func (s store) arena() []int {
	list := []piece{}
	for _, p := range s {
		list = append(list, piece{n: len(p.words), used: p.used})
	}
	w, places := laid(list...)
	for i, p := range s {
		if p.used {
			copy(w[places[i]+2:], p.words)
		}
	}
	return w
}

func (s store) places() []int {
	places, at := []int{}, 0
	for _, p := range s {
		places = append(places, at)
		at += len(p.words) + 3
	}
	return places
}

func (s store) usedPlaces() []int {
	used := []int{}
	for i, at := range s.places() {
		if s[i].used {
			used = append(used, at)
		}
	}
	return used
}

func (s store) free() int {
	sum := 0
	for _, p := range s {
		if !p.used {
			sum += len(p.words)
		}
	}
	return sum
}

// give is Alloc by the chapter, of an n of 1 .. 4000.
func (s store) give(n int) (store, int, int) {
	for i, p := range s {
		if p.used || len(p.words) < n {
			continue
		}
		parts := []part{{true, make([]int, len(p.words))}}
		if rest := len(p.words) - n - 3; rest >= 1 {
			parts = []part{{true, make([]int, n)}, {false, make([]int, rest)}}
		}
		return slices.Concat(s[:i], parts, s[i+1:]), s.places()[i], impl.GetGood
	}
	return s, 0, impl.GetFull
}

// take is Release by the chapter.
func (s store) take(at int) (store, int) {
	i := slices.Index(s.places(), at)
	if i < 0 || !s[i].used {
		return s, impl.GetForm
	}
	next := store{}
	for k, p := range s {
		if k == i {
			p.used = false
		}
		if last := len(next) - 1; !p.used && last >= 0 && !next[last].used {
			next[last].words = make([]int, len(next[last].words)+len(p.words)+3)
			continue
		}
		next = append(next, p)
	}
	return next, impl.GetGood
}

// lent are words with spare room behind, and how all of that was ahead of a call.
type lent struct{ room, ahead []int }

func lend(w []int) lent {
	room := append(slices.Clone(w), 71, 72, 73)
	return lent{room, slices.Clone(room)}
}

func (l lent) arena() impl.Arena { return impl.Arena{W: l.room[:len(l.room)-3]} }

// back are the answered words, once they are known to be in memory of their own.
func (l lent) back(t *testing.T, w []int) []int {
	t.Helper()
	answer := slices.Clone(w)
	if !slices.Equal(l.room, l.ahead) {
		t.Fatal("an argument, or the room behind it, was written")
	}
	for i := range w[:cap(w)] {
		w[:cap(w)][i] ^= 1 << 40
	}
	if !slices.Equal(l.room, l.ahead) {
		t.Fatal("an answer shares memory with an argument")
	}
	return answer
}

func allocOf(t *testing.T, w []int, n int) ([]int, int, int) {
	t.Helper()
	l := lend(w)
	a, at, code := impl.Alloc(l.arena(), n)
	return l.back(t, a.W), at, code
}

func releaseOf(t *testing.T, w []int, at int) ([]int, int) {
	t.Helper()
	l := lend(w)
	a, code := impl.Release(l.arena(), at)
	return l.back(t, a.W), code
}

func writeOf(t *testing.T, w []int, at int, i int, x int) ([]int, bool) {
	t.Helper()
	l := lend(w)
	a, ok := impl.WriteWord(l.arena(), at, i, x)
	return l.back(t, a.W), ok
}

func readOf(t *testing.T, w []int, at int, i int) (int, bool) {
	t.Helper()
	l := lend(w)
	x, ok := impl.ReadWord(l.arena(), at, i)
	l.back(t, nil)
	return x, ok
}

// isGiven asks for n words, and for just what the chapter says of them.
func isGiven(t *testing.T, s store, n int) (store, int) {
	t.Helper()
	want, place, code := s.give(n)
	w, at, got := allocOf(t, s.arena(), n)
	if got != code || at != place || !slices.Equal(w, want.arena()) {
		t.Fatal("given", n, "at", at, "with", got, "not at", place, "with", code, shown(w))
	}
	isWhole(t, want, w)
	if code == impl.GetGood {
		k, used, ok := impl.BlockAt(impl.Arena{W: w}, at)
		if !ok || !used || k < n || slices.Contains(s.usedPlaces(), at) {
			t.Fatal("what is given is no block of its own", k, used, ok)
		}
		for i := range k {
			if x, ok := readOf(t, w, at, i); !ok || x != 0 {
				t.Fatal("what is given is not 0", i, x, ok)
			}
		}
	}
	return want, place
}

func isTaken(t *testing.T, s store, at int) store {
	t.Helper()
	want, code := s.take(at)
	w, got := releaseOf(t, s.arena(), at)
	if got != code || !slices.Equal(w, want.arena()) {
		t.Fatal("taken back at", at, "with", got, "not", code, shown(w))
	}
	isWhole(t, want, w)
	return want
}

// isWhole holds what is told of w against the blocks of s.
func isWhole(t *testing.T, s store, w []int) {
	t.Helper()
	a := impl.Arena{W: w}
	if at := impl.Audit(a); at != -1 {
		t.Fatal("audit", at)
	}
	if got := impl.Blocks(a); !slices.Equal(got, s.places()) {
		t.Fatal("blocks", got, "not", s.places())
	}
	if got := impl.UsedBlocks(a); !slices.Equal(got, s.usedPlaces()) {
		t.Fatal("used blocks", got, "not", s.usedPlaces())
	}
	if got := impl.FreeWords(a); got != s.free() {
		t.Fatal("free words", got, "not", s.free())
	}
	all := impl.FreeWords(a) + 3*len(impl.Blocks(a))
	for _, at := range impl.UsedBlocks(a) {
		n, _, _ := impl.BlockAt(a, at)
		all += n
	}
	if all != len(w) {
		t.Fatal("words", all, "of", len(w))
	}
}

func TestRoomIsGivenAndTakenBack(t *testing.T) {
	d := dice(5)
	for range 200 {
		size := 4 + d.below(90)
		s := storeOf(freeOf(size - 3))
		for range 40 {
			switch used := s.usedPlaces(); {
			case d.below(5) < 2 && len(used) > 0:
				s = isTaken(t, s, used[d.below(len(used))])
			case d.below(8) == 0:
				s = isTaken(t, s, d.below(size+4)-2)
			default:
				s, _ = isGiven(t, s, 1+d.below(1+size/4))
			}
			// what holders have is not 0 for long, so that it shows where it is kept, and where it is made 0
			for i := range s {
				for k := range s[i].words {
					s[i].words[k] = 1 + d.below(9)
				}
			}
		}
	}
}

// ordersOf are all orders of 0 .. n-1.
func ordersOf(n int) [][]int {
	if n == 0 {
		return [][]int{{}}
	}
	orders := [][]int{}
	for _, o := range ordersOf(n - 1) {
		for i := range n {
			orders = append(orders, slices.Insert(slices.Clone(o), i, n-1))
		}
	}
	return orders
}

func TestTakenBackInEachOrder(t *testing.T) {
	sizes := []int{3, 1, 7, 2, 4}
	for _, order := range ordersOf(len(sizes)) {
		s := storeOf(freeOf(40))
		places := []int{}
		for _, n := range sizes {
			next, at := isGiven(t, s, n)
			s, places = next, append(places, at)
		}
		for _, i := range order {
			s = isTaken(t, s, places[i])
		}
		if w := s.arena(); !slices.Equal(w, impl.ArenaNew(43).W) {
			t.Fatal("it is not as it was", w)
		}
		s, _ = isGiven(t, s, 40)
		isGiven(t, s, 1)
	}
}

func isGood(t *testing.T, w []int, code int, want ...piece) {
	t.Helper()
	words, places := laid(want...)
	if code != impl.GetGood || !slices.Equal(w, words) {
		t.Error("code", code, "blocks", impl.Blocks(impl.Arena{W: w}), "not", places, shown(w))
	}
}

// zeros is a block as it is given.
func zeros(n int) piece { return piece{n: n, used: true} }

func TestTakenBackWithItsNeighbours(t *testing.T) {
	for _, x := range []struct {
		list []piece
		at   int
		want []piece
	}{
		{[]piece{usedOf(2)}, 0, []piece{freeOf(2)}},
		{[]piece{usedOf(1), usedOf(2), usedOf(3)}, 4, []piece{usedOf(1), freeOf(2), usedOf(3)}},
		{[]piece{usedOf(1), usedOf(2), usedOf(3)}, 0, []piece{freeOf(1), usedOf(2), usedOf(3)}},
		{[]piece{usedOf(1), usedOf(2), usedOf(3)}, 9, []piece{usedOf(1), usedOf(2), freeOf(3)}},
		{[]piece{freeOf(1), usedOf(2), usedOf(3)}, 4, []piece{freeOf(6), usedOf(3)}},
		{[]piece{usedOf(1), usedOf(2), freeOf(3)}, 4, []piece{usedOf(1), freeOf(8)}},
		{[]piece{freeOf(1), usedOf(2), freeOf(3)}, 4, []piece{freeOf(12)}},
		{[]piece{freeOf(1), usedOf(2), usedOf(3), freeOf(4)}, 4, []piece{freeOf(6), usedOf(3), freeOf(4)}},
		{[]piece{freeOf(1), usedOf(2), usedOf(3), freeOf(4)}, 9, []piece{freeOf(1), usedOf(2), freeOf(10)}},
		{[]piece{usedOf(1), freeOf(1), usedOf(1), freeOf(1), usedOf(1), freeOf(1), usedOf(1)}, 8, []piece{usedOf(1), freeOf(9), usedOf(1), freeOf(1), usedOf(1)}},
	} {
		w, _ := laid(x.list...)
		got, code := releaseOf(t, w, x.at)
		isGood(t, got, code, x.want...)
	}
}

func TestWhatIsCutOff(t *testing.T) {
	for _, n := range []int{1, 2, 5, 100, 1900} {
		for _, x := range []struct {
			free int
			want []piece
		}{
			{n, []piece{zeros(n)}}, {n + 1, []piece{zeros(n + 1)}}, {n + 2, []piece{zeros(n + 2)}}, {n + 3, []piece{zeros(n + 3)}},
			{n + 4, []piece{zeros(n), freeOf(1)}}, {n + 5, []piece{zeros(n), freeOf(2)}}, {n + 70, []piece{zeros(n), freeOf(67)}},
		} {
			w, _ := laid(freeOf(x.free))
			got, at, code := allocOf(t, w, n)
			isGood(t, got, code, x.want...)
			w, _ = laid(usedOf(2), freeOf(x.free), usedOf(1))
			got, place, code := allocOf(t, w, n)
			isGood(t, got, code, slices.Concat([]piece{usedOf(2)}, x.want, []piece{usedOf(1)})...)
			if at != 0 || place != 5 {
				t.Error("places", at, place)
			}
		}
		w, _ := laid(freeOf(n))
		isRefused(t, w, n+1, impl.GetFull)
	}
}

// isRefused asks for n words that are not to be had.
func isRefused(t *testing.T, w []int, n int, want int) {
	t.Helper()
	if got, at, code := allocOf(t, w, n); code != want || at != 0 || !slices.Equal(got, w) {
		t.Error("given", n, "at", at, "with", code, "not", want)
	}
}

func isNotTaken(t *testing.T, w []int, at int, want int) {
	t.Helper()
	if got, code := releaseOf(t, w, at); code != want || !slices.Equal(got, w) {
		t.Error("taken back at", at, "with", code, "not", want)
	}
}

func TestTheFirstThatHasRoom(t *testing.T) {
	list := []piece{freeOf(2), usedOf(1), freeOf(9), usedOf(1), freeOf(3), usedOf(1), freeOf(20)}
	for n, place := range map[int]int{1: 0, 2: 0, 3: 9, 4: 9, 5: 9, 6: 9, 8: 9, 9: 9, 10: 35, 16: 35, 17: 35, 20: 35} {
		if _, at := isGiven(t, storeOf(list...), n); at != place {
			t.Error("given", n, "at", at, "not", place)
		}
	}
	w, _ := laid(list...)
	isRefused(t, w, 21, impl.GetFull)
	got, at, code := allocOf(t, w, 3)
	if isGood(t, got, code, freeOf(2), usedOf(1), zeros(3), freeOf(3), usedOf(1), freeOf(3), usedOf(1), freeOf(20)); at != 9 {
		t.Error("place", at)
	}
	got, at, code = allocOf(t, w, 6)
	if isGood(t, got, code, freeOf(2), usedOf(1), zeros(9), usedOf(1), freeOf(3), usedOf(1), freeOf(20)); at != 9 {
		t.Error("place", at)
	}
}

func TestTheLeastAndTheMostWords(t *testing.T) {
	whole := impl.ArenaNew(4000).W
	got, _, code := allocOf(t, whole, 1)
	isGood(t, got, code, zeros(1), freeOf(3993))
	got, _, code = allocOf(t, whole, 3993)
	isGood(t, got, code, zeros(3993), freeOf(1))
	got, _, code = allocOf(t, whole, 3994)
	isGood(t, got, code, zeros(3997))
	got, _, code = allocOf(t, whole, 3997)
	isGood(t, got, code, zeros(3997))
	isRefused(t, whole, 3998, impl.GetFull)
	isRefused(t, whole, 4000, impl.GetFull)
	for _, n := range []int{0, -1, 4001, -4000, 1000003, math.MinInt, math.MinInt + 1, math.MaxInt - 1, math.MaxInt} {
		isRefused(t, whole, n, impl.GetForm)
	}
	got, _, code = allocOf(t, impl.ArenaNew(4).W, 1)
	isGood(t, got, code, zeros(1))
	isRefused(t, impl.ArenaNew(4).W, 2, impl.GetFull)
	isRefused(t, nil, 1, impl.GetFull)
	isRefused(t, nil, 0, impl.GetForm)
	isNotTaken(t, nil, 0, impl.GetForm)
}

func TestWhichReasonCounts(t *testing.T) {
	full, _ := laid(usedOf(3), usedOf(2))
	broken := slices.Clone(full)
	broken[5]++
	loose, _ := laid(freeOf(3), freeOf(2), usedOf(1))
	for _, n := range []int{0, -1, 4001, math.MinInt, math.MaxInt} {
		isRefused(t, full, n, impl.GetForm)
		isRefused(t, broken, n, impl.GetBroken)
		isRefused(t, loose, n, impl.GetBroken)
	}
	for _, n := range []int{1, 3, 4000} {
		isRefused(t, full, n, impl.GetFull)
		isRefused(t, broken, n, impl.GetBroken)
		isRefused(t, loose, n, impl.GetBroken)
	}
	for _, at := range []int{0, 6, 11, 1, -1, 7, 4000, 4001, math.MinInt, math.MaxInt} {
		isNotTaken(t, broken, at, impl.GetBroken)
		isNotTaken(t, loose, at, impl.GetBroken)
		if at != 0 && at != 6 {
			isNotTaken(t, full, at, impl.GetForm)
		}
	}
}

func TestPlacesOfNoUsedBlock(t *testing.T) {
	list := []piece{usedOf(2), freeOf(3), usedOf(4), usedOf(1), freeOf(1)}
	w, places := laid(list...)
	places = []int{places[0], places[2], places[3]}
	others := []int{math.MinInt, math.MinInt + 2, -4000, -1, 4000, 4001, math.MaxInt - 2, math.MaxInt}
	for at := -2; at < len(w)+5; at++ {
		others = append(others, at)
	}
	for _, at := range others {
		if slices.Contains(places, at) {
			continue
		}
		isNotTaken(t, w, at, impl.GetForm)
		for _, i := range []int{math.MinInt, -at, -1, 0, 1, 2, math.MaxInt} {
			isNoWord(t, w, at, i)
		}
	}
	taken, code := releaseOf(t, w, places[1])
	isGood(t, taken, code, usedOf(2), freeOf(10), usedOf(1), freeOf(1))
	isNotTaken(t, taken, places[1], impl.GetForm)
	isNoWord(t, taken, places[1], 0)
}

func isNoWord(t *testing.T, w []int, at int, i int) {
	t.Helper()
	if x, ok := readOf(t, w, at, i); ok || x != 0 {
		t.Error("read", at, i, "is", x, ok)
	}
	if got, ok := writeOf(t, w, at, i, 99); ok || !slices.Equal(got, w) {
		t.Error("written", at, i, ok)
	}
}

// isWord writes there, and looks for what has turned.
func isWord(t *testing.T, w []int, at int, i int) {
	t.Helper()
	if x, ok := readOf(t, w, at, i); !ok || x != w[at+2+i] {
		t.Error("read", at, i, "is", x, ok)
	}
	for _, x := range []int{99, 0, -1, math.MinInt, math.MaxInt, impl.Guard(at, 1, false)} {
		want := slices.Clone(w)
		want[at+2+i] = x
		got, ok := writeOf(t, w, at, i, x)
		if !ok || !slices.Equal(got, want) {
			t.Error("written", at, i, x, ok)
		}
		if back, ok := readOf(t, got, at, i); !ok || back != x {
			t.Error("read back", at, i, back, "not", x)
		}
	}
}

func TestWordsThatAreWrittenAreReadBack(t *testing.T) {
	d := dice(6)
	for range 40 {
		list := manyPieces(&d, false)
		w, places := laid(list...)
		for b, p := range list {
			if !p.used {
				isNoWord(t, w, places[b], 0)
				continue
			}
			for i := range p.n {
				isWord(t, w, places[b], i)
			}
			for _, i := range []int{math.MinInt, -p.n, -3, -2, -1, p.n, p.n + 1, p.n + 2, p.n + 3, 4000, math.MaxInt - 1, math.MaxInt} {
				isNoWord(t, w, places[b], i)
			}
		}
	}
	w, _ := laid(usedOf(3997))
	isWord(t, w, 0, 0)
	isWord(t, w, 0, 3996)
	isNoWord(t, w, 0, -1)
	isNoWord(t, w, 0, 3997)
}

// Each word that is no holder's is struck: nothing is given or taken back any more.
func TestNothingIsGivenOfStruckWords(t *testing.T) {
	d := dice(7)
	for range 25 {
		list := manyPieces(&d, false)
		w, places := laid(list...)
		for b, p := range list {
			for i := range p.n + 3 {
				at := places[b] + i
				was := w[at]
				for _, now := range []int{was + 1, was - 1, 0, was ^ 1<<62, math.MaxInt, math.MinInt} {
					if now == was {
						continue
					}
					w[at] = now
					if p.used && i >= 2 && i < p.n+2 {
						isStillWhole(t, w, places)
						continue
					}
					if impl.Audit(impl.Arena{W: w}) == -1 {
						t.Fatal("not found", at, now)
					}
					for _, n := range []int{1, 3, 4000, 0, 4001} {
						isRefused(t, w, n, impl.GetBroken)
					}
					for _, place := range append([]int{-1, 1, len(w)}, places...) {
						isNotTaken(t, w, place, impl.GetBroken)
					}
				}
				w[at] = was
			}
		}
	}
}

func isStillWhole(t *testing.T, w []int, places []int) {
	t.Helper()
	isAudit(t, w, -1, places...)
	if _, _, code := allocOf(t, w, 1); code != impl.GetGood && code != impl.GetFull {
		t.Error("code", code)
	}
	for _, at := range impl.UsedBlocks(impl.Arena{W: w}) {
		if _, code := releaseOf(t, w, at); code != impl.GetGood {
			t.Error("code", code)
		}
	}
}

// In what is struck, what still stands from 0 on is counted, and a used block is one wherever it stands.
func TestWhatIsToldOfStruckWords(t *testing.T) {
	w, places := laid(usedOf(2), freeOf(3), usedOf(1), freeOf(5), usedOf(2))
	for _, x := range []struct {
		at, free int
		used     []int
	}{
		{0, 0, nil}, {4, 0, nil}, {5, 0, []int{0}}, {8, 0, []int{0}}, {11, 3, []int{0}}, {14, 3, []int{0}}, {15, 3, []int{0, 11}}, {23, 8, []int{0, 11}}, {27, 8, []int{0, 11}},
	} {
		struck := slices.Clone(w)
		struck[x.at] += 5
		a := impl.Arena{W: struck}
		if got := impl.FreeWords(a); got != x.free {
			t.Error("struck", x.at, "free", got, "not", x.free)
		}
		if got := impl.UsedBlocks(a); !slices.Equal(got, x.used) {
			t.Error("struck", x.at, "used", got, "not", x.used)
		}
		for _, b := range []int{0, 2, 4} {
			end := len(struck)
			if b < 4 {
				end = places[b+1]
			}
			if x.at >= places[b] && x.at < end {
				isNoWord(t, struck, places[b], 0)
			} else {
				isWord(t, struck, places[b], 0)
			}
		}
	}
	loose, _ := laid(usedOf(1), freeOf(2), freeOf(3), usedOf(4))
	a := impl.Arena{W: loose}
	if impl.FreeWords(a) != 5 || !slices.Equal(impl.UsedBlocks(a), []int{0, 15}) {
		t.Error("side by side", impl.FreeWords(a), impl.UsedBlocks(a))
	}
}

// What a holder writes into its own words is no block, however it looks.
func TestWhatLooksLikeABlock(t *testing.T) {
	w, _ := laid(usedOf(12), freeOf(2))
	for i, used := range []bool{true, false} {
		at := 3 + 5*i
		w[at], w[at+1], w[at+4] = impl.Guard(at, 2, used), 2, impl.Rear(at, 2, used)
		w[at+2], w[at+3] = impl.Poison(at+2), impl.Poison(at+3)
		isBlock(t, w, at, 2, used)
		isAudit(t, w, -1, 0, 15)
		isNotTaken(t, w, at, impl.GetForm)
		isNoWord(t, w, at, 0)
		isRefused(t, w, 3, impl.GetFull)
		a := impl.Arena{W: w}
		if impl.FreeWords(a) != 2 || !slices.Equal(impl.UsedBlocks(a), []int{0}) {
			t.Error("counted", impl.FreeWords(a), impl.UsedBlocks(a))
		}
		for k := range 12 {
			isWord(t, w, 0, k)
		}
	}
	got, code := releaseOf(t, w, 0)
	isGood(t, got, code, freeOf(17))
}

// Longer ones than an arena may be can still be whole; what is given there is, too.
func TestWordsBehindTheLastPlace(t *testing.T) {
	long, _ := laid(freeOf(4000))
	got, _, code := allocOf(t, long, 4000)
	isGood(t, got, code, zeros(4000))
	got, _, code = allocOf(t, long, 3996)
	isGood(t, got, code, zeros(3996), freeOf(1))
	isRefused(t, long, 4001, impl.GetForm)
	w, _ := laid(usedOf(97), freeOf(4000))
	got, at, code := allocOf(t, w, 3897)
	if isGood(t, got, code, usedOf(97), zeros(3897), freeOf(100)); at != 100 {
		t.Error("place", at)
	}
	got, code = releaseOf(t, got, 100)
	isGood(t, got, code, usedOf(97), freeOf(4000))
	got, at, code = allocOf(t, w, 3898) // the rest would stand at 4001, where nothing can be guarded
	if isGood(t, got, code, usedOf(97), zeros(4000)); at != 100 {
		t.Error("place", at)
	}
	isAudit(t, got, -1, 0, 100)
	w, _ = laid(usedOf(1998), freeOf(1999))
	got, code = releaseOf(t, w, 0)
	isGood(t, got, code, freeOf(4000))
	w, _ = laid(usedOf(1999), freeOf(1999)) // together 4001, which cannot be guarded
	isNotTaken(t, w, 0, impl.GetBroken)
	isNotTaken(t, w, 2002, impl.GetForm)
	w, _ = laid(freeOf(1000), usedOf(1000), freeOf(1994))
	got, code = releaseOf(t, w, 1003)
	isGood(t, got, code, freeOf(4000))
	w, _ = laid(freeOf(1000), usedOf(1000), freeOf(1995))
	isNotTaken(t, w, 1003, impl.GetBroken)
}

// Whatever is handed in is answered; what is refused is as it was.
func TestBlocksOfAnyWords(t *testing.T) {
	d := dice(8)
	for range 400 {
		w, _ := laid(manyPieces(&d, true)...)
		for range d.below(4) {
			w[d.below(len(w))] = edgeNumbers[d.below(len(edgeNumbers))]
		}
		w = w[:len(w)-d.below(2)*d.below(len(w))]
		whole := impl.Audit(impl.Arena{W: w}) == -1
		for range 10 {
			n, at := edgeNumbers[d.below(len(edgeNumbers))], edgeNumbers[d.below(len(edgeNumbers))]
			got, _, code := allocOf(t, w, n)
			if (code == impl.GetBroken) == whole || code != impl.GetGood && !slices.Equal(got, w) {
				t.Fatal("given", n, code, whole)
			}
			got, code = releaseOf(t, w, at)
			if (code == impl.GetBroken) == whole || code != impl.GetGood && !slices.Equal(got, w) {
				t.Fatal("taken back", at, code, whole)
			}
			got, ok := writeOf(t, w, at, n, 5)
			if _, is := readOf(t, w, at, n); is != ok || !ok && !slices.Equal(got, w) {
				t.Fatal("written", at, n, ok)
			}
		}
	}
}

func TestUsedBlocksShareNothing(t *testing.T) {
	w, _ := laid(usedOf(2), usedOf(1), freeOf(4))
	a := impl.Arena{W: w}
	first := impl.UsedBlocks(a)
	clear(first)
	if got := impl.UsedBlocks(a); !slices.Equal(got, []int{0, 5}) {
		t.Error("used", got)
	}
	if l := impl.UsedBlocks(impl.ArenaNew(9)); len(l) != 0 || impl.FreeWords(impl.ArenaNew(9)) != 6 {
		t.Error("none is used", l)
	}
	if l := impl.UsedBlocks(impl.Arena{}); len(l) != 0 || impl.FreeWords(impl.Arena{}) != 0 {
		t.Error("none is there", l)
	}
}
