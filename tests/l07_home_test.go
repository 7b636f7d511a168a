package tests

import (
	"go/ast"
	"go/parser"
	"go/token"
	"math"
	"slices"
	"testing"

	"loop.example/g00248/impl"
)

func (b brood) need() int { return 3 + len(b.old) + len(b.young) }

// heapOf is a heap whose words are none of a term's: homes do not look at them.
func heapOf(old int, young int, mark int) brood {
	b := brood{mark: mark}
	for i := range old {
		b.old = append(b.old, -7-i)
	}
	for i := range young {
		b.young = append(b.young, 1<<50+i)
	}
	return b
}

// anyHeap has words of every kind, and a Mark that fits.
func anyHeap(d *dice, most int) brood {
	b := heapOf(d.below(most+1), d.below(most+1), 0)
	b.mark = d.below(len(b.young) + 1)
	for _, list := range [][]int{b.old, b.young} {
		for i := range list {
			list[i] = edgeNumbers[d.below(len(edgeNumbers))]
		}
	}
	return b
}

// inRoom are the words of a holder of n by the chapter.
func (b brood) inRoom(n int) []int {
	words := slices.Concat([]int{len(b.old), len(b.young), b.mark}, b.old, b.young)
	return append(words, make([]int, n-len(words))...)
}

// part is the used block at this place.
func (s store) part(at int) (int, bool) {
	i := slices.Index(s.places(), at)
	return i, i >= 0 && s[i].used
}

// save is SaveHome by the chapter, of a whole arena.
func (s store) save(at int, b brood) (store, bool) {
	i, ok := s.part(at)
	if !ok || len(s[i].words) < b.need() || len(b.old) > mostGen || len(b.young) > mostGen {
		return s, false
	}
	next := slices.Clone(s)
	next[i].words = b.inRoom(len(s[i].words))
	return next, true
}

// move is MoveHome by the chapter, of a whole arena.
func (s store) move(at int, b brood) (store, int, bool) {
	if i, ok := s.part(at); ok && len(s[i].words) >= b.need() {
		if next, ok := s.save(at, b); ok {
			return next, at, true
		}
		return s, 0, false
	}
	next, code := s, impl.GetGood
	if at != -1 {
		next, code = s.take(at)
	}
	if code != impl.GetGood || b.need()+8 > 4000 {
		return s, 0, false
	}
	next, place, code := next.give(b.need() + 8)
	if code != impl.GetGood {
		return s, 0, false
	}
	next, ok := next.save(place, b)
	if !ok {
		return s, 0, false
	}
	return next, place, true
}

// fits tells by the chapter whether these words of a holder are a heap's, and of which.
func fits(words []int) (brood, bool) {
	if len(words) < 3 {
		return brood{}, false
	}
	old, young, mark := words[0], words[1], words[2]
	if min(old, young, mark) < 0 || max(old, young) > mostGen || mark > young || 3+old+young > len(words) {
		return brood{}, false
	}
	return brood{old: slices.Clone(words[3 : 3+old]), young: slices.Clone(words[3+old : 3+old+young]), mark: mark}, true
}

func saveOf(t *testing.T, w []int, at int, b brood) ([]int, bool) {
	t.Helper()
	l, m := lend(w), loanOf(b)
	a, ok := impl.SaveHome(l.arena(), at, m.lists().gens())
	m.untouched(t, "by SaveHome")
	got := l.back(t, a.W)
	m.untouched(t, "by what was answered")
	return got, ok
}

func moveOf(t *testing.T, w []int, at int, b brood) ([]int, int, bool) {
	t.Helper()
	l, m := lend(w), loanOf(b)
	a, place, ok := impl.MoveHome(l.arena(), at, m.lists().gens())
	m.untouched(t, "by MoveHome")
	got := l.back(t, a.W)
	m.untouched(t, "by what was answered")
	return got, place, ok
}

func loadOf(t *testing.T, w []int, at int) (brood, bool) {
	t.Helper()
	l := lend(w)
	g, ok := impl.LoadHome(l.arena(), at)
	got := loanOf(brood{}).answer(t, brood{old: g.Old, young: g.Young, mark: g.Mark})
	l.back(t, nil)
	if !ok && !got.same(brood{}) {
		t.Fatal("beside a false stands", got)
	}
	return got, ok
}

// isLoaded asks for just this heap at the place.
func isLoaded(t *testing.T, w []int, at int, want brood) {
	t.Helper()
	if got, ok := loadOf(t, w, at); !ok || !got.same(want) {
		t.Fatal("loaded at", at, "is", got, ok, "not", want)
	}
}

func isNotLoaded(t *testing.T, w []int, at int) {
	t.Helper()
	if got, ok := loadOf(t, w, at); ok {
		t.Fatal("loaded at", at, "is", got)
	}
}

func isSaved(t *testing.T, s store, at int, b brood) store {
	t.Helper()
	want, ok := s.save(at, b)
	if !ok {
		t.Fatal("the test saves what is refused", at, b)
	}
	w, got := saveOf(t, s.arena(), at, b)
	if !got || !slices.Equal(w, want.arena()) {
		t.Fatal("saved at", at, got, shown(w))
	}
	isWhole(t, want, w)
	if !slices.Equal(want.places(), s.places()) || !slices.Equal(want.usedPlaces(), s.usedPlaces()) {
		t.Fatal("the blocks have turned", want.places())
	}
	return want
}

func isNotSaved(t *testing.T, w []int, at int, b brood) {
	t.Helper()
	if got, ok := saveOf(t, w, at, b); ok || !slices.Equal(got, w) {
		t.Fatal("saved at", at, ok, b, shown(got))
	}
}

func isMoved(t *testing.T, s store, at int, b brood) (store, int) {
	t.Helper()
	want, place, ok := s.move(at, b)
	if !ok {
		t.Fatal("the test moves what is refused", at, b)
	}
	w, to, got := moveOf(t, s.arena(), at, b)
	if !got || to != place || !slices.Equal(w, want.arena()) {
		t.Fatal("moved from", at, "to", to, "not", place, got, shown(w))
	}
	isWhole(t, want, w)
	isLoaded(t, w, to, b)
	return want, place
}

func isNotMoved(t *testing.T, w []int, at int, b brood) {
	t.Helper()
	if got, place, ok := moveOf(t, w, at, b); ok || place != 0 || !slices.Equal(got, w) {
		t.Fatal("moved from", at, "to", place, ok, b, shown(got))
	}
}

func TestWhatAHomeNeeds(t *testing.T) {
	for _, old := range []int{0, 1, 2, 999, 1000, 1001, 5000} {
		for _, young := range []int{0, 1, 7, 1000, 1001, 5000} {
			for _, mark := range []int{0, 1, -1, 9999, math.MinInt, math.MaxInt} {
				l := loanOf(heapOf(old, young, mark))
				if n := impl.HomeNeed(l.lists().gens()); n != 3+old+young {
					t.Error("need of", old, young, mark, "is", n)
				}
				l.untouched(t, "by HomeNeed")
			}
		}
	}
	if n := impl.HomeNeed(impl.Gens{}); n != 3 {
		t.Error("need of none is", n)
	}
}

// The words by their places, once.
func TestWhereAHeapLiesInItsHome(t *testing.T) {
	w, _ := laid(usedOf(2), usedOf(9), usedOf(1))
	want := slices.Clone(w)
	copy(want[7:16], []int{2, 3, 1, 11, 12, 21, 22, 23, 0})
	got, ok := saveOf(t, w, 5, brood{old: []int{11, 12}, young: []int{21, 22, 23}, mark: 1})
	if !ok || !slices.Equal(got, want) {
		t.Error("saved", got, ok, "not", want)
	}
	isLoaded(t, got, 5, brood{old: []int{11, 12}, young: []int{21, 22, 23}, mark: 1})
	copy(want[7:16], []int{0, 0, 0, 0, 0, 0, 0, 0, 0})
	got, ok = saveOf(t, w, 5, brood{})
	if !ok || !slices.Equal(got, want) {
		t.Error("saved", got, ok, "not", want)
	}
	isLoaded(t, got, 5, brood{})
}

func TestHeapsOfEverySizeAreLoaded(t *testing.T) {
	sizes := []int{0, 1, 2, 5, 40, 999, 1000}
	for _, old := range sizes {
		for _, young := range sizes {
			for _, mark := range []int{0, young / 2, young} {
				b := heapOf(old, young, mark)
				for _, more := range []int{0, 1, 6} {
					n := b.need() + more
					s := storeOf(usedOf(4), freeOf(2), usedOf(n), usedOf(3), freeOf(5))
					s = isSaved(t, s, 12, heapOf(0, 0, 0))
					s = isSaved(t, s, 0, heapOf(1, 0, 0))
					s = isSaved(t, s, 12, b)
					s = isSaved(t, s, 15+n, heapOf(0, 0, 0))
					isLoaded(t, s.arena(), 0, heapOf(1, 0, 0))
					isLoaded(t, s.arena(), 12, b)
					isLoaded(t, s.arena(), 15+n, heapOf(0, 0, 0))
				}
			}
		}
	}
}

func TestHeapsOfAnyWordsAreLoaded(t *testing.T) {
	d := dice(1)
	for range 300 {
		b := anyHeap(&d, 12)
		s := storeOf(usedOf(3), usedOf(b.need()+d.below(9)), freeOf(2))
		s = isSaved(t, s, 6, b)
		isLoaded(t, s.arena(), 6, b)
	}
}

// A heap is saved so that its terms are read again.
func TestTermsOfAHeapThatIsLoaded(t *testing.T) {
	d := dice(2)
	for range 60 {
		b, list := brood{}, []impl.Term{}
		for range 6 {
			if x := anyTerm(&d, 1+d.below(4)); impl.TermOk(x) {
				b, list = isPutYoung(t, b, x), append(list, x)
			}
			if d.below(3) == 0 {
				b, _ = isSwept(t, b)
			}
		}
		s, at := isMoved(t, storeOf(usedOf(3), freeOf(2500)), -1, brood{old: b.old, young: b.young, mark: b.mark})
		got, ok := loadOf(t, s.arena(), at)
		got.atoms, got.roots = b.atoms, b.roots
		if !ok || !sameTerms(got.terms(), list) || !okGens(t, got) {
			t.Fatal("loaded", got, ok, "of", b)
		}
	}
}

// The rest is 0, whatever stood there.
func TestWhatStoodThere(t *testing.T) {
	s := storeOf(usedOf(2), usedOf(30), usedOf(2))
	for _, b := range []brood{heapOf(10, 17, 3), heapOf(9, 17, 0), heapOf(0, 3, 3), heapOf(4, 0, 0), {}, heapOf(13, 14, 14), heapOf(1, 1, 1)} {
		s = isSaved(t, s, 5, b)
		moved, at := isMoved(t, storeOf(usedOf(2), usedOf(30), usedOf(2)), 5, b)
		for k, x := range moved[1].words {
			if want := s[1].words[k]; at != 5 || x != want || k >= b.need() && want != 0 {
				t.Fatal("behind", b, "stands", x, "at", k)
			}
		}
		for i := b.need(); i < 30; i++ {
			if x, ok := readOf(t, s.arena(), 5, i); !ok || x != 0 {
				t.Fatal("the rest of", b, "is", x, ok)
			}
		}
	}
}

func TestTheRestIsNotLookedAt(t *testing.T) {
	w, _ := laid(usedOf(1), piece{n: 9, used: true, fill: -3}, freeOf(1))
	copy(w[6:], []int{1, 2, 2})
	isLoaded(t, w, 4, brood{old: []int{-3}, young: []int{-3, -3}, mark: 2})
	copy(w[6:], []int{0, 0, 0})
	isLoaded(t, w, 4, brood{})
}

func TestRoomForAHeap(t *testing.T) {
	for _, b := range []brood{{}, heapOf(1, 0, 0), heapOf(0, 1, 1), heapOf(3, 4, 2), heapOf(1000, 0, 0), heapOf(0, 1000, 9), heapOf(1000, 1000, 1000)} {
		n := b.need()
		s := isSaved(t, storeOf(usedOf(n), freeOf(1)), 0, b)
		isLoaded(t, s.arena(), 0, b)
		s = isSaved(t, storeOf(usedOf(n+1)), 0, b)
		isLoaded(t, s.arena(), 0, b)
		isNotSaved(t, storeOf(usedOf(n-1)).arena(), 0, b)
		isNotSaved(t, storeOf(usedOf(n-1), freeOf(100), usedOf(n)).arena(), 0, b)
		isNotSaved(t, storeOf(usedOf(1), usedOf(n)).arena(), 0, b)
	}
	isNotSaved(t, storeOf(usedOf(1)).arena(), 0, brood{})
	isNotSaved(t, storeOf(usedOf(2)).arena(), 0, brood{})
	isSaved(t, storeOf(usedOf(3)), 0, brood{})
}

func TestHowManyWordsAListInAHomeMayHave(t *testing.T) {
	s := storeOf(usedOf(2500), freeOf(1400))
	small := storeOf(usedOf(10), freeOf(3900))
	for _, b := range []brood{heapOf(1000, 1000, 1000), heapOf(1000, 0, 0), heapOf(0, 1000, 500), heapOf(1000, 1000, 0)} {
		isLoaded(t, isSaved(t, s, 0, b).arena(), 0, b)
		isMoved(t, s, 0, b)
		isMoved(t, small, 0, b)
		isMoved(t, small, -1, b)
	}
	for _, b := range []brood{heapOf(1001, 0, 0), heapOf(0, 1001, 0), heapOf(0, 1001, 1001), heapOf(1001, 1000, 7), heapOf(1000, 1001, 7), heapOf(1001, 1001, 0), heapOf(1900, 0, 0), heapOf(0, 1900, 0), heapOf(3000, 3000, 0), heapOf(3989, 0, 0), heapOf(0, 3990, 0)} {
		for _, w := range [][]int{s.arena(), small.arena()} {
			isNotSaved(t, w, 0, b)
			isNotMoved(t, w, 0, b)
			isNotMoved(t, w, -1, b)
		}
	}
}

// isAsItFits holds what is loaded of a holder's words against the chapter.
func isAsItFits(t *testing.T, words []int) {
	t.Helper()
	w := store{{true, []int{7, 7}}, {true, words}, {false, make([]int, 3)}}.arena()
	want, ok := fits(words)
	if got, is := loadOf(t, w, 5); is != ok || !got.same(want) {
		t.Fatal("loaded", got, is, "of", shown(words))
	}
}

func TestFirstWordsOfSmallHomes(t *testing.T) {
	for n := 1; n <= 8; n++ {
		for x := range 11 * 11 * 11 {
			words := []int{x%11 - 2, x/11%11 - 2, x/121 - 2, 4, 5, 6, 7, 8}
			isAsItFits(t, words[:n])
		}
	}
}

func TestFirstWordsOfGreatHomes(t *testing.T) {
	counts := []int{math.MinInt, math.MinInt + 1, -1000, -1, 0, 1, 499, 500, 999, 1000, 1001, 1002, 2000, math.MaxInt - 1, math.MaxInt}
	for _, n := range []int{3, 4, 502, 503, 1002, 1003, 1004, 1502, 1503, 2002, 2003, 2004, 3900} {
		words := make([]int, n)
		for i := range words {
			words[i] = i * i
		}
		for _, old := range counts {
			for _, young := range counts {
				for _, mark := range []int{math.MinInt, -1, 0, 1, young - 1, young, young + 1, 1000, math.MaxInt} {
					copy(words, []int{old, young, mark})
					isAsItFits(t, words)
				}
			}
		}
	}
}

// The edges of the first words, told by number.
func TestFirstWordsByNumber(t *testing.T) {
	for _, x := range []struct {
		n, old, young, mark int
		ok                  bool
	}{
		{2003, 1000, 1000, 1000, true}, {2002, 1000, 1000, 1000, false}, {2003, 1000, 1000, 1001, false},
		{2100, 1001, 0, 0, false}, {2100, 0, 1001, 0, false}, {2100, 1000, 0, 0, true}, {2100, 0, 1000, 0, true}, {2100, 0, 0, 1, false},
		{3, 0, 0, 0, true}, {3, 1, 0, 0, false}, {3, 0, 1, 0, false}, {3, 0, 0, 1, false}, {9, -1, 0, 0, false}, {9, 0, -1, 0, false}, {9, 0, 0, -1, false}, {9, 1, -1, -1, false},
		{10, 3, 4, 4, true}, {10, 3, 4, 5, false}, {10, 4, 4, 4, false}, {10, 3, 5, 4, false}, {10, 7, 0, 0, true}, {10, 8, 0, 0, false}, {10, 0, 7, 7, true}, {10, 0, 8, 0, false}, {10, 0, 7, 8, false},
		{10, 1 << 62, 1 << 62, 0, false}, {10, math.MaxInt, 1, 0, false}, {10, -4, 11, 0, false}, {10, 11, -4, -4, false},
	} {
		w, _ := laid(usedOf(2), usedOf(x.n))
		copy(w[7:], []int{x.old, x.young, x.mark})
		if _, ok := loadOf(t, w, 5); ok != x.ok {
			t.Error("loaded", x, ok)
		}
	}
	isNotLoaded(t, storeOf(piece{n: 1, used: true}).arena(), 0)
	isNotLoaded(t, storeOf(piece{n: 2, used: true}).arena(), 0)
	isLoaded(t, storeOf(piece{n: 3, used: true}).arena(), 0, brood{})
}

// A Mark is saved as it is; it is looked at where it is loaded.
func TestMarksOfHomes(t *testing.T) {
	for _, young := range []int{0, 1, 5, 1000} {
		for _, mark := range []int{math.MinInt, -1, 0, 1, young - 1, young, young + 1, young + 2, 100000, math.MaxInt} {
			b := heapOf(2, young, mark)
			n := b.need() + 1
			s := isSaved(t, storeOf(usedOf(1), usedOf(n)), 4, b)
			if x, ok := readOf(t, s.arena(), 4, 2); !ok || x != mark {
				t.Fatal("Mark is", x, "not", mark)
			}
			stays, at, ok := moveOf(t, storeOf(usedOf(1), usedOf(n)).arena(), 4, b)
			if !ok || at != 4 || !slices.Equal(stays, s.arena()) {
				t.Fatal("Mark", mark, "moved to", at, ok)
			}
			given, at, ok := moveOf(t, storeOf(usedOf(1), freeOf(n+7)).arena(), -1, b)
			if want := (store{storeOf(usedOf(1))[0], {true, b.inRoom(n + 7)}}); !ok || at != 4 || !slices.Equal(given, want.arena()) {
				t.Fatal("Mark", mark, "given at", at, ok)
			}
			for _, w := range [][]int{s.arena(), stays, given} {
				if mark >= 0 && mark <= young {
					isLoaded(t, w, 4, b)
				} else {
					isNotLoaded(t, w, 4)
				}
			}
		}
	}
}

func TestAHeapThatFitsStays(t *testing.T) {
	for _, more := range []int{0, 1, 5, 100} {
		for _, b := range []brood{{}, heapOf(1, 2, 1), heapOf(30, 0, 0), heapOf(0, 30, 30)} {
			n := b.need() + more
			for _, list := range [][]piece{{usedOf(4), usedOf(n)}, {freeOf(4), usedOf(n), freeOf(9)}, {freeOf(4), usedOf(n), usedOf(1), freeOf(200)}} {
				s := storeOf(list...)
				if next, at := isMoved(t, s, 7, b); at != 7 || !slices.Equal(next.places(), s.places()) || !slices.Equal(next.usedPlaces(), s.usedPlaces()) {
					t.Fatal("it did not stay", at)
				}
			}
		}
	}
}

// landed is a block as MoveHome leaves it.
func landed(b brood, n int) part { return part{true, b.inRoom(n)} }

// isBuilt moves, and asks for just these blocks; the one with words of a heap is the new home.
func isBuilt(t *testing.T, list []piece, at int, b brood, want store) {
	t.Helper()
	w, _ := laid(list...)
	got, place, ok := moveOf(t, w, at, b)
	if !ok || !slices.Equal(got, want.arena()) {
		t.Fatal("moved", ok, place, impl.Blocks(impl.Arena{W: got}), "not", want.places(), shown(got))
	}
	isWhole(t, want, got)
	isLoaded(t, got, place, b)
}

func TestAHeapThatDoesNotFitMoves(t *testing.T) {
	b := heapOf(2, 5, 1) // it needs 10: a new block has 18, or up to 21
	for _, x := range []struct {
		list []piece
		at   int
		want store
	}{
		{[]piece{usedOf(9), freeOf(30)}, 0, store{landed(b, 18), storeOf(freeOf(21))[0]}},
		{[]piece{usedOf(9), usedOf(1), freeOf(30)}, 0, slices.Concat(storeOf(freeOf(9), usedOf(1)), store{landed(b, 18)}, storeOf(freeOf(9)))},
		{[]piece{freeOf(2), usedOf(9), usedOf(1), freeOf(30)}, 5, slices.Concat(storeOf(freeOf(14), usedOf(1)), store{landed(b, 18)}, storeOf(freeOf(9)))},
		{[]piece{usedOf(1), usedOf(9), freeOf(2), usedOf(1), freeOf(30)}, 4, slices.Concat(storeOf(usedOf(1), freeOf(14), usedOf(1)), store{landed(b, 18)}, storeOf(freeOf(9)))},
		{[]piece{freeOf(2), usedOf(3), freeOf(2), usedOf(1), freeOf(18)}, 5, slices.Concat(storeOf(freeOf(13), usedOf(1)), store{landed(b, 18)})},
		{[]piece{freeOf(2), usedOf(3), freeOf(2), usedOf(1), freeOf(19)}, 5, slices.Concat(storeOf(freeOf(13), usedOf(1)), store{landed(b, 19)})},
		{[]piece{freeOf(2), usedOf(3), freeOf(2), usedOf(1), freeOf(20)}, 5, slices.Concat(storeOf(freeOf(13), usedOf(1)), store{landed(b, 20)})},
		{[]piece{freeOf(2), usedOf(3), freeOf(2), usedOf(1), freeOf(21)}, 5, slices.Concat(storeOf(freeOf(13), usedOf(1)), store{landed(b, 21)})},
		{[]piece{freeOf(2), usedOf(3), freeOf(2), usedOf(1), freeOf(22)}, 5, slices.Concat(storeOf(freeOf(13), usedOf(1)), store{landed(b, 18)}, storeOf(freeOf(1)))},
		{[]piece{freeOf(25), usedOf(1), usedOf(9)}, 32, slices.Concat(store{landed(b, 18)}, storeOf(freeOf(4), usedOf(1), freeOf(9)))},
		{[]piece{usedOf(1), freeOf(4), usedOf(9), usedOf(2)}, 11, nil},
		{[]piece{usedOf(1), freeOf(4), usedOf(9), freeOf(1), usedOf(2)}, 11, slices.Concat(storeOf(usedOf(1)), store{landed(b, 20)}, storeOf(usedOf(2)))},
		{[]piece{usedOf(1), freeOf(6), usedOf(9), usedOf(2)}, 13, slices.Concat(storeOf(usedOf(1)), store{landed(b, 18)}, storeOf(usedOf(2)))},
		{[]piece{usedOf(1), freeOf(6)}, 0, nil},
	} {
		if x.want == nil {
			w, _ := laid(x.list...)
			isNotMoved(t, w, x.at, b)
			continue
		}
		isBuilt(t, x.list, x.at, b, x.want)
	}
}

func TestAHeapWithoutAHome(t *testing.T) {
	b := heapOf(2, 5, 1)
	isBuilt(t, []piece{freeOf(18)}, -1, b, store{landed(b, 18)})
	isBuilt(t, []piece{freeOf(21)}, -1, b, store{landed(b, 21)})
	isBuilt(t, []piece{freeOf(22)}, -1, b, slices.Concat(store{landed(b, 18)}, storeOf(freeOf(1))))
	isBuilt(t, []piece{usedOf(50), freeOf(17), usedOf(2), freeOf(40)}, -1, b, slices.Concat(storeOf(usedOf(50), freeOf(17), usedOf(2)), store{landed(b, 18)}, storeOf(freeOf(19))))
	isBuilt(t, []piece{freeOf(11)}, -1, brood{}, store{landed(brood{}, 11)})
	for _, list := range [][]piece{{freeOf(17)}, {usedOf(50)}, {freeOf(17), usedOf(3000), freeOf(17)}} {
		w, _ := laid(list...)
		isNotMoved(t, w, -1, b)
	}
	isNotMoved(t, storeOf(freeOf(10)).arena(), -1, brood{})
	isNotMoved(t, nil, -1, brood{})
}

// HomeNeed and 8 words are just there, with what is taken back; and one less.
func TestJustEnoughBehindTheRelease(t *testing.T) {
	for _, need := range []int{4, 10, 55, 900, 2003} {
		b := heapOf((need-3)/2, need-3-(need-3)/2, 1)
		for own := 1; own < need && own < 60; own += 3 {
			rest := need + 8 - own
			isMovedOrNot(t, b, own, []piece{usedOf(2)}, nil, rest-3)
			isMovedOrNot(t, b, own, []piece{usedOf(2), freeOf(1)}, nil, rest-7)
			isMovedOrNot(t, b, own, nil, []piece{usedOf(7), freeOf(5)}, rest-3)
			isMovedOrNot(t, b, own, []piece{freeOf(3)}, []piece{usedOf(1)}, rest-9)
		}
	}
}

// isMovedOrNot lays a home of own words between those ahead and behind, with as many free words just behind it as are just enough, and with one less.
func isMovedOrNot(t *testing.T, b brood, own int, ahead []piece, behind []piece, free int) {
	t.Helper()
	at := len(storeOf(ahead...).arena())
	for _, n := range []int{free - 1, free, free + 1} {
		if n < 1 {
			continue
		}
		s := storeOf(slices.Concat(ahead, []piece{usedOf(own), freeOf(n)}, behind)...)
		if n < free {
			isNotMoved(t, s.arena(), at, b)
			continue
		}
		next, place := isMoved(t, s, at, b)
		if i, _ := next.part(place); len(next[i].words) != b.need()+8+n-free || place > at {
			t.Fatal("moved to", place, "with", len(next[i].words), "words")
		}
	}
}

func TestPlacesWithoutAHome(t *testing.T) {
	small, great := heapOf(0, 0, 0), heapOf(4, 4, 4)
	s := storeOf(piece{n: 12, used: true}, freeOf(30), piece{n: 15, used: true}, piece{n: 3, used: true}, freeOf(40))
	w, places := s.arena(), s.usedPlaces()
	others := []int{math.MinInt, math.MinInt + 2, -4000, -3, -2, 4000, 4001, math.MaxInt - 2, math.MaxInt}
	for at := -2; at < len(w)+5; at++ {
		others = append(others, at)
	}
	for _, at := range others {
		if slices.Contains(places, at) {
			isLoaded(t, w, at, brood{})
			isMoved(t, s, at, great)
			continue
		}
		isNotLoaded(t, w, at)
		for _, b := range []brood{small, great} {
			isNotSaved(t, w, at, b)
			if at != -1 {
				isNotMoved(t, w, at, b)
			}
		}
	}
	isNotSaved(t, w, -1, small)
	isNotLoaded(t, w, -1)
	for _, at := range []int{0, -1, 1, 4} {
		isNotSaved(t, nil, at, small)
		isNotLoaded(t, nil, at)
		isNotMoved(t, nil, at, small)
	}
	taken, code := releaseOf(t, w, places[1])
	if code != impl.GetGood {
		t.Fatal("code", code)
	}
	isNotSaved(t, taken, places[1], small)
	isNotLoaded(t, taken, places[1])
	isNotMoved(t, taken, places[1], small)
}

// What a holder has among its words, as a heap may, is no home, however it looks.
func TestWhatLooksLikeAHome(t *testing.T) {
	w, _ := laid(usedOf(20), freeOf(40))
	inner := []int{impl.Guard(7, 6, true), 6, 1, 1, 1, 8, 9, 0, impl.Rear(7, 6, true)}
	got, ok := saveOf(t, w, 0, brood{old: []int{3, 3}, young: inner, mark: 4})
	if !ok {
		t.Fatal("not saved")
	}
	isBlock(t, got, 7, 6, true)
	isLoaded(t, got, 0, brood{old: []int{3, 3}, young: inner, mark: 4})
	isNotLoaded(t, got, 7)
	isNotSaved(t, got, 7, brood{})
	isNotMoved(t, got, 7, brood{})
	isNotMoved(t, got, 7, heapOf(2, 3, 1))
}

// Nothing is saved or moved in what is struck; a home that is whole is still loaded.
func TestHomesInStruckArenas(t *testing.T) {
	one, two := heapOf(1, 2, 1), heapOf(3, 0, 0)
	s := storeOf(usedOf(8), freeOf(4), usedOf(6), freeOf(60))
	s = isSaved(t, isSaved(t, s, 0, one), 18, two)
	w := s.arena()
	for at := range w {
		if at >= 2 && at < 10 || at >= 20 && at < 26 {
			continue
		}
		struck := slices.Clone(w)
		struck[at]++
		for _, place := range []int{0, 18} {
			isNotSaved(t, struck, place, brood{})
			isNotMoved(t, struck, place, brood{})
			isNotMoved(t, struck, place, heapOf(9, 9, 9))
		}
		isNotMoved(t, struck, -1, brood{})
		if at < 11 {
			isNotLoaded(t, struck, 0)
		} else {
			isLoaded(t, struck, 0, one)
		}
		if at >= 18 && at < 27 {
			isNotLoaded(t, struck, 18)
		} else {
			isLoaded(t, struck, 18, two)
		}
	}
	loose, _ := laid(piece{n: 8, used: true}, freeOf(2), freeOf(50))
	isNotSaved(t, loose, 0, brood{})
	isNotMoved(t, loose, 0, brood{})
	isNotMoved(t, loose, 0, heapOf(4, 4, 0))
	isNotMoved(t, loose, -1, brood{})
	isLoaded(t, loose, 0, brood{})
}

// Longer ones than an arena may be can still be whole; where what is taken back cannot be guarded, nothing moves.
func TestHomesBehindTheLastPlace(t *testing.T) {
	b := heapOf(1000, 1000, 5)
	w, _ := laid(usedOf(1999), freeOf(1999))
	isNotMoved(t, w, 0, b)
	isNotMoved(t, w, -1, b)
	w, _ = laid(usedOf(97), freeOf(4000))
	isNotMoved(t, w, 0, b)
	got, at, ok := moveOf(t, w, -1, b)
	if !ok || at != 100 {
		t.Fatal("moved to", at, ok)
	}
	isLoaded(t, got, 100, b)
	w, _ = laid(usedOf(3990), usedOf(4000))
	if got, ok = saveOf(t, w, 3993, b); !ok {
		t.Fatal("not saved")
	}
	isLoaded(t, got, 3993, b)
	w, _ = laid(usedOf(3990), piece{n: 4000, used: true}, piece{n: 9, used: true}) // the last one stands where nothing is guarded
	for _, at := range []int{0, 3993, 7996} {
		isNotSaved(t, w, at, brood{})
		isNotMoved(t, w, at, brood{})
	}
	isLoaded(t, w, 3993, brood{})
	isNotLoaded(t, w, 7996)
}

// town is an arena by its blocks, and which heaps stand where.
type town struct {
	s     store
	homes map[int]brood
}

// allLoaded asks for each heap as it was saved, and for no home but theirs.
func (x town) allLoaded(t *testing.T) {
	t.Helper()
	w := x.s.arena()
	for at, b := range x.homes {
		isLoaded(t, w, at, b)
	}
	if len(x.homes) != len(x.s.usedPlaces()) {
		t.Fatal("homes", len(x.homes), "of", len(x.s.usedPlaces()))
	}
}

// step has a heap turn, come or go.
func (x *town) step(t *testing.T, d *dice) {
	t.Helper()
	at, b := -1, anyHeap(d, 1+d.below(20))
	if used := x.s.usedPlaces(); len(used) > 0 && d.below(3) > 0 {
		at = used[d.below(len(used))]
	}
	switch d.below(8) {
	case 0:
		if at >= 0 {
			x.s = isTaken(t, x.s, at)
			delete(x.homes, at)
		}
	case 1, 2:
		next, ok := x.s.save(at, b)
		if !ok {
			isNotSaved(t, x.s.arena(), at, b)
			return
		}
		isSaved(t, x.s, at, b)
		x.s, x.homes[at] = next, b
	default:
		if _, _, ok := x.s.move(at, b); !ok {
			isNotMoved(t, x.s.arena(), at, b)
			return
		}
		next, place := isMoved(t, x.s, at, b)
		delete(x.homes, at)
		x.s, x.homes[place] = next, b
	}
}

func TestManyHomes(t *testing.T) {
	d := dice(3)
	for range 120 {
		x := town{storeOf(freeOf(20 + d.below(250))), map[int]brood{}}
		for range 50 {
			x.step(t, &d)
			x.allLoaded(t)
		}
	}
}

// Whatever is handed in is answered; what is refused is as it was.
func TestHomesOfAnyWords(t *testing.T) {
	d := dice(4)
	for range 400 {
		w, places := laid(manyPieces(&d, true)...)
		for range d.below(9) {
			w[d.below(len(w))] = edgeNumbers[d.below(len(edgeNumbers))]
		}
		w = w[:len(w)-d.below(2)*d.below(len(w))]
		a := impl.Arena{W: w}
		for _, at := range append(slices.Clone(edgeNumbers), places...) {
			b := anyHeap(&d, 4)
			b.mark = edgeNumbers[d.below(len(edgeNumbers))]
			got, ok := saveOf(t, w, at, b)
			if ok && (impl.Audit(a) != -1 || impl.Audit(impl.Arena{W: got}) != -1) || !ok && !slices.Equal(got, w) {
				t.Fatal("saved", at, ok)
			}
			got, place, ok := moveOf(t, w, at, b)
			if ok && (impl.Audit(a) != -1 || impl.Audit(impl.Arena{W: got}) != -1) || !ok && (place != 0 || !slices.Equal(got, w)) {
				t.Fatal("moved", at, place, ok)
			}
			words := []int{}
			for x, is := readOf(t, w, at, 0); is; x, is = readOf(t, w, at, len(words)) {
				words = append(words, x)
			}
			want, ok := fits(words)
			if got, is := loadOf(t, w, at); is != ok || !got.same(want) {
				t.Fatal("loaded", at, got, is, "of", words)
			}
		}
	}
}

// A heap whose lists are words of the arena itself is saved as it was handed in.
func TestHeapsOutOfTheArenaItself(t *testing.T) {
	for _, at := range []int{0, -1} {
		w, _ := laid(usedOf(14), freeOf(40))
		for i := range 14 {
			w[2+i] = 100 + i
		}
		ahead := slices.Clone(w)
		g := impl.Gens{Old: w[6:9], Young: w[2:10], Mark: 3}
		want := brood{old: slices.Clone(g.Old), young: slices.Clone(g.Young), mark: 3}
		a, place, ok := impl.MoveHome(impl.Arena{W: w}, at, g)
		if !ok || !slices.Equal(w, ahead) {
			t.Fatal("moved", ok, w)
		}
		isLoaded(t, a.W, place, want)
		g.Young = w[2:16]
		want.young = slices.Clone(g.Young)
		a, place, ok = impl.MoveHome(impl.Arena{W: w}, at, g)
		if !ok || !slices.Equal(w, ahead) {
			t.Fatal("moved", ok, w)
		}
		isLoaded(t, a.W, place, want)
	}
}

// What was answered ahead stays as it was, whatever comes behind it.
func TestHomesShareNothing(t *testing.T) {
	b, c := heapOf(2, 3, 1), heapOf(5, 9, 4)
	one, at, _ := impl.MoveHome(impl.ArenaNew(80), -1, b.gens())
	g, _ := impl.LoadHome(one, at)
	two, ok := impl.SaveHome(one, at, c.gens())
	three, place, moved := impl.MoveHome(one, at, c.gens())
	refused, nowhere, refusedOk := impl.MoveHome(one, at, heapOf(90, 0, 0).gens())
	if ok || !moved || refusedOk || nowhere != 0 {
		t.Fatal("answers", ok, moved, refusedOk, nowhere)
	}
	clear(refused.W)
	clear(two.W)
	isLoaded(t, one.W, at, b)
	isLoaded(t, three.W, place, c)
	h, _ := impl.LoadHome(one, at)
	clear(h.Old)
	clear(h.Young)
	if !slices.Equal(g.Old, b.old) || !slices.Equal(g.Young, b.young) || g.Mark != b.mark {
		t.Error("a heap that was loaded turned", g)
	}
	isLoaded(t, one.W, at, b)
}

// The shared tests find both in other layers, too.
func TestHomesAreCopiedAndReachedByAPointer(t *testing.T) {
	f, err := parser.ParseFile(token.NewFileSet(), "../impl/l07_home.go", nil, 0)
	if err != nil {
		t.Fatal(err)
	}
	copied, pointed := false, false
	ast.Inspect(f, func(n ast.Node) bool {
		switch x := n.(type) {
		case *ast.CallExpr:
			id, ok := x.Fun.(*ast.Ident)
			copied = copied || ok && id.Name == "copy"
		case *ast.StarExpr:
			pointed = true
		}
		return true
	})
	if !copied || !pointed {
		t.Error("no copy, or no pointer", copied, pointed)
	}
}
