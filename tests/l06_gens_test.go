package tests

import (
	"fmt"
	"go/ast"
	"go/parser"
	"go/token"
	"math"
	"reflect"
	"slices"
	"strings"
	"testing"

	"loop.example/g00248/impl"
)

const (
	mostGen  = 1000
	youngest = 100000
)

// The words of what stands in Young.
func yTuple(at int) int { return wTuple(youngest + at) }
func yCons(at int) int  { return wCons(youngest + at) }
func yBin(at int) int   { return wBin(youngest + at) }

// brood is young and old, with its atoms, and the words that lead into it.
type brood struct {
	old, young []int
	mark       int
	atoms      []string
	roots      []int
}

// String keeps what is told of a long one short.
func (b brood) String() string {
	return fmt.Sprintf("{%d old %v, %d young %v, mark %d, %d atoms %v, roots %v}", len(b.old), shown(b.old), len(b.young), shown(b.young), b.mark, len(b.atoms), b.atoms[:min(len(b.atoms), 9)], shown(b.roots))
}

func (b brood) gens() impl.Gens { return impl.Gens{Old: b.old, Young: b.young, Mark: b.mark} }

func (b brood) clone() brood {
	return brood{slices.Clone(b.old), slices.Clone(b.young), b.mark, slices.Clone(b.atoms), slices.Clone(b.roots)}
}

func (b brood) same(c brood) bool {
	return slices.Equal(b.old, c.old) && slices.Equal(b.young, c.young) && b.mark == c.mark && slices.Equal(b.atoms, c.atoms) && slices.Equal(b.roots, c.roots)
}

func (b brood) with(roots ...int) brood {
	b = b.clone()
	b.roots = roots
	return b
}

// loan is a brood with spare room behind each list, handed to a call, and how all of that was ahead of it.
type loan struct{ room, ahead brood }

func loanOf(b brood) loan {
	room := brood{append(slices.Clone(b.old), 0, 0, wNil), append(slices.Clone(b.young), 0, 0, wNil), b.mark, slices.Concat(b.atoms, spareAtoms), append(slices.Clone(b.roots), -1, 7, wTuple(9))}
	return loan{room, room.clone()}
}

// lists are the room without what is spare.
func (l loan) lists() brood {
	r := l.room
	return brood{r.old[:len(r.old)-3], r.young[:len(r.young)-3], r.mark, r.atoms[:len(r.atoms)-3], r.roots[:len(r.roots)-3]}
}

func (l loan) untouched(t *testing.T, when string) {
	t.Helper()
	if !l.room.same(l.ahead) {
		t.Fatal("an argument, or the room behind it, was written", when)
	}
}

// answer is a copy of what was answered, once its lists are known to share nothing with each other or with an argument, and to have nothing behind them.
func (l loan) answer(t *testing.T, b brood) brood {
	t.Helper()
	l.untouched(t, "by the call")
	own := b.clone()
	for i, list := range [][]int{b.old, b.young, b.roots} {
		all := list[:cap(list)]
		for k := len(list); k < len(all); k++ {
			if all[k] != 0 {
				t.Fatal("behind an answered list stands", all[k])
			}
		}
		for k := range all {
			all[k] ^= 1 << 40
		}
		if i < 1 && !slices.Equal(b.young, own.young) || i < 2 && !slices.Equal(b.roots, own.roots) {
			t.Fatal("two lists of one answer share memory")
		}
	}
	for k := range b.atoms[:cap(b.atoms)] {
		b.atoms[:cap(b.atoms)][k] = "struck"
	}
	l.untouched(t, "by what was answered")
	return own
}

// putYoung is GensPut; the word stands behind the roots, where it is put.
func putYoung(t *testing.T, b brood, x impl.Term) (brood, bool) {
	t.Helper()
	l := loanOf(b)
	a := l.lists()
	g, atoms, w, ok := impl.GensPut(a.gens(), a.atoms, x)
	next := l.answer(t, brood{g.Old, g.Young, g.Mark, atoms, nil})
	next.roots = slices.Clone(b.roots)
	if ok {
		next.roots = append(next.roots, w)
	} else if w != 0 {
		t.Fatal("beside a false stands the word", w)
	}
	return next, ok
}

func readGens(t *testing.T, b brood, w int) (impl.Term, bool) {
	t.Helper()
	l := loanOf(b)
	a := l.lists()
	x, ok := impl.GensRead(a.gens(), a.atoms, w)
	l.untouched(t, "by GensRead")
	if !ok && !reflect.DeepEqual(x, impl.Term{}) {
		t.Fatal("beside a false stands", x)
	}
	return x, ok
}

func okGens(t *testing.T, b brood) bool {
	t.Helper()
	l := loanOf(b)
	a := l.lists()
	ok := impl.GensOk(a.gens(), a.atoms, a.roots)
	l.untouched(t, "by GensOk")
	return ok
}

func liveIn(t *testing.T, b brood) int {
	t.Helper()
	l := loanOf(b)
	a := l.lists()
	n := impl.LiveOf(a.gens(), a.atoms, a.roots)
	l.untouched(t, "by LiveOf")
	return n
}

type sweeper func(g impl.Gens, atoms []string, roots []int) (impl.Gens, []int, bool)

func sweepBy(t *testing.T, b brood, f sweeper) (brood, bool) {
	t.Helper()
	l := loanOf(b)
	a := l.lists()
	g, roots, ok := f(a.gens(), a.atoms, a.roots)
	next := l.answer(t, brood{g.Old, g.Young, g.Mark, nil, roots})
	next.atoms = slices.Clone(b.atoms)
	return next, ok
}

// at is the word at a place; where there is none, -1, which is no word, no byte and no count.
func (b brood) at(place int) int {
	list := b.old
	if place >= youngest {
		list, place = b.young, place-youngest
	}
	if place >= len(list) {
		return -1
	}
	return list[place]
}

// sizeAt is how many words stand where w leads to, and how many of them, from the first on, are no words of terms.
func (b brood) sizeAt(w int) (int, int) {
	n := b.at(w >> 3)
	switch w & 7 {
	case impl.WTuple:
		return n + 1, 1
	case impl.WCons:
		return 2, 0
	}
	return n + 1, n + 1
}

func (b brood) wordsAt(w int) []int {
	n, _ := b.sizeAt(w)
	list := []int{}
	for i := range n {
		list = append(list, b.at(w>>3+i))
	}
	return list
}

// term is a word as a term by the chapter, down to seven deep and a few more than a hundred; what is not there is of no kind.
func (b brood) term(w int, deep int, n *int) impl.Term {
	*n++
	v := w >> 3
	if w < 0 || v > mostValue || deep > 7 || *n > 110 {
		return impl.Term{}
	}
	switch w & 7 {
	case impl.WInt:
		return num(v - 1000000)
	case impl.WAtom:
		if v < len(b.atoms) {
			return atom(b.atoms[v])
		}
	case impl.WPid:
		return pid(v)
	case impl.WTuple:
		if size := b.at(v); size >= 0 && size <= 8 {
			l := []impl.Term{}
			for i := range size {
				l = append(l, b.term(b.at(v+1+i), deep+1, n))
			}
			return tup(l...)
		}
	case impl.WBin:
		if size := b.at(v); size >= 0 && size <= 40 {
			s := []byte{}
			for i := range size {
				x := b.at(v + 1 + i)
				if x != x&255 {
					return impl.Term{}
				}
				s = append(s, byte(x))
			}
			return bin(string(s))
		}
	case impl.WNil, impl.WCons:
		l := []impl.Term{}
		for w != wNil && *n <= 110 {
			if w < 0 || w&7 != impl.WCons || w>>3 > mostValue {
				return impl.Term{}
			}
			l = append(l, b.term(b.at(w>>3), deep+1, n))
			w = b.at(w>>3 + 1)
		}
		return lst(l...)
	}
	return impl.Term{}
}

func (b brood) termOf(w int) (impl.Term, bool) {
	n := 0
	x := b.term(w, 1, &n)
	return x, impl.TermOk(x)
}

func (b brood) terms() []impl.Term {
	list := []impl.Term{}
	for _, w := range b.roots {
		x, _ := b.termOf(w)
		list = append(list, x)
	}
	return list
}

// inYoung tells whether w leads to Young, and whether it leads there to Mark or above.
func (b brood) inYoung(w int) (bool, bool) {
	young := w&7 >= impl.WTuple && w>>3 >= youngest
	return young, young && w>>3-youngest >= b.mark
}

// agesRight tells of a word that is a term whether what it leads to leads to nothing younger than it may.
func (b brood) agesRight(w int) bool {
	if w&7 < impl.WTuple {
		return true
	}
	young, above := b.inYoung(w)
	n, first := b.sizeAt(w)
	for i := first; i < n; i++ {
		in := b.at(w>>3 + i)
		inYoung, inAbove := b.inYoung(in)
		if inYoung && !young || inAbove && !above || !b.agesRight(in) {
			return false
		}
	}
	return true
}

func (b brood) right() bool {
	if len(b.old) > mostGen || len(b.young) > mostGen || b.mark < 0 || b.mark > len(b.young) || len(b.atoms) > mostAtoms {
		return false
	}
	for i, s := range b.atoms {
		if !impl.AtomOk(s) || slices.Index(b.atoms, s) < i {
			return false
		}
	}
	for _, w := range b.roots {
		if _, ok := b.termOf(w); !ok || !b.agesRight(w) {
			return false
		}
	}
	return true
}

// led are the words that lead to what the roots lead to, each once, as a sweep comes to them.
func (b brood) led() []int {
	list := []int{}
	known := map[int]bool{}
	var follow func(w int)
	follow = func(w int) {
		if w&7 < impl.WTuple || known[w] {
			return
		}
		known[w] = true
		list = append(list, w)
		n, first := b.sizeAt(w)
		for i := first; i < n; i++ {
			follow(b.at(w>>3 + i))
		}
	}
	for _, w := range b.roots {
		follow(w)
	}
	return list
}

// places are those of all words that the roots lead to, and how often each is led to.
func (b brood) places() map[int]int {
	count := map[int]int{}
	for _, w := range b.led() {
		n, _ := b.sizeAt(w)
		for i := range n {
			count[w>>3+i]++
		}
	}
	return count
}

// youngPlaces are how many words of Young what begins below Mark has, and what begins above it.
func (b brood) youngPlaces() (int, int) {
	below, above := map[int]bool{}, map[int]bool{}
	for _, w := range b.led() {
		n, _ := b.sizeAt(w)
		young, up := b.inYoung(w)
		for i := range n {
			if up {
				above[w>>3+i] = true
			} else if young {
				below[w>>3+i] = true
			}
		}
	}
	return len(below), len(above)
}

// clean tells whether no two things stand on one word.
func (b brood) clean() bool {
	for _, n := range b.places() {
		if n > 1 {
			return false
		}
	}
	return true
}

// torn tells whether a word is a byte or a count of one thing, and leads on as a word of another one.
func (b brood) torn() bool {
	mere, lead := map[int]bool{}, map[int]bool{}
	for _, w := range b.led() {
		n, first := b.sizeAt(w)
		for i := range n {
			if i < first {
				mere[w>>3+i] = true
			} else if b.at(w>>3+i)&7 >= impl.WTuple {
				lead[w>>3+i] = true
			}
		}
	}
	for place := range mere {
		if lead[place] {
			return true
		}
	}
	return false
}

// copying is a sweep by the chapter, word for word, of what is clean.
type copying struct {
	from, to brood
	minor    bool
	went     map[int]int
}

func (c *copying) word(w int) int {
	if q, gone := c.went[w]; gone {
		return q
	}
	young, above := c.from.inYoung(w)
	if w&7 < impl.WTuple || c.minor && !young {
		return w
	}
	list, place := &c.to.old, 0
	if c.minor && above {
		list, place = &c.to.young, youngest
	}
	start := len(*list)
	c.went[w] = 8*(place+start) + w&7
	*list = append(*list, c.from.wordsAt(w)...)
	n, first := c.from.sizeAt(w)
	for i := first; i < n; i++ {
		q := c.word(c.from.at(w>>3 + i))
		(*list)[start+i] = q
	}
	return c.went[w]
}

func (b brood) swept(minor bool) brood {
	c := copying{from: b, minor: minor, went: map[int]int{}}
	if minor {
		c.to.old = slices.Clone(b.old)
	}
	for _, w := range b.roots {
		c.to.roots = append(c.to.roots, c.word(w))
	}
	c.to.mark, c.to.atoms = len(c.to.young), slices.Clone(b.atoms)
	return c.to
}

func sameTerms(a, b []impl.Term) bool { return slices.EqualFunc(a, b, alike) }

// isRead holds what is read of w against the chapter.
func isRead(t *testing.T, b brood, w int) {
	t.Helper()
	want, right := b.termOf(w)
	if x, ok := readGens(t, b, w); ok != right || ok && (!alike(x, want) || !impl.SameTerm(x, want)) {
		t.Fatalf("the word %d of %v is read as %v %v, not %v", w, b, x, ok, want)
	}
}

func isText(t *testing.T, b brood, w int, text string) {
	t.Helper()
	if x, ok := readGens(t, b, w); !ok || impl.TermText(x) != text {
		t.Errorf("the word %d of %v is %q %v, not %s", w, b, impl.TermText(x), ok, text)
	}
}

func isNoTerm(t *testing.T, b brood, w int) {
	t.Helper()
	if x, ok := readGens(t, b, w); ok {
		t.Errorf("the word %d of %d and %d words is read: %q", w, len(b.old), len(b.young), impl.TermText(x))
	}
}

// isSwept sweeps both ways what is right, holds that against the promise, and answers what is behind them.
func isSwept(t *testing.T, b brood) (brood, brood) {
	t.Helper()
	if !okGens(t, b) {
		t.Fatal("is not right:", b)
	}
	live := liveIn(t, b)
	minor, ok := sweepBy(t, b, impl.Minor)
	if !ok || minor.mark != len(minor.young) || len(minor.old) < len(b.old) || !slices.Equal(minor.old[:len(b.old)], b.old) {
		t.Fatal("Minor", ok, b, minor)
	}
	if below, above := b.youngPlaces(); len(minor.old) != len(b.old)+below || len(minor.young) != above {
		t.Fatal("Minor", below, above, b, minor)
	}
	major, ok := sweepBy(t, b, impl.Major)
	if !ok || len(major.young) != 0 || major.mark != 0 || len(major.old) != live {
		t.Fatal("Major", ok, b, major, live)
	}
	if n := len(b.places()); live < n || live > n && !b.torn() {
		t.Fatal("live are", live, "of", n, b)
	}
	for _, next := range []brood{minor, major} {
		if !sameTerms(next.terms(), b.terms()) || !okGens(t, next) || !next.right() {
			t.Fatal("behind a sweep", b, next)
		}
		for _, w := range next.roots {
			isRead(t, next, w)
		}
	}
	if b.clean() && (!minor.same(b.swept(true)) || !major.same(b.swept(false))) {
		t.Fatalf("swept is %v:\n%v, not\n%v\n%v, not\n%v", b, minor, b.swept(true), major, b.swept(false))
	}
	if n := liveIn(t, major); n != live {
		t.Fatal("behind a Major of", live, "live are", n)
	}
	if b.clean() && liveIn(t, minor) != live {
		t.Fatal("behind a Minor of", live, "live are", liveIn(t, minor))
	}
	return minor, major
}

// isNotSwept is all that is told of what is no GensOk.
func isNotSwept(t *testing.T, b brood) {
	t.Helper()
	if okGens(t, b) {
		t.Errorf("is right: %d and %d words, mark %d, %d atoms, roots %v", len(b.old), len(b.young), b.mark, len(b.atoms), b.roots)
	}
	for i, f := range []sweeper{impl.Minor, impl.Major} {
		isRefusedSweep(t, b, f, i)
	}
	if n := liveIn(t, b); n != 0 {
		t.Error("live are", n)
	}
}

func isRefusedSweep(t *testing.T, b brood, f sweeper, which int) {
	t.Helper()
	if next, ok := sweepBy(t, b, f); ok || !next.same(b) {
		t.Errorf("swept (%d) is %v: %d and %d words, mark %d, roots %v", which, ok, len(b.old), len(b.young), b.mark, b.roots)
	}
}

// isPutYoung puts x, which has room, and holds where it stands against the chapter.
func isPutYoung(t *testing.T, b brood, x impl.Term) brood {
	t.Helper()
	p := pile{slices.Repeat([]int{0}, youngest), slices.Clone(b.atoms)}
	p.words = append(p.words, b.young...)
	w := p.put(x)
	next, ok := putYoung(t, b, x)
	want := brood{b.old, p.words[youngest:], b.mark, p.atoms, append(slices.Clone(b.roots), w)}
	if !ok || !next.same(want) {
		t.Fatalf("%q is put %v:\n%v, not\n%v", impl.TermText(x), ok, next, want)
	}
	if y, ok := readGens(t, next, w); !ok || !alike(x, y) || !impl.SameTerm(x, y) {
		t.Fatalf("%q is read as %v %v", impl.TermText(x), y, ok)
	}
	return next
}

func isNotPutYoung(t *testing.T, b brood, x impl.Term) {
	t.Helper()
	if next, ok := putYoung(t, b, x); ok || !next.same(b) {
		t.Errorf("put is %v of %d words, behind %d: %v, behind it %d and %d words, mark %d, %d atoms", x.K, impl.NeedOf(x), len(b.young), ok, len(next.old), len(next.young), next.mark, len(next.atoms))
	}
}

func TestWhereTermsStandInYoung(t *testing.T) {
	for _, x := range []struct {
		text  string
		w     int
		young []int
	}{
		{"7", wInt(7), nil},
		{"ok", wAtom(0), nil},
		{"<3>", wPid(3), nil},
		{"[]", wNil, nil},
		{"{}", yTuple(0), []int{0}},
		{"#", yBin(0), []int{0}},
		{"#00ff", yBin(0), []int{2, 0, 255}},
		{"{1,2}", yTuple(0), []int{2, wInt(1), wInt(2)}},
		{"[1,2]", yCons(0), []int{wInt(1), yCons(2), wInt(2), wNil}},
		{"{{1,{2}},{3}}", yTuple(0), []int{2, yTuple(3), yTuple(8), 2, wInt(1), yTuple(6), 1, wInt(2), 1, wInt(3)}},
		{"[#61,[ok],{}]", yCons(0), []int{yBin(6), yCons(2), yCons(8), yCons(4), yTuple(10), wNil, 1, 97, wAtom(0), wNil, 0}},
	} {
		b := isPutYoung(t, brood{}, termOf(t, x.text))
		if b.roots[0] != x.w || !slices.Equal(b.young, x.young) || len(b.old) != 0 || b.mark != 0 {
			t.Errorf("%s: %v", x.text, b)
		}
	}
	b := isPutYoung(t, brood{[]int{-1, 7}, []int{5, math.MinInt}, 1, []string{"c"}, nil}, termOf(t, "[{d,c}]"))
	if want := []int{5, math.MinInt, yTuple(4), wNil, 2, wAtom(1), wAtom(0)}; b.roots[0] != yCons(2) || !slices.Equal(b.young, want) {
		t.Error(b)
	}
}

// What is put between sweeps is read as it was put, and so is all that stood there.
func TestTermsPutBetweenSweeps(t *testing.T) {
	d := dice(6)
	for range 60 {
		b, want := brood{}, []impl.Term{}
		for range 40 {
			if d.below(4) == 0 {
				k := d.below(len(b.roots) + 1)
				b.roots, want = b.roots[k:], want[k:]
				minor, major := isSwept(t, b)
				b = []brood{minor, minor, major}[d.below(3)]
			}
			x := anyTerm(&d, 1+d.below(6))
			if !impl.TermOk(x) {
				continue
			}
			if len(b.young)+impl.NeedOf(x) > mostGen {
				isNotPutYoung(t, b, x)
				continue
			}
			next := isPutYoung(t, b, x)
			if !slices.Equal(next.old, b.old) || next.mark != b.mark {
				t.Fatal("Old turned by a put")
			}
			b, want = next, append(want, x)
			if !sameTerms(b.terms(), want) {
				t.Fatal("not what was put", b)
			}
			for i, w := range b.roots {
				if y, ok := readGens(t, b, w); !ok || !alike(y, want[i]) {
					t.Fatal(i, y)
				}
			}
		}
	}
}

// grow makes a thing of what is there, as an actor would: behind Young, out of words that are terms already.
func (b *brood) grow(d *dice) {
	any := func() int {
		if len(b.roots) > 0 && d.below(4) > 0 {
			return b.roots[d.below(len(b.roots))]
		}
		return []int{wInt(d.below(9)), wAtom(0), wPid(2), wNil}[d.below(4)]
	}
	at, w := len(b.young), 0
	switch d.below(5) {
	case 0, 1:
		n := d.below(4)
		b.young = append(b.young, n)
		for range n {
			b.young = append(b.young, any())
		}
		w = yTuple(at)
	case 2, 3:
		rest := any()
		if rest&7 != impl.WCons {
			rest = wNil
		}
		b.young = append(b.young, any(), rest)
		w = yCons(at)
	default:
		b.young = append(b.young, 2, 97, d.below(256))
		w = yBin(at)
	}
	if _, ok := b.termOf(w); ok {
		b.roots = append(b.roots, w)
	}
}

func TestWhatIsSharedIsSwept(t *testing.T) {
	d := dice(66)
	for range 250 {
		b := brood{atoms: []string{"a"}}
		for range 60 {
			b.grow(&d)
			if len(b.young) > 60 || d.below(12) == 0 {
				for len(b.roots) > 6 {
					k := d.below(len(b.roots))
					b.roots = slices.Delete(b.roots, k, k+1)
				}
				minor, major := isSwept(t, b)
				isSweptAgain(t, minor, major)
				b = []brood{minor, minor, minor, major}[d.below(4)]
			}
		}
	}
}

// Swept again nothing is gone, and nothing turns that was swept by a Major.
func isSweptAgain(t *testing.T, minor brood, major brood) {
	t.Helper()
	again, _ := isSwept(t, minor)
	if len(again.young) != 0 || len(again.old) != len(minor.old)+len(minor.young) {
		t.Fatal("swept again is", minor, again)
	}
	if m, n := isSwept(t, major); !m.same(major) || !n.same(major) {
		t.Fatal("a Major again", major, m, n)
	}
}

func TestWhereCopiesStand(t *testing.T) {
	// [#61,{1,2}] and {[],#62}, as they are put; what was swept first is a {} ahead of them
	b := brood{young: []int{0}}
	b = isPutYoung(t, b, termOf(t, "[#61,{1,2}]"))
	b = isPutYoung(t, b, termOf(t, "{[],#62}"))
	minor, major := isSwept(t, b)
	// a cell, what its head leads to, and then the rest
	cells := []int{yBin(2), yCons(4), 1, 97, yTuple(6), wNil, 2, wInt(1), wInt(2)}
	if !slices.Equal(minor.young, append(cells, 2, wNil, yBin(12), 1, 98)) || !slices.Equal(minor.roots, []int{yCons(0), yTuple(9)}) {
		t.Error("Minor", minor)
	}
	if !slices.Equal(major.old, []int{wBin(2), wCons(4), 1, 97, wTuple(6), wNil, 2, wInt(1), wInt(2), 2, wNil, wBin(12), 1, 98}) || !slices.Equal(major.roots, []int{wCons(0), wTuple(9)}) {
		t.Error("Major", major)
	}
	// the roots are gone through from the left
	minor, major = isSwept(t, b.with(b.roots[1], wInt(3), b.roots[0], wNil))
	if !slices.Equal(minor.roots, []int{yTuple(0), wInt(3), yCons(5), wNil}) || !slices.Equal(major.roots, []int{wTuple(0), wInt(3), wCons(5), wNil}) {
		t.Error(minor, major)
	}
	// what has outlived a sweep goes behind Old, the rest to Young
	b = brood{[]int{9, 1, wInt(5)}, []int{0, 1, wTuple(1), 2, yTuple(1), yTuple(8), wNil, wNil, 1, yTuple(1)}, 3, nil, []int{yTuple(3), wTuple(1)}}
	minor, major = isSwept(t, b)
	if !slices.Equal(minor.old, []int{9, 1, wInt(5), 1, wTuple(1)}) || !slices.Equal(minor.young, []int{2, wTuple(3), yTuple(3), 1, wTuple(3)}) || !slices.Equal(minor.roots, []int{yTuple(0), wTuple(1)}) {
		t.Error("Minor", minor)
	}
	if !slices.Equal(major.old, []int{2, wTuple(3), wTuple(7), 1, wTuple(5), 1, wInt(5), 1, wTuple(3)}) || !slices.Equal(major.roots, []int{wTuple(0), wTuple(5)}) {
		t.Error("Major", major)
	}
}

func TestWhatIsLedToTwiceIsCopiedOnce(t *testing.T) {
	for _, x := range []struct {
		young []int
		roots []int
		want  []int
		words []int
	}{
		// by one root twice, and by two roots
		{[]int{1, wInt(1)}, []int{yTuple(0), yTuple(0)}, []int{yTuple(0), yTuple(0)}, []int{1, wInt(1)}},
		{[]int{1, wInt(1), 1, yTuple(0), 2, wNil, yTuple(0)}, []int{yTuple(2), yTuple(4), yTuple(0)}, []int{yTuple(0), yTuple(4), yTuple(2)}, []int{1, yTuple(2), 1, wInt(1), 2, wNil, yTuple(2)}},
		// by two words of one tuple, of one list
		{[]int{2, 97, 98, 3, yBin(0), wInt(1), yBin(0)}, []int{yTuple(3)}, []int{yTuple(0)}, []int{3, yBin(4), wInt(1), yBin(4), 2, 97, 98}},
		{[]int{0, yTuple(0), yCons(3), yTuple(0), wNil}, []int{yCons(1)}, []int{yCons(0)}, []int{yTuple(2), yCons(3), 0, yTuple(2), wNil}},
		// as the head and as the rest of one list
		{[]int{wInt(1), wNil, yCons(0), yCons(0)}, []int{yCons(2)}, []int{yCons(0)}, []int{yCons(2), yCons(2), wInt(1), wNil}},
		// a rest that two lists share, and that a root leads to
		{[]int{wInt(1), wNil, wInt(2), yCons(0), wInt(3), yCons(0)}, []int{yCons(2), yCons(4), yCons(0)}, []int{yCons(0), yCons(4), yCons(2)}, []int{wInt(2), yCons(2), wInt(1), wNil, wInt(3), yCons(2)}},
		// by words of unlike depth
		{[]int{0, 1, yTuple(0), 2, yTuple(1), yTuple(0)}, []int{yTuple(3)}, []int{yTuple(0)}, []int{2, yTuple(3), yTuple(5), 1, yTuple(5), 0}},
	} {
		b := brood{young: x.young, roots: x.roots}
		minor, major := isSwept(t, b)
		if !slices.Equal(minor.young, x.words) || !slices.Equal(minor.roots, x.want) || len(minor.old) != 0 {
			t.Error("Minor", x.young, minor)
		}
		if n := liveIn(t, b); n != len(x.words) || len(major.old) != n {
			t.Error("live are", n, b)
		}
		// the same, once it has outlived a sweep, and once it is old
		b.mark = len(b.young)
		if old, _ := isSwept(t, b); !old.same(major) {
			t.Error("promoted", old, major)
		}
		isSwept(t, major)
	}
}

func TestLiveWords(t *testing.T) {
	b := brood{young: []int{5}}
	for _, s := range []string{"1", "a", "<1>", "[]", "{}", "#", "{1}", "[1]", "#6162", "[a,[b,#61],{{}}]"} {
		x := termOf(t, s)
		b = isPutYoung(t, b, x)
		w := b.roots[len(b.roots)-1]
		if n := liveIn(t, b.with(w)); n != impl.NeedOf(x) {
			t.Error(s, "live are", n)
		}
		if n := liveIn(t, b.with(w, wNil, w)); n != impl.NeedOf(x) {
			t.Error(s, "twice, live are", n)
		}
		if n := liveIn(t, b); n != len(b.young)-1 {
			t.Error("all live are", n, "of", len(b.young))
		}
	}
	last := 0
	for n := range len(b.roots) + 1 {
		live := liveIn(t, b.with(b.roots[:n]...))
		if live < last {
			t.Error("less of more roots:", live, last)
		}
		last = live
	}
}

func TestNothingToSweep(t *testing.T) {
	for _, b := range []brood{{}, {old: []int{-1, 7, wTuple(0)}, young: []int{math.MaxInt, 7, yTuple(0)}, mark: 2}} {
		for _, roots := range [][]int{nil, {}, {wInt(0)}, {wNil, wPid(9), wNil}} {
			minor, major := isSwept(t, b.with(roots...))
			if !slices.Equal(minor.old, b.old) || len(minor.young) != 0 || len(major.old) != 0 || !slices.Equal(minor.roots, roots) || !slices.Equal(major.roots, roots) {
				t.Error(minor, major)
			}
		}
	}
	b := brood{young: []int{0, 0}, roots: []int{yTuple(0), yBin(1), wNil}}
	minor, major := isSwept(t, b)
	if !slices.Equal(minor.young, []int{0, 0}) || !slices.Equal(major.roots, []int{wTuple(0), wBin(1), wNil}) {
		t.Error(minor, major)
	}
}

func TestOneRootManyTimes(t *testing.T) {
	b := isPutYoung(t, brood{old: []int{1, wInt(4)}}, termOf(t, "{a,[1,#61]}"))
	b.roots = slices.Repeat([]int{b.roots[0], wTuple(0)}, 3000)
	minor, major := isSwept(t, b)
	if len(minor.young) != 9 || len(major.old) != 11 || !slices.Equal(major.roots, slices.Repeat([]int{wTuple(0), wTuple(9)}, 3000)) {
		t.Error(len(minor.young), len(major.old))
	}
}

func TestHowManyWordsYoungMayHave(t *testing.T) {
	for _, s := range []string{"1", "a", "<1>", "[]", "{}", "#", "{1}", "[1]", "#61", "{[a,#0102],[1,2,{}],<4>}"} {
		x := termOf(t, s)
		need := impl.NeedOf(x)
		for _, n := range []int{0, mostGen - need - 1, mostGen - need} {
			isPutYoung(t, brood{young: make([]int, n)}, x)
			isPutYoung(t, brood{old: make([]int, mostGen), young: make([]int, n), mark: n}, x)
		}
		for _, n := range []int{mostGen - need + 1, mostGen + 1, mostGen + 2, mostWords, mostWords + 1, 50000} {
			isNotPutYoung(t, brood{old: []int{3, 4}, young: make([]int, n), mark: 1, atoms: []string{"b"}}, x)
		}
	}
	// a term that fits a heap, but never Young
	wide := lst(many(20, bin(strings.Repeat("a", 40)))...)
	isPutYoung(t, brood{young: make([]int, mostGen-impl.NeedOf(wide))}, wide)
	isNotPutYoung(t, brood{young: make([]int, mostGen-impl.NeedOf(wide)+1)}, wide)
	isNotPutYoung(t, brood{}, tup(wide, bin(strings.Repeat("b", 40)), wide))
}

// What is put hangs on Young and the atoms alone: Old and Mark may be anything.
func TestWhatIsPutLooksAtYoungAlone(t *testing.T) {
	for _, b := range []brood{{mark: -1}, {mark: 5}, {mark: math.MaxInt}, {mark: math.MinInt}, {old: make([]int, mostGen+1)}, {old: []int{yTuple(0), -1}, young: []int{-1}}} {
		isPutYoung(t, b, termOf(t, "{ok,[1]}"))
		isPutYoung(t, b, termOf(t, "7"))
	}
}

func TestTermsThatYoungDoesNotTake(t *testing.T) {
	one := many(1, num(1))
	wrong := []impl.Term{
		{}, {K: 7}, {K: -1, N: 1}, {K: math.MinInt}, num(impl.MaxInt + 1), num(math.MinInt), pid(-1), pid(100000),
		{K: impl.TInt, S: "a"}, {K: impl.TAtom, S: "a", N: 1}, {K: impl.TTuple, N: 1}, {K: impl.TBin, L: one},
		atom(""), atom("A"), atom("aaaaaaaaaaaaa"), bin(strings.Repeat("a", 41)), tup(many(9, num(1))...), lst(many(21, num(1))...),
		nested(6, tup, num(1)), nested(6, lst, num(1)), nested(100000, tup, num(1)), ofAll(101),
	}
	for _, b := range []brood{{}, {[]int{7}, []int{wInt(1), 9}, 1, []string{"b"}, nil}} {
		for _, x := range wrong {
			isNotPutYoung(t, b, x)
			isNotPutYoung(t, b, tup(atom("c"), x))
		}
	}
	isPutYoung(t, brood{}, nested(5, lst, tup()))
	isPutYoung(t, brood{}, ofAll(100))
	last := brood{atoms: atomsOf(mostAtoms - 1)}
	isPutYoung(t, last, termOf(t, "[b,b,a0]"))
	isNotPutYoung(t, last, termOf(t, "[{b,#61},c]"))
	full := brood{atoms: atomsOf(mostAtoms)}
	isPutYoung(t, full, termOf(t, "{a0,a199,1}"))
	isNotPutYoung(t, full, termOf(t, "{a0,b}"))
}

func TestPlacesOfYoungAndOld(t *testing.T) {
	b := brood{old: make([]int, mostGen), young: make([]int, mostGen)}
	for _, w := range []int{wTuple(0), wBin(0), wTuple(999), wBin(999), yTuple(0), yBin(0), yTuple(999), yBin(999)} {
		isRead(t, b, w)
		minor, major := isSwept(t, b.with(w))
		if len(major.old) != 1 || len(minor.old) != mostGen || w < 8*youngest != (len(minor.young) == 0) {
			t.Error(w, len(minor.old), len(minor.young), len(major.old))
		}
	}
	for _, w := range []int{wTuple(1000), wBin(1000), wTuple(1001), wTuple(99999), wBin(99999), wCons(99999), yTuple(1000), yBin(1000), yCons(999), wCons(999), wTuple(mostValue), wBin(mostValue)} {
		isNoTerm(t, b, w)
		isNotSwept(t, b.with(w))
		isNotSwept(t, b.with(wNil, w, wTuple(0)))
	}
	// nothing goes on from the end of Old into Young
	b = brood{old: []int{1}, young: []int{0, wNil}}
	isNoTerm(t, b, wTuple(0))
	isNoTerm(t, b, wBin(0))
	isNoTerm(t, b, wCons(0))
	isNotSwept(t, brood{old: []int{1}, young: []int{0, wNil}, roots: []int{wTuple(0)}})
	// of lists that are too long what is there is read all the same, Old's up to 99999, Young's from 100000 on
	b = brood{old: make([]int, youngest+9), young: make([]int, mostGen+9)}
	b.old[youngest-1], b.old[youngest], b.old[youngest+1] = 2, wInt(1), wInt(2)
	b.young[0], b.young[1], b.young[mostGen], b.young[mostGen+1] = 1, wInt(3), 1, wInt(4)
	isText(t, b, wTuple(youngest-1), "{1,2}")
	isText(t, b, wTuple(youngest), "{3}")
	isText(t, b, yTuple(mostGen), "{4}")
	isText(t, b, wTuple(youngest-2), "{}")
	isNotSwept(t, b.with(wTuple(youngest-1)))
}

func TestHowManyWordsASweepTakes(t *testing.T) {
	for _, x := range []struct{ old, young int }{{mostGen, 0}, {0, mostGen}, {mostGen - 1, mostGen - 1}, {mostGen, mostGen}} {
		b := brood{old: make([]int, x.old), young: make([]int, x.young)}
		isSwept(t, b)
		isSwept(t, b.with(wInt(1), wNil))
	}
	for _, x := range []struct{ old, young int }{{mostGen + 1, 0}, {0, mostGen + 1}, {mostGen + 1, mostGen}, {mostGen, mostGen + 1}, {mostGen + 2, mostGen + 2}, {200000, 3}, {3, 200000}} {
		b := brood{old: make([]int, x.old), young: make([]int, x.young)}
		isNotSwept(t, b)
		isNotSwept(t, b.with(wInt(1), wNil))
		if x.old > 0 {
			isNotSwept(t, b.with(wTuple(0)))
		}
	}
}

// bins are things of n words in all, one behind the other, and the words that lead there.
func bins(place int, n int) ([]int, []int) {
	words, roots := []int{}, []int{}
	for len(words) < n {
		k := min(n-len(words), 41)
		roots = append(roots, wBin(place+len(words)))
		words = append(append(words, k-1), slices.Repeat([]int{98}, k-1)...)
	}
	return words, roots
}

func TestHowManyWordsOldMayHaveBehindASweep(t *testing.T) {
	for _, n := range []int{0, 1, 41, 400, 999, 1000} {
		words, roots := bins(youngest, n)
		for _, more := range []int{0, 1} {
			b := brood{old: make([]int, mostGen-n+more), young: append(slices.Clone(words), 0, 0), mark: n, roots: roots}
			if len(b.old) > mostGen || len(b.young) > mostGen {
				b.young = words
			}
			if more == 0 {
				minor, _ := isSwept(t, b)
				if len(minor.old) != mostGen {
					t.Error(n, len(minor.old))
				}
			} else if len(b.old) <= mostGen {
				isRefusedSweep(t, b, impl.Minor, 0)
				if major, ok := sweepBy(t, b, impl.Major); !ok || len(major.old) != n {
					t.Error("Major", n, ok, len(major.old))
				}
				// what is not marked goes to Young, whatever Old has
				b.mark = 0
				isSwept(t, b)
			}
		}
	}
	// by a Major: what is live in both
	for _, n := range []int{1, 400, 999} {
		young, roots := bins(youngest, n)
		for _, more := range []int{0, 1} {
			old, oldRoots := bins(0, mostGen-n+more)
			b := brood{old: old, young: young, roots: slices.Concat(roots, oldRoots)}
			if more == 0 {
				isSwept(t, b)
				continue
			}
			isRefusedSweep(t, b, impl.Major, 1)
			if n := liveIn(t, b); n != mostGen+1 {
				t.Error("live are", n)
			}
			if minor, ok := sweepBy(t, b, impl.Minor); !ok || !minor.same(b.swept(true)) {
				t.Error("Minor", ok)
			}
			b.roots = b.roots[1:]
			isSwept(t, b)
		}
	}
}

func TestMarks(t *testing.T) {
	b := brood{}
	for _, s := range []string{"{1}", "[2]", "#03"} {
		b = isPutYoung(t, b, termOf(t, s))
	}
	for mark := 0; mark <= len(b.young); mark++ {
		b.mark = mark
		minor, _ := isSwept(t, b)
		if below := (mark + 1) / 2 * 2; len(minor.old) != below || len(minor.young) != 6-below {
			t.Error(mark, minor)
		}
	}
	for _, mark := range []int{-1, -2, math.MinInt, 7, 8, youngest, math.MaxInt} {
		b.mark = mark
		isNotSwept(t, b)
		isNotSwept(t, b.with())
		for _, w := range b.roots {
			isRead(t, b, w)
		}
	}
	isNotSwept(t, brood{mark: 1})
	isNotSwept(t, brood{mark: -1})
}

func TestNothingLeadsToWhatIsYounger(t *testing.T) {
	for _, x := range []struct {
		b     brood
		right bool
	}{
		// of Old: to Young, below Mark or above it
		{brood{old: []int{1, yTuple(0)}, young: []int{0}, roots: []int{wTuple(0)}}, false},
		{brood{old: []int{1, yTuple(0)}, young: []int{0}, mark: 1, roots: []int{wTuple(0)}}, false},
		{brood{old: []int{1, yBin(0)}, young: []int{0}, mark: 1, roots: []int{wTuple(0)}}, false},
		{brood{old: []int{yTuple(0), wNil}, young: []int{0}, mark: 1, roots: []int{wCons(0)}}, false},
		{brood{old: []int{wNil, yCons(0)}, young: []int{wNil, wNil}, mark: 2, roots: []int{wCons(0)}}, false},
		{brood{old: []int{wNil, yCons(0)}, young: []int{wNil, wNil}, mark: 2, roots: []int{yCons(0)}}, true},
		{brood{old: []int{1, wTuple(2), 1, yTuple(0)}, young: []int{0}, roots: []int{wTuple(0)}}, false},
		{brood{old: []int{1, wTuple(2), 1, yTuple(0)}, young: []int{0}, roots: []int{yTuple(0), wNil}}, true},
		{brood{old: []int{1, yTuple(0)}, young: []int{0, 1, wTuple(0)}, roots: []int{yTuple(1)}}, false},
		{brood{old: []int{1, wTuple(0), 0}, young: []int{0}, roots: []int{wTuple(2), yTuple(0)}}, true},
		{brood{old: []int{0, 1, wTuple(0)}, roots: []int{wTuple(1)}}, true},
		{brood{old: []int{1, wTuple(2), 0}, roots: []int{wTuple(0)}}, true},
		// a byte leads nowhere, nor does a number
		{brood{old: []int{2, 4, 255, 1, wInt(-1000000 + youngest)}, young: []int{0}, roots: []int{wBin(0), wTuple(3)}}, true},
		// of Young below Mark: to Mark, just below it, above it, to Old
		{brood{young: []int{1, yTuple(3), 0, 0, 0}, mark: 2, roots: []int{yTuple(0)}}, false},
		{brood{young: []int{1, yTuple(2), 0, 0, 0}, mark: 2, roots: []int{yTuple(0)}}, false},
		{brood{young: []int{1, yTuple(2), 0, 0, 0}, mark: 3, roots: []int{yTuple(0)}}, true},
		{brood{young: []int{1, yTuple(2), 0, 0, 0}, mark: 0, roots: []int{yTuple(0)}}, true},
		{brood{young: []int{yBin(2), wNil, 0}, mark: 2, roots: []int{yCons(0)}}, false},
		{brood{young: []int{wInt(1), yCons(2), wNil, wNil}, mark: 2, roots: []int{yCons(0)}}, false},
		{brood{young: []int{wInt(1), yCons(2), wNil, wNil}, mark: 2, roots: []int{yCons(2)}}, true},
		{brood{young: []int{wInt(1), yCons(2), wNil, wNil}, mark: 3, roots: []int{yCons(0)}}, true},
		{brood{old: []int{0}, young: []int{1, wTuple(0), 0}, mark: 2, roots: []int{yTuple(0), yTuple(2)}}, true},
		{brood{young: []int{1, yTuple(2), 1, yTuple(4), 0}, mark: 4, roots: []int{yTuple(0)}}, false},
		{brood{young: []int{1, yTuple(2), 1, yTuple(4), 0}, mark: 4, roots: []int{yTuple(4)}}, true},
		// of Young above it: anywhere
		{brood{old: []int{0}, young: []int{0, 3, wTuple(0), yTuple(0), yTuple(5), 0}, mark: 1, roots: []int{yTuple(1)}}, true},
		{brood{young: []int{1, yTuple(4), 1, yTuple(0), 0}, mark: 2, roots: []int{yTuple(2)}}, false},
		// what begins below Mark stands there, though it ends above
		{brood{young: []int{2, wInt(1), yTuple(3), 0}, mark: 1, roots: []int{yTuple(0)}}, false},
		{brood{young: []int{2, wInt(1), yTuple(3), 0}, mark: 2, roots: []int{yTuple(0)}}, false},
		{brood{young: []int{2, wInt(1), wNil, 0}, mark: 1, roots: []int{yTuple(0), yTuple(3)}}, true},
	} {
		if x.b.right() != x.right {
			t.Fatal("the test is wrong:", x.b)
		}
		if !x.right {
			isNotSwept(t, x.b)
			for _, w := range x.b.roots {
				isRead(t, x.b, w)
			}
			// a right root beside it mends nothing
			isNotSwept(t, x.b.with(append([]int{wNil}, x.b.roots...)...))
			continue
		}
		isSwept(t, x.b)
	}
}

func TestAtomsOfYoungAndOld(t *testing.T) {
	b := brood{young: []int{1, wAtom(0)}, roots: []int{yTuple(0)}}
	for _, n := range []int{1, mostAtoms - 1, mostAtoms} {
		b.atoms = atomsOf(n)
		isSwept(t, b)
	}
	for _, n := range []int{0, mostAtoms + 1, mostAtoms + 2, 5000} {
		b.atoms = atomsOf(n)
		isNotSwept(t, b)
	}
	b.atoms = atomsOf(mostAtoms + 1)
	isNotSwept(t, b.with())
	for _, s := range noAtoms {
		b.atoms = []string{"a", s}
		isNotSwept(t, b)
		isNotSwept(t, b.with())
	}
	b.atoms = []string{"a", "b", "a"}
	isNotSwept(t, b)
	isNotSwept(t, b.with())
	b.atoms = []string{"spare1", "spare2"}
	isSwept(t, b)
}

func TestRootsThatAreNone(t *testing.T) {
	b := brood{atoms: []string{"a"}, old: []int{1, wAtom(0)}, roots: []int{wTuple(0), wAtom(0), wInt(5)}}
	b = isPutYoung(t, b, termOf(t, "{a,[1,#61]}"))
	isSwept(t, b)
	for _, w := range append(slices.Clone(noWords), wInt(1000001), wAtom(1), wPid(100000), wNil+8, wTuple(2), wCons(1), wBin(1), yTuple(len(b.young)), yCons(0), yBin(1)) {
		isNoTerm(t, b, w)
		isNotSwept(t, b.with(w))
		for i := range b.roots {
			c := b.clone()
			c.roots[i] = w
			isNotSwept(t, c)
		}
		// the same within: of Old, and of Young
		c := brood{old: []int{1, w}, young: []int{1, w}, mark: 2, atoms: b.atoms}
		if w != yTuple(len(b.young)) {
			isNotSwept(t, c.with(wTuple(0)))
			isNotSwept(t, c.with(yTuple(0)))
		}
		isSwept(t, c)
	}
}

func TestYoungAndOldThatLeadRound(t *testing.T) {
	for _, b := range []brood{
		{old: []int{1, wTuple(0)}, roots: []int{wTuple(0)}},
		{old: []int{wInt(1), wCons(0)}, roots: []int{wCons(0)}},
		{old: []int{wCons(0), wNil}, roots: []int{wCons(0)}},
		{young: []int{1, yTuple(0)}, roots: []int{yTuple(0)}},
		{young: []int{1, yTuple(0)}, mark: 2, roots: []int{yTuple(0)}},
		{young: []int{wInt(1), yCons(2), wInt(2), yCons(0)}, roots: []int{yCons(2)}},
		{old: []int{1, yTuple(0)}, young: []int{1, wTuple(0)}, roots: []int{yTuple(0)}},
		{young: append([]int{8}, slices.Repeat([]int{yTuple(0)}, 8)...), roots: []int{yTuple(0)}},
	} {
		for _, w := range b.roots {
			isNoTerm(t, b, w)
		}
		isNotSwept(t, b)
		// that nobody leads there makes it right
		isSwept(t, b.with(wNil))
	}
}

// Things may stand on words of one another: each word is still counted and copied once, and each root is the same term.
func TestThingsThatStandOnOneAnother(t *testing.T) {
	for _, x := range []struct {
		old   []int
		roots []int
		live  int
	}{
		{[]int{9, 0}, []int{wTuple(1), wBin(1)}, 1},
		{[]int{9, 2, 8, 16}, []int{wTuple(1), wBin(1)}, 3},
		{[]int{9, 2, wInt(1), wNil}, []int{wTuple(1), wCons(2)}, 3},
		{[]int{9, 2, wInt(1), wNil}, []int{wCons(2), wTuple(1)}, 3},
		{[]int{wNil, wNil, wNil, wNil}, []int{wCons(2), wCons(0), wCons(1)}, 4},
		{[]int{2, 1, 0}, []int{wBin(2), wBin(0), wBin(1), wTuple(2)}, 3},
		{[]int{2, 1, 0, 7, 0}, []int{wBin(4), wBin(2), wBin(0)}, 4},
		{[]int{9, 1, wBin(3), 1, 0}, []int{wTuple(1), wBin(4), wTuple(3)}, 4},
	} {
		b := brood{old: x.old, roots: x.roots}
		if _, major := isSwept(t, b); len(major.old) != x.live {
			t.Error(b, major)
		}
	}
	// a word that leads to Old is the same behind a Minor, whatever else it is
	if minor, _ := isSwept(t, brood{old: []int{0}, young: []int{9, 1, wTuple(0)}, roots: []int{yBin(1), yTuple(1)}}); !slices.Equal(minor.young, []int{1, wTuple(0)}) {
		t.Error(minor)
	}
	// below Mark and above it: each goes where it belongs
	b := brood{young: []int{1, 0}, mark: 1, roots: []int{yTuple(1), yTuple(0)}}
	minor, major := isSwept(t, b)
	if !slices.Equal(minor.old, []int{1, 0}) || !slices.Equal(minor.young, []int{0}) || !slices.Equal(minor.roots, []int{yTuple(0), wTuple(0)}) {
		t.Error(b, minor)
	}
	if !slices.Equal(major.old, []int{1, 0}) || !slices.Equal(major.roots, []int{wTuple(1), wTuple(0)}) {
		t.Error(b, major)
	}
}

// What is a byte or a count of one thing, and leads on as a word of another one, can't stay one word: each root is the same term all the same.
func TestWordsThatAreReadInTwoWays(t *testing.T) {
	for _, b := range []brood{
		{old: []int{9, 0, 1, wTuple(1)}, roots: []int{wBin(2), wTuple(2)}},
		{old: []int{9, 0, 1, wTuple(1)}, roots: []int{wTuple(2), wBin(2)}},
		{old: []int{9, 0, 1, wTuple(1), 0}, roots: []int{wTuple(2), wBin(4), wBin(2), wTuple(4)}},
		{old: []int{0, 9, wTuple(0), wNil, wNil, wNil, wNil}, roots: []int{wCons(2), wTuple(2)}},
		{old: []int{0, 9, wTuple(0), wNil, wNil, wNil, wNil}, roots: []int{wTuple(2), wCons(2), wCons(3)}},
		{old: []int{9, 0, 1, wBin(1), 1, 2, wBin(1), 0}, roots: []int{wTuple(2), wBin(2), wTuple(4), wBin(5), wBin(7)}},
	} {
		if !b.torn() {
			t.Fatal("the test is wrong:", b)
		}
		isSwept(t, b)
		// what stands apart once is clean behind that
		if _, major := isSwept(t, b); major.torn() {
			t.Error(b, major)
		}
	}
}

// anyBrood has few words, most of which lead somewhere, and mostly right roots, which may stand on each other.
func anyBrood(d *dice) brood {
	b := brood{atoms: []string{"a", "b"}, old: make([]int, d.below(9)), young: make([]int, d.below(12))}
	b.mark = d.below(len(b.young) + 1)
	word := func() int {
		w := anyWord(d, 8)
		if w >= 4 && w&7 >= impl.WTuple && d.below(2) == 0 {
			w += 8 * youngest
		}
		return w
	}
	for _, list := range [][]int{b.old, b.young} {
		for i := range list {
			// what may be a count and a word at once
			list[i] = []int{0, 1, 2, wNil, wTuple(0), wBin(0), wTuple(1), wBin(2)}[d.below(8)]
			if d.below(2) == 0 {
				list[i] = word()
			}
		}
	}
	for range d.below(25) {
		w := word()
		if _, ok := b.termOf(w); ok && b.agesRight(w) || d.below(60) == 0 {
			b.roots = append(b.roots, w)
		}
	}
	return b
}

func TestBroodsByChance(t *testing.T) {
	d := dice(666)
	good, bad, unclean, torn := 0, 0, 0, 0
	for range 40000 {
		b := anyBrood(&d)
		for _, w := range b.roots {
			isRead(t, b, w)
		}
		if !b.right() {
			bad++
			isNotSwept(t, b)
			continue
		}
		good++
		isSwept(t, b)
		if !b.clean() {
			unclean++
		}
		if b.torn() {
			torn++
		}
		if len(b.roots) > 0 {
			k := d.below(len(b.roots))
			if n := liveIn(t, b.with(slices.Delete(slices.Clone(b.roots), k, k+1)...)); n > liveIn(t, b) {
				t.Fatal("less of more roots", b)
			}
		}
	}
	if good < 5000 || bad < 3000 || unclean < 1000 || torn < 100 {
		t.Error("too few of a kind", good, bad, unclean, torn)
	}
}

// What was answered ahead stays as it was, whatever comes behind it.
func TestGensShareNothing(t *testing.T) {
	x, y := termOf(t, "{a,[1,2]}"), termOf(t, "[b,#61]")
	one, atoms1, w1, _ := impl.GensPut(impl.Gens{}, nil, x)
	two, atoms2, w2, _ := impl.GensPut(one, atoms1, y)
	minor, roots, _ := impl.Minor(two, atoms2, []int{w1, w2})
	major, roots2, _ := impl.Major(minor, atoms2, roots)
	three, atoms3, w3, _ := impl.GensPut(minor, atoms2, x)
	four, _, w4, _ := impl.GensPut(minor, atoms2, y)
	refused, roots3, ok := impl.Major(minor, atoms2, []int{-1})
	if ok || len(refused.Young) == 0 {
		t.Fatal("refused", refused)
	}
	clear(refused.Young)
	clear(roots3)
	for i, z := range []struct {
		g     impl.Gens
		atoms []string
		w     int
		want  impl.Term
	}{{one, atoms1, w1, x}, {two, atoms2, w1, x}, {two, atoms2, w2, y}, {minor, atoms2, roots[0], x}, {minor, atoms2, roots[1], y}, {major, atoms2, roots2[0], x}, {major, atoms2, roots2[1], y}, {three, atoms3, w3, x}, {three, atoms3, roots[1], y}, {four, atoms2, w4, y}} {
		if got, ok := impl.GensRead(z.g, z.atoms, z.w); !ok || !alike(got, z.want) {
			t.Error(i, got)
		}
	}
}

// The shared tests find a clear in other layers, too.
func TestWhatWasSweptIsCleared(t *testing.T) {
	f, err := parser.ParseFile(token.NewFileSet(), "../impl/l06_gens.go", nil, 0)
	if err != nil {
		t.Fatal(err)
	}
	cleared, mapped := false, false
	ast.Inspect(f, func(n ast.Node) bool {
		switch x := n.(type) {
		case *ast.CallExpr:
			id, ok := x.Fun.(*ast.Ident)
			cleared = cleared || ok && id.Name == "clear"
		case *ast.MapType:
			mapped = true
		}
		return true
	})
	if !cleared || !mapped {
		t.Error("no clear, or no map", cleared, mapped)
	}
}
