package tests

import (
	"go/ast"
	"go/parser"
	"go/token"
	"math"
	"reflect"
	"slices"
	"strings"
	"testing"

	"loop.example/g00248/impl"
)

const (
	mostWords = 2000
	wNil      = 3
)

func wInt(n int) int    { return 8 * (n + 1000000) }
func wAtom(at int) int  { return 8*at + 1 }
func wPid(n int) int    { return 8*n + 2 }
func wTuple(at int) int { return 8*at + 4 }
func wCons(at int) int  { return 8*at + 5 }
func wBin(at int) int   { return 8*at + 6 }

// termOf is the right term of a text.
func termOf(t *testing.T, s string) impl.Term {
	t.Helper()
	x, ok := impl.ParseTerm(s)
	if !ok {
		t.Fatal("no term:", s)
	}
	return x
}

// pile is a heap with its atoms, on which terms are put by the chapter's words, right or not, of whatever size.
type pile struct {
	words []int
	atoms []string
}

func (p pile) clone() pile { return pile{slices.Clone(p.words), slices.Clone(p.atoms)} }

func (p pile) same(q pile) bool {
	return slices.Equal(p.words, q.words) && slices.Equal(p.atoms, q.atoms)
}

func (p *pile) put(x impl.Term) int {
	at := len(p.words)
	switch x.K {
	case impl.TInt:
		return wInt(x.N)
	case impl.TAtom:
		if k := slices.Index(p.atoms, x.S); k >= 0 {
			return wAtom(k)
		}
		p.atoms = append(p.atoms, x.S)
		return wAtom(len(p.atoms) - 1)
	case impl.TPid:
		return wPid(x.N)
	case impl.TBin:
		p.words = append(p.words, len(x.S))
		for _, b := range []byte(x.S) {
			p.words = append(p.words, int(b))
		}
		return wBin(at)
	case impl.TTuple:
		p.words = append(append(p.words, len(x.L)), make([]int, len(x.L))...)
		for i, in := range x.L {
			w := p.put(in)
			p.words[at+1+i] = w
		}
		return wTuple(at)
	}
	if len(x.L) == 0 {
		return wNil
	}
	p.words = append(p.words, make([]int, 2*len(x.L))...)
	for i, in := range x.L {
		w := p.put(in)
		p.words[at+2*i], p.words[at+2*i+1] = w, wCons(at+2*i+2)
	}
	p.words[at+2*len(x.L)-1] = wNil
	return wCons(at)
}

// held is a pile with spare room behind, handed to a call, and how all of that was ahead of it.
type held struct{ room, ahead pile }

func hold(p pile) held {
	room := pile{append(slices.Clone(p.words), 3, wTuple(0), 71), append(slices.Clone(p.atoms), spareAtoms...)}
	return held{room, room.clone()}
}

func (h held) heap() impl.Heap { return impl.Heap{W: h.room.words[:len(h.room.words)-3]} }

func (h held) atoms() []string { return h.room.atoms[:len(h.room.atoms)-3] }

func (h held) untouched(t *testing.T, when string) {
	t.Helper()
	if !h.room.same(h.ahead) {
		t.Fatal("an argument, or the room behind it, was written", when)
	}
}

// putOf is PutTerm, once the answer is known to be in memory of its own.
func putOf(t *testing.T, p pile, x impl.Term) (pile, int, bool) {
	t.Helper()
	h := hold(p)
	heap, atoms, w, ok := impl.PutTerm(h.heap(), h.atoms(), x)
	answer := pile{heap.W, atoms}.clone()
	h.untouched(t, "by PutTerm")
	for i := range heap.W[:cap(heap.W)] {
		heap.W[:cap(heap.W)][i] ^= 1 << 40
	}
	for i := range atoms[:cap(atoms)] {
		atoms[:cap(atoms)][i] = "struck"
	}
	h.untouched(t, "by what PutTerm answered")
	return answer, w, ok
}

// readOff is ReadTerm, once the answer is known to be in memory of its own.
func readOff(t *testing.T, p pile, w int) (impl.Term, bool) {
	t.Helper()
	h := hold(p)
	x, ok := impl.ReadTerm(h.heap(), h.atoms(), w)
	h.untouched(t, "by ReadTerm")
	if okToo := impl.HeapOk(h.heap(), h.atoms(), []int{w}); okToo && !ok {
		t.Fatal("HeapOk of the word", w, "that is not read", p)
	}
	h.untouched(t, "by HeapOk")
	if !ok && !reflect.DeepEqual(x, impl.Term{}) {
		t.Fatal("beside a false stands", x)
	}
	return x, ok
}

// isPut puts x, which has room, and reads it back.
func isPut(t *testing.T, p pile, x impl.Term) (pile, int) {
	t.Helper()
	want := p.clone()
	word := want.put(x)
	got, w, ok := putOf(t, p, x)
	if !ok || w != word || !got.same(want) {
		t.Fatalf("%q is put %v as the word %d, not %d:\n%v\n%v", impl.TermText(x), ok, w, word, got, want)
	}
	if n := len(got.words) - len(p.words); n != impl.NeedOf(x) {
		t.Fatalf("%q needs %d words, not %d", impl.TermText(x), impl.NeedOf(x), n)
	}
	if !slices.Equal(got.words[:len(p.words)], p.words) || !slices.Equal(got.atoms[:len(p.atoms)], p.atoms) {
		t.Fatalf("%q is put on what stood there", impl.TermText(x))
	}
	isReadAs(t, got, w, x)
	return got, w
}

func isReadAs(t *testing.T, p pile, w int, x impl.Term) {
	t.Helper()
	if y, ok := readOff(t, p, w); !ok || !alike(x, y) || !impl.SameTerm(x, y) {
		t.Fatalf("%q is read as %v %v", impl.TermText(x), y, ok)
	}
}

func isNotPut(t *testing.T, p pile, x impl.Term) {
	t.Helper()
	if got, w, ok := putOf(t, p, x); ok || w != 0 || !got.same(p) {
		t.Errorf("put is %v of %d words: %v %d, behind it %d words, %d atoms", x.K, impl.NeedOf(x), ok, w, len(got.words), len(got.atoms))
	}
}

func isNotRead(t *testing.T, p pile, w int) {
	t.Helper()
	if x, ok := readOff(t, p, w); ok {
		t.Errorf("read is %d of %v %v: %q", w, p.words, p.atoms, impl.TermText(x))
	}
}

func isHeap(t *testing.T, p pile, roots []int, want bool) {
	t.Helper()
	h, r := hold(p), lend(roots)
	got := impl.HeapOk(h.heap(), h.atoms(), r.arena().W)
	h.untouched(t, "by HeapOk")
	if !slices.Equal(r.room, r.ahead) {
		t.Fatal("roots were written")
	}
	if got != want {
		t.Errorf("HeapOk is %v of %d words, %d atoms, roots %v", got, len(p.words), len(p.atoms), roots)
	}
}

func TestWhereWhatIsWithinStands(t *testing.T) {
	for _, x := range []struct {
		text  string
		w     int
		words []int
		atoms []string
	}{
		{"0", wInt(0), nil, nil},
		{"7", wInt(7), nil, nil},
		{"-1000000", 0, nil, nil},
		{"1000000", 16000000, nil, nil},
		{"ok", wAtom(0), nil, []string{"ok"}},
		{"<0>", wPid(0), nil, nil},
		{"<99999>", wPid(99999), nil, nil},
		{"[]", wNil, nil, nil},
		{"{}", wTuple(0), []int{0}, nil},
		{"#", wBin(0), []int{0}, nil},
		{"#00ff7f", wBin(0), []int{3, 0, 255, 127}, nil},
		{"{1,2}", wTuple(0), []int{2, wInt(1), wInt(2)}, nil},
		{"[1,2]", wCons(0), []int{wInt(1), wCons(2), wInt(2), wNil}, nil},
		{"[[]]", wCons(0), []int{wNil, wNil}, nil},
		{"{[]}", wTuple(0), []int{1, wNil}, nil},
		{"{{},{}}", wTuple(0), []int{2, wTuple(3), wTuple(4), 0, 0}, nil},
		{"{{1,{2}},{3}}", wTuple(0), []int{2, wTuple(3), wTuple(8), 2, wInt(1), wTuple(6), 1, wInt(2), 1, wInt(3)}, nil},
		{"[#61,{2},#62]", wCons(0), []int{wBin(6), wCons(2), wTuple(8), wCons(4), wBin(10), wNil, 1, 97, 1, wInt(2), 1, 98}, nil},
		{"[[1,2],[3]]", wCons(0), []int{wCons(4), wCons(2), wCons(8), wNil, wInt(1), wCons(6), wInt(2), wNil, wInt(3), wNil}, nil},
		{"{[a,{b}],c,a,[b,d]}", wTuple(0), []int{4, wCons(5), wAtom(2), wAtom(0), wCons(11), wAtom(0), wCons(7), wTuple(9), wNil, 1, wAtom(1), wAtom(1), wCons(13), wAtom(3), wNil}, []string{"a", "b", "c", "d"}},
	} {
		p, w := isPut(t, pile{}, termOf(t, x.text))
		if w != x.w || !slices.Equal(p.words, x.words) || !slices.Equal(p.atoms, x.atoms) {
			t.Errorf("%s: %d %v %v, not %d %v %v", x.text, w, p.words, p.atoms, x.w, x.words, x.atoms)
		}
	}
}

// What stands on a heap ahead of a term may be anything: it is not looked at.
func TestPlacesBehindWhatStoodThere(t *testing.T) {
	ahead := []int{-1, 7, math.MaxInt, math.MinInt, wTuple(0), 5}
	p, w := isPut(t, pile{ahead, []string{"b", "c"}}, termOf(t, "[{c,a},#62,b]"))
	want := []int{wTuple(12), wCons(8), wBin(15), wCons(10), wAtom(0), wNil, 2, wAtom(1), wAtom(2), 1, 98}
	if w != wCons(6) || !slices.Equal(p.words[6:], want) || !slices.Equal(p.atoms, []string{"b", "c", "a"}) {
		t.Error(w, p.words, p.atoms)
	}
	for _, s := range []string{"1", "a", "<1>", "[]"} {
		isPut(t, pile{words: ahead}, termOf(t, s))
	}
}

func TestTermsOnOneHeap(t *testing.T) {
	d := dice(5)
	for range 15 {
		p, words, terms := pile{}, []int{}, []impl.Term{}
		for {
			x := anyTerm(&d, 1+d.below(6))
			if !impl.TermOk(x) {
				continue
			}
			if len(p.words)+impl.NeedOf(x) > mostWords {
				isNotPut(t, p, x)
				break
			}
			next, w := isPut(t, p, x)
			p, words, terms = next, append(words, w), append(terms, x)
		}
		for i, w := range words {
			isReadAs(t, p, w, terms[i])
		}
		isHeap(t, p, words, true)
	}
}

// A term whose lists are one in memory is put as often as it stands there.
func TestWhatStandsTwiceIsPutTwice(t *testing.T) {
	x := lst(num(1), bin("ab"), atom("a"))
	p, _ := isPut(t, pile{}, tup(x, x, tup(x)))
	if len(p.words) != 4+9+9+2+9 {
		t.Error(p.words)
	}
	empty := []impl.Term{}
	for _, x := range []impl.Term{{K: impl.TInt, N: 3, L: empty}, {K: impl.TAtom, S: "a", L: empty}, {K: impl.TPid, L: empty}, {K: impl.TTuple, L: empty}, {K: impl.TList, L: empty}, {K: impl.TBin, L: empty}} {
		isPut(t, pile{[]int{1}, []string{"b"}}, x)
	}
}

func TestEachByteAndManyInts(t *testing.T) {
	for b := range 256 {
		isPut(t, pile{}, bin(string([]byte{byte(b), 0, byte(b)})))
		isReadAs(t, pile{words: []int{1, b}}, wBin(0), bin(string([]byte{byte(b)})))
	}
	for n := -impl.MaxInt; n <= impl.MaxInt; n += 997 {
		isPut(t, pile{}, tup(num(n), num(-n)))
	}
	for n := 0; n <= 99999; n += 97 {
		isPut(t, pile{}, lst(pid(n)))
	}
	isPut(t, pile{}, tup(num(-impl.MaxInt), num(impl.MaxInt), pid(0), pid(99999), bin(strings.Repeat("\xff", 40))))
}

func TestHowManyWordsAHeapMayHave(t *testing.T) {
	for _, s := range []string{"1", "a", "<1>", "[]", "{}", "#", "{1}", "[1]", "#61", "[a,b,c]", "{{{{{{}}}}}}", "{[a,#0102],[1,2,{}],<4>}"} {
		x := termOf(t, s)
		need := impl.NeedOf(x)
		for _, n := range []int{mostWords - need - 1, mostWords - need} {
			isPut(t, pile{words: make([]int, n)}, x)
		}
		for _, n := range []int{mostWords - need + 1, mostWords + 1, mostWords + 2, 3000, 100000} {
			isNotPut(t, pile{make([]int, n), []string{"b"}}, x)
		}
	}
	// one term that fills a heap nearly alone, and one that does not fit even an empty one
	wide := tup(lst(many(20, bin(strings.Repeat("a", 40)))...), lst(many(20, bin(strings.Repeat("b", 40)))...))
	need := impl.NeedOf(wide)
	isPut(t, pile{words: make([]int, mostWords-need)}, wide)
	isNotPut(t, pile{words: make([]int, mostWords-need+1)}, wide)
	wider := tup(append(wide.L, lst(many(20, bin(strings.Repeat("c", 40)))...))...)
	if !impl.TermOk(wider) {
		t.Fatal("is right")
	}
	isNotPut(t, pile{}, wider)
}

func TestHowManyAtomsAHeapMayHave(t *testing.T) {
	two, last := pile{atoms: atomsOf(mostAtoms - 2)}, pile{atoms: atomsOf(mostAtoms - 1)}
	full, more := pile{atoms: atomsOf(mostAtoms)}, pile{atoms: atomsOf(mostAtoms + 1)}
	isPut(t, two, termOf(t, "{b,c}"))
	isNotPut(t, two, termOf(t, "{b,c,d}"))
	isPut(t, last, atom("b"))
	isPut(t, last, termOf(t, "[b,b,a0,{b},a198]"))
	isNotPut(t, last, termOf(t, "[b,c]"))
	isNotPut(t, last, termOf(t, "[{b,a0,#6162},[c]]"))
	isPut(t, full, atom("a199"))
	isPut(t, full, termOf(t, "[a0,{a7},a199,1]"))
	isNotPut(t, full, atom("b"))
	isNotPut(t, full, termOf(t, "{a0,[#61,b]}"))
	isPut(t, full, termOf(t, "{1,<2>,[],#61}"))
	// of a list that is too long already what is there has its place all the same
	isPut(t, more, termOf(t, "{a0,a199,a200}"))
	isNotPut(t, more, atom("b"))
	isPut(t, more, termOf(t, "[1]"))
	isReadAs(t, more, wAtom(mostAtoms), atom("a200"))
}

func TestOfAtomsAlikeTheFirst(t *testing.T) {
	p := pile{atoms: []string{"b", "a", "A", "a", "", "b"}}
	got, w := isPut(t, p, termOf(t, "{a,b,c,a}"))
	if want := []int{4, wAtom(1), wAtom(0), wAtom(6), wAtom(1)}; w != wTuple(0) || !slices.Equal(got.words, want) {
		t.Error(w, got)
	}
	isReadAs(t, p, wAtom(3), atom("a"))
	isNotRead(t, p, wAtom(2))
	isNotRead(t, p, wAtom(4))
}

func TestHowDeepAndHowManyMayStandOnAHeap(t *testing.T) {
	for _, in := range []impl.Term{num(1), atom("a"), pid(2), tup(), lst(), bin(""), bin("ab")} {
		for _, around := range []func(...impl.Term) impl.Term{tup, lst} {
			isPut(t, pile{}, nested(5, around, in))
			isPut(t, pile{}, lst(num(1), tup(nested(3, around, in), num(2)), in))
			for _, n := range []int{6, 7, 20} {
				isNotPutNorRead(t, nested(n, around, in))
				isNotPutNorRead(t, tup(in, nested(n-1, around, in), in))
			}
		}
	}
	isPut(t, pile{}, ofAll(99))
	isPut(t, pile{}, ofAll(100))
	isNotPutNorRead(t, ofAll(101))
	isNotPutNorRead(t, ofAll(102))
	isPut(t, pile{}, lst(many(20, tup(many(3, lst())...))[:19]...))
	isNotPutNorRead(t, lst(many(20, tup(many(4, tup())...))...))
	isPut(t, pile{}, tup(many(8, atom("b"))...))
	isNotPutNorRead(t, tup(many(9, atom("b"))...))
	isPut(t, pile{}, lst(many(20, atom("b"))...))
	isNotPutNorRead(t, lst(many(21, atom("b"))...))
	isPut(t, pile{}, bin(strings.Repeat("a", 40)))
	isNotPutNorRead(t, bin(strings.Repeat("a", 41)))
	isNotPutNorRead(t, bin(strings.Repeat("a", 1500)))
}

// isNotPutNorRead has x, of which just the size is wrong, laid as words by the pile.
func isNotPutNorRead(t *testing.T, x impl.Term) {
	t.Helper()
	isNotPut(t, pile{[]int{wInt(1)}, []string{"c"}}, x)
	p := pile{}
	isNotRead(t, p, p.put(x))
	p = pile{[]int{0, 0}, []string{"c"}}
	w := p.put(x)
	isNotRead(t, p, w)
	isHeap(t, p, []int{w}, false)
}

func TestTermsThatAreNotRight(t *testing.T) {
	one := many(1, num(1))
	round := make([]impl.Term, 2)
	round[0], round[1] = num(1), impl.Term{K: impl.TTuple, L: round}
	wrong := []impl.Term{
		{}, {K: 7}, {K: -1, N: 1}, {K: math.MinInt}, {K: math.MaxInt, L: one},
		num(impl.MaxInt + 1), num(-impl.MaxInt - 1), num(math.MaxInt), num(math.MinInt),
		pid(-1), pid(100000), pid(math.MaxInt), pid(math.MinInt), {K: impl.TPid, N: 1, S: "a"},
		{K: impl.TInt, S: "a"}, {K: impl.TInt, L: one}, {K: impl.TAtom, S: "a", N: 1}, {K: impl.TAtom, S: "a", L: one},
		{K: impl.TTuple, N: 1}, {K: impl.TTuple, S: "a", L: one}, {K: impl.TList, N: 1, L: one}, {K: impl.TList, S: "a"},
		{K: impl.TBin, N: 1}, {K: impl.TBin, L: one}, lst(round...), tup(round...), nested(1000000, tup, num(1)),
	}
	for _, s := range noAtoms {
		wrong = append(wrong, atom(s))
	}
	for _, p := range []pile{{}, {[]int{wInt(1), 9}, []string{"b"}}, {make([]int, mostWords+1), atomsOf(mostAtoms + 1)}} {
		for _, x := range wrong {
			isNotPut(t, p, x)
			isNotPut(t, p, tup(x))
			isNotPut(t, p, lst(atom("c"), bin("a"), tup(num(1), x)))
		}
	}
	// a text that is no atom is none on a heap either, though it stands among them
	for _, s := range noAtoms {
		p := pile{atoms: []string{s, "b"}}
		isNotPut(t, p, atom(s))
		isNotRead(t, p, wAtom(0))
		isReadAs(t, p, wAtom(1), atom("b"))
	}
}

func TestWordsThatStandAlone(t *testing.T) {
	p := pile{atoms: []string{"a", "b0"}}
	isReadAs(t, p, wInt(-1000000), num(-1000000))
	isReadAs(t, p, wInt(1000000), num(1000000))
	isNotRead(t, p, wInt(1000001))
	isNotRead(t, p, 8*4000000)
	isReadAs(t, p, wAtom(0), atom("a"))
	isReadAs(t, p, wAtom(1), atom("b0"))
	isNotRead(t, p, wAtom(2))
	isNotRead(t, p, wAtom(3))
	isNotRead(t, p, wAtom(4000000))
	isNotRead(t, pile{}, wAtom(0))
	isReadAs(t, p, wPid(0), pid(0))
	isReadAs(t, p, wPid(99999), pid(99999))
	isNotRead(t, p, wPid(100000))
	isNotRead(t, p, wPid(4000000))
	isReadAs(t, p, wNil, lst())
	isNotRead(t, p, wNil+8)
	isNotRead(t, p, wNil+8*4000000)
	for _, w := range noWords {
		isNotRead(t, p, w)
	}
}

// noWords have a tag or a value that there is not.
var noWords = []int{
	-1, -2, -3, -8, 3 - 8, 4 - 8, -wInt(1), 7, 15, 7 + 8*1000000, 7 + 8*4000000,
	8 * 4000001, 8*4000001 + 1, 8*4000001 + 2, 8*4000001 + 3, 8*4000001 + 4, 8*4000001 + 5, 8*4000001 + 6,
	1 << 32, 1<<32 + wNil, 1<<32 + wTuple(0), 1 << 62, 1<<62 + wNil, math.MaxInt, math.MaxInt - 7, math.MinInt, math.MinInt + wNil, math.MinInt + wTuple(0),
}

func TestNoWordWithinATerm(t *testing.T) {
	for _, w := range append(slices.Clone(noWords), wInt(1000001), wAtom(1), wPid(100000), wNil+8, wTuple(50), wCons(50), wBin(50)) {
		for _, root := range []int{wTuple(0), wCons(4), wTuple(8), wTuple(11)} {
			p := pile{[]int{3, wInt(1), w, wAtom(0), w, wNil, 0, 0, 1, wCons(4), 0, 1, wTuple(0)}, []string{"a"}}
			isNotRead(t, p, root)
			p.words[2], p.words[4] = wInt(2), wInt(2)
			if _, ok := readOff(t, p, root); !ok {
				t.Error("is read, but for", w)
			}
		}
		// as what comes behind a head
		isNotRead(t, pile{[]int{wInt(1), wCons(2), wInt(2), w}, []string{"a"}}, wCons(0))
	}
}

func TestPlacesAtTheEndOfAHeap(t *testing.T) {
	for _, x := range []struct {
		words []int
		w     int
		text  string
	}{
		{[]int{9, 2, wInt(1), wInt(2)}, wTuple(1), "{1,2}"},
		{[]int{9, 1, wInt(1)}, wTuple(1), "{1}"},
		{[]int{9, 0}, wTuple(1), "{}"},
		{[]int{9, wInt(1), wNil}, wCons(1), "[1]"},
		{[]int{wInt(2), wNil, wInt(1), wCons(0)}, wCons(2), "[1,2]"},
		{[]int{wInt(1), wCons(2), wInt(2), wNil}, wCons(0), "[1,2]"},
		{[]int{9, 2, 97, 98}, wBin(1), "#6162"},
		{[]int{9, 1, 0}, wBin(1), "#00"},
		{[]int{9, 0}, wBin(1), "#"},
		{[]int{0}, wTuple(0), "{}"},
		{[]int{0}, wBin(0), "#"},
	} {
		p := pile{words: x.words}
		isReadAs(t, p, x.w, termOf(t, x.text))
		isHeap(t, p, []int{x.w}, true)
		for n := range x.words {
			cut := pile{words: x.words[:n]}
			isNotRead(t, cut, x.w)
			isHeap(t, cut, []int{x.w}, false)
		}
		n := len(x.words)
		for _, w := range []int{wTuple(n), wCons(n - 1), wCons(n), wBin(n), wTuple(n + 1), wCons(n + 1), wBin(n + 1), wTuple(4000000), wCons(4000000), wBin(4000000)} {
			isNotRead(t, p, w)
		}
	}
	for _, tag := range []int{impl.WTuple, impl.WCons, impl.WBin} {
		isNotRead(t, pile{}, impl.MakeWord(tag, 0))
		isNotRead(t, pile{words: []int{0, wNil}}, impl.MakeWord(tag, 2))
	}
}

func TestHowManyThatIsNotSo(t *testing.T) {
	for _, n := range []int{-1, -2, -8, 9, 41, math.MinInt, math.MinInt + 1, math.MaxInt, math.MaxInt - 1, 1 << 32, -1 << 32, wInt(1)} {
		p := pile{words: append([]int{n}, slices.Repeat([]int{wNil}, 60)...)}
		isNotRead(t, p, wTuple(0))
		if n != 9 {
			isNotRead(t, p, wBin(0))
		}
	}
	// more than there is, though no more than there may be
	for n := range 9 {
		words := append([]int{n}, slices.Repeat([]int{wInt(3)}, n)...)
		isReadAs(t, pile{words: words}, wTuple(0), tup(many(n, num(3))...))
		words[0]++
		isNotRead(t, pile{words: words}, wTuple(0))
	}
	for n := range 41 {
		words := append([]int{n}, slices.Repeat([]int{98}, n)...)
		isReadAs(t, pile{words: words}, wBin(0), bin(strings.Repeat("b", n)))
		words[0]++
		isNotRead(t, pile{words: words}, wBin(0))
	}
}

func TestBytesThatAreNone(t *testing.T) {
	for _, b := range []int{-1, 256, -128, -256, 257, 353, 1 << 32, 1<<32 + 97, -1 << 32, math.MinInt, math.MaxInt, math.MinInt + 97} {
		for i := range 3 {
			words := []int{3, 97, 98, 99}
			words[1+i] = b
			isNotRead(t, pile{words: words}, wBin(0))
			isNotRead(t, pile{words: append(words, 1, wBin(0))}, wTuple(4))
		}
	}
}

func TestListsWhoseRestIsNoList(t *testing.T) {
	p := pile{[]int{wInt(1), 0, 0, 0, wInt(7), wNil}, []string{"a"}}
	for _, rest := range []int{wInt(0), wInt(-1000000), wAtom(0), wPid(0), wTuple(2), wBin(2), wTuple(0), wBin(0), wNil + 8, wCons(5), wCons(6), -1, 7} {
		p.words[1] = rest
		isNotRead(t, p, wCons(0))
	}
	p.words[1] = wNil
	isReadAs(t, p, wCons(0), lst(num(1)))
	p.words[1] = wCons(4)
	isReadAs(t, p, wCons(0), lst(num(1), num(7)))
}

func TestWordsThatLeadRound(t *testing.T) {
	for _, x := range []struct {
		words []int
		w     int
	}{
		{[]int{wInt(1), wCons(0)}, wCons(0)},
		{[]int{wInt(1), wCons(2), wInt(2), wCons(0)}, wCons(0)},
		{[]int{wInt(1), wCons(2), wInt(2), wCons(2)}, wCons(0)},
		{[]int{wCons(0), wNil}, wCons(0)},
		{[]int{wCons(0), wCons(0)}, wCons(0)},
		{[]int{1, wTuple(0)}, wTuple(0)},
		{append([]int{8}, slices.Repeat([]int{wTuple(0)}, 8)...), wTuple(0)},
		{[]int{2, wInt(1), wCons(3), wTuple(0), wNil}, wTuple(0)},
		{[]int{2, wInt(1), wCons(3), wTuple(0), wNil}, wCons(3)},
		{[]int{1, wTuple(2), 1, wTuple(0)}, wTuple(2)},
		{[]int{wCons(1), wCons(0), wCons(1)}, wCons(0)},
	} {
		isNotRead(t, pile{words: x.words}, x.w)
		isHeap(t, pile{words: x.words}, []int{x.w}, false)
		isHeap(t, pile{words: x.words}, []int{wNil, wInt(0)}, true)
	}
}

// What several words lead to is a term for each of them, in memory of its own.
func TestWhatIsLedToTwice(t *testing.T) {
	p := pile{[]int{1, wInt(5), 3, wTuple(0), wTuple(0), wCons(6), wTuple(0), wNil}, nil}
	x, ok := impl.ReadTerm(impl.Heap{W: p.words}, nil, wTuple(2))
	if !ok || impl.TermText(x) != "{{5},{5},[{5}]}" {
		t.Fatal(x, ok)
	}
	x.L[0].L[0] = num(6)
	if x.L[1].L[0].N != 5 || x.L[2].L[0].L[0].N != 5 || p.words[1] != wInt(5) {
		t.Error("two lists of one answer share memory", x)
	}
	// each of 8 leads to the same 8, and so on: more than 100 in all
	words := []int{0}
	for k := range 3 {
		words = append(append(words, 8), slices.Repeat([]int{wTuple(max(0, 9*k-8))}, 8)...)
	}
	isReadAs(t, pile{words: words}, wTuple(1), tup(many(8, tup())...))
	isReadAs(t, pile{words: words}, wTuple(10), tup(many(8, tup(many(8, tup())...))...))
	isNotRead(t, pile{words: words}, wTuple(19))
}

// unfold is a word as a term by the chapter, down to seven deep and a few more than a hundred; what is not there is of no kind.
func (p pile) unfold(w int, deep int, n *int) impl.Term {
	*n++
	v, size := w>>3, len(p.words)
	if w < 0 || v > mostValue || deep > 7 || *n > 110 {
		return impl.Term{}
	}
	switch w & 7 {
	case impl.WInt:
		return num(v - 1000000)
	case impl.WAtom:
		if v < len(p.atoms) {
			return atom(p.atoms[v])
		}
	case impl.WPid:
		return pid(v)
	case impl.WTuple:
		if v < size && p.words[v] >= 0 && p.words[v] < size-v {
			l := []impl.Term{}
			for _, in := range p.words[v+1 : v+1+p.words[v]] {
				l = append(l, p.unfold(in, deep+1, n))
			}
			return tup(l...)
		}
	case impl.WBin:
		if v < size && p.words[v] >= 0 && p.words[v] < size-v {
			b := []byte{}
			for _, x := range p.words[v+1 : v+1+p.words[v]] {
				if x != x&255 {
					return impl.Term{}
				}
				b = append(b, byte(x))
			}
			return bin(string(b))
		}
	case impl.WNil, impl.WCons:
		l := []impl.Term{}
		for w != wNil && *n <= 110 {
			v = w >> 3
			if w < 0 || w&7 != impl.WCons || v >= size-1 {
				return impl.Term{}
			}
			l = append(l, p.unfold(p.words[v], deep+1, n))
			w = p.words[v+1]
		}
		return lst(l...)
	}
	return impl.Term{}
}

// isAsUnfolded holds what is read of a word against the chapter, and tells whether it is a term.
func isAsUnfolded(t *testing.T, p pile, w int) bool {
	t.Helper()
	n := 0
	want := p.unfold(w, 1, &n)
	got, ok := readOff(t, p, w)
	if right := impl.TermOk(want); ok != right || ok && !alike(got, want) {
		t.Fatalf("%d of %v is read as %v %v, not %v", w, p.words, got, ok, want)
	}
	return ok
}

func TestWordsByChance(t *testing.T) {
	d := dice(55)
	good, bad := 0, 0
	for range 40000 {
		p := pile{atoms: []string{"a", "b", "B"}}
		size := d.below(14)
		for range size {
			p.words = append(p.words, anyWord(&d, size))
		}
		for range 6 {
			if isAsUnfolded(t, p, anyWord(&d, size)) {
				good++
			} else {
				bad++
			}
		}
	}
	if good < 1000 || bad < 1000 {
		t.Error("too few of a kind", good, bad)
	}
}

// anyWord is a word, or how many, or none, that leads now and then past the end of a heap of this size.
func anyWord(d *dice, size int) int {
	switch d.below(8) {
	case 0, 1:
		return d.below(4)
	case 2:
		return wNil
	case 3:
		return []int{wInt(0), wAtom(d.below(4)), wPid(9), -1, 7, 255, wNil + 8}[d.below(7)]
	}
	return impl.MakeWord([]int{impl.WTuple, impl.WCons, impl.WCons, impl.WBin}[d.below(4)], d.below(size+1))
}

// One word of a right heap is struck: what is read then is what stands there then, or nothing.
func TestStruckHeaps(t *testing.T) {
	for _, s := range []string{"{ok,[1,#61],<3>}", "[[],{a,[b]},#00,{}]", "[1,2,3,[4,5,{6,#}]]", "{{{{{[]}}}}}"} {
		p := pile{}
		w := p.put(termOf(t, s))
		for i := range p.words {
			for _, x := range append([]int{0, 1, 2, 3, 4, 9, 255, 256, wInt(0), wAtom(0), wAtom(2), wPid(1), wNil + 8, wTuple(0), wCons(0), wBin(0), wTuple(4), wCons(4), wBin(4), wTuple(len(p.words)), wCons(len(p.words) - 1)}, noWords...) {
				q := p.clone()
				q.words[i] = x
				isAsUnfolded(t, q, w)
			}
		}
	}
}

func TestHeapsThatAreRight(t *testing.T) {
	isHeap(t, pile{}, nil, true)
	isHeap(t, pile{}, []int{wInt(0), wNil, wPid(7)}, true)
	isHeap(t, pile{words: []int{-1, 7, math.MaxInt}}, nil, true)
	isHeap(t, pile{words: []int{0, 7, -1}}, []int{wTuple(0), wBin(0), wTuple(0)}, true)
	// its words
	for _, n := range []int{mostWords - 1, mostWords} {
		isHeap(t, pile{words: make([]int, n)}, nil, true)
		isHeap(t, pile{words: make([]int, n)}, []int{wTuple(n - 1), wBin(n - 1)}, true)
	}
	for _, n := range []int{mostWords + 1, mostWords + 2, 100000} {
		isHeap(t, pile{words: make([]int, n)}, nil, false)
		isHeap(t, pile{words: make([]int, n)}, []int{wInt(0), wTuple(0)}, false)
	}
	// its atoms
	isHeap(t, pile{atoms: atomsOf(mostAtoms - 1)}, nil, true)
	isHeap(t, pile{atoms: atomsOf(mostAtoms)}, []int{wAtom(0), wAtom(mostAtoms - 1)}, true)
	isHeap(t, pile{atoms: atomsOf(mostAtoms)}, []int{wAtom(mostAtoms)}, false)
	isHeap(t, pile{atoms: atomsOf(mostAtoms + 1)}, nil, false)
	isHeap(t, pile{atoms: atomsOf(100000)}, []int{wAtom(0)}, false)
	for _, s := range noAtoms {
		isHeap(t, pile{atoms: []string{s}}, nil, false)
		isHeap(t, pile{atoms: []string{"a", s}}, []int{wAtom(0)}, false)
		isHeap(t, pile{atoms: []string{s, "a"}}, []int{wAtom(1)}, false)
	}
	for i := range 5 {
		for k := range i {
			list := atomsOf(5)
			list[i] = list[k]
			isHeap(t, pile{atoms: list}, []int{wAtom(0)}, false)
		}
	}
	full := atomsOf(mostAtoms)
	full[mostAtoms-1] = full[0]
	isHeap(t, pile{atoms: full}, nil, false)
	full[mostAtoms-1] = full[mostAtoms-2]
	isHeap(t, pile{atoms: full}, nil, false)
	isHeap(t, pile{atoms: []string{"spare1", "spare2"}}, []int{wAtom(0), wAtom(1)}, true)
}

func TestEachRootIsATerm(t *testing.T) {
	p := pile{}
	right := []int{p.put(termOf(t, "{a,[1]}")), wInt(4), p.put(termOf(t, "[b,#61]")), wAtom(1), wNil}
	isHeap(t, p, right, true)
	for _, w := range append(slices.Clone(noWords), wAtom(2), wNil+8, wInt(1000001), wTuple(len(p.words)), wCons(0), wBin(2)) {
		for i := range right {
			roots := slices.Clone(right)
			roots[i] = w
			isHeap(t, p, roots, false)
		}
		isHeap(t, p, []int{w}, false)
	}
	isHeap(t, p, slices.Repeat(right, 10000), true)
}

// Of a value that is too great a heap or a list of atoms may have the place all the same.
func TestPlacesThatNoWordLeadsTo(t *testing.T) {
	words := make([]int, mostValue+4)
	words[mostValue+1], words[mostValue+2] = 1, wNil
	for _, w := range []int{wTuple(mostValue + 1), wBin(mostValue + 1), wCons(mostValue + 1)} {
		if x, ok := impl.ReadTerm(impl.Heap{W: words}, nil, w); ok || !reflect.DeepEqual(x, impl.Term{}) {
			t.Error("read is", w, x)
		}
	}
	words[0], words[1] = wInt(1), wCons(mostValue+2)
	words[mostValue+2], words[mostValue+3] = wInt(2), wNil
	if x, ok := impl.ReadTerm(impl.Heap{W: words}, nil, wCons(0)); ok {
		t.Error("read is", x)
	}
	atoms := slices.Repeat([]string{"a"}, mostValue+3)
	atoms[mostValue], atoms[mostValue+1] = "b", "c"
	if _, _, w, ok := impl.PutTerm(impl.Heap{}, atoms, atom("b")); !ok || w != wAtom(mostValue) {
		t.Error("put is", w, ok)
	}
	if h, l, w, ok := impl.PutTerm(impl.Heap{}, atoms, tup(atom("b"), atom("c"))); ok || w != 0 || len(h.W) != 0 || !slices.Equal(l, atoms) {
		t.Error("put is", w, ok, h)
	}
	if _, ok := impl.ReadTerm(impl.Heap{}, atoms, wAtom(mostValue+1)); ok {
		t.Error("read is an atom of no value")
	}
}

// What was answered ahead stays as it was, whatever is put behind it.
func TestHeapsShareNothing(t *testing.T) {
	one, atoms1, w1, _ := impl.PutTerm(impl.Heap{}, nil, termOf(t, "{a,[1,2]}"))
	two, atoms2, w2, _ := impl.PutTerm(one, atoms1, termOf(t, "[b,#61]"))
	three, atoms3, w3, _ := impl.PutTerm(one, atoms1, termOf(t, "{c,#62}"))
	same, atoms4, _, _ := impl.PutTerm(two, atoms2, termOf(t, "b"))
	same.W[0], atoms4[0] = -1, "x"
	refused, atoms5, _, _ := impl.PutTerm(two, atoms2, termOf(t, "1"))
	refused.W[1], atoms5[1] = -1, "y"
	isReadAs(t, pile{one.W, atoms1}, w1, termOf(t, "{a,[1,2]}"))
	isReadAs(t, pile{two.W, atoms2}, w1, termOf(t, "{a,[1,2]}"))
	isReadAs(t, pile{two.W, atoms2}, w2, termOf(t, "[b,#61]"))
	isReadAs(t, pile{three.W, atoms3}, w1, termOf(t, "{a,[1,2]}"))
	isReadAs(t, pile{three.W, atoms3}, w3, termOf(t, "{c,#62}"))
}

// No shared test looks for this way of the fifth layer.
func TestWordsArePutByAClosureThatCallsItself(t *testing.T) {
	f, err := parser.ParseFile(token.NewFileSet(), "../impl/l05_heap.go", nil, 0)
	if err != nil {
		t.Fatal(err)
	}
	found := false
	ast.Inspect(f, func(n ast.Node) bool {
		x, ok := n.(*ast.AssignStmt)
		if !ok || len(x.Lhs) != 1 {
			return true
		}
		name, named := x.Lhs[0].(*ast.Ident)
		body, literal := x.Rhs[0].(*ast.FuncLit)
		if named && literal {
			ast.Inspect(body, func(n ast.Node) bool {
				call, ok := n.(*ast.CallExpr)
				if ok {
					id, ok := call.Fun.(*ast.Ident)
					found = found || ok && id.Name == name.Name
				}
				return true
			})
		}
		return true
	})
	if !found {
		t.Error("no closure calls itself")
	}
}
