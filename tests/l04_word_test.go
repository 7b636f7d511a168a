package tests

import (
	"go/ast"
	"go/parser"
	"go/token"
	"math"
	"slices"
	"strconv"
	"strings"
	"testing"

	"loop.example/g00248/impl"
)

const (
	mostValue = 4000000
	mostAtoms = 200
)

// The tags are constants: an array may be as long as there are.
var tags = [impl.WBin + 1]int{impl.WInt, impl.WAtom, impl.WPid, impl.WNil, impl.WTuple, impl.WCons, impl.WBin}

// made tells whether the word of this tag and value is the right one, and has both of them.
func made(tag int, v int) bool {
	w := impl.MakeWord(tag, v)
	return w == tag+8*v && impl.TagOf(w) == tag && impl.ValOf(w) == v
}

func isMade(t *testing.T, tag int, v int) {
	t.Helper()
	if !made(tag, v) {
		w := impl.MakeWord(tag, v)
		t.Error("the word of", tag, v, "is", w, "with", impl.TagOf(w), impl.ValOf(w))
	}
}

func isNotMade(t *testing.T, tag int, v int) {
	t.Helper()
	if w := impl.MakeWord(tag, v); w != 0 {
		t.Error("the word of", tag, v, "is", w)
	}
}

func isTold(t *testing.T, w int, tag int, v int) {
	t.Helper()
	if impl.TagOf(w) != tag || impl.ValOf(w) != v {
		t.Error(w, "has", impl.TagOf(w), impl.ValOf(w), "not", tag, v)
	}
}

func TestTagsInOrder(t *testing.T) {
	for i, tag := range tags {
		if tag != i {
			t.Error("tag", i, "is", tag)
		}
	}
}

// No shared test looks for this way of the fourth layer.
func TestTagsAreCounted(t *testing.T) {
	f, err := parser.ParseFile(token.NewFileSet(), "../impl/l04_word.go", nil, 0)
	if err != nil {
		t.Fatal(err)
	}
	for _, d := range f.Decls {
		x, ok := d.(*ast.GenDecl)
		if !ok || x.Tok != token.CONST {
			continue
		}
		first := x.Specs[0].(*ast.ValueSpec)
		if first.Names[0].Name != "WInt" {
			continue
		}
		if start, ok := first.Values[0].(*ast.Ident); !ok || start.Name != "iota" || len(x.Specs) != len(tags) {
			t.Error("the tags are not counted by iota")
		}
		return
	}
	t.Error("no tags")
}

func TestEachWordHasItsTagAndValue(t *testing.T) {
	for _, tag := range tags {
		for v := range mostValue + 1 {
			if !made(tag, v) {
				t.Fatal("the word of", tag, v, "is", impl.MakeWord(tag, v))
			}
		}
	}
}

func TestNoWordOfOtherTagsAndValues(t *testing.T) {
	wrongTags := []int{-1, 7, -2, 8, 9, 15, 16, -7, -8, -9, math.MinInt, math.MinInt + 1, math.MinInt + 6, math.MaxInt - 1, math.MaxInt, 1 << 32, 1<<32 + 1, -1 << 32, 1 << 61}
	wrongValues := []int{-1, mostValue + 1, -2, mostValue + 2, -mostValue, math.MinInt, math.MinInt + 1, math.MaxInt - 1, math.MaxInt}
	// Eight times one of these is no more than a right value's, once it has come round.
	for k := range 63 {
		wrongValues = append(wrongValues, -1<<k)
		if v := 1 << k; v > mostValue {
			wrongValues = append(wrongValues, v, v+1, v+mostValue, 1-v)
		}
	}
	rightValues := []int{0, 1, 7, 8, 1000000, mostValue - 1, mostValue}
	for _, tag := range wrongTags {
		for _, v := range slices.Concat(rightValues, wrongValues) {
			isNotMade(t, tag, v)
		}
	}
	for _, tag := range tags {
		for _, v := range wrongValues {
			isNotMade(t, tag, v)
		}
		for _, v := range rightValues {
			isMade(t, tag, v)
		}
	}
}

func TestTagAndValueOfNumbers(t *testing.T) {
	isTold(t, 0, 0, 0)
	isTold(t, 1, 1, 0)
	isTold(t, 6, 6, 0)
	isTold(t, 7, 7, 0)
	isTold(t, 8, 0, 1)
	isTold(t, 9, 1, 1)
	isTold(t, 15, 7, 1)
	isTold(t, 16, 0, 2)
	isTold(t, 60, impl.WTuple, 7)
	// behind the greatest word, and as great as a number may be
	isTold(t, 8*mostValue+6, 6, mostValue)
	isTold(t, 8*mostValue+7, 7, mostValue)
	isTold(t, 8*mostValue+8, 0, mostValue+1)
	isTold(t, 1<<32, 0, 1<<29)
	isTold(t, 1<<62+5, 5, 1<<59)
	isTold(t, math.MaxInt-7, 0, math.MaxInt>>3)
	isTold(t, math.MaxInt-1, 6, math.MaxInt>>3)
	isTold(t, math.MaxInt, 7, math.MaxInt>>3)
	d := dice(4)
	for range 10000 {
		w := d.below(math.MaxInt32) << d.below(32)
		isTold(t, w, w&7, w>>3)
	}
}

func TestNumbersBelowNought(t *testing.T) {
	for w := -1; w >= -1000; w-- {
		isTold(t, w, 0, 0)
	}
	for k := range 63 {
		isTold(t, -1<<k, 0, 0)
		isTold(t, -1<<k-1, 0, 0)
		isTold(t, -1<<k+math.MinInt>>1, 0, 0)
	}
	for _, w := range []int{-8*mostValue - 6, math.MinInt, math.MinInt + 1, math.MinInt + 7, math.MinInt + 8} {
		isTold(t, w, 0, 0)
	}
}

// An int stands in a word as a value that is not below 0, whichever it is.
func TestIntsInWords(t *testing.T) {
	for n := -impl.MaxInt; n <= impl.MaxInt; n++ {
		w := impl.MakeWord(impl.WInt, n+impl.MaxInt)
		if impl.TagOf(w) != impl.WInt || impl.ValOf(w)-impl.MaxInt != n {
			t.Fatal("the int", n, "is", w)
		}
	}
	isNotMade(t, impl.WInt, -impl.MaxInt-1+impl.MaxInt)
}

// spareAtoms stand behind a list's length, where nothing is looked for.
var spareAtoms = []string{"spare1", "", "spare2"}

// addOf is AddAtom, once the answer is known to be in memory of its own.
func addOf(t *testing.T, atoms []string, s string) ([]string, int) {
	t.Helper()
	room := slices.Concat(atoms, spareAtoms)
	ahead := slices.Clone(room)
	list, at := impl.AddAtom(room[:len(atoms)], s)
	answer := slices.Clone(list)
	if !slices.Equal(room, ahead) {
		t.Fatal("an argument, or the room behind it, was written")
	}
	for i, x := range list[:cap(list)] {
		if i >= len(list) && x != "" {
			t.Fatal("behind the answer stands", x)
		}
		list[:cap(list)][i] = "struck"
	}
	if !slices.Equal(room, ahead) {
		t.Fatal("an answer shares memory with an argument")
	}
	return answer, at
}

// atOf is AtomAt, of a list with spare room behind.
func atOf(t *testing.T, atoms []string, s string) int {
	t.Helper()
	room := slices.Concat(atoms, spareAtoms)
	ahead := slices.Clone(room)
	at := impl.AtomAt(room[:len(atoms)], s)
	if !slices.Equal(room, ahead) {
		t.Fatal("an argument, or the room behind it, was written")
	}
	return at
}

// isAdded adds an atom that is not there yet.
func isAdded(t *testing.T, atoms []string, s string) []string {
	t.Helper()
	list, at := addOf(t, atoms, s)
	if at != len(atoms) || !slices.Equal(list, slices.Concat(atoms, []string{s})) {
		t.Fatal("added is", s, "at", at, list)
	}
	if k := atOf(t, list, s); k != at {
		t.Fatal("what was added at", at, "stands at", k)
	}
	return list
}

// isKept adds what is not added: it stands at this place already, or (-1) nowhere.
func isKept(t *testing.T, atoms []string, s string, want int) {
	t.Helper()
	list, at := addOf(t, atoms, s)
	if at != want || !slices.Equal(list, atoms) {
		t.Fatalf("added is %q at %d, not %d: %q", s, at, want, list)
	}
	if k := atOf(t, atoms, s); k != want {
		t.Fatalf("%q stands at %d, not %d: %q", s, k, want, atoms)
	}
}

// atomsOf are n atoms, no two alike.
func atomsOf(n int) []string {
	list := []string{}
	for i := range n {
		list = append(list, "a"+strconv.Itoa(i))
	}
	return list
}

func TestAtomsAreAdded(t *testing.T) {
	list := []string(nil)
	texts := []string{"b", "a", "ab", "aa", "abc", "z9", "a0", "ok", "noroom", "abcdefghijkl", "a00000000000", "b0"}
	for i, s := range texts {
		if at := atOf(t, list, s); at != -1 {
			t.Fatal(s, "stands at", at, "ahead of being added")
		}
		list = isAdded(t, list, s)
		for k, old := range texts[:i+1] {
			isKept(t, list, old, k)
		}
	}
	if !slices.Equal(list, texts) {
		t.Error("added are", list)
	}
}

func TestAtomsAddedByChance(t *testing.T) {
	d := dice(44)
	for range 50 {
		list, places := []string{}, map[string]int{}
		for range 60 {
			s := string(rune('a'+d.below(3))) + strings.Repeat(strconv.Itoa(d.below(3)), d.below(3))
			if at, ok := places[s]; ok {
				isKept(t, list, s, at)
				continue
			}
			places[s] = len(list)
			list = isAdded(t, list, s)
		}
	}
}

func TestTheFirstOfSeveralAlike(t *testing.T) {
	isKept(t, []string{"a", "b", "a", "b", "b"}, "b", 1)
	isKept(t, []string{"a", "b", "a", "b", "b"}, "a", 0)
	isKept(t, []string{"a", "b", "c", "c"}, "c", 2)
	isKept(t, []string{"a", "a", "a"}, "a", 0)
}

func TestAtomsThatAreNotThere(t *testing.T) {
	list := []string{"ab", "b", "abcd"}
	for _, s := range []string{"a", "abc", "abcde", "bb", "c", "ba", "spare1", "spare2"} {
		if at := atOf(t, list, s); at != -1 {
			t.Error(s, "stands at", at)
		}
		isAdded(t, list, s)
	}
	for _, none := range [][]string{nil, {}} {
		if at := impl.AtomAt(none, "a"); at != -1 {
			t.Error("in no list it stands at", at)
		}
		if at := impl.AtomAt(none, ""); at != -1 {
			t.Error("in no list nothing stands at", at)
		}
		if l, at := impl.AddAtom(none, "a"); at != 0 || !slices.Equal(l, []string{"a"}) {
			t.Error("added to no list", l, at)
		}
		if l, at := impl.AddAtom(none, "A"); at != -1 || len(l) != 0 {
			t.Error("added to no list", l, at)
		}
	}
}

func TestHowManyAtomsThereMayBe(t *testing.T) {
	list := isAdded(t, atomsOf(mostAtoms-2), "last1")
	list = isAdded(t, list, "last2")
	isKept(t, list, "last3", -1)
	isKept(t, list, "a0", 0)
	isKept(t, list, "last1", mostAtoms-2)
	isKept(t, list, "last2", mostAtoms-1)
	// more than there may be
	for _, n := range []int{mostAtoms + 1, mostAtoms + 2, 1000} {
		list = atomsOf(n)
		isKept(t, list, "last3", -1)
		isKept(t, list, "a0", 0)
		isKept(t, list, "a199", mostAtoms-1)
		isKept(t, list, "a200", mostAtoms)
		isKept(t, list, list[n-1], n-1)
	}
	// as many, of few unlike ones
	list = slices.Repeat([]string{"a", "b"}, mostAtoms/2)
	isKept(t, list, "c", -1)
	isKept(t, list, "b", 1)
	isAdded(t, list[1:], "c")
}

var noAtoms = []string{
	"", " ", "A", "Ab", "aB", "0", "0a", "9", "_", "a_", "a b", " a", "a ", "a-b", "`", "{", "a{", "a`", "a/", "a:", "a\n", "\x00", "a\x00",
	"\x80", "a\xff", "\xe1", "\u00e4", "a\u00e4", "\u0663", "a\u0663", "\uff41", "abcdefghijklm", "a000000000000", "abcdefghijkl\x00",
	strings.Repeat("a", 100000),
}

func TestTextsOfNoAtom(t *testing.T) {
	for _, s := range noAtoms {
		isKept(t, nil, s, -1)
		isKept(t, []string{"a", "b"}, s, -1)
		isKept(t, atomsOf(mostAtoms-1), s, -1)
		isKept(t, atomsOf(mostAtoms), s, -1)
		isKept(t, atomsOf(mostAtoms+1), s, -1)
		// there already, each stands where it does, and is not added once more
		isKept(t, []string{s}, s, 0)
		isKept(t, []string{"a", s, "b", s}, s, 1)
		isKept(t, slices.Concat(atomsOf(mostAtoms-1), []string{s}), s, mostAtoms-1)
		isKept(t, slices.Concat(atomsOf(mostAtoms), []string{s}), s, mostAtoms)
		// among them an atom is added all the same, and found
		list := isAdded(t, []string{s, "a", s}, "b")
		isKept(t, list, "b", 3)
		isKept(t, list, "a", 1)
	}
}

// What was answered ahead stays as it was, whatever is added to it behind.
func TestListsOfAtomsShareNothing(t *testing.T) {
	one, _ := impl.AddAtom(atomsOf(5), "b")
	two, _ := impl.AddAtom(one, "c")
	three, _ := impl.AddAtom(one, "d")
	again, _ := impl.AddAtom(two, "c")
	refused, _ := impl.AddAtom(two, "C")
	again[0], refused[1] = "x", "y"
	if !slices.Equal(one, append(atomsOf(5), "b")) || !slices.Equal(two, append(atomsOf(5), "b", "c")) || !slices.Equal(three, append(atomsOf(5), "b", "d")) {
		t.Error("lists share memory", one, two, three)
	}
}
