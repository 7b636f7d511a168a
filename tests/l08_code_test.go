package tests

import (
	"fmt"
	"go/ast"
	"go/parser"
	"go/token"
	"math"
	"regexp"
	"slices"
	"strconv"
	"strings"
	"testing"
	"unsafe"

	"loop.example/g00248/impl"
)

const mostCode = 200

var allOps = []int{
	impl.OpInt, impl.OpAtom, impl.OpMove, impl.OpTuple, impl.OpCons, impl.OpElem, impl.OpHead, impl.OpTail, impl.OpAdd, impl.OpSame,
	impl.OpKind, impl.OpJump, impl.OpSend, impl.OpTake, impl.OpSelf, impl.OpMake, impl.OpSay, impl.OpLink, impl.OpEnd, impl.OpNil,
}

var opWords = []string{
	"", "int", "atom", "move", "tuple", "cons", "elem", "head", "tail", "add", "same",
	"kind", "jump", "send", "take", "self", "make", "say", "link", "end", "nil",
}

// rightIns is InsOk by the chapter.
func rightIns(x impl.Ins, n int) bool {
	a, b, c := x.A >= 0 && x.A <= 7, x.B >= 0 && x.B <= 7, x.C >= 0 && x.C <= 7
	noA, noB, noC, noN, noS := x.A == 0, x.B == 0, x.C == 0, x.N == 0, x.S == ""
	place := x.N >= 0 && x.N <= n-1
	if n < 1 || n > mostCode {
		return false
	}
	switch x.Op {
	case 1:
		return a && noB && noC && noS && x.N >= -1000000 && x.N <= 1000000
	case 2:
		return a && noB && noC && noN && impl.AtomOk(x.S)
	case 3, 7, 8, 13:
		return a && b && noC && noN && noS
	case 4:
		return a && b && noC && noS && x.N >= 0 && x.N <= 8 && x.B+x.N <= 8
	case 5, 9:
		return a && b && c && noN && noS
	case 6:
		return a && b && noC && noS && x.N >= 0 && x.N <= 7
	case 10, 16:
		return a && b && noC && noS && place
	case 11:
		return a && x.B >= 1 && x.B <= 6 && noC && noS && place
	case 12:
		return noA && noB && noC && noS && place
	case 14, 15, 17, 18, 19, 20:
		return a && noB && noC && noN && noS
	}
	return false
}

// insBy is InsText by the chapter.
func insBy(x impl.Ins) string {
	if x.Op < 1 || x.Op > 20 {
		return ""
	}
	word := opWords[x.Op]
	switch x.Op {
	case 1:
		return fmt.Sprintf("%s %d %d", word, x.A, x.N)
	case 2:
		return fmt.Sprintf("%s %d %s", word, x.A, x.S)
	case 3, 7, 8, 13:
		return fmt.Sprintf("%s %d %d", word, x.A, x.B)
	case 5, 9:
		return fmt.Sprintf("%s %d %d %d", word, x.A, x.B, x.C)
	case 4, 6, 10, 11, 16:
		return fmt.Sprintf("%s %d %d %d", word, x.A, x.B, x.N)
	case 12:
		return fmt.Sprintf("%s %d", word, x.N)
	}
	return fmt.Sprintf("%s %d", word, x.A)
}

func codeBy(l []impl.Ins) string {
	s := ""
	for _, x := range l {
		s += insBy(x) + "\n"
	}
	return s
}

func rightCode(l []impl.Ins) bool {
	if len(l) < 1 || len(l) > mostCode {
		return false
	}
	for _, x := range l {
		if !rightIns(x, len(l)) {
			return false
		}
	}
	last := l[len(l)-1].Op
	return last == 19 || last == 12
}

// codeLine is a line of code as the chapter has it, but for what numbers may be together, or of how much code.
var codeLine = regexp.MustCompile(`\A(?:` + strings.Join([]string{
	`int [0-7] (?P<int>0|-?[1-9][0-9]{0,6})`,
	`atom [0-7] [a-z][a-z0-9]{0,11}`,
	`(?:move|head|tail|send) [0-7] [0-7]`,
	`tuple [0-7] (?P<from>[0-7]) (?P<count>[0-8])`,
	`(?:cons|add) [0-7] [0-7] [0-7]`,
	`elem [0-7] [0-7] [0-7]`,
	`(?:(?:same|make) [0-7] [0-7]|kind [0-7] [1-6]|jump) (?P<place>0|[1-9][0-9]{0,2})`,
	`(?:take|self|say|link|nil|end) [0-7]`,
}, "|") + `)\z`)

// isCodeText tells without the program whether s is the text of code.
func isCodeText(s string) bool {
	lines := strings.Split(s, "\n")
	n := len(lines) - 1
	if n < 1 || n > mostCode || lines[n] != "" {
		return false
	}
	for _, line := range lines[:n] {
		m := codeLine.FindStringSubmatch(line)
		if m == nil {
			return false
		}
		part := func(name string) int {
			v, _ := strconv.Atoi(m[codeLine.SubexpIndex(name)])
			return v
		}
		if i := part("int"); i < -1000000 || i > 1000000 || part("from")+part("count") > 8 || part("place") >= n {
			return false
		}
	}
	word, _, _ := strings.Cut(lines[n-1], " ")
	return word == "end" || word == "jump"
}

// spareIns stand behind a list's length, where nothing is looked at.
var spareIns = []impl.Ins{{Op: -1, A: 77, S: "spare"}, {}, {Op: impl.OpEnd}}

// lendCode hands l out with spare room behind it, and tells whether all of it is as it was.
func lendCode(l []impl.Ins) ([]impl.Ins, func() bool) {
	room := slices.Concat(l, spareIns)
	ahead := slices.Clone(room)
	return room[:len(l)], func() bool { return slices.Equal(room, ahead) }
}

// codeOf are CodeOk and CodeText of l, which is not touched.
func codeOf(t *testing.T, l []impl.Ins) (bool, string) {
	t.Helper()
	lent, untouched := lendCode(l)
	ok, text := impl.CodeOk(lent), impl.CodeText(lent)
	if !untouched() {
		t.Fatal("an argument, or the room behind it, was written")
	}
	return ok, text
}

// parseOf is ParseCode, once two answers are known to share nothing.
func parseOf(t *testing.T, s string) ([]impl.Ins, bool) {
	t.Helper()
	l, ok := impl.ParseCode(s)
	other, again := impl.ParseCode(s)
	if again != ok || !slices.Equal(l, other) {
		t.Fatalf("%q is read in two ways", s)
	}
	for i := range other[:cap(other)] {
		other[:cap(other)][i] = impl.Ins{Op: -7, S: "struck"}
	}
	if third, _ := impl.ParseCode(s); !slices.Equal(l, third) || len(l) > 0 && slices.Equal(l, other) {
		t.Fatalf("answers of %q share memory", s)
	}
	return l, ok
}

// isCode asks for code that comes back of its text.
func isCode(t *testing.T, l ...impl.Ins) {
	t.Helper()
	want := codeBy(l)
	if ok, text := codeOf(t, l); !ok || text != want {
		t.Fatalf("code %v: %v, text %q, not %q", l, ok, text, want)
	}
	got, ok := parseOf(t, want)
	if !ok || !slices.Equal(got, l) {
		t.Fatalf("%q comes back as %v, %v", want, got, ok)
	}
	if text := impl.CodeText(got); text != want {
		t.Fatalf("what was read of %q has the text %q", want, text)
	}
}

// isNotCode asks for a refusal. The text of what is not right may be that of other code, but never comes back as it was.
func isNotCode(t *testing.T, l ...impl.Ins) {
	t.Helper()
	if ok, text := codeOf(t, l); ok || text != "" {
		t.Fatalf("no code %v: %v, text %q", l, ok, text)
	}
	isReadAsItIs(t, codeBy(l))
	if got, ok := impl.ParseCode(codeBy(l)); ok && slices.Equal(got, l) {
		t.Fatalf("no code %v comes back", l)
	}
}

func isNoCodeText(t *testing.T, s string) {
	t.Helper()
	if l, ok := parseOf(t, s); ok || len(l) != 0 {
		t.Fatalf("%q is read as %v, %v", s, l, ok)
	}
	if isCodeText(s) {
		t.Fatalf("the test itself takes %q for code", s)
	}
}

// isReadAsItIs holds ParseCode of any text against the chapter.
func isReadAsItIs(t *testing.T, s string) {
	t.Helper()
	want := isCodeText(s)
	l, ok := impl.ParseCode(s)
	if ok != want || !ok && len(l) != 0 || ok && (!rightCode(l) || codeBy(l) != s) {
		t.Fatalf("%q is read as %v, %v", s, l, ok)
	}
}

// isIns asks for an instruction that is right in code of n, and comes back in it.
func isIns(t *testing.T, x impl.Ins, n int) {
	t.Helper()
	if !impl.InsOk(x, n) || impl.InsText(x) != insBy(x) {
		t.Fatalf("in code of %d: %v is %v, %q", n, x, impl.InsOk(x, n), impl.InsText(x))
	}
	if n == 1 {
		return
	}
	l := endless(n)
	for _, at := range []int{0, (n - 2) / 2, n - 2} {
		l[at] = x
		isCode(t, l...)
	}
}

// isNoIns asks for an instruction that is not right in code of n, neither alone nor among others; it has its text all the same.
func isNoIns(t *testing.T, x impl.Ins, n int) {
	t.Helper()
	if impl.InsOk(x, n) || impl.InsText(x) != insBy(x) {
		t.Fatalf("in code of %d: %v is %v, %q", n, x, impl.InsOk(x, n), impl.InsText(x))
	}
	if n < 1 || n > mostCode {
		return
	}
	for _, at := range []int{0, n / 2, n - 1} {
		l := endless(n)
		l[at] = x
		isNotCode(t, l...)
	}
}

// endless is right code of n instructions.
func endless(n int) []impl.Ins {
	l := make([]impl.Ins, n)
	for i := range l {
		l[i] = impl.Ins{Op: impl.OpJump, N: n - 1 - i}
	}
	return l
}

// edge is a number that an Op names, with its least and its most; of the place of an instruction the most is told by the code.
type edge struct {
	field byte
	least int
	most  int
}

const lastPlace = math.MaxInt

// opEdges are an instruction of each Op, with what it names in the midst, and all its numbers. (The count of a tuple and where it begins: as great as they may be beside the other.)
var opEdges = []struct {
	x     impl.Ins
	edges []edge
}{
	{impl.Ins{Op: impl.OpInt, A: 3, N: 42}, []edge{{'A', 0, 7}, {'N', -1000000, 1000000}}},
	{impl.Ins{Op: impl.OpAtom, A: 4, S: "ok"}, []edge{{'A', 0, 7}}},
	{impl.Ins{Op: impl.OpMove, A: 2, B: 5}, []edge{{'A', 0, 7}, {'B', 0, 7}}},
	{impl.Ins{Op: impl.OpTuple, A: 5, B: 3, N: 2}, []edge{{'A', 0, 7}, {'B', 0, 6}, {'N', 0, 5}}},
	{impl.Ins{Op: impl.OpCons, A: 1, B: 4, C: 6}, []edge{{'A', 0, 7}, {'B', 0, 7}, {'C', 0, 7}}},
	{impl.Ins{Op: impl.OpElem, A: 6, B: 2, N: 4}, []edge{{'A', 0, 7}, {'B', 0, 7}, {'N', 0, 7}}},
	{impl.Ins{Op: impl.OpHead, A: 3, B: 4}, []edge{{'A', 0, 7}, {'B', 0, 7}}},
	{impl.Ins{Op: impl.OpTail, A: 4, B: 3}, []edge{{'A', 0, 7}, {'B', 0, 7}}},
	{impl.Ins{Op: impl.OpAdd, A: 2, B: 3, C: 4}, []edge{{'A', 0, 7}, {'B', 0, 7}, {'C', 0, 7}}},
	{impl.Ins{Op: impl.OpSame, A: 5, B: 1, N: 1}, []edge{{'A', 0, 7}, {'B', 0, 7}, {'N', 0, lastPlace}}},
	{impl.Ins{Op: impl.OpKind, A: 3, B: 4, N: 1}, []edge{{'A', 0, 7}, {'B', 1, 6}, {'N', 0, lastPlace}}},
	{impl.Ins{Op: impl.OpJump, N: 1}, []edge{{'N', 0, lastPlace}}},
	{impl.Ins{Op: impl.OpSend, A: 6, B: 5}, []edge{{'A', 0, 7}, {'B', 0, 7}}},
	{impl.Ins{Op: impl.OpTake, A: 2}, []edge{{'A', 0, 7}}},
	{impl.Ins{Op: impl.OpSelf, A: 3}, []edge{{'A', 0, 7}}},
	{impl.Ins{Op: impl.OpMake, A: 4, B: 6, N: 1}, []edge{{'A', 0, 7}, {'B', 0, 7}, {'N', 0, lastPlace}}},
	{impl.Ins{Op: impl.OpSay, A: 5}, []edge{{'A', 0, 7}}},
	{impl.Ins{Op: impl.OpLink, A: 6}, []edge{{'A', 0, 7}}},
	{impl.Ins{Op: impl.OpEnd, A: 4}, []edge{{'A', 0, 7}}},
	{impl.Ins{Op: impl.OpNil, A: 1}, []edge{{'A', 0, 7}}},
}

// withField is x with v in this field.
func withField(x impl.Ins, field byte, v int) impl.Ins {
	switch field {
	case 'A':
		x.A = v
	case 'B':
		x.B = v
	case 'C':
		x.C = v
	case 'N':
		x.N = v
	}
	return x
}

func TestOpsInNumbers(t *testing.T) {
	for i, op := range allOps {
		if op != i+1 || opEdges[i].x.Op != op {
			t.Error("op", i+1, "is", op)
		}
		if text := impl.InsText(opEdges[i].x); !strings.HasPrefix(text, opWords[op]+" ") {
			t.Error("op", op, "has the text", text)
		}
	}
}

func TestTextsOfInstructions(t *testing.T) {
	for text, x := range map[string]impl.Ins{
		"int 0 -5":       {Op: impl.OpInt, N: -5},
		"int 7 1000000":  {Op: impl.OpInt, A: 7, N: 1000000},
		"atom 1 ok":      {Op: impl.OpAtom, A: 1, S: "ok"},
		"move 2 1":       {Op: impl.OpMove, A: 2, B: 1},
		"tuple 3 0 8":    {Op: impl.OpTuple, A: 3, N: 8},
		"cons 4 0 5":     {Op: impl.OpCons, A: 4, C: 5},
		"elem 5 3 2":     {Op: impl.OpElem, A: 5, B: 3, N: 2},
		"head 6 4":       {Op: impl.OpHead, A: 6, B: 4},
		"tail 7 4":       {Op: impl.OpTail, A: 7, B: 4},
		"add 0 1 2":      {Op: impl.OpAdd, B: 1, C: 2},
		"same 0 1 12":    {Op: impl.OpSame, B: 1, N: 12},
		"kind 0 6 12":    {Op: impl.OpKind, B: 6, N: 12},
		"jump 199":       {Op: impl.OpJump, N: 199},
		"send 0 1":       {Op: impl.OpSend, B: 1},
		"take 2":         {Op: impl.OpTake, A: 2},
		"self 3":         {Op: impl.OpSelf, A: 3},
		"make 4 0 100":   {Op: impl.OpMake, A: 4, N: 100},
		"say 5":          {Op: impl.OpSay, A: 5},
		"link 6":         {Op: impl.OpLink, A: 6},
		"end 0":          {Op: impl.OpEnd},
		"nil 7":          {Op: impl.OpNil, A: 7},
		"atom 0 a1b2c3d": {Op: impl.OpAtom, S: "a1b2c3d"},
	} {
		if got := impl.InsText(x); got != text {
			t.Errorf("text %q, not %q", got, text)
		}
		isIns(t, x, mostCode)
	}
}

// Each number that an Op names: at its least, in the midst and at its most; passed by one, and by far.
func TestNumbersOfEachOp(t *testing.T) {
	for _, n := range []int{2, 3, 57, mostCode} {
		for _, o := range opEdges {
			isIns(t, o.x, n)
			for _, e := range o.edges {
				most := min(e.most, n-1)
				if e.most != lastPlace {
					most = e.most
				}
				for _, v := range []int{e.least, (e.least + most) / 2, most} {
					isIns(t, withField(o.x, e.field, v), n)
				}
				for _, v := range []int{e.least - 1, most + 1, most + 256, math.MinInt, math.MaxInt, 1 << 32, -1 << 32, 1<<63 - 8, -1 << 31} {
					isNoIns(t, withField(o.x, e.field, v), n)
				}
			}
		}
	}
}

// Each with all that it names at its least at once, and at its most.
func TestAllNumbersOfAnOpAtOnce(t *testing.T) {
	for _, o := range opEdges {
		if o.x.Op == impl.OpTuple {
			continue // TestHowLongTuplesMayBe
		}
		low, high := o.x, o.x
		for _, e := range o.edges {
			low, high = withField(low, e.field, e.least), withField(high, e.field, min(e.most, 1000000))
			if e.most == lastPlace {
				high.N = mostCode - 1
			}
		}
		isIns(t, low, mostCode)
		isIns(t, high, mostCode)
	}
}

func TestHowLongTuplesMayBe(t *testing.T) {
	for b := range 8 {
		for n := 0; n <= 8; n++ {
			x := impl.Ins{Op: impl.OpTuple, A: 7, B: b, N: n}
			if b+n <= 8 {
				isIns(t, x, 5)
			} else {
				isNoIns(t, x, 5)
			}
		}
		isNoIns(t, impl.Ins{Op: impl.OpTuple, B: b, N: -1}, 5)
		isNoIns(t, impl.Ins{Op: impl.OpTuple, B: b, N: 9}, 5)
		isNoIns(t, impl.Ins{Op: impl.OpTuple, B: b, N: math.MaxInt}, 5)
		isNoIns(t, impl.Ins{Op: impl.OpTuple, B: b, N: math.MinInt}, 5)
	}
	// no register, whatever both are together
	for _, n := range []int{0, 1, 8, 9, -1, math.MinInt, math.MaxInt} {
		isNoIns(t, impl.Ins{Op: impl.OpTuple, B: 8, N: n}, 5)
		isNoIns(t, impl.Ins{Op: impl.OpTuple, B: -1, N: n}, 5)
		isNoIns(t, impl.Ins{Op: impl.OpTuple, B: math.MinInt, N: n}, 5)
		isNoIns(t, impl.Ins{Op: impl.OpTuple, B: math.MaxInt, N: n}, 5)
	}
}

// What is B with another Op is a kind here, of which there is no 0, and no 7.
func TestKindsAreNoRegisters(t *testing.T) {
	for v := -1; v <= 8; v++ {
		x := impl.Ins{Op: impl.OpKind, A: 7, B: v, N: 2}
		y := impl.Ins{Op: impl.OpSame, A: 7, B: v, N: 2}
		if v >= impl.TInt && v <= impl.TBin {
			isIns(t, x, 3)
		} else {
			isNoIns(t, x, 3)
		}
		if v >= 0 && v <= 7 {
			isIns(t, y, 3)
		} else {
			isNoIns(t, y, 3)
		}
	}
}

func TestPlacesOfInstructions(t *testing.T) {
	for n := 1; n <= mostCode; n++ {
		for _, x := range []impl.Ins{{Op: impl.OpSame, A: 1, B: 7}, {Op: impl.OpKind, A: 7, B: 6}, {Op: impl.OpJump}, {Op: impl.OpMake, B: 7}} {
			for _, place := range []int{-1, 0, n - 1, n, n + 1} {
				x.N = place
				if got := impl.InsOk(x, n); got != (place >= 0 && place < n) {
					t.Fatal("in code of", n, x, "is", got)
				}
			}
		}
		l := endless(n)
		l[0].N = n
		isNotCode(t, l...)
		l[0].N = n - 1
		l[n-1].N = -1
		isNotCode(t, l...)
	}
}

func TestHowMuchCodeThereMayBe(t *testing.T) {
	for _, o := range opEdges {
		x := o.x
		if strings.Contains("same kind jump make", opWords[x.Op]) {
			x.N = 0
		}
		for _, n := range []int{math.MinInt, -200, -1, 0, 201, 202, 1000, math.MaxInt} {
			if impl.InsOk(x, n) {
				t.Error("in code of", n, x)
			}
		}
		for _, n := range []int{1, 2, 100, 199, 200} {
			if !impl.InsOk(x, n) {
				t.Error("not in code of", n, x)
			}
		}
	}
	for _, n := range []int{1, 2, 3, 17, 199, 200} {
		isCode(t, endless(n)...)
		isCode(t, append(endless(n)[:n-1], impl.Ins{Op: impl.OpEnd, A: 7})...)
		isCode(t, append(slices.Repeat([]impl.Ins{{Op: impl.OpTake, A: 1}}, n-1), impl.Ins{Op: impl.OpJump})...)
		isCode(t, slices.Repeat([]impl.Ins{{Op: impl.OpEnd}}, n)...)
	}
	for _, n := range []int{0, 201, 202, 400, 10000} {
		isNotCode(t, slices.Repeat([]impl.Ins{{Op: impl.OpEnd}}, n)...)
		isNotCode(t, slices.Repeat([]impl.Ins{{Op: impl.OpJump}}, n)...)
		isNoCodeText(t, strings.Repeat("end 0\n", n))
		isNoCodeText(t, strings.Repeat("jump 0\n", n))
	}
	isNotCode(t)
	if impl.CodeOk(nil) || impl.CodeText(nil) != "" {
		t.Error("nothing is code")
	}
	isNoCodeText(t, strings.Repeat("end 0\n", 200)+"end 0")
	isNoCodeText(t, strings.Repeat("end 0\n", 199)+"end 0")
	isNoCodeText(t, strings.Repeat("end 0\n", 200)+"\n")
	isNoCodeText(t, strings.Repeat("end 0\n", 200)+" ")
}

func TestTheLastInstruction(t *testing.T) {
	for _, o := range opEdges {
		for _, n := range []int{2, 40, mostCode} {
			l := endless(n)
			l[n-1] = o.x
			if o.x.Op == impl.OpEnd || o.x.Op == impl.OpJump {
				isCode(t, l...)
				continue
			}
			isNotCode(t, l...)
			isNoCodeText(t, codeBy(l))
		}
	}
	for op, want := range map[int]bool{impl.OpEnd: true, impl.OpJump: true, impl.OpTake: false, impl.OpNil: false, impl.OpLink: false} {
		if got := impl.CodeOk([]impl.Ins{{Op: op}}); got != want {
			t.Error("alone", op, got)
		}
	}
}

func TestOpsThatAreNone(t *testing.T) {
	for _, op := range []int{0, 21, -1, 22, -19, 12 + 256, 19 + 1<<32, math.MinInt, math.MaxInt} {
		for _, n := range []int{1, 2, mostCode} {
			isNoIns(t, impl.Ins{Op: op}, n)
			isNoIns(t, impl.Ins{Op: op, A: 1, B: 2, C: 3, N: 1, S: "ok"}, n)
		}
		if text := impl.InsText(impl.Ins{Op: op, A: 1, S: "ok"}); text != "" {
			t.Errorf("op %d has the text %q", op, text)
		}
	}
	isNoIns(t, impl.Ins{}, 1)
	for _, op := range []int{1, 20} {
		if impl.InsText(impl.Ins{Op: op}) == "" {
			t.Error("no text of", op)
		}
	}
}

// What an Op does not name is zero, else it is not right; its text does not tell.
func TestFieldsThatAnOpDoesNotName(t *testing.T) {
	for _, o := range opEdges {
		for _, field := range []byte{'A', 'B', 'C', 'N'} {
			if slices.ContainsFunc(o.edges, func(e edge) bool { return e.field == field }) {
				continue
			}
			for _, v := range []int{1, -1, 7, 8, 1000000, math.MinInt, math.MaxInt} {
				wrong := withField(o.x, field, v)
				isNoIns(t, wrong, 2)
				isNoIns(t, wrong, mostCode)
				if impl.InsText(wrong) != impl.InsText(o.x) {
					t.Error("text", impl.InsText(wrong))
				}
			}
		}
		if o.x.Op == impl.OpAtom {
			continue
		}
		for _, s := range []string{"a", "ok", "A", " ", "\x00", "\n"} {
			wrong := o.x
			wrong.S = s
			isNoIns(t, wrong, 2)
			isNoIns(t, wrong, mostCode)
			if impl.InsText(wrong) != impl.InsText(o.x) {
				t.Error("text", impl.InsText(wrong))
			}
		}
	}
}

func TestAtomsInCode(t *testing.T) {
	for _, s := range []string{"a", "z", "a0", "z9", "abcdefghijkl", "a00000000000", "zzzzzzzzzzzz", "end", "nil", "int"} {
		isIns(t, impl.Ins{Op: impl.OpAtom, A: 7, S: s}, 3)
	}
	for _, s := range slices.Concat(noAtoms, []string{"end 0\n", "a\nend 0", "-1", "7", "a a", "a ok"}) {
		x := impl.Ins{Op: impl.OpAtom, A: 7, S: s}
		isNoIns(t, x, 3)
		if text := impl.InsText(x); text != "atom 7 "+s {
			t.Errorf("text %q", text)
		}
		if s != "a\nend 0" { // whose text is that of two instructions, which are right
			isNoCodeText(t, "atom 7 "+s+"\nend 0\n")
		}
	}
}

// The text of an instruction names whatever it has.
func TestTextsOfWrongInstructions(t *testing.T) {
	ends := impl.Ins{A: math.MinInt, B: math.MaxInt, C: math.MinInt, N: math.MaxInt, S: "No Atom\n"}
	other := impl.Ins{A: math.MaxInt, B: math.MinInt, C: math.MaxInt, N: math.MinInt}
	least, most := "-9223372036854775808", "9223372036854775807"
	for op, want := range map[int]string{
		impl.OpInt: "int - +", impl.OpAtom: "atom - s", impl.OpMove: "move - +", impl.OpTuple: "tuple - + +", impl.OpCons: "cons - + -", impl.OpElem: "elem - + +", impl.OpHead: "head - +",
		impl.OpTail: "tail - +", impl.OpAdd: "add - + -", impl.OpSame: "same - + +", impl.OpKind: "kind - + +", impl.OpJump: "jump +", impl.OpSend: "send - +", impl.OpTake: "take -",
		impl.OpSelf: "self -", impl.OpMake: "make - + +", impl.OpSay: "say -", impl.OpLink: "link -", impl.OpEnd: "end -", impl.OpNil: "nil -",
	} {
		ends.Op, other.Op = op, op
		isNoIns(t, ends, mostCode)
		isNoIns(t, other, mostCode)
		if got := impl.InsText(ends); got != strings.NewReplacer("- s", least+" No Atom\n", "-", least, "+", most).Replace(want) {
			t.Errorf("text %q", got)
		}
		if got := impl.InsText(other); got != strings.NewReplacer(" s", " ", "-", most, "+", least).Replace(want) {
			t.Errorf("text %q", got)
		}
	}
}

func TestOneWrongInstructionAmongOthers(t *testing.T) {
	for _, wrong := range []impl.Ins{{}, {Op: 21}, {Op: impl.OpEnd, B: 1}, {Op: impl.OpEnd, A: 8}, {Op: impl.OpJump, N: -1}, {Op: impl.OpJump, N: 30}, {Op: impl.OpKind}, {Op: impl.OpAtom}} {
		for at := range 30 {
			l := endless(30)
			l[at] = wrong
			isNotCode(t, l...)
		}
	}
}

func TestTextsOfNoCode(t *testing.T) {
	for _, s := range []string{
		"", "\n", " ", "end 0", "end 0\n\n", "\nend 0\n", "end 0\n\nend 0\n", "end 0\n \n", "end 0\r\n", "end 0\nend 0", "end 0\x00\n", "\xef\xbb\xbfend 0\n",
		"end\n", "end \n", "end  0\n", "end 0 \n", " end 0\n", "end\t0\n", "end 0 0\n", "end 0 \nend 0\n", "end0\n", "end 0end 0\n", "0 end\n", "end 0,\n", "end a\n", "end 0\n0\n",
		"End 0\n", "END 0\n", "fly 0\nend 0\n", "en 0\n", "endd 0\n", "ende 0\n", "e 0\n", "0\n", "0 0\n", " 0\n", "19 0\n",
		"end 00\n", "end 01\n", "end -0\n", "end +0\n", "end -\n", "end +\n", "end -1\n", "end 8\n", "end 0x1\n", "end 1_0\n", "end 1.0\n", "end 1e0\n", "end \u0663\n", "end \uff11\n",
		"end 18446744073709551616\n", "end 18446744073709551617\n", "end 4294967296\n", "end 256\n", "end " + strings.Repeat("9", 1000) + "\n", "end " + strings.Repeat("0", 1000) + "\n",
		"int 0 01\nend 0\n", "int 0 -0\nend 0\n", "int 0 +1\nend 0\n", "int 0 -\nend 0\n", "int 0 --1\nend 0\n", "int 0 -01\nend 0\n", "int 0 00\nend 0\n", "int 0 \nend 0\n", "int 0\nend 0\n", "int 0 1 1\nend 0\n", "int 0 - 1\nend 0\n",
		"int 0 1000001\nend 0\n", "int 0 -1000001\nend 0\n", "int 0 9223372036854775807\nend 0\n", "int 0 9223372036854775808\nend 0\n", "int 0 -9223372036854775809\nend 0\n", "int 0 18446744073709551617\nend 0\n", "int 0 a\nend 0\n",
		"int -1 0\nend 0\n", "int 8 0\nend 0\n", "int 0 -" + strings.Repeat("1", 300) + "\nend 0\n",
		"atom 0 A\nend 0\n", "atom 0 \nend 0\n", "atom 0\nend 0\n", "atom ok\nend 0\n", "atom ok 0\nend 0\n", "atom 0 ok \nend 0\n", "atom 0  ok\nend 0\n", "atom 0 ok ok\nend 0\n", "atom 0 abcdefghijklm\nend 0\n", "atom 0 0\nend 0\n", "atom 8 ok\nend 0\n",
		"tuple 0 5 4\nend 0\n", "tuple 0 0 9\nend 0\n", "tuple 0 8 0\nend 0\n", "tuple 0 0 -1\nend 0\n", "tuple 0 0\nend 0\n", "tuple 0 0 0 0\nend 0\n",
		"cons 0 0\nend 0\n", "cons 0 0 0 0\nend 0\n", "cons 0 0 8\nend 0\n", "add 0 8 0\nend 0\n", "add 8 0 0\nend 0\n", "add 0 0 -1\nend 0\n",
		"elem 0 0 8\nend 0\n", "elem 0 0 -1\nend 0\n", "kind 0 7 0\nend 0\n", "kind 0 0 0\nend 0\n", "kind 0 int 0\nend 0\n", "kind 0 1 2\nend 0\n", "kind 8 1 0\nend 0\n",
		"jump\n", "jump 1\n", "jump -1\n", "jump 0 0\n", "jump 00\n", "jump 2\nend 0\n", "same 0 0 2\nend 0\n", "same 0 0 -1\nend 0\n", "make 0 0 2\nend 0\n", "make 0 8 1\nend 0\n", "make 0 0 200\nend 0\n",
		"take 0\n", "end 0\ntake 0\n", "end 0\nnil 0\n", "end 0\nint 0 1\n", "nil\nend 0\n", "nil 0 0\nend 0\n", "take 8\nend 0\n", "say\nend 0\n", "self 0 0\nend 0\n", "link -1\nend 0\n", "move 0\nend 0\n", "move 0 0 0\nend 0\n", "send 0 <1>\nend 0\n",
		"head 0 0 0\nend 0\n", "tail 0\nend 0\n", "end 0\nend 0 0\n", "end 0\nend\n", "end 0;end 0\n", strings.Repeat(" ", 100000), strings.Repeat("\n", 100000), strings.Repeat("end ", 100000), strings.Repeat("e", 100000) + " 0\n", "end" + strings.Repeat(" 0", 100000) + "\n",
	} {
		isNoCodeText(t, s)
		isNoCodeText(t, "take 0\n"+s+"fly\n")
	}
}

// manyLines are right, and have each word in them.
const manyLines = "int 0 -5\natom 1 ok\nmove 2 1\ntuple 3 1 7\ncons 4 0 4\nelem 5 3 2\nhead 6 4\ntail 7 4\nadd 0 0 0\nsame 0 1 12\nkind 0 6 10\njump 12\nsend 0 1\ntake 2\nself 3\nmake 4 0 20\nsay 5\nlink 6\nnil 7\nint 7 1000000\nend 0\n"

// Each byte struck, left out, doubled, or with any byte ahead of it.
func TestTextsStruckByteByByte(t *testing.T) {
	if !isCodeText(manyLines) {
		t.Fatal("the test itself does not take it for code")
	}
	for at := range len(manyLines) {
		ahead, here, behind := manyLines[:at], manyLines[at:at+1], manyLines[at+1:]
		isReadAsItIs(t, ahead)
		isReadAsItIs(t, here+behind)
		isReadAsItIs(t, ahead+behind)
		isReadAsItIs(t, ahead+here+here+behind)
		for b := range 256 {
			isReadAsItIs(t, ahead+string([]byte{byte(b)})+behind)
		}
		for _, b := range " \n-+0189azA_\x00\x80" {
			isReadAsItIs(t, ahead+string(b)+here+behind)
		}
	}
}

// Behind each word, and behind none, all that few signs make.
func TestAllShortLines(t *testing.T) {
	behind, layer := []string{""}, []string{""}
	for range 5 {
		longer := []string{}
		for _, s := range layer {
			for _, sign := range []string{" ", "0", "7", "8", "-", "a"} {
				longer = append(longer, s+sign)
			}
		}
		layer = longer
		behind = append(behind, layer...)
	}
	for _, word := range opWords {
		isReadAsItIs(t, word+"\nend 0\n")
		for _, s := range behind {
			isReadAsItIs(t, word+" "+s+"\nend 0\n")
		}
	}
}

// Whatever an instruction has, in however much code, is held against the chapter.
func TestEachInstructionByTheChapter(t *testing.T) {
	ops := []int{math.MinInt, -1, 21, 22, math.MaxInt}
	for op := range 21 {
		ops = append(ops, op)
	}
	regs := []int{math.MinInt, -1, 0, 1, 6, 7, 8, math.MaxInt}
	numbers := []int{math.MinInt, -1000001, -1000000, -1, 0, 1, 2, 7, 8, 9, 199, 200, 1000000, 1000001, math.MaxInt}
	for _, op := range ops {
		for i := range len(regs) * len(regs) * len(regs) {
			x := impl.Ins{Op: op, A: regs[i%8], B: regs[i/8%8], C: regs[i/64]}
			for _, x.N = range numbers {
				for _, x.S = range []string{"", "a", "A"} {
					for _, n := range []int{0, 1, 2, 8, 200, 201} {
						if impl.InsOk(x, n) != rightIns(x, n) {
							t.Fatalf("in code of %d: %v is %v", n, x, impl.InsOk(x, n))
						}
					}
				}
			}
		}
	}
}

// anyIns is right in code of n.
func anyIns(d *dice, n int) impl.Ins {
	o := opEdges[d.below(len(opEdges))]
	for _, e := range o.edges {
		most := e.most
		if most == lastPlace {
			most = n - 1
		}
		o.x = withField(o.x, e.field, e.least+d.below(most-e.least+1))
	}
	if o.x.Op == impl.OpTuple {
		o.x.N = d.below(9 - o.x.B)
	}
	if o.x.Op == impl.OpAtom {
		o.x.S = []string{"a", "ok", "noroom", "z9z9z9z9z9z9", "end"}[d.below(5)]
	}
	return o.x
}

func anyCode(d *dice, n int) []impl.Ins {
	l := []impl.Ins{}
	for range n - 1 {
		l = append(l, anyIns(d, n))
	}
	if d.below(2) == 0 {
		return append(l, impl.Ins{Op: impl.OpJump, N: d.below(n)})
	}
	return append(l, impl.Ins{Op: impl.OpEnd, A: d.below(8)})
}

func TestCodeByChance(t *testing.T) {
	d := dice(8)
	for i := range 2000 {
		l := anyCode(&d, 1+d.below(mostCode))
		if i%4 != 0 {
			l = anyCode(&d, 1+d.below(6))
		}
		isCode(t, l...)
		// one instruction that may be right in other code, only
		at := d.below(len(l))
		l[at] = anyIns(&d, mostCode)
		if rightCode(l) {
			isCode(t, l...)
		} else {
			isNotCode(t, l...)
		}
		wrong := withField(l[at], "ABCN"[d.below(4)], edgeNumbers[d.below(len(edgeNumbers))])
		l[at] = wrong
		if rightCode(l) {
			isCode(t, l...)
		} else {
			isNotCode(t, l...)
		}
	}
}

// Lines of right code, put together and cut by chance.
func TestTextsByChance(t *testing.T) {
	d := dice(88)
	words := []string{"0", "7", "8", "-1", "1", "00", "", "a", "ok", "end", "jump", "int", "atom", "take", "tuple", " ", "-", "1000000", "1000001", "\n", "\nend 0\n"}
	for range 30000 {
		text := ""
		for range 1 + d.below(5) {
			text += words[d.below(len(words))]
			if d.below(3) > 0 {
				text += " "
			}
		}
		isReadAsItIs(t, text+"\nend 0\n")
		isReadAsItIs(t, "end 0\n"+text)
		isReadAsItIs(t, text)
	}
}

// What is read keeps nothing of the text, and what is told is no part of what is handed in.
func TestCodeSharesNothing(t *testing.T) {
	within := func(s string, all string) bool {
		if s == "" || all == "" {
			return false
		}
		from, at := uintptr(unsafe.Pointer(unsafe.StringData(all))), uintptr(unsafe.Pointer(unsafe.StringData(s)))
		return at >= from && at < from+uintptr(len(all))
	}
	text := strings.Repeat("atom 3 abcdefgh\natom 1 a\n", 20) + "end 0\n"
	l, ok := impl.ParseCode(text)
	if !ok {
		t.Fatal("no code")
	}
	for _, x := range l {
		if within(x.S, text) {
			t.Fatal("an atom is a part of the text")
		}
	}
	if s := impl.CodeText(l); s != text || within(s, text) {
		t.Error("a text is a part of another")
	}
	one, _ := impl.ParseCode(text)
	one = append(one[:1], impl.Ins{Op: -1})
	if two, _ := impl.ParseCode(text); !slices.Equal(l, two) || slices.Equal(one, two) {
		t.Error("answers share memory")
	}
}

// The shared tests find both in other layers, too.
func TestWordsAreFoundByAGenericFunctionAndErrorsAsked(t *testing.T) {
	f, err := parser.ParseFile(token.NewFileSet(), "../impl/l08_code.go", nil, 0)
	if err != nil {
		t.Fatal(err)
	}
	generic, asked, own := false, false, false
	ast.Inspect(f, func(n ast.Node) bool {
		switch x := n.(type) {
		case *ast.FuncDecl:
			own = own || x.Recv != nil && x.Name.Name == "Error"
			for _, p := range x.Type.Params.List {
				_, handed := p.Type.(*ast.FuncType)
				generic = generic || handed && x.Type.TypeParams != nil
			}
		case *ast.SelectorExpr:
			from, ok := x.X.(*ast.Ident)
			asked = asked || ok && from.Name == "errors" && x.Sel.Name == "As"
		}
		return true
	})
	if !generic || !asked || !own {
		t.Error("no generic function that is handed one, no error of a type of its own, or none asked for", generic, own, asked)
	}
}
