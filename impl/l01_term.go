package impl

import (
	"cmp"
	"math"
	"slices"
	"strconv"
	"strings"
)

const (
	TInt   = 1
	TAtom  = 2
	TPid   = 3
	TTuple = 4
	TList  = 5
	TBin   = 6
)

const MaxInt = 1000000

const (
	maxPid   = 99999
	maxAtom  = 12
	maxTuple = 8
	maxList  = 20
	maxBin   = 40
	maxDeep  = 6
	maxTerms = 100
)

// endlessNeed is what a term needs that comes round to itself, or that needs
// more words than can be counted. Two of them together still fit an int.
const endlessNeed = math.MaxInt / 2

// maxApart is how many terms a copy may have before a list that is met again is
// no longer copied again: far more than an actor that is right has.
const maxApart = 10000

const hexDigits = "0123456789abcdef"

type Term struct {
	K int
	N int
	S string
	L []Term
}

// form is a term as this layer sees it: a type for each kind, which holds just
// what that kind names, and one for what is no kind.
type form interface {
	kind() int
}

type (
	intForm   int
	atomForm  string
	pidForm   int
	tupleForm []Term
	listForm  []Term
	binForm   string
	noForm    int
)

func (intForm) kind() int   { return TInt }
func (atomForm) kind() int  { return TAtom }
func (pidForm) kind() int   { return TPid }
func (tupleForm) kind() int { return TTuple }
func (listForm) kind() int  { return TList }
func (binForm) kind() int   { return TBin }
func (f noForm) kind() int  { return int(f) }

func formOf(t Term) form {
	switch t.K {
	case TInt:
		return intForm(t.N)
	case TAtom:
		return atomForm(t.S)
	case TPid:
		return pidForm(t.N)
	case TTuple:
		return tupleForm(t.L)
	case TList:
		return listForm(t.L)
	case TBin:
		return binForm(t.S)
	}
	return noForm(t.K)
}

func innerOf(f form) []Term {
	switch x := f.(type) {
	case tupleForm:
		return x
	case listForm:
		return x
	}
	return nil
}

func AtomOk(s string) bool {
	if len(s) < 1 || len(s) > maxAtom {
		return false
	}
	for i, r := range s {
		letter := r >= 'a' && r <= 'z'
		digit := r >= '0' && r <= '9'
		if !letter && (!digit || i == 0) {
			return false
		}
	}
	return true
}

func TermOk(t Term) bool {
	_, ok := spendTerm(t, maxDeep, maxTerms)
	return ok
}

// spendTerm answers how many of left are left behind t and all within it. It
// gives up where deep or left is used up, so that it ends at every t.
func spendTerm(t Term, deep int, left int) (int, bool) {
	if deep == 0 || left == 0 || !rightAlone(t) {
		return 0, false
	}
	left--
	for _, x := range t.L {
		rest, ok := spendTerm(x, deep-1, left)
		if !ok {
			return 0, false
		}
		left = rest
	}
	return left, true
}

// rightAlone tells whether t is right, whatever stands in its L.
func rightAlone(t Term) bool {
	noN, noS, noL := t.N == 0, t.S == "", len(t.L) == 0
	switch x := formOf(t).(type) {
	case intForm:
		return x >= -MaxInt && x <= MaxInt && noS && noL
	case atomForm:
		return AtomOk(string(x)) && noN && noL
	case pidForm:
		return x >= 0 && x <= maxPid && noS && noL
	case tupleForm:
		return len(x) <= maxTuple && noN && noS
	case listForm:
		return len(x) <= maxList && noN && noS
	case binForm:
		return len(x) <= maxBin && noN && noL
	}
	return false
}

func SameTerm(a Term, b Term) bool { return termOrder(a, b) == 0 }

func LessTerm(a Term, b Term) bool { return termOrder(a, b) < 0 }

// listName tells one list in memory from another.
type listName struct {
	first *Term
	n     int
}

func nameOf(l []Term) listName {
	if len(l) == 0 {
		return listName{}
	}
	return listName{&l[0], len(l)}
}

// sides are what is still to be held against each other of two lists.
type sides struct{ a, b []Term }

// termOrder is below 0, 0 or above 0 as a is less than b, the same or greater.
// What it is within stands in a list, not on the stack, which a term of any
// depth could overrun. Two lists that have met are not gone through again: they
// are the same up to here, and a term may come round to itself.
func termOrder(a Term, b Term) int {
	open := []sides{{[]Term{a}, []Term{b}}}
	met := map[[2]listName]struct{}{}
	for len(open) > 0 {
		last := &open[len(open)-1]
		if len(last.a) == 0 || len(last.b) == 0 {
			if len(last.a) != len(last.b) {
				return cmp.Compare(len(last.a), len(last.b))
			}
			open = open[:len(open)-1]
			continue
		}
		x, y := formOf(last.a[0]), formOf(last.b[0])
		last.a, last.b = last.a[1:], last.b[1:]
		if c := orderAlone(x, y); c != 0 {
			return c
		}
		in := sides{innerOf(x), innerOf(y)}
		names := [2]listName{nameOf(in.a), nameOf(in.b)}
		if _, known := met[names]; !known {
			met[names] = struct{}{}
			open = append(open, in)
		}
	}
	return 0
}

// orderAlone goes as far as the order can be told without what stands within.
func orderAlone(a form, b form) int {
	if a.kind() != b.kind() {
		return cmp.Compare(a.kind(), b.kind())
	}
	switch x := a.(type) {
	case intForm:
		return cmp.Compare(x, b.(intForm))
	case atomForm:
		return cmp.Compare(x, b.(atomForm))
	case pidForm:
		return cmp.Compare(x, b.(pidForm))
	case tupleForm:
		return cmp.Compare(len(x), len(b.(tupleForm)))
	case binForm:
		return cmp.Compare(x, b.(binForm))
	}
	return 0
}

func TermText(t Term) string {
	if !TermOk(t) {
		return ""
	}
	return string(appendTerm(nil, t))
}

func appendTerm(b []byte, t Term) []byte {
	switch x := formOf(t).(type) {
	case intForm:
		return strconv.AppendInt(b, int64(x), 10)
	case atomForm:
		return append(b, x...)
	case pidForm:
		return append(strconv.AppendInt(append(b, '<'), int64(x), 10), '>')
	case tupleForm:
		return append(appendTerms(append(b, '{'), x), '}')
	case listForm:
		return append(appendTerms(append(b, '['), x), ']')
	case binForm:
		return appendHex(append(b, '#'), string(x))
	}
	return b
}

func appendTerms(b []byte, l []Term) []byte {
	for i, t := range l {
		if i > 0 {
			b = append(b, ',')
		}
		b = appendTerm(b, t)
	}
	return b
}

func appendHex(b []byte, s string) []byte {
	for i := range len(s) {
		b = append(b, hexDigits[s[i]>>4], hexDigits[s[i]&15])
	}
	return b
}

// The reader takes each right text, and others, too (needless noughts, `,` too
// many, `[` closed by `}`): the text of what it read tells them apart.
func ParseTerm(s string) (Term, bool) {
	t, ok := readTerm(s)
	if !ok || TermText(t) != s {
		return Term{}, false
	}
	return t, true
}

func readTerm(s string) (Term, bool) {
	r := reader{open: []Term{{}}}
	start := 0
	for i, c := range s {
		if !strings.ContainsRune("{}[],", c) {
			continue
		}
		if !r.takeWord(s[start:i]) || !r.takeSign(c) {
			return Term{}, false
		}
		start = i + 1
	}
	if !r.takeWord(s[start:]) || len(r.open[0].L) != 1 {
		return Term{}, false
	}
	return r.open[0].L[0], true
}

// reader gathers a term while its text goes by. In open, each stands within the
// one ahead of it; the first of them is none, and holds what stands in no other.
type reader struct {
	open []Term
	n    int
}

// put gives up past what a right term may hold, so that no text of any length
// takes more room than that.
func (r *reader) put(t Term) bool {
	last := &r.open[len(r.open)-1]
	last.L = append(last.L, t)
	r.n++
	return r.n <= maxTerms
}

func (r *reader) takeSign(c rune) bool {
	switch c {
	case '{':
		return r.enter(TTuple)
	case '[':
		return r.enter(TList)
	case '}', ']':
		return r.leave()
	}
	return true
}

func (r *reader) enter(kind int) bool {
	r.open = append(r.open, Term{K: kind})
	return len(r.open)-1 <= maxDeep
}

func (r *reader) leave() bool {
	last := len(r.open) - 1
	if last == 0 {
		return false
	}
	t := r.open[last]
	r.open = r.open[:last]
	return r.put(t)
}

func (r *reader) takeWord(s string) bool {
	if s == "" {
		return true
	}
	t, ok := readWord(s)
	return ok && r.put(t)
}

func readWord(s string) (Term, bool) {
	if AtomOk(s) {
		return Term{K: TAtom, S: strings.Clone(s)}, true
	}
	if digits, ok := strings.CutPrefix(s, "#"); ok {
		return readBin(digits)
	}
	kind := TInt
	if strings.HasPrefix(s, "<") {
		kind = TPid
	}
	n, err := strconv.Atoi(strings.Trim(s, "<>"))
	return Term{K: kind, N: n}, err == nil
}

func readBin(digits string) (Term, bool) {
	if len(digits) > 2*maxBin || len(digits)%2 != 0 {
		return Term{}, false
	}
	b := make([]byte, len(digits)/2)
	for i, r := range digits {
		d := strings.IndexRune(hexDigits, r)
		if d < 0 {
			return Term{}, false
		}
		b[i/2] = b[i/2]<<4 | byte(d)
	}
	return Term{K: TBin, S: string(b)}, true
}

// needing is a list whose words are being counted: what is still to be looked
// at, and the words so far.
type needing struct {
	name listName
	rest []Term
	need int
}

// As in termOrder, neither depth nor a term that comes round to itself may keep
// the count from ending: each list is counted once, and is endless until then.
func NeedOf(t Term) int {
	open := []needing{{rest: []Term{t}}}
	known := map[listName]int{}
	for {
		last := &open[len(open)-1]
		if len(last.rest) == 0 {
			done := *last
			open = open[:len(open)-1]
			if len(open) == 0 {
				return done.need
			}
			known[done.name] = done.need
			open[len(open)-1].add(done.need)
			continue
		}
		f := formOf(last.rest[0])
		last.rest = last.rest[1:]
		last.add(needAlone(f))
		in := innerOf(f)
		name := nameOf(in)
		need, met := known[name]
		last.add(need)
		if len(in) > 0 && !met {
			known[name] = endlessNeed
			open = append(open, needing{name: name, rest: in})
		}
	}
}

func (x *needing) add(need int) { x.need = min(x.need+need, endlessNeed) }

func needAlone(f form) int {
	switch x := f.(type) {
	case tupleForm:
		return 1 + len(x)
	case listForm:
		return 2 * len(x)
	case binForm:
		return 1 + len(x)
	}
	return 0
}

// copying is a copy of terms that is being made: the lists in it whose terms
// still have within them what was copied, where each list went, and how many
// terms there are so far.
type copying struct {
	open [][]Term
	went map[listName][]Term
	n    int
}

// ownTerms is l in memory of its own, no two lists of which are one, even where
// two of l are. As in termOrder, a term may be of any depth or come round to
// itself: past maxApart the copy has lists that are one where l has them, too.
func ownTerms(l []Term) []Term {
	c := copying{went: map[listName][]Term{}}
	own := c.listOf(l)
	for len(c.open) > 0 {
		last := c.open[len(c.open)-1]
		c.open = c.open[:len(c.open)-1]
		for i, t := range last {
			last[i].S, last[i].L = strings.Clone(t.S), c.listOf(t.L)
		}
	}
	return own
}

func (c *copying) listOf(l []Term) []Term {
	if len(l) == 0 {
		return nil
	}
	name := nameOf(l)
	if own, known := c.went[name]; known && c.n > maxApart {
		return own
	}
	own := slices.Clone(l)
	c.went[name] = own
	c.open = append(c.open, own)
	c.n += len(l)
	return own
}

func ownTerm(t Term) Term { return ownTerms([]Term{t})[0] }
