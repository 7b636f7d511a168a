package tests

import (
	"math"
	"reflect"
	"sort"
	"strconv"
	"strings"
	"testing"

	"loop.example/g00248/impl"
)

func num(n int) impl.Term          { return impl.Term{K: impl.TInt, N: n} }
func atom(s string) impl.Term      { return impl.Term{K: impl.TAtom, S: s} }
func pid(n int) impl.Term          { return impl.Term{K: impl.TPid, N: n} }
func bin(s string) impl.Term       { return impl.Term{K: impl.TBin, S: s} }
func tup(l ...impl.Term) impl.Term { return impl.Term{K: impl.TTuple, L: l} }
func lst(l ...impl.Term) impl.Term { return impl.Term{K: impl.TList, L: l} }

// many are n terms alike.
func many(n int, t impl.Term) []impl.Term {
	l := make([]impl.Term, n)
	for i := range l {
		l[i] = t
	}
	return l
}

// nested is t within n of make, one in the other.
func nested(n int, make func(...impl.Term) impl.Term, t impl.Term) impl.Term {
	for range n {
		t = make(t)
	}
	return t
}

// ofAll are n terms in all.
func ofAll(n int) impl.Term {
	l := many(20, num(1))
	n -= 21
	for i := range l {
		k := min(n, 8)
		l[i] = tup(many(k, num(2))...)
		n -= k
	}
	return lst(l...)
}

// dice are the same in every run.
type dice uint64

func (d *dice) below(n int) int {
	*d = *d*6364136223846793005 + 1442695040888963407
	return int(uint64(*d)>>33) % n
}

// anyTerm is right, or nearly so: of few unlike ones, that they may meet.
func anyTerm(d *dice, deep int) impl.Term {
	kind := d.below(6)
	if deep <= 1 && kind >= 4 {
		kind -= 2
	}
	switch kind {
	case 0:
		return num(d.below(5) - 2)
	case 1:
		return atom([]string{"a", "ab", "b", "a1", "ok", "z9z9z9z9z9z9"}[d.below(6)])
	case 2:
		return pid(d.below(3))
	case 3:
		return bin([]string{"", "a", "\x00\xff", "ab", "b", "\xff"}[d.below(6)])
	}
	l := make([]impl.Term, d.below(4))
	for i := range l {
		l[i] = anyTerm(d, deep-1)
	}
	if kind == 4 {
		return tup(l...)
	}
	return lst(l...)
}

func alike(a, b impl.Term) bool {
	if a.K != b.K || a.N != b.N || a.S != b.S || len(a.L) != len(b.L) {
		return false
	}
	for i := range a.L {
		if !alike(a.L[i], b.L[i]) {
			return false
		}
	}
	return true
}

func isRight(t *testing.T, x impl.Term, text string) {
	t.Helper()
	if !impl.TermOk(x) {
		t.Error("is not right:", text)
	}
	if got := impl.TermText(x); got != text {
		t.Errorf("text %q, not %q", got, text)
	}
	if got, ok := impl.ParseTerm(text); !ok || !alike(got, x) {
		t.Errorf("%q comes back as %v, %v", text, got, ok)
	}
}

func isWrong(t *testing.T, x impl.Term, text string) {
	t.Helper()
	if impl.TermOk(x) {
		t.Error("is right:", x)
	}
	if got := impl.TermText(x); got != "" {
		t.Errorf("text %q of what is not right", got)
	}
	isNoText(t, text)
}

func isNoText(t *testing.T, text string) {
	t.Helper()
	if got, ok := impl.ParseTerm(text); ok || !reflect.DeepEqual(got, impl.Term{}) {
		t.Errorf("%q is read as %v, %v", text, got, ok)
	}
}

func TestTermComesBackOfItsText(t *testing.T) {
	isRight(t, num(0), "0")
	isRight(t, num(5), "5")
	isRight(t, num(-70), "-70")
	isRight(t, atom("ok"), "ok")
	isRight(t, atom("a1b2"), "a1b2")
	isRight(t, pid(17), "<17>")
	isRight(t, tup(), "{}")
	isRight(t, lst(), "[]")
	isRight(t, bin(""), "#")
	isRight(t, bin("\x00\x7f\xff\n09af"), "#007fff0a30396166")
	isRight(t, tup(num(1), atom("b"), pid(3)), "{1,b,<3>}")
	isRight(t, lst(num(-1), lst(), bin("a")), "[-1,[],#61]")
	isRight(t, tup(lst(tup(lst(num(1)), num(2))), tup()), "{[{[1],2}],{}}")
	isRight(t, lst(bin("{"), bin(","), bin("]")), "[#7b,#2c,#5d]")
	for b := range 256 {
		s := string([]byte{byte(b)})
		text := strconv.FormatInt(int64(b)+256, 16)
		isRight(t, bin(s), "#"+text[1:])
	}
}

func TestEachTermComesBack(t *testing.T) {
	d := dice(1)
	for range 20000 {
		x := anyTerm(&d, 4)
		text := impl.TermText(x)
		got, ok := impl.ParseTerm(text)
		if !impl.TermOk(x) || !ok || !alike(got, x) || impl.TermText(got) != text {
			t.Fatal(text, x, got, ok)
		}
	}
}

func TestTermEdges(t *testing.T) {
	isRight(t, num(impl.MaxInt), "1000000")
	isWrong(t, num(impl.MaxInt+1), "1000001")
	isRight(t, num(-impl.MaxInt), "-1000000")
	isWrong(t, num(-impl.MaxInt-1), "-1000001")
	isWrong(t, num(math.MaxInt), "9223372036854775807")
	isWrong(t, num(math.MinInt), "-9223372036854775808")
	isRight(t, pid(0), "<0>")
	isWrong(t, pid(-1), "<-1>")
	isRight(t, pid(99999), "<99999>")
	isWrong(t, pid(100000), "<100000>")
	isWrong(t, pid(math.MinInt), "<-9223372036854775808>")
	isWrong(t, atom(""), "")
	isRight(t, atom("a"), "a")
	isRight(t, atom("z"), "z")
	isRight(t, atom("abcdefghijkl"), "abcdefghijkl")
	isRight(t, atom("a09876543210"), "a09876543210")
	isWrong(t, atom("abcdefghijklm"), "abcdefghijklm")
	isRight(t, bin(strings.Repeat("a", 40)), "#"+strings.Repeat("61", 40))
	isWrong(t, bin(strings.Repeat("a", 41)), "#"+strings.Repeat("61", 41))
	isRight(t, tup(many(8, num(7))...), "{7,7,7,7,7,7,7,7}")
	isWrong(t, tup(many(9, num(7))...), "{7,7,7,7,7,7,7,7,7}")
	isRight(t, lst(many(20, num(7))...), "["+strings.Repeat("7,", 19)+"7]")
	isWrong(t, lst(many(21, num(7))...), "["+strings.Repeat("7,", 20)+"7]")
}

func TestHowDeepTermsMayBe(t *testing.T) {
	isRight(t, nested(5, lst, num(1)), "[[[[[1]]]]]")
	isWrong(t, nested(6, lst, num(1)), "[[[[[[1]]]]]]")
	isRight(t, nested(5, tup, atom("a")), "{{{{{a}}}}}")
	isWrong(t, nested(6, tup, atom("a")), "{{{{{{a}}}}}}")
	isRight(t, nested(5, lst, lst()), "[[[[[[]]]]]]")
	isWrong(t, nested(6, lst, lst()), "[[[[[[[]]]]]]]")
	isRight(t, nested(5, tup, tup()), "{{{{{{}}}}}}")
	isWrong(t, nested(6, tup, tup()), "{{{{{{{}}}}}}}")
	isRight(t, tup(num(1), nested(4, lst, bin("")), pid(2)), "{1,[[[[#]]]],<2>}")
	isWrong(t, tup(num(1), nested(5, lst, bin("")), pid(2)), "{1,[[[[[#]]]]],<2>}")
	for _, n := range []int{7, 100, 1000000} {
		isWrong(t, nested(n, lst, num(1)), strings.Repeat("[", n)+"1"+strings.Repeat("]", n))
		isNoText(t, strings.Repeat("{", n))
		isNoText(t, strings.Repeat("]", n))
	}
}

func TestHowManyTermsThereMayBe(t *testing.T) {
	text := func(n int) string {
		parts := []string{}
		for n -= 21; len(parts) < 20; n -= min(n, 8) {
			parts = append(parts, "{"+strings.TrimSuffix(strings.Repeat("2,", min(n, 8)), ",")+"}")
		}
		return "[" + strings.Join(parts, ",") + "]"
	}
	isRight(t, ofAll(99), text(99))
	isRight(t, ofAll(100), text(100))
	isWrong(t, ofAll(101), text(101))
	isNoText(t, strings.Repeat("1,", 1000000)+"1")
	isNoText(t, "["+strings.Repeat("[],", 1000000)+"1]")
	wide := lst(many(20, lst(many(20, lst(many(20, num(1))...))...))...)
	isWrong(t, wide, "")
}

func TestAtoms(t *testing.T) {
	for _, s := range []string{"a", "m", "z", "a0", "z9", "abc", "fault", "noroom", "abcdefghijkl"} {
		if !impl.AtomOk(s) {
			t.Error("is an atom:", s)
		}
	}
	wrong := []string{"", "9a", "A", "aB", "a_", "a b", " a", "a ", "-a", "a-", "a\n", "a\x00", "{", "a`", "a{", "a/", "a:", "\xff", "a\xff", "é", "aé", "a\uFFFD", "ａ", "abcdefghijklm", strings.Repeat("a", 100000)}
	if impl.AtomOk("0") || impl.TermOk(atom("0")) {
		t.Error("an atom begins with a letter")
	}
	for _, s := range wrong {
		if impl.AtomOk(s) {
			t.Errorf("is no atom: %q", s)
		}
		isWrong(t, atom(s), s)
		isWrong(t, lst(atom(s)), "{"+s+"}{")
	}
}

func TestWhatIsNoTerm(t *testing.T) {
	for _, k := range []int{math.MinInt, -1, 0, 7, 8, 100, math.MaxInt} {
		for _, x := range []impl.Term{{K: k}, {K: k, N: 1}, {K: k, S: "a"}, {K: k, L: many(1, num(1))}} {
			isWrong(t, x, "")
			isWrong(t, tup(num(1), x), "")
			if got := impl.NeedOf(x); got != 0 {
				t.Error("need", got, "of what is no kind", k)
			}
		}
	}
	one := many(1, num(1))
	for _, x := range []impl.Term{
		{K: impl.TInt, N: 1, S: "a"}, {K: impl.TInt, N: 1, L: one}, {K: impl.TInt, S: "a"},
		{K: impl.TAtom, S: "a", N: 1}, {K: impl.TAtom, S: "a", N: -1}, {K: impl.TAtom, S: "a", L: one},
		{K: impl.TPid, N: 1, S: "a"}, {K: impl.TPid, N: 1, L: one},
		{K: impl.TTuple, N: 1, L: one}, {K: impl.TTuple, S: "a", L: one}, {K: impl.TTuple, N: 1}, {K: impl.TTuple, S: "a"},
		{K: impl.TList, N: 1, L: one}, {K: impl.TList, S: "a", L: one}, {K: impl.TList, N: 1}, {K: impl.TList, S: "a"},
		{K: impl.TBin, S: "a", N: 1}, {K: impl.TBin, S: "a", L: one}, {K: impl.TBin, L: one}, {K: impl.TBin, N: 1},
	} {
		isWrong(t, x, "")
		isWrong(t, lst(num(1), tup(x)), "")
	}
}

func TestEmptyListIsNil(t *testing.T) {
	empty := []impl.Term{}
	for _, x := range []impl.Term{{K: impl.TInt, N: 3, L: empty}, {K: impl.TAtom, S: "a", L: empty}, {K: impl.TPid, L: empty}, {K: impl.TTuple, L: empty}, {K: impl.TList, L: empty}, {K: impl.TBin, L: empty}} {
		y := x
		y.L = nil
		if !impl.TermOk(x) || impl.TermText(x) != impl.TermText(y) || !impl.SameTerm(x, y) || impl.LessTerm(x, y) || impl.LessTerm(y, x) || impl.NeedOf(x) != impl.NeedOf(y) {
			t.Error(x)
		}
	}
}

func TestTextsOfNoTerm(t *testing.T) {
	for _, s := range []string{
		"", " ", ",", "-", "--1", "+1", "+0", "-0", "00", "01", "-01", "0x1", "1e3", "1_0", "1.0", "1 ", " 1", "1\n", "1,", ",1", "1,2", "1a", "-a", "1<2>",
		"99999999999999999999999", "-99999999999999999999999",
		"<", ">", "<>", "<1", "1>", "<01>", "<-0>", "<+1>", "< 1>", "<a>", "<1>>", "<<1>", "<<1>>", "<1><2>", "><", ">1<", "<1>a",
		"#0", "#0g", "#0G", "#0A", "#AF", "#000", "##", "#00#", "# ", "#-1", "#<1>", "#\xff\xff", "#é", "#éé", "#00é", "0#", "a#00",
		"{", "}", "[", "]", "}{", "][", "{]", "[}", "{1]", "[1}", "{{}", "{}}", "[[]", "[]]", "{}{}", "[][]", "{}1", "1{}", "a[]", "[]a", "{},", ",{}",
		"{,}", "{1,}", "{,1}", "{1,,2}", "[,]", "[1,]", "[,1]", "[1,,2]", "{1 }", "{ 1}", "{1, 2}", "[1;2]", "{1{}}", "{{}1}", "[[]1]", "[1[]]", "[[][]]", "{1,2", "1,2}", "()", "(1)",
		"[01]", "{-0}", "[<1]", "[#0]", "[A]", "[1]\n", "[1]]", "[1][", "[1],", "[1]1", "ok\x00", "\x00", "\x80", "\xff", "[\xff]", "{1,\xc3}", "é", "日本", "\uFFFD", "[\uFFFD]", "\u0661", "<\u0661>",
	} {
		isNoText(t, s)
		isNoText(t, "["+s+",[")
	}
}

func TestTextsThatAreCut(t *testing.T) {
	whole := []string{"{1,ab,<3>,[#00ff,{}],[]}", "[[[[[#61]]]]]", "<12345>", "{{},{}}", "[-12,0]"}
	for _, s := range whole {
		for i := range len(s) {
			isNoText(t, s[:i])
			if s[i:] != s && strings.ContainsAny(s[i:], "]}>") && !strings.ContainsAny(s[i:i+1], "[{<#") {
				isNoText(t, s[i:])
			}
		}
		for b := range 256 {
			isNoText(t, s+string([]byte{byte(b)}))
			isNoText(t, string([]byte{byte(b)})+s)
		}
	}
}

// strict reads a term off s by the words of the chapter alone, and answers what
// is left; it is held against ParseTerm of all short texts.
func strict(s string, deep int) (string, bool) {
	if s == "" || deep > 6 {
		return "", false
	}
	digits := func(s string) (string, bool) {
		n := 0
		for n < len(s) && s[n] >= '0' && s[n] <= '9' {
			n++
		}
		return s[n:], n == 1 || n > 1 && s[0] != '0'
	}
	switch c := s[0]; {
	case c == '{' || c == '[':
		end := string(c + 2)
		if rest, ok := strings.CutPrefix(s[1:], end); ok {
			return rest, true
		}
		rest, ok := strict(s[1:], deep+1)
		for ok && strings.HasPrefix(rest, ",") {
			rest, ok = strict(rest[1:], deep+1)
		}
		if !ok || !strings.HasPrefix(rest, end) {
			return "", false
		}
		return rest[1:], true
	case c == '<':
		rest, ok := digits(s[1:])
		if !ok || !strings.HasPrefix(rest, ">") {
			return "", false
		}
		return rest[1:], true
	case c == '#':
		rest := strings.TrimLeft(s[1:], "0123456789abcdef")
		return rest, (len(s)-1-len(rest))%2 == 0
	case c == '-':
		rest, ok := digits(s[1:])
		return rest, ok && s[1] != '0'
	case c >= '0' && c <= '9':
		return digits(s)
	case c >= 'a' && c <= 'z':
		return strings.TrimLeft(s, "abcdefghijklmnopqrstuvwxyz0123456789"), true
	}
	return "", false
}

func TestAllShortTexts(t *testing.T) {
	const signs = "{}[]<>#,-01az \xff"
	var grow func(s string, n int)
	grow = func(s string, n int) {
		rest, ok := strict(s, 1)
		want := ok && rest == ""
		if x, got := impl.ParseTerm(s); got != want || got && impl.TermText(x) != s {
			t.Errorf("%q is read as %v, %v", s, x, got)
		}
		for i := 0; n > 0 && i < len(signs); i++ {
			grow(s+signs[i:i+1], n-1)
		}
	}
	grow("", 5)
}

// inOrder are terms of which each is less than all behind it.
var inOrder = []string{
	"-1000000", "-10", "-9", "-1", "0", "1", "9", "10", "1000000",
	"a", "a0", "a9", "aa", "ab", "ab1", "b", "z", "zz",
	"<0>", "<1>", "<9>", "<10>", "<99999>",
	"{}", "{-1}", "{1}", "{a}", "{<0>}", "{{}}", "{{9}}", "{{1,1}}", "{[]}", "{[1]}", "{#}", "{1,1}", "{1,2}", "{2,1}", "{a,1}", "{{},1}", "{#,1}", "{1,1,1}", "{1,1,1,1,1,1,1,1}",
	"[]", "[-1]", "[1]", "[1,0]", "[1,0,9]", "[1,1]", "[1,a]", "[2]", "[10]", "[a]", "[<1>]", "[{}]", "[{2},1]", "[{1,1}]", "[[]]", "[[],[]]", "[[1]]", "[[1],1]", "[[1,0]]", "[[1,0],0]", "[#]",
	"#", "#00", "#0000", "#0001", "#01", "#61", "#6162", "#62", "#7f", "#80", "#ff", "#ff00",
}

func TestOrderOfTerms(t *testing.T) {
	terms := []impl.Term{}
	for _, s := range inOrder {
		x, ok := impl.ParseTerm(s)
		if !ok {
			t.Fatal(s)
		}
		terms = append(terms, x)
	}
	for i, a := range terms {
		for k, b := range terms {
			if impl.LessTerm(a, b) != (i < k) || impl.SameTerm(a, b) != (i == k) {
				t.Error(inOrder[i], inOrder[k], impl.LessTerm(a, b), impl.SameTerm(a, b))
			}
		}
	}
}

// orderOf is the chapter's order, told once more.
func orderOf(a, b impl.Term) int {
	number := func(m, n int) int {
		if m < n {
			return -1
		} else if m > n {
			return 1
		}
		return 0
	}
	if c := number(a.K, b.K); c != 0 {
		return c
	}
	switch a.K {
	case impl.TInt, impl.TPid:
		return number(a.N, b.N)
	case impl.TAtom, impl.TBin:
		return strings.Compare(a.S, b.S)
	case impl.TTuple:
		if c := number(len(a.L), len(b.L)); c != 0 {
			return c
		}
	}
	if a.K == impl.TTuple || a.K == impl.TList {
		for i := range min(len(a.L), len(b.L)) {
			if c := orderOf(a.L[i], b.L[i]); c != 0 {
				return c
			}
		}
		return number(len(a.L), len(b.L))
	}
	return 0
}

func TestJustOneOfTwoIsLess(t *testing.T) {
	d := dice(2)
	terms := []impl.Term{}
	for range 700 {
		terms = append(terms, anyTerm(&d, 3))
	}
	for _, a := range terms {
		for _, b := range terms {
			c := orderOf(a, b)
			if impl.LessTerm(a, b) != (c < 0) || impl.LessTerm(b, a) != (c > 0) || impl.SameTerm(a, b) != (c == 0) {
				t.Fatal(impl.TermText(a), impl.TermText(b))
			}
			if impl.SameTerm(a, b) != (impl.TermText(a) == impl.TermText(b)) {
				t.Fatal("texts", impl.TermText(a), impl.TermText(b))
			}
		}
	}
	sort.Slice(terms, func(i, k int) bool { return impl.LessTerm(terms[i], terms[k]) })
	for i := range terms {
		for k := range i {
			if impl.LessTerm(terms[i], terms[k]) {
				t.Fatal("no order:", impl.TermText(terms[k]), impl.TermText(terms[i]))
			}
		}
	}
}

// What is not right has its place in the order, too: by what its kind names.
func TestOrderOfWhatIsNotRight(t *testing.T) {
	terms := []impl.Term{
		{K: math.MinInt}, {K: -1}, {}, num(math.MinInt), num(-impl.MaxInt - 1), num(impl.MaxInt + 1), num(math.MaxInt),
		atom(""), atom("A"), atom("a\xff"), pid(-1), pid(100000), tup(many(9, num(1))...),
		lst(impl.Term{}), lst(many(21, num(1))...), lst(impl.Term{K: 7}), bin(strings.Repeat("a", 41)), {K: 7}, {K: math.MaxInt},
	}
	for i, a := range terms {
		for k, b := range terms {
			if impl.LessTerm(a, b) != (i < k) || impl.SameTerm(a, b) != (i == k) {
				t.Error(a, b, impl.LessTerm(a, b), impl.SameTerm(a, b))
			}
		}
	}
	for _, two := range [][2]impl.Term{
		{{K: impl.TInt, N: 1, S: "a"}, num(1)}, {{K: impl.TAtom, S: "a", N: 4}, atom("a")}, {{K: 0, N: 1}, {K: 0, S: "b"}},
		{{K: impl.TBin, S: "a", L: many(2, num(1))}, bin("a")}, {tup(impl.Term{K: impl.TPid, L: many(2, num(1))}), tup(pid(0))},
	} {
		if !impl.SameTerm(two[0], two[1]) || impl.LessTerm(two[0], two[1]) || impl.LessTerm(two[1], two[0]) {
			t.Error(two)
		}
	}
}

func TestNeedOfTerms(t *testing.T) {
	for s, need := range map[string]int{
		"0": 0, "-1000000": 0, "a": 0, "abcdefghijkl": 0, "<99999>": 0, "[]": 0, "{}": 1, "#": 1, "#00": 2, "#0001": 3,
		"#" + strings.Repeat("00", 40): 41, "{1}": 2, "{1,2,3,4,5,6,7,8}": 9, "[1]": 2, "[1,2,3]": 6, "[" + strings.Repeat("a,", 19) + "a]": 40,
		"{{}}": 3, "{[]}": 2, "[[]]": 2, "[{}]": 3, "[[1]]": 4, "{[1],#61}": 7, "[#,#]": 6, "{1,{2,{3,{4}}}}": 11, "[[[[[[]]]]]]": 10, "[[1,2],[3,4]]": 12,
	} {
		if x, ok := impl.ParseTerm(s); !ok || impl.NeedOf(x) != need {
			t.Error(s, impl.NeedOf(x), need)
		}
	}
	var count func(x impl.Term) int
	count = func(x impl.Term) int {
		n := map[int]int{impl.TTuple: 1 + len(x.L), impl.TList: 2 * len(x.L), impl.TBin: 1 + len(x.S)}[x.K]
		for _, y := range x.L {
			n += count(y)
		}
		return n
	}
	d := dice(3)
	for range 20000 {
		if x := anyTerm(&d, 5); impl.NeedOf(x) != count(x) {
			t.Fatal(impl.TermText(x), impl.NeedOf(x), count(x))
		}
	}
	same := lst(num(1), bin("ab"))
	if got := impl.NeedOf(tup(same, same, lst(same))); got != 4+7+7+9 {
		t.Error("what stands there thrice is counted thrice", got)
	}
	if impl.NeedOf(tup(many(9, num(1))...)) != 10 || impl.NeedOf(bin(strings.Repeat("a", 41))) != 42 || impl.NeedOf(impl.Term{K: impl.TInt, L: many(3, tup())}) != 0 {
		t.Error("need of what is not right")
	}
}

// round is a term that stands within itself, ahead of or behind t.
func round(kind int, ahead bool, t impl.Term) impl.Term {
	l := many(2, t)
	x := impl.Term{K: kind, L: l}
	if ahead {
		l[0] = x
	} else {
		l[1] = x
	}
	return x
}

func TestTermsWithoutEnd(t *testing.T) {
	for _, kind := range []int{impl.TTuple, impl.TList} {
		for _, ahead := range []bool{true, false} {
			a, b, c := round(kind, ahead, num(1)), round(kind, ahead, num(1)), round(kind, ahead, num(2))
			isWrong(t, a, "")
			if !impl.SameTerm(a, a) || !impl.SameTerm(a, b) || impl.LessTerm(a, b) || impl.LessTerm(b, a) {
				t.Error("the same without end")
			}
			if impl.SameTerm(a, c) || !impl.LessTerm(a, c) || impl.LessTerm(c, a) {
				t.Error("unlike without end")
			}
			if impl.SameTerm(a, num(1)) || !impl.LessTerm(num(1), a) || impl.LessTerm(a, num(1)) {
				t.Error("without end, and with one")
			}
			if impl.NeedOf(a) < 1<<40 {
				t.Error("need without end", impl.NeedOf(a))
			}
		}
	}
	l := many(20, num(1))
	for i := range l {
		l[i] = impl.Term{K: impl.TList, L: l}
	}
	if isWrong(t, l[0], ""); !impl.SameTerm(l[0], l[1]) || impl.NeedOf(l[0]) < 1<<40 {
		t.Error("all within itself")
	}
}

func TestTermsFarTooDeep(t *testing.T) {
	const deep = 300000
	for _, make := range []func(...impl.Term) impl.Term{tup, lst} {
		a, b, c := nested(deep, make, num(1)), nested(deep, make, num(1)), nested(deep, make, num(2))
		isWrong(t, a, "")
		if !impl.SameTerm(a, b) || impl.SameTerm(a, c) || !impl.LessTerm(a, c) || impl.LessTerm(c, a) {
			t.Error("deep")
		}
		if impl.NeedOf(a) != 2*deep {
			t.Error("need", impl.NeedOf(a))
		}
	}
}

// Two of the one below at each step: more than could be gone through one by one.
func TestTermsFarTooMany(t *testing.T) {
	twice := func(n int, x impl.Term) impl.Term {
		for range n {
			x = tup(x, x)
		}
		return x
	}
	a, b, c := twice(60, num(1)), twice(60, num(1)), twice(60, num(2))
	isWrong(t, a, "")
	if !impl.SameTerm(a, b) || impl.SameTerm(a, c) || !impl.LessTerm(a, c) || impl.LessTerm(c, a) {
		t.Error("many")
	}
	if got := impl.NeedOf(twice(40, num(1))); got != 3*(1<<40-1) {
		t.Error("need", got)
	}
	if got := impl.NeedOf(twice(200, num(1))); got < 1<<40 {
		t.Error("need of what cannot be counted", got)
	}
}

func TestTermsAreNotTouched(t *testing.T) {
	make2 := func() ([]impl.Term, impl.Term) {
		room := []impl.Term{num(1), tup(atom("a"), bin("b")), num(7), num(8)}
		return room, impl.Term{K: impl.TList, L: room[:2]}
	}
	room, x := make2()
	fresh, y := make2()
	impl.TermOk(x)
	impl.SameTerm(x, y)
	impl.LessTerm(x, y)
	impl.TermText(x)
	impl.NeedOf(x)
	if !reflect.DeepEqual(room, fresh) {
		t.Error("an argument or the room behind it was written", room)
	}
}

func TestListsOfATermShareNothing(t *testing.T) {
	const text = "[[1,2,3],{4,5},[],[[6],[7]],{}]"
	x, _ := impl.ParseTerm(text)
	var fill func(x impl.Term)
	fill = func(x impl.Term) {
		for i := range x.L {
			fill(x.L[i])
		}
		for i := len(x.L); i < cap(x.L); i++ {
			x.L[:cap(x.L)][i] = num(99)
		}
	}
	fill(x)
	if impl.TermText(x) != text {
		t.Error("the room behind one list is another's", impl.TermText(x))
	}
	x.L[0].L[0] = num(50)
	if y, _ := impl.ParseTerm(text); impl.TermText(y) != text {
		t.Error("an answer is kept", impl.TermText(y))
	}
}
