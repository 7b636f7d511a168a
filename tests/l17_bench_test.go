package tests

import (
	"fmt"
	"go/ast"
	"go/parser"
	"go/token"
	"regexp"
	"slices"
	"strconv"
	"strings"
	"testing"

	"loop.example/g00248/impl"
)

const (
	mostBench = 4000
	mostLines = 80
)

const tooLong = "too long\n"

// sitting is a bench by the chapter: what it has heard, and what it has answered.
type sitting struct {
	code    string
	h       impl.Heaps
	started bool
	answers []string
}

const aNumber = `(0|[1-9][0-9]{0,5})`

var (
	lineOfCode = regexp.MustCompile(`(?s)^: (.*)$`)
	termLine   = regexp.MustCompile(`(?s)^(term|need) (.*)$`)
	startLine  = regexp.MustCompile(`(?s)^start ` + aNumber + ` ` + aNumber + ` ([^ ]*)$`)
	runLine    = regexp.MustCompile(`^run ` + aNumber + ` ` + aNumber + `$`)
	toldLine   = regexp.MustCompile(`(?s)^(tell|end) ` + aNumber + ` ([^ ]*)$`)
	pidLine    = regexp.MustCompile(`^(sweep|live) ` + aNumber + `$`)
	askLine    = regexp.MustCompile(`^(out|pids|free|safe)$`)
)

func numberIn(s string) int {
	n, err := strconv.Atoi(s)
	if err != nil {
		panic("no number: " + s)
	}
	return n
}

func yesOrNo(ok bool) string {
	if ok {
		return "ok"
	}
	return "no"
}

// linesBy are the lines of a text, the empty ones among them.
func linesBy(text string) []string {
	lines := strings.Split(text, "\n")
	if last := len(lines) - 1; lines[last] == "" {
		lines = lines[:last]
	}
	return lines
}

// sittingOf hears all lines of a text that is not too long.
func sittingOf(text string) *sitting {
	s := &sitting{}
	for _, line := range linesBy(text) {
		if line != "" {
			s.answers = append(s.answers, s.hear(line))
		}
	}
	return s
}

func (s *sitting) hear(line string) string {
	if m := termLine.FindStringSubmatch(line); m != nil {
		x, ok := impl.ParseTerm(m[2])
		switch {
		case !ok:
			return "no"
		case m[1] == "term":
			return impl.TermText(x)
		}
		return fmt.Sprint(impl.NeedOf(x))
	}
	if s.started {
		return s.behind(line)
	}
	if m := lineOfCode.FindStringSubmatch(line); m != nil {
		s.code += m[1] + "\n"
		return "ok"
	}
	if m := startLine.FindStringSubmatch(line); m != nil {
		if arg, ok := impl.ParseTerm(m[3]); ok {
			if l, ok := impl.ParseCode(s.code); ok {
				s.h, s.started = heapsNewBy(l, arg, numberIn(m[1]), numberIn(m[2]))
			}
			return yesOrNo(s.started)
		}
	}
	return "what"
}

func (s *sitting) behind(line string) string {
	if m := runLine.FindStringSubmatch(line); m != nil {
		return s.comes(evRun(numberIn(m[1]), numberIn(m[2])))
	}
	if m := pidLine.FindStringSubmatch(line); m != nil {
		if m[1] == "sweep" {
			return s.comes(evSweep(numberIn(m[2])))
		}
		return liveOf(s.h, numberIn(m[2]))
	}
	if m := askLine.FindStringSubmatch(line); m != nil {
		return askedOf(s.h, m[1])
	}
	if m := toldLine.FindStringSubmatch(line); m != nil {
		y, ok := impl.ParseTerm(m[3])
		switch {
		case ok && m[1] == "tell":
			return s.comes(evTell(numberIn(m[2]), y))
		case ok:
			return s.comes(evEnd(numberIn(m[2]), y))
		}
	}
	return "what"
}

func (s *sitting) comes(e impl.Event) string {
	ok := false
	s.h, ok = doHeapsBy(s.h, e)
	return yesOrNo(ok)
}

// askedOf is what a question of one word is answered of h.
func askedOf(h impl.Heaps, word string) string {
	words := []string{}
	switch word {
	case "free":
		return fmt.Sprint(impl.FreeWords(h.A))
	case "safe":
		return fmt.Sprint(impl.Safe(h))
	case "pids":
		for _, c := range h.Cells {
			words = append(words, fmt.Sprint(c.Pid))
		}
		if len(words) == 0 {
			return "none"
		}
	case "out":
		for _, x := range h.Out {
			words = append(words, fmt.Sprintf("%c%d:%s", " +!-"[x.Kind], x.Pid, impl.TermText(x.T)))
		}
		if len(words) == 0 {
			return "empty"
		}
	}
	return strings.Join(words, " ")
}

func liveOf(h impl.Heaps, number int) string {
	i := slices.IndexFunc(h.Cells, func(c impl.Cell) bool { return c.Pid == number })
	if i < 0 {
		return "no"
	}
	g, ok := impl.LoadHome(h.A, h.Cells[i].At)
	if !ok {
		return "not loaded"
	}
	return fmt.Sprint(impl.LiveOf(g, h.Atoms, impl.RootsOf(h.Cells[i])))
}

// heard are the answers of a text, each with a byte 10.
func heard(answers []string) string {
	text := ""
	for _, s := range answers {
		text += s + "\n"
	}
	return text
}

// isBuiltBy asks what Built answers of a text, in memory of its own.
func isBuiltBy(t *testing.T, text string, want impl.Heaps, started bool) {
	t.Helper()
	var x tenancy
	h, ok := impl.Built(text)
	if ok != started || !sameHeaps(h, want) {
		t.Fatalf("%q\nbuilds %v: %s\nnot %v: %s", text, ok, heapsText(h), started, heapsText(want))
	}
	if !ok && !sameHeaps(h, impl.Heaps{}) {
		t.Fatalf("beside a false stands %s", heapsText(h))
	}
	x.isNew(t, h)
}

// isBench asks that a text, which is not too long, is answered by the chapter.
func isBench(t *testing.T, text string) *sitting {
	t.Helper()
	if len(text) > mostBench || len(linesBy(text)) > mostLines {
		t.Fatal("too long for this test:", len(text), len(linesBy(text)))
	}
	s := sittingOf(text)
	if got, want := impl.Bench(text), heard(s.answers); got != want {
		t.Fatalf("%q\nis answered %q\nnot %q", text, got, want)
	}
	isBuiltBy(t, text, s.h, s.started)
	return s
}

// isAnswered asks for just these answers, of a text of these lines, whether a byte 10 stands behind the last one or not.
func isAnswered(t *testing.T, lines []string, want ...string) *sitting {
	t.Helper()
	text := strings.Join(lines, "\n")
	s := isBench(t, text)
	if !slices.Equal(s.answers, want) {
		t.Fatalf("%q\nis answered %q\nnot %q", lines, s.answers, want)
	}
	if len(text) < mostBench {
		isBench(t, text+"\n")
	}
	return s
}

// isLast asks for the answers of these lines behind others.
func isLast(t *testing.T, ahead []string, lines []string, want ...string) *sitting {
	t.Helper()
	n := len(sittingOf(strings.Join(ahead, "\n")).answers)
	text := strings.Join(slices.Concat(ahead, lines), "\n")
	s := isBench(t, text)
	if !slices.Equal(s.answers[n:], want) {
		t.Fatalf("%q\nbehind %q\nis answered %q\nnot %q", lines, ahead, s.answers[n:], want)
	}
	return s
}

// isTooLong asks that nothing else is answered, and that nothing is built.
func isTooLong(t *testing.T, text string) {
	t.Helper()
	if got := impl.Bench(text); got != tooLong {
		t.Fatalf("%d bytes, %d lines are answered %q", len(text), len(linesBy(text)), got)
	}
	isBuiltBy(t, text, impl.Heaps{}, false)
}

// echoing is a system whose actor says what it is told.
var echoing = []string{": take 0", ": say 0", ": jump 0", "start 100 40 ok"}

// spreading is a system whose first actor makes another one, and is linked to it; that one waits.
var spreading = []string{": make 1 0 3", ": link 1", ": jump 3", ": take 2", ": jump 3", "start 400 60 {a,[1]}", "run 0 20"}

func TestBenchInNumbers(t *testing.T) {
	if impl.MaxBench != mostBench || impl.MaxLines != mostLines {
		t.Error(impl.MaxBench, impl.MaxLines)
	}
}

func TestASession(t *testing.T) {
	isAnswered(t, []string{
		"term {1,[a],#00ff}", "need {1,[a],#00ff}", ": make 1 0 4", ": link 1", ": say 1", ": jump 6", ": say 0", ": end 0", ": take 2", ": send 1 2", ": jump 6",
		"start 200 50 [x]", "out", "pids", "free", "live 1", "safe", "run 0 20", "pids", "live 2", "out", "run 1 1", "out",
		"tell 1 {b}", "live 1", "run 2 20", "live 2", "sweep 2", "live 2", "free", "run 3 1", "out", "pids", "free", "live 1", "safe",
	},
		"{1,[a],#00ff}", "9", "ok", "ok", "ok", "ok", "ok", "ok", "ok", "ok", "ok",
		"ok", "+1:[x]", "1", "181", "2", "0", "ok", "1 2", "2", "+1:[x] +2:[x] !1:<2>", "ok", "+1:[x] +2:[x] !1:<2> !2:[x]",
		"ok", "4", "ok", "4", "ok", "4", "165", "ok", "+1:[x] +2:[x] !1:<2> !2:[x] -2:[x] -1:[x]", "none", "197", "no", "0")
}

func TestTextsWithoutAnswers(t *testing.T) {
	isAnswered(t, nil)
	for n := range mostLines + 1 {
		if got := impl.Bench(strings.Repeat("\n", n)); got != "" {
			t.Fatal(n, "empty lines are answered", got)
		}
		isBuiltBy(t, strings.Repeat("\n", n), impl.Heaps{}, false)
	}
	isTooLong(t, strings.Repeat("\n", mostLines+1))
	isTooLong(t, strings.Repeat("\n", mostBench+1))
}

func TestEmptyLinesAreNotAnswered(t *testing.T) {
	isAnswered(t, []string{"", "", "term a", "", "", "", ": end 0", "", "start 40 20 b", "", "pids", "", ""}, "a", "ok", "ok", "1")
	isAnswered(t, []string{"", "", "", "fly"}, "what")
	isAnswered(t, []string{"fly", "", ""}, "what")
	// what only looks empty
	isAnswered(t, []string{" ", "", "  ", "\t", "\r", "\x00", "\v", "\u00a0", "\ufeff"}, slices.Repeat([]string{"what"}, 8)...)
	isLast(t, echoing, []string{"", " ", "", "\r", "", "pids"}, "what", "what", "1")
}

func TestTextsThatAreTooLong(t *testing.T) {
	begin := strings.Join(echoing, "\n") + "\n"
	for _, behind := range []string{"fly", "term a", "need a", "free", "\x00", "term ", ""} {
		for n := mostBench - 2; n <= mostBench+3; n++ {
			// the last line is filled up by what is no term
			text := begin + behind + strings.Repeat("x", n-len(begin)-len(behind))
			ended := begin + behind + strings.Repeat("x", n-len(begin)-len(behind)-1) + "\n"
			if n > mostBench {
				isTooLong(t, text)
				isTooLong(t, ended)
				continue
			}
			isBench(t, text)
			isBench(t, ended)
			if _, ok := impl.Built(text); !ok {
				t.Fatal("not built of", n)
			}
		}
	}
	// bytes count, not runes
	isTooLong(t, strings.Repeat("é", mostBench/2)+"x")
	isAnswered(t, []string{strings.Repeat("é", mostBench/2)}, "what")
	isAnswered(t, []string{strings.Repeat("\xff", mostBench)}, "what")
	isTooLong(t, strings.Repeat("\xff", mostBench+1))
	isTooLong(t, strings.Repeat("term a\n", 100000))
	isTooLong(t, strings.Repeat("\x00", 1<<20))
}

func TestTextsOfTooManyLines(t *testing.T) {
	for n := mostLines - 2; n <= mostLines+3; n++ {
		for _, filled := range []string{"fly", "", "term [1]", "free"} {
			for _, last := range []string{"", "x", "free", "\n", "free\n", "\n\n"} {
				lines := slices.Concat(echoing, slices.Repeat([]string{filled}, n-len(echoing)))
				text := strings.Join(lines, "\n") + "\n" + last
				many := n + len(linesBy(last))
				if got := len(linesBy(text)); got != many {
					t.Fatal("lines", got, many)
				}
				if many > mostLines {
					isTooLong(t, text)
					continue
				}
				if s := isBench(t, text); !s.started {
					t.Fatal("not started")
				}
				// the last byte 10 ends a line, and begins none
				isBench(t, strings.TrimSuffix(text, "\n"))
			}
		}
	}
	// both the most bytes and the most lines
	line := "term " + strings.Repeat("x", mostBench/mostLines-6)
	text := strings.Repeat(line+"\n", mostLines)
	if len(text) != mostBench {
		t.Fatal(len(text))
	}
	isBench(t, text)
	isBench(t, text[:mostBench-1])
	isBench(t, text[:mostBench-1]+"x")
	isTooLong(t, text+"\n")
	isTooLong(t, text+"x")
	isTooLong(t, text[:mostBench-2]+"\nx")
}

func TestLinesOfCode(t *testing.T) {
	ok := func(n int) []string { return slices.Repeat([]string{"ok"}, n) }
	// a line of code may be anything; that it is none shows at the start
	for _, x := range []string{"", " ", "  ", "end 0 ", " end 0", "end  0", "end 8", "end", "END 0", "end 0\r", "\x00", "\xff\xfe", "start 40 20 a", "term a", ": end 0", "end\t0", "end 00", "int 0 1"} {
		isAnswered(t, []string{": " + x, "start 40 20 a", "pids"}, "ok", "no", "what")
		isAnswered(t, []string{": " + x, ": end 0", "start 40 20 a"}, append(ok(2), map[bool]string{true: "ok", false: "no"}[x == "int 0 1"])...)
		isAnswered(t, []string{": end 0", ": " + x, "start 40 20 a"}, append(ok(2), "no")...)
	}
	isAnswered(t, []string{": end 0", "start 40 20 a", "pids"}, "ok", "ok", "1")
	// what begins otherwise
	for _, x := range []string{":", ":end 0", ":\tend 0", " : end 0", ";", "; end 0", "::", ":: end 0", ":  ", "\x00: end 0", "end 0"} {
		want := []string{"what", "no", "what"}
		if x == ":  " {
			want[0] = "ok"
		}
		isAnswered(t, []string{x, "start 40 20 a", "pids"}, want...)
		if x != ":  " {
			isAnswered(t, []string{x, ": end 0", x, "start 40 20 a", "pids", x}, "what", "ok", "what", "ok", "1", "what")
		}
	}
	// each line has its byte 10 behind, in their order
	isAnswered(t, []string{": int 0 7", ": say 0", ": end 0", "start 60 20 a", "run 0 20", "out"}, "ok", "ok", "ok", "ok", "ok", "+1:a !1:7 -1:7")
	isAnswered(t, []string{": say 0", ": int 0 7", ": end 0", "start 60 20 a", "run 0 20", "out"}, "ok", "ok", "ok", "ok", "ok", "+1:a !1:a -1:7")
	// as many as there may be
	lines := slices.Concat(slices.Repeat([]string{": say 0"}, mostLines-3), []string{": end 0", "start 60 20 a", "run 0 20"})
	isAnswered(t, lines, ok(mostLines)...)
}

func TestStarts(t *testing.T) {
	for _, x := range []string{"start 40 20 a", "start 4000 1000 {1,[a],#00}", "start 41 21 []", "start 40 1000 <3>", "start 4000 20 -1000000"} {
		isAnswered(t, []string{": end 0", x, "pids", x, "pids"}, "ok", "ok", "1", "what", "1")
	}
	// refused by WORDS, ROOM, TERM
	big := "[#" + strings.Repeat("00", 17) + "]"
	for _, x := range []string{"start 39 20 a", "start 0 20 a", "start 3 20 a", "start 4 20 a", "start 4001 20 a", "start 999999 20 a", "start 40 19 a", "start 40 0 a", "start 40 1001 a", "start 40 999999 a", "start 0 0 a",
		"start 4000 20 [#" + strings.Repeat("00", 18) + "]", "start 45 60 [#" + strings.Repeat("00", 30) + "]"} {
		isAnswered(t, []string{": end 0", x, "pids", "out", x, "start 40 20 b", "pids", "out"}, "ok", "no", "what", "what", "no", "ok", "1", "+1:b")
		isAnswered(t, []string{": end 0", x}, "ok", "no")
	}
	isAnswered(t, []string{": end 0", "start 4000 20 " + big, "live 1"}, "ok", "ok", "20")
	// refused without code, and by its code, until it's whole
	isAnswered(t, []string{"start 40 20 a", ": int 0 7", "start 40 20 a", ": say 0", "start 40 20 a", "safe", ": end 0", "start 40 20 a", "run 0 20", "out", ": end 0"},
		"no", "ok", "no", "ok", "no", "what", "ok", "ok", "ok", "+1:a !1:7 -1:7", "what")
	// code that is spoilt stays so
	isAnswered(t, []string{": end 9", ": end 0", "start 40 20 a", ": end 0", "start 40 20 a"}, "ok", "ok", "no", "ok", "no")
	// a start that is none leaves all as it was
	for _, x := range []string{"start", "start ", "start 40", "start 40 20", "start 40 20 ", "start 40 20 a b", "start 40 20 a ", " start 40 20 a", "start  40 20 a", "start 40  20 a", "start 40 20  a", "start\t40 20 a", "start 40 20 a\r",
		"start 040 20 a", "start 40 020 a", "start +40 20 a", "start 40 -20 a", "start 0000040 20 a", "start 1000000 20 a", "start 40 1000000 a", "start x 20 a", "start 40 x a", "start a 40 20", "start 40 20 A", "start 40 20 {", "start 40 20 {a, b}", "start 40 20 01",
		"start 40 20 1000001", "start 40 20 \xff", "start 40 20 \x00", "Start 40 20 a", "START 40 20 a", "start40 20 a", "start: 40 20 a", "tell 40 20 a", "start 40.0 20 a", "start 4_0 20 a", "start 0x28 20 a", "start ４０ 20 a"} {
		isAnswered(t, []string{": end 0", x, "pids", "start 40 20 b", "out", x}, "ok", "what", "what", "ok", "+1:b", "what")
		isAnswered(t, []string{": end 0", x}, "ok", "what")
	}
}

// eachRequest is a line of each word, which is right.
var eachRequest = []string{"run 0 1", "tell 1 a", "end 1 a", "sweep 1", "out", "pids", "free", "live 1", "safe"}

func TestWhatComesOutOfItsTime(t *testing.T) {
	for _, x := range eachRequest {
		// ahead of any start, and behind one that was refused
		isAnswered(t, []string{x, ": take 0", x, ": jump 0", x, "start 39 20 a", x, "start 60 20 a", "out"}, "what", "ok", "what", "ok", "what", "no", "what", "ok", "+1:a")
		// behind the start
		s := isLast(t, echoing, []string{x, ": end 0", "start 40 20 a", ": "}, sittingOf(strings.Join(append(slices.Clone(echoing), x), "\n")).answers[4], "what", "what", "what")
		if s.answers[4] == "what" {
			t.Fatal(x, "is not in its time behind a start")
		}
		isBuiltBy(t, strings.Join(slices.Concat(echoing, []string{x, ": end 0", "start 40 20 a"}), "\n"), s.h, true)
	}
	// term and need have no time of their own
	both := []string{"term {a}", "need {a}", "term {", "need {"}
	isAnswered(t, slices.Concat(both, []string{": end 0"}, both, []string{"start 39 20 a"}, both, []string{"start 40 20 a"}, both, []string{"end 1 a"}, both),
		"{a}", "2", "no", "no", "ok", "{a}", "2", "no", "no", "no", "{a}", "2", "no", "no", "ok", "{a}", "2", "no", "no", "ok", "{a}", "2", "no", "no")
	// nor do they do anything
	isLast(t, echoing, append(both, "out", "free", "pids"), "{a}", "2", "no", "no", "+1:ok", "83", "1")
	// where none is left, all is in its time still
	none := append(slices.Clone(echoing), "end 1 a")
	isLast(t, none, append(slices.Clone(eachRequest), ": end 0", "start 40 20 a"), "no", "no", "no", "no", "+1:ok -1:a", "none", "97", "no", "0", "what", "what")
}

func TestTermsOfLines(t *testing.T) {
	for _, x := range rightTerms {
		text := impl.TermText(x)
		for _, ahead := range [][]string{nil, echoing} {
			isLast(t, ahead, []string{"term " + text, "need " + text}, text, fmt.Sprint(impl.NeedOf(x)))
			isLast(t, ahead, []string{"term " + text + " ", "need " + text + " ", "term  " + text, "need  " + text}, "no", "no", "no", "no")
			isLast(t, ahead, []string{"term " + text + "\r", "need\t" + text, "Term " + text, "NEED " + text, "term" + text, " term " + text}, "no", "what", "what", "what", "what", "what")
		}
	}
	for _, text := range []string{"", " ", "  ", "{", "}", "{1, 2}", "a b", "A", "01", "+1", "-0", "1000001", "<100000>", "<a>", "#0", "#0G", "#FF", "{1}}", "{1,}", "[{]}", ",", "abcdefghijklm", "\x00", "\xff", "é", "term a", "\t", "a\r", "1\x00",
		impl.TermText(nested(5, tup, lst()))[1:], "[" + impl.TermText(nested(5, lst, num(1))) + "]", strings.Repeat("[", 3900)} {
		for _, ahead := range [][]string{nil, echoing} {
			isLast(t, ahead, []string{"term " + text}, "no")
			isLast(t, ahead, []string{"need " + text}, "no")
			if strings.Contains(text, " ") || text == "" || len(text) > 1000 {
				continue
			}
			// a line of words with what is no term is none
			isLast(t, ahead, []string{"tell 1 " + text, "end 1 " + text, "start 100 40 " + text}, "what", "what", "what")
		}
	}
	// all of it stands behind the blank
	for _, line := range []string{"term", "need", "terms", "term\x00a", "need:a", "te rm a", "term\n"} {
		isLast(t, nil, []string{line}, "what")
		isLast(t, echoing, []string{line}, "what")
	}
}

func TestNumbersOfLines(t *testing.T) {
	// a number that is read, of somebody who is not there, or of too many steps, is refused; another one is not understood
	for _, n := range []string{"0", "9", "10", "99", "100", "99999", "100000", "123456", "999999", "100001"} {
		isLast(t, echoing, []string{"live " + n, "sweep " + n, "tell " + n + " a", "end " + n + " a", "out"}, "no", "no", "no", "no", "+1:ok")
		isLast(t, echoing, []string{"run " + n + " 1", "run 0 " + n}, "ok", yesOrNo(n == "9" || n == "10"))
	}
	for _, n := range []string{"", "00", "01", "001", "000000", "000001", "1000000", "0999999", "9999999", "12345678901234567890", "99999999999999999999999", "+1", "-1", "-0", "+0", "1.0", "1e0", "1_0", "0x1", "0b1", "0o1", "x", "one", "１", "१", "1\x00", "\x001", "1\r", "1\t", "\xff", "<1>", "1,", "--1", "'1'", strings.Repeat("0", 3900), strings.Repeat("9", 3900)} {
		for _, line := range []string{"live %s", "sweep %s", "tell %s a", "end %s a", "run %s 1", "run 0 %s"} {
			isLast(t, echoing, []string{fmt.Sprintf(line, n)}, "what")
		}
	}
	isLast(t, echoing, []string{"live 1", "sweep 1", "tell 1 a", "run 0 1", "run 0 20", "run 0 21", "run 0 0", "end 1 a"}, "0", "ok", "ok", "ok", "ok", "no", "no", "ok")
}

func TestWordsOfLines(t *testing.T) {
	for _, x := range eachRequest {
		words := strings.Split(x, " ")
		lines := []string{x + " ", " " + x, x + " 1", x + " a", "1 " + x, x + "\r", x + "\t", "\t" + x, x + "\x00", "\x00" + x, x + "\xff", x + "  ", strings.ToUpper(x), strings.ToUpper(x[:1]) + x[1:], x + "X", "x" + x, x + ":", ":" + x, x + " " + x}
		for i := range words {
			// a word less, two blanks, another one between
			lines = append(lines, strings.Join(slices.Delete(slices.Clone(words), i, i+1), " "))
			lines = append(lines, strings.Join(slices.Insert(slices.Clone(words), i, ""), " "))
			if i > 0 {
				lines = append(lines, strings.Join(words[:i], " ")+"\t"+strings.Join(words[i:], " "))
				lines = append(lines, strings.Join(words[:i], " ")+"\u00a0"+strings.Join(words[i:], " "))
				lines = append(lines, strings.Join(words[:i], " ")+strings.Join(words[i:], " "))
				lines = append(lines, strings.Join(words[:i], " ")+" "+strings.Join(slices.Repeat(words[i:i+1], 2), " ")+" "+strings.Join(words[i+1:], " "))
			}
		}
		for _, line := range lines {
			if line == "" {
				continue
			}
			s := isLast(t, echoing, []string{line, "out"}, "what", "+1:ok")
			isBuiltBy(t, strings.Join(echoing, "\n"), s.h, true)
			isAnswered(t, []string{line}, "what")
		}
	}
	for _, line := range []string{"fly", "ru", "runs 0 1", "run0 1", "out out", "ok", "no", "what", "none", "empty", "too long", "+1:ok", "1", "0", "-", ".", "#", "//", "say 0", "take 0", "jump 0", "free words", "safe!", "noroom", "sweep", "\xff\xfe\xfd", "\x00\x00", "é", "ｒun 0 1", strings.Repeat("out ", 900), strings.Repeat(" ", 3000), strings.Repeat("run ", 700), "tell 1 {a, b}", "end 1 [a, b]", "tell 1 a b", "end 1 { }", "tell 1 {a,b} c", "run 0, 1", "live 1 2"} {
		isAnswered(t, []string{line}, "what")
		isLast(t, echoing, []string{line, "out"}, "what", "+1:ok")
	}
	// a line may begin as another one
	isLast(t, echoing, []string{"outs", "out", "pid", "pids", "fre", "free", "saf", "safe"}, "what", "+1:ok", "what", "1", "what", "83", "what", "0")
}

// Each byte stands where another one should, or none.
func TestBytesOfLines(t *testing.T) {
	for b := range 256 {
		if b == '\n' {
			continue
		}
		c := string([]byte{byte(b)})
		isBench(t, c)
		isBench(t, c+c)
		for _, x := range []string{"run 0 1", "tell 1 a", "out", "live 1", "term a", "need a", ": end 0", "start 40 20 a"} {
			isBench(t, c+x+"\n"+x+c)
			for _, at := range []int{1, len(x) / 2, len(x) - 1} {
				lines := slices.Concat(echoing, []string{x[:at] + c + x[at:], x[:at] + c + x[at+1:], "out"})
				isBench(t, strings.Join(lines, "\n"))
			}
		}
	}
}

func TestWhatIsSaidOnTheBench(t *testing.T) {
	// nothing but one start is said at first
	isLast(t, echoing, []string{"out", "out"}, "+1:ok", "+1:ok")
	for _, x := range rightTerms {
		text := impl.TermText(x)
		isAnswered(t, []string{": say 0", ": end 0", "start 4000 1000 " + text, "out", "run 0 1", "out", "run 0 1", "out"},
			"ok", "ok", "ok", "+1:"+text, "ok", "+1:"+text+" !1:"+text, "ok", "+1:"+text+" !1:"+text+" -1:"+text)
	}
	isLast(t, spreading, []string{"out", "pids", "end 1 {b}", "out", "pids"}, "+1:{a,[1]} +2:{a,[1]}", "1 2", "ok", "+1:{a,[1]} +2:{a,[1]} -1:{b} -2:{b}", "none")
	isLast(t, spreading, []string{"end 1 ok", "out", "pids", "end 1 ok", "end 2 b", "out", "pids"}, "ok", "+1:{a,[1]} +2:{a,[1]} -1:ok", "2", "no", "ok", "+1:{a,[1]} +2:{a,[1]} -1:ok -2:b", "none")
	// whose heap has no room
	isLast(t, echoing, []string{"tell 1 [#" + strings.Repeat("00", 30) + "]", "out", "tell 1 [#" + strings.Repeat("00", 30) + "]", "out", "pids", "free", "safe"}, "ok", "+1:ok", "ok", "+1:ok -1:noroom", "none", "97", "0")
	// what is not kept
	lines := slices.Concat([]string{": say 0", ": jump 0", "start 60 20 a"}, slices.Repeat([]string{"run 0 20"}, 49), []string{"out", "run 0 18", "out", "run 0 20", "out", "end 1 b", "out", "pids"})
	s := isBench(t, strings.Join(lines, "\n"))
	full := "+1:a" + strings.Repeat(" !1:a", 499)
	if got := s.answers[len(s.answers)-8:]; !slices.Equal(got, []string{full[:len("+1:a")+490*len(" !1:a")], "ok", full, "ok", full, "ok", full, "none"}) {
		t.Fatalf("%q", got)
	}
}

func TestPidsOnTheBench(t *testing.T) {
	// as many as there may be, and one more
	lines := []string{": make 1 0 2", ": jump 0", ": take 2", ": jump 2", "start 4000 20 a"}
	isLast(t, lines, []string{"run 0 20", "run 0 17", "pids", "run 0 1", "pids", "out"}, "ok", "ok", "1 2 3 4 5 6 7 8 9 10 11 12 13 14 15 16 17 18 19 20", "ok", "1 2 3 4 5 6 7 8 9 10 11 12 13 14 15 16 17 18 19 20",
		"+1:a +2:a +3:a +4:a +5:a +6:a +7:a +8:a +9:a +10:a +11:a +12:a +13:a +14:a +15:a +16:a +17:a +18:a +19:a +20:a")
	isLast(t, lines, []string{"run 0 20", "run 0 18", "run 0 1", "pids", "end 7 b", "end 20 b", "end 20 b", "pids", "live 7", "live 8", "live 20", "live 21", "live 0", "run 0 1", "safe"},
		"ok", "ok", "ok", "2 3 4 5 6 7 8 9 10 11 12 13 14 15 16 17 18 19 20", "ok", "ok", "no", "2 3 4 5 6 8 9 10 11 12 13 14 15 16 17 18 19", "no", "0", "no", "no", "no", "ok", "0")
}

func TestWhatIsLiveOnTheBench(t *testing.T) {
	for _, x := range rightTerms {
		isAnswered(t, []string{": int 0 1", ": end 0", "start 4000 1000 " + impl.TermText(x), "live 1", "run 0 1", "live 1", "sweep 1", "live 1", "run 0 1", "live 1"},
			"ok", "ok", "ok", fmt.Sprint(impl.NeedOf(x)), "ok", "0", "ok", "0", "ok", "no")
	}
	// a sweep takes what nobody needs, and leaves what is live
	isLast(t, spreading, []string{"tell 2 [a,b]", "live 2", "free", "run 1 20", "live 2", "tell 2 #00", "live 2", "run 1 20", "live 2", "sweep 2", "live 2", "free", "safe"},
		"ok", "9", "359", "ok", "9", "ok", "11", "ok", "7", "ok", "7", "359", "0")
}

// What is refused leaves the system as it was, and so does what is not understood.
func TestRequestsThatAreRefused(t *testing.T) {
	for _, ahead := range [][]string{echoing, spreading, append(slices.Clone(spreading), "tell 2 {x,[y]}", "run 1 1"), append(slices.Clone(spreading), "end 2 b")} {
		text := strings.Join(ahead, "\n")
		was, _ := impl.Built(text)
		seen := isLast(t, ahead, []string{"out", "pids", "free", "live 1", "live 2", "safe"}, sittingOf(text + "\nout\npids\nfree\nlive 1\nlive 2\nsafe").answers[len(ahead):]...)
		for _, x := range []struct{ line, want string }{
			{"run 0 0", "no"}, {"run 0 21", "no"}, {"run 7 0", "no"}, {"run 999999 999999", "no"}, {"tell 0 a", "no"}, {"tell 3 a", "no"}, {"tell 99999 a", "no"}, {"tell 100000 a", "no"}, {"end 0 a", "no"}, {"end 3 ok", "no"}, {"end 999999 a", "no"},
			{"sweep 0", "no"}, {"sweep 3", "no"}, {"sweep 999999", "no"}, {"live 0", "no"}, {"live 3", "no"}, {"term {", "no"}, {"need {", "no"}, {"run 0", "what"}, {"tell 1 {", "what"}, {"end 1 A", "what"}, {"sweep", "what"}, {"sweep 01", "what"}, {"end 1", "what"}, {": end 0", "what"}, {"start 40 20 a", "what"},
		} {
			s := isLast(t, ahead, []string{x.line, "out", "pids", "free", "live 1", "live 2", "safe"}, append([]string{x.want}, seen.answers[len(ahead):]...)...)
			if !sameHeaps(s.h, was) {
				t.Fatalf("%q leaves %s\nnot %s", x.line, heapsText(s.h), heapsText(was))
			}
		}
	}
	// a full box
	lines := append(slices.Clone(spreading), slices.Repeat([]string{"tell 2 7"}, 30)...)
	if a, b := isLast(t, lines, []string{"tell 2 7"}, "no"), sittingOf(strings.Join(lines, "\n")); !sameHeaps(a.h, b.h) {
		t.Error("a word that is refused is there")
	}
	// nobody is left to run
	isLast(t, append(slices.Clone(echoing), "end 1 a"), []string{"run 0 1", "run 1 20", "out"}, "no", "no", "+1:ok -1:a")
}

// lineOfEvent is e as a line; it has what the Kind names alone.
func lineOfEvent(e impl.Event) string {
	switch e.Kind {
	case impl.EvRun:
		return fmt.Sprint("run ", e.I, " ", e.N)
	case impl.EvTell:
		return fmt.Sprint("tell ", e.I, " ", impl.TermText(e.T))
	case impl.EvEnd:
		return fmt.Sprint("end ", e.I, " ", impl.TermText(e.T))
	}
	return fmt.Sprint("sweep ", e.I)
}

// beginning is drawn lines of code, and a start, of a system which answers are compared with.
func beginning(t *testing.T, d *dice) ([]string, impl.Heaps) {
	t.Helper()
	for {
		l, arg := codeOfLines(d, growingLines), tup(pid(1+d.below(3)), anyTerm(d, 3))
		if d.below(2) == 0 {
			l = meetingCode(t, d, growingLines)
		}
		words, room := 40+d.below(500), 20+d.below(100)
		lines := []string{}
		for _, x := range l {
			lines = append(lines, ": "+impl.InsText(x))
		}
		h, ok := impl.HeapsNew(l, arg, words, room)
		if ok && len(lines) < 45 {
			return append(lines, fmt.Sprint("start ", words, " ", room, " ", impl.TermText(arg))), h
		}
	}
}

// drawnEvent is right to be read, and may be refused.
func drawnEvent(d *dice) impl.Event {
	e := impl.Event{Kind: impl.EvRun, I: d.below(7), N: 1 + d.below(20)}
	switch d.below(16) {
	case 0, 1, 2, 3:
		e.Kind, e.T = impl.EvTell, []impl.Term{anyTerm(d, 3), pid(1 + d.below(4))}[d.below(2)]
	case 4:
		e.Kind, e.T = impl.EvEnd, []impl.Term{atom("ok"), num(d.below(9))}[d.below(2)]
	case 5, 6:
		e.Kind = impl.EvSweep
	case 7:
		e.N = 20 + d.below(3)
	case 8:
		e.I, e.N = d.below(1000000), d.below(3)
	}
	return e
}

// Built is what the same events make of the same new system; what is asked between them is answered of what they have made until then.
func TestEventsOnTheBench(t *testing.T) {
	d := dice(171)
	counts := map[string]int{}
	for range 60 {
		lines, h := beginning(t, &d)
		text := strings.Join(lines, "\n") + "\n"
		isBuiltBy(t, text, h, true)
		want := slices.Repeat([]string{"ok"}, len(lines))
		for n := len(lines); n < mostLines-2; n++ {
			if len(text) > mostBench-100 {
				break
			}
			e := drawnEvent(&d)
			line, answer := lineOfEvent(e), ""
			switch d.below(4) {
			case 0:
				line = []string{"out", "pids", "free", "safe"}[d.below(4)]
				answer = askedOf(h, line)
			case 1:
				number := 1 + d.below(5)
				line, answer = fmt.Sprint("live ", number), liveOf(h, number)
			default:
				next, ok := impl.DoHeaps(h, e)
				h, answer = next, yesOrNo(ok)
				counts[fmt.Sprint(e.Kind, " ", answer)]++
			}
			text += line + "\n"
			want = append(want, answer)
		}
		if got := impl.Bench(text); got != heard(want) {
			t.Fatalf("%q\nis answered %q\nnot %q", text, got, want)
		}
		isBuiltBy(t, text, h, true)
		counts[fmt.Sprint(min(len(h.Cells), 3), " left")]++
		counts["without room"] += min(impl.NoRooms(h.Out), 1)
	}
	for _, x := range []string{"1 ok", "1 no", "2 ok", "2 no", "3 ok", "3 no", "4 ok", "4 no", "0 left", "1 left", "2 left", "3 left", "without room"} {
		if counts[x] < 5 {
			t.Error("too few of", x, counts)
		}
	}
}

// spoilt is a line with something that is not as it was.
func spoilt(d *dice, line string) string {
	at := d.below(len(line) + 1)
	more := []string{" ", "  ", "\t", "\r", "\x00", "\xff", "0", "-", "+", "{", "1", "A", ": ", "é"}[d.below(14)]
	switch d.below(7) {
	case 0:
		return line[:at] + more + line[at:]
	case 1:
		return line[:at]
	case 2:
		return line[at:]
	case 3:
		return strings.ToUpper(line)
	case 4:
		return more + line
	case 5:
		return strings.Replace(line, " ", more, 1)
	}
	return line + more
}

// drawnLines are lines for a bench, in and out of their time, with and without errors.
func drawnLines(t *testing.T, d *dice) []string {
	t.Helper()
	begin, _ := beginning(t, d)
	lines := []string{}
	other := func() string {
		switch d.below(6) {
		case 0:
			return ""
		case 1:
			return "term " + impl.TermText(anyTerm(d, 4))
		case 2:
			return "need " + impl.TermText(anyTerm(d, 4))
		case 3:
			return lineOfEvent(drawnEvent(d))
		}
		return []string{"out", "pids", "free", "safe", "live 1", "live 2", "start 40 20 a", "start 39 20 a", ": end 0"}[d.below(9)]
	}
	for i, line := range begin {
		if d.below(8) == 0 {
			x := other()
			if strings.HasPrefix(x, ":") && d.below(4) > 0 {
				x = "start 40 19 []"
			}
			lines = append(lines, x)
		}
		if d.below(90) == 0 {
			line = spoilt(d, line)
		}
		if i == len(begin)-1 && d.below(4) == 0 {
			lines = append(lines, spoilt(d, line))
		}
		lines = append(lines, line)
	}
	for len(lines) < mostLines {
		line := lineOfEvent(drawnEvent(d))
		if d.below(3) == 0 {
			line = other()
		}
		if d.below(8) == 0 {
			line = spoilt(d, line)
		}
		lines = append(lines, strings.ReplaceAll(line, "\n", ""))
		if d.below(40) == 0 {
			break
		}
	}
	return lines[:min(len(lines), mostLines)]
}

// drawnText is not too long.
func drawnText(t *testing.T, d *dice) string {
	t.Helper()
	for {
		text := strings.Join(drawnLines(t, d), "\n") + []string{"", "\n"}[d.below(2)]
		if len(text) <= mostBench && len(linesBy(text)) <= mostLines {
			return text
		}
	}
}

func TestTheBenchByChance(t *testing.T) {
	d := dice(172)
	started, whats := 0, 0
	const texts = 70
	for range texts {
		s := isBench(t, drawnText(t, &d))
		if s.started {
			started++
		}
		if slices.Contains(s.answers, "what") {
			whats++
		}
	}
	if started < texts/2 || started == texts || whats < texts/2 {
		t.Error("too few of a kind:", started, whats)
	}
}

// endsOf are the places behind each byte 10 of a text.
func endsOf(text string) []int {
	ends := []int{0}
	for i := range len(text) {
		if text[i] == '\n' {
			ends = append(ends, i+1)
		}
	}
	return ends
}

// The answers of what is ahead of a line are the first ones of the whole text, whatever comes behind.
func TestAnswersHangOnTheLinesAhead(t *testing.T) {
	d := dice(173)
	for range 14 {
		text := drawnText(t, &d)
		whole := impl.Bench(text)
		for _, end := range endsOf(text) {
			ahead := text[:end]
			got := impl.Bench(ahead)
			empty := func(line string) bool { return line == "" }
			if many := len(slices.DeleteFunc(linesBy(ahead), empty)); strings.Count(got, "\n") != many || !strings.HasPrefix(whole, got) {
				t.Fatalf("%q\nis answered %q\nbut %q\nis answered %q", ahead, got, text, whole)
			}
			// without its byte 10 a line is the same
			if cut := strings.TrimSuffix(ahead, "\n"); impl.Bench(cut) != got {
				t.Fatalf("%q\nis answered %q\nnot %q", cut, impl.Bench(cut), got)
			}
		}
		// another line behind, which changes nothing ahead
		for _, line := range []string{"end 1 x", "start 40 20 a", "\x00", ": end 0"} {
			end := endsOf(text)[d.below(len(endsOf(text)))]
			if got := impl.Bench(text[:end] + line); !strings.HasPrefix(got, impl.Bench(text[:end])) {
				t.Fatalf("%q\nbehind %q\nchanges %q", line, text[:end], got)
			}
		}
	}
}

// Nothing is kept from one text to another.
func TestBenchesBesideEachOther(t *testing.T) {
	d := dice(174)
	texts := []string{"", "pids", "start 40 20 a", strings.Repeat("\n", 81), strings.Join(echoing, "\n"), strings.Join(spreading, "\n") + "\nout"}
	for range 6 {
		texts = append(texts, drawnText(t, &d))
	}
	answers := []string{}
	for _, text := range texts {
		answers = append(answers, impl.Bench(text))
	}
	done := make(chan string)
	for range 4 {
		go func() {
			for i, text := range texts {
				if impl.Bench(text) != answers[i] {
					done <- text
					return
				}
				impl.Built(text)
			}
			done <- ""
		}()
	}
	for range 4 {
		if text := <-done; text != "" {
			t.Errorf("%q is answered otherwise", text)
		}
	}
	// what one has built is nobody else's
	for i, text := range texts {
		was, ok := impl.Built(text)
		h, _ := impl.Built(text)
		wipeBoth(both{impl.Plain{}, h})
		if again, is := impl.Built(text); is != ok || !sameHeaps(again, was) || impl.Bench(text) != answers[i] {
			t.Fatalf("%q builds %s", text, heapsText(again))
		}
	}
}

// A session that says, makes and holds as much as it may ends as well.
func TestBenchesOfGreatAnswers(t *testing.T) {
	big := impl.TermText(lst(many(9, bin(strings.Repeat("\xff", 40)))...))
	lines := slices.Concat([]string{": say 0", ": jump 0", "start 4000 1000 " + big}, slices.Repeat([]string{"run 0 20"}, 52), slices.Repeat([]string{"out"}, 25))
	got := impl.Bench(strings.Join(lines, "\n"))
	if want := 25 * (500*(len(big)+4) - 1 + 1); len(got) != 3*55+want {
		t.Error("bytes", len(got), want)
	}
	h, ok := impl.Built(strings.Join(lines, "\n"))
	if !ok || len(h.Out) != 500 {
		t.Error("built", ok, len(h.Out))
	}
	// an actor that makes as many as there may be, each of which makes more
	lines = slices.Concat([]string{": make 1 0 0", ": jump 0", "start 4000 1000 {}"}, slices.Repeat([]string{"run 3 20", "tell 5 {a,b}", "sweep 7"}, 25), []string{"safe", "pids"})
	isBench(t, strings.Join(lines, "\n"))
}

// Texts of whatever bytes.
func TestTextsOfAnyBytes(t *testing.T) {
	d := dice(175)
	bytes := "\n\n\n :#{}[]<>,019ax\r\t\x00\xff\xc3\xa9-+outpidsfreelivesafetermneedstartrunsweep"
	for range 1500 {
		b := make([]byte, d.below(120))
		for i := range b {
			b[i] = bytes[d.below(len(bytes))]
			if d.below(9) == 0 {
				b[i] = byte(d.below(256))
			}
		}
		isBench(t, string(b))
	}
	// lines that are spoilt, one byte each
	for range 40 {
		text := []byte(strings.Join(slices.Concat(spreading, []string{"tell 2 {a}", "run 1 20", "live 2", "sweep 2", "end 1 b", "out", "pids", "free", "safe"}), "\n"))
		text[d.below(len(text))] = byte(d.below(256))
		isBench(t, string(text))
	}
}

// The shared tests find a method value and a goto wherever they stand; here both stand in this layer: what answers a line is a method value, and a goto goes back to the next line.
func TestASessionIsAMethodValue(t *testing.T) {
	f, err := parser.ParseFile(token.NewFileSet(), "../impl/l17_bench.go", nil, 0)
	if err != nil {
		t.Fatal(err)
	}
	methods, labels := map[string]bool{}, map[string]bool{}
	for _, x := range f.Decls {
		if y, ok := x.(*ast.FuncDecl); ok && y.Recv != nil {
			methods[y.Name.Name] = true
		}
	}
	called := map[ast.Expr]bool{}
	values, gone := 0, 0
	ast.Inspect(f, func(n ast.Node) bool {
		switch x := n.(type) {
		case *ast.CallExpr:
			called[x.Fun] = true
		case *ast.SelectorExpr:
			if _, ok := x.X.(*ast.Ident); ok && methods[x.Sel.Name] && !called[x] {
				values++
			}
		case *ast.LabeledStmt:
			labels[x.Label.Name] = true
		case *ast.BranchStmt:
			if x.Tok == token.GOTO && labels[x.Label.Name] {
				gone++
			}
		case *ast.ForStmt, *ast.RangeStmt:
			if y, ok := n.(*ast.RangeStmt); ok && strings.Contains(fmt.Sprint(y.X), "Lines") {
				t.Error("lines are ranged over")
			}
		}
		return true
	})
	if values == 0 || gone == 0 {
		t.Error("method values:", values, "gotos:", gone)
	}
}
