package tests

import (
	"testing"

	"loop.example/g00248/impl"
)

// isAlike is Alike, held against the chapter; it writes nothing.
func isAlike(t *testing.T, want bool, h impl.Heaps, p impl.Plain) {
	t.Helper()
	var x tenancy
	var y staging
	ok := impl.Alike(x.heaps(h), y.plain(p))
	x.untouched(t)
	y.untouched(t)
	b, right := boroughOf(h)
	if by := right && samePlain(b.plain(), p); ok != want || by != want {
		t.Fatalf("%s\nand %s\nare alike: %v, by the chapter %v, not %v", heapsText(h), plainText(p), ok, by, want)
	}
}

func TestSystemsThatAreAlike(t *testing.T) {
	x := threeOfBoth(t)
	isAlike(t, true, x.h, x.p)
	// what terms have not is not told apart: sweeps, room, and where a home stands
	swept := impl.PlayHeaps(x.h, []impl.Event{evSweep(1), evSweep(3)})
	isAlike(t, true, swept, x.p)
	swept.Room = 900
	isAlike(t, true, swept, x.p)
	for _, list := range [][]impl.Event{{evRun(0, 1)}, {evTell(2, num(7))}, {evEnd(3, atom("ok"))}, {evEnd(1, num(1))}} {
		h, p := impl.PlayHeaps(x.h, list), impl.PlayPlain(x.p, list)
		isAlike(t, true, h, p)
		isAlike(t, false, h, x.p)
		isAlike(t, false, x.h, p)
	}
	for _, n := range []int{0, 1, 2, 19, 20} {
		p := plainOf(t, n, "take 0", "end 0")
		isAlike(t, true, settled(p, 100, 3, 40), p)
	}
	d := dice(161)
	for range 150 {
		h := anyHeaps(&d)
		p, _ := impl.PlainOf(h)
		isAlike(t, true, h, p)
		isAlike(t, samePlain(p, x.p), h, x.p)
	}
}

// One that differs in each of its fields.
func TestSystemsThatAreNotAlike(t *testing.T) {
	x := threeOfBoth(t)
	for k, change := range []func(p *impl.Plain){
		func(p *impl.Plain) { p.Code[1].B = 1 },
		func(p *impl.Plain) { p.Code = append(p.Code, impl.Ins{Op: impl.OpEnd}) },
		func(p *impl.Plain) { p.Code = p.Code[:1] },
		func(p *impl.Plain) { p.Actors[2].Pid = 4 },
		func(p *impl.Plain) { p.Actors[0].Pc = 1 },
		func(p *impl.Plain) { p.Actors[2].Pc = 3 },
		func(p *impl.Plain) { p.Actors = p.Actors[:2] },
		func(p *impl.Plain) { p.Actors = nil },
		func(p *impl.Plain) { p.Actors = append(p.Actors, standing(5)) },
		func(p *impl.Plain) { p.Actors[0].Regs[0].L[0] = num(9) },
		func(p *impl.Plain) { p.Actors[1].Regs[7] = pid(0) },
		func(p *impl.Plain) { p.Actors[1].Regs[7] = num(1) },
		func(p *impl.Plain) { p.Actors[1].Box[0] = bin("hi") },
		func(p *impl.Plain) { p.Actors[2].Box[1].L[1] = atom("byf") },
		func(p *impl.Plain) { p.Actors[2].Box = p.Actors[2].Box[:1] },
		func(p *impl.Plain) { p.Actors[2].Box = append(p.Actors[2].Box, num(0)) },
		func(p *impl.Plain) { p.Actors[0].Links, p.Actors[1].Links = nil, []int{3} },
		func(p *impl.Plain) { p.Actors[0].Links = append(p.Actors[0].Links, 70) },
		func(p *impl.Plain) { p.Next = 7 },
		func(p *impl.Plain) { p.Out[0].Kind = impl.SaidSay },
		func(p *impl.Plain) { p.Out[6].Pid = 6 },
		func(p *impl.Plain) { p.Out[6].T = bin("noroom") },
		func(p *impl.Plain) { p.Out = p.Out[:6] },
		func(p *impl.Plain) { p.Out = append(p.Out, saidOf(1)...) },
	} {
		p := dupPlain(x.p)
		change(&p)
		if samePlain(p, x.p) {
			t.Fatal("not changed", k)
		}
		isAlike(t, false, x.h, p)
	}
	// a Pid alone, of one that is linked to nobody, so that both are right
	p := plainOf(t, 2, "take 0", "end 0")
	p.Next = 9
	h := settled(p, 100, 3, 40)
	for _, p.Actors[1].Pid = range []int{3, 8} {
		if !impl.PlainOk(p) {
			t.Fatal("not right", plainText(p))
		}
		isAlike(t, false, h, p)
	}
}

// What is not right is alike with nothing, not even with what it leads to.
func TestAlikeOfWhatIsNotRight(t *testing.T) {
	x := threeOfBoth(t)
	for _, spoil := range []func(h *impl.Heaps){
		func(h *impl.Heaps) { h.Room = 19 },
		func(h *impl.Heaps) { h.A.W[0]++ },
		func(h *impl.Heaps) { h.Atoms = append(h.Atoms, "A") },
		func(h *impl.Heaps) { h.Cells[0].At = h.Cells[1].At },
		func(h *impl.Heaps) { h.Next = 90001 },
		func(h *impl.Heaps) { *h = impl.Heaps{} },
	} {
		h := dupHeaps(x.h)
		spoil(&h)
		isAlike(t, false, h, x.p)
		isAlike(t, false, h, impl.Plain{})
	}
	isAlike(t, false, x.h, impl.Plain{})
	// fields that a kind does not name
	for _, spoil := range []func(p *impl.Plain){
		func(p *impl.Plain) { p.Actors[0].Regs[7].S = "x" },
		func(p *impl.Plain) { p.Actors[0].Regs[7].L = many(1, num(0)) },
		func(p *impl.Plain) { p.Actors[1].Box[0].N = 1 },
		func(p *impl.Plain) { p.Out[1].T.S = "x" },
		func(p *impl.Plain) { p.Code[0].N = 1 },
	} {
		p := dupPlain(x.p)
		spoil(&p)
		isAlike(t, false, x.h, p)
	}
	for _, y := range []impl.Term{round(impl.TTuple, true, num(1)), round(impl.TList, false, num(2)), nested(100000, tup, num(1))} {
		p := dupPlain(x.p)
		p.Actors[1].Regs[2], p.Out[0].T = y, y
		if impl.Alike(x.h, p) {
			t.Error("alike with a term without end")
		}
	}
}
