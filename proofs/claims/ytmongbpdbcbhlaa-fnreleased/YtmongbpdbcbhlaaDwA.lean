/-
  An arena that is drawn: some gives and takes.
-/
import Derived.Test.YtmongbpdbcbhlaaRlA
import Derived.Deep.RegionWith
import Derived.Deep.CutRange
import Derived.Deep.RegionLaw
namespace Go.Proofs.Ytmongbpdbcbhlaa
open Go.RowKit
set_option linter.unusedVariables false

/-- An arena in the block g that is whole. -/
structure WInts (w : World) (g N : Nat) (F : Nat → Int) : Prop where
  ints : Ints w g 0 N F
  whole : Whole F N
theorem WInts.cell {w : World} {g N : Nat} {F : Nat → Int} (h : WInts w g N F) : ∀ j, j < N → w.cell? ⟨g, 0 + j, none⟩ = some (.int .i64 (F j)) := h.ints.cell
theorem WInts.free {w : World} {g N : Nat} {F : Nat → Int} (h : WInts w g N F) : ∀ x, w.frozen? ⟨g, x, none⟩ = false := h.ints.free
theorem WInts.rd {w : World} {g N : Nat} {F : Nat → Int} (h : WInts w g N F) : Rd w (some ⟨g, 0, none⟩) N F := h.ints.rd
theorem WInts.lt {w : World} {g N : Nat} {F : Nat → Int} (h : WInts w g N F) (hN : 0 < N) : g < w.heap.size := h.ints.lt hN
theorem WInts.turn {cb : Nat} {w w' : World} {g N : Nat} {F : Nat → Int} (h : WInts w g N F) (t : Turn cb w w') (hn : g ≠ cb) (hlt : g < w.heap.size) : WInts w' g N F := ⟨h.ints.turn t hn hlt, h.whole⟩
theorem WInts.below {w w' : World} {g N : Nat} {F : Nat → Int} (h : WInts w g N F) (hb : Below w.heap.size w w') (hlt : g < w.heap.size) : WInts w' g N F := ⟨h.ints.below hb hlt, h.whole⟩
/-- At the place that was given stands a used block. -/
def PA (N : Nat) (p c : Int) (F : Nat → Int) : Prop := c = 0 → ∃ q m : Nat, p = q ∧ 1 ≤ m ∧ q + m + 3 ≤ N ∧ (q, m, true) ∈ bk F N 0
/-- What Alloc and Release hand out of an arena that is whole. -/
structure AlQ (w w' : World) (N g cc : Nat) (p c : Int) : Prop where
  below : Below w.heap.size w w'
  ints : ∃ F, WInts w' g N F ∧ PA N p c F
  old : w.heap.size ≤ g
  hcc : N ≤ cc
theorem specAlloc_q (b o N cap : Nat) (f : Nat → Int) (x : Int) (w : World) (hc : ∀ j, j < N → w.cell? ⟨b, o + j, none⟩ = some (.int .i64 (f j))) (hW : Whole f N) (h1 : 1 ≤ N) (hN : N ≤ 4000) :
    Calls Try.prog 44 #[.agg #[.slice (some ⟨b, o, none⟩) N cap], .int .i64 x] w fun e w' => ∃ (g cc : Nat) (p code : Int), e = .returned (.tuple #[.agg #[.slice (some ⟨g, 0, none⟩) N cc], .int .i64 p, .int .i64 code]) ∧ AlQ w w' N g cc p code ∧ (code = 0 → 0 ≤ p ∧ p + 2 < N) := by
  refine (specAlloc_any b o N cap f x w hc h1 hN).mono ?_
  rintro e w' ⟨g, cc, p, code, F, rfl, hr, ha⟩
  have hp : PA N p code F := fun e0 => by
    subst e0
    obtain ⟨q, m, k1, k2, k3, _, k5⟩ := ha.good hN
    exact ⟨q, m, k1, k2, k3, k5⟩
  refine ⟨g, cc, p, code, rfl, ⟨hr.below, ⟨F, ⟨hr.ints, ha.whole hN hW⟩, hp⟩, hr.old, hr.hcc⟩, fun e0 => ?_⟩
  obtain ⟨q, m, k1, k2, k3, _⟩ := hp e0
  omega
theorem specRelease_q (b o N cap : Nat) (f : Nat → Int) (x : Int) (w : World) (hc : ∀ j, j < N → w.cell? ⟨b, o + j, none⟩ = some (.int .i64 (f j))) (hW : Whole f N) (h1 : 1 ≤ N) (hN : N ≤ 4000) :
    Calls Try.prog 9 #[.agg #[.slice (some ⟨b, o, none⟩) N cap], .int .i64 x] w fun e w' => ∃ (g cc : Nat) (code : Int), e = .returned (.tuple #[.agg #[.slice (some ⟨g, 0, none⟩) N cc], .int .i64 code]) ∧ AlQ w w' N g cc 0 1 := by
  refine (specRelease_any b o N cap f x w hc h1 hN).mono ?_
  rintro e w' ⟨g, cc, code, F, rfl, hr, ha⟩
  exact ⟨g, cc, code, rfl, ⟨hr.below, ⟨F, ⟨hr.ints, ha.whole hN hW⟩, fun e0 => by omega⟩, hr.old, hr.hcc⟩⟩

/-- What l2Draw has in hand: the cursor, its result's box, the arena g in the box A0. -/
structure Dr (cb : Nat) (ao : Option Addr) (len cap : Nat) (zs : List Int) (w wr : World) (A0 g N cc : Nat) : Prop where
  cur : Cur cb ao len cap zs wr
  turn : Turn cb w wr
  cb : cb < w.heap.size
  box : wr.cell? ⟨A0, 0, none⟩ = some (.slice (some ⟨g, 0, none⟩) N cc)
  boxf : wr.frozen? ⟨A0, 0, none⟩ = false
  res : wr.cell? ⟨w.heap.size, 0, none⟩ = some (.slice none 0 0)
  resf : wr.frozen? ⟨w.heap.size, 0, none⟩ = false
  ints : ∃ F, WInts wr g N F
  a1 : w.heap.size < A0
  g1 : w.heap.size < g
  ne : g ≠ A0
  n1 : 12 ≤ N
  n2 : N ≤ 80
  hcc : N ≤ cc

theorem Dr.up {cb : Nat} {ao : Option Addr} {len cap : Nat} {zs : List Int} {w wr : World} {A0 g N cc : Nat} (d : Dr cb ao len cap zs w wr A0 g N cc) : A0 < wr.heap.size ∧ g < wr.heap.size := by
  obtain ⟨F, hF⟩ := d.ints
  exact ⟨World.block_lt_of_cell? wr _ d.box, hF.lt (by have := d.n1; omega)⟩
theorem Dr.call {cb : Nat} {ao : Option Addr} {len cap : Nat} {zs : List Int} {w wr w1 : World} {A0 g N cc : Nat} (d : Dr cb ao len cap zs w wr A0 g N cc) (h : Drawn cb ao len cap zs wr w1) : Dr cb ao len cap zs w w1 A0 g N cc := by
  obtain ⟨F, hF⟩ := d.ints
  have h1 := d.a1
  have h2 := d.g1
  have h3 := d.cb
  have h4 := d.up
  exact ⟨h.1, d.turn.trans h.2, h3, h.2.cell (by omega) d.box, (h.2.frozen (b := A0) (o := 0) (by omega) h4.1).trans d.boxf, h.2.cell (by omega) d.res, (h.2.frozen (b := w.heap.size) (o := 0) (by omega) (by omega)).trans d.resf, ⟨F, hF.turn h.2 (by omega) h4.2⟩, h1, h2, d.ne, d.n1, d.n2, d.hcc⟩
theorem Dr.quiet {cb : Nat} {ao : Option Addr} {len cap : Nat} {zs : List Int} {w wr w1 : World} {A0 g N cc : Nat} (d : Dr cb ao len cap zs w wr A0 g N cc) (h : Below wr.heap.size wr w1) : Dr cb ao len cap zs w w1 A0 g N cc :=
  d.call ⟨d.cur.below h, Turn.of_below h⟩
theorem Dr.drew {cb : Nat} {ao : Option Addr} {len cap : Nat} {zs : List Int} {w wr : World} {A0 g N cc : Nat} (d : Dr cb ao len cap zs w wr A0 g N cc) : Dr cb ao len cap zs w wr.drew A0 g N cc := d.quiet ((Below.refl _ _).drew)
/-- The result is laid down. -/
theorem Dr.fin {cb : Nat} {ao : Option Addr} {len cap : Nat} {zs : List Int} {w wr : World} {A0 g N cc : Nat} (d : Dr cb ao len cap zs w wr A0 g N cc) (v : Value) : (∃ F, WInts (wr.setCell ⟨w.heap.size, 0, none⟩ v) g N F) ∧ Drawn cb ao len cap zs w (wr.setCell ⟨w.heap.size, 0, none⟩ v) := by
  obtain ⟨F, hF⟩ := d.ints
  have h2 := d.g1
  have h3 := d.cb
  have h4 := d.up
  have ht : Turn w.heap.size wr (wr.setCell ⟨w.heap.size, 0, none⟩ v) := (Turn.refl _ _).set 0 _
  refine ⟨⟨F, hF.turn ht (by omega) h4.2⟩, ?_, ?_⟩
  · obtain ⟨i, hi, c1⟩ := d.cur.c1
    obtain ⟨x, c2⟩ := d.cur.c2
    refine ⟨ht.cell (by omega) d.cur.c0, ⟨i, hi, ht.cell (by omega) c1⟩, ⟨x, ht.cell (by omega) c2⟩, fun o => by rw [World.frozen?_setCell]; exact d.cur.free o, fun hn => ?_, d.cur.rng, d.cur.small⟩
    obtain ⟨b, off, e1, e2, e3⟩ := d.cur.code hn
    exact ⟨b, off, e1, e2, fun j hj => ht.cell (by omega) (e3 j hj)⟩
  · have t := d.turn
    exact ⟨t.os, t.tape, t.output, by rw [World.size_setCell]; exact t.size, fun k hk hn => (Below.heap_setCell wr ⟨w.heap.size, 0, none⟩ _ k (by show k ≠ w.heap.size; omega)).trans (t.block k hk hn)⟩
/-- Another arena, of blocks that are new, is laid into the box. -/
theorem Dr.lay {cb : Nat} {ao : Option Addr} {len cap : Nat} {zs : List Int} {w wr w1 : World} {A0 g N cc g2 cc2 : Nat} (d : Dr cb ao len cap zs w wr A0 g N cc) {p2 c2 : Int} (hr : AlQ wr w1 N g2 cc2 p2 c2) : Dr cb ao len cap zs w (w1.setCell ⟨A0, 0, none⟩ (.slice (some ⟨g2, 0, none⟩) N cc2)) A0 g2 N cc2 := by
  have dq := d.quiet hr.below
  obtain ⟨F, hF, hPA⟩ := hr.ints
  have h1 := d.a1
  have h2 := d.g1
  have h3 := d.cb
  have h4 := d.up
  have h5 := hr.old
  have h6 := hF.lt (by have := d.n1; omega)
  have ht : Turn A0 w1 (w1.setCell ⟨A0, 0, none⟩ (.slice (some ⟨g2, 0, none⟩) N cc2)) := (Turn.refl _ _).set 0 _
  refine ⟨?_, ?_, h3, World.cell?_setCell_same w1 _ _ dq.box, by rw [World.frozen?_setCell]; exact dq.boxf, ht.cell (by omega) dq.res, (ht.frozen (b := w.heap.size) (o := 0) (by omega) (World.block_lt_of_cell? w1 _ dq.res)).trans dq.resf, ⟨F, hF.turn ht (by omega) h6⟩, h1, by omega, by omega, d.n1, d.n2, hr.hcc⟩
  · obtain ⟨i, hi, c1⟩ := dq.cur.c1
    obtain ⟨x, c2⟩ := dq.cur.c2
    refine ⟨ht.cell (by omega) dq.cur.c0, ⟨i, hi, ht.cell (by omega) c1⟩, ⟨x, ht.cell (by omega) c2⟩, fun o => by rw [World.frozen?_setCell]; exact dq.cur.free o, fun hn => ?_, dq.cur.rng, dq.cur.small⟩
    obtain ⟨b, off, e1, e2, e3⟩ := dq.cur.code hn
    exact ⟨b, off, e1, e2, fun j hj => ht.cell (by omega) (e3 j hj)⟩
  · have t := dq.turn
    exact ⟨t.os, t.tape, t.output, by rw [World.size_setCell]; exact t.size, fun k hk hn => (Below.heap_setCell w1 ⟨A0, 0, none⟩ _ k (by show k ≠ A0; omega)).trans (t.block k hk hn)⟩

/-- What was given stands in the box X. -/
structure Bx (w wx : World) (A0 N X g8 cc8 : Nat) (p8 c8 : Int) : Prop where
  box : wx.cell? ⟨X, 0, none⟩ = some (.slice (some ⟨g8, 0, none⟩) N cc8)
  ints : ∃ F, WInts wx g8 N F ∧ PA N p8 c8 F
  ne : g8 ≠ X
  x0 : X ≠ A0
  g0 : g8 ≠ A0
  x1 : w.heap.size < X
  g1 : w.heap.size < g8
  hcc : N ≤ cc8
  at' : c8 = 0 → 0 ≤ p8 ∧ p8 + 2 < N
/-- The box was there ahead of the call, or is made behind it. -/
theorem fin_set {cb : Nat} {ao : Option Addr} {len cap : Nat} {zs : List Int} {w w7 w8 : World} {A0 g N cc X g8 cc8 : Nat} {p8 c8 : Int} (d : Dr cb ao len cap zs w w7 A0 g N cc) (hr : AlQ w7 w8 N g8 cc8 p8 c8) (hx : ∃ v, w7.cell? ⟨X, 0, none⟩ = some v) (hxA : X ≠ A0) (hxg : g ≠ X) (hx1 : w.heap.size < X) (hc : c8 = 0 → 0 ≤ p8 ∧ p8 + 2 < N) :
    Dr cb ao len cap zs w (w8.setCell ⟨X, 0, none⟩ (.slice (some ⟨g8, 0, none⟩) N cc8)) A0 g N cc ∧ Bx w (w8.setCell ⟨X, 0, none⟩ (.slice (some ⟨g8, 0, none⟩) N cc8)) A0 N X g8 cc8 p8 c8 := by
  obtain ⟨v, hx⟩ := hx
  have dq := d.quiet hr.below
  have hxl := World.block_lt_of_cell? w7 _ hx
  have hx8 := (hr.below.cell (p := ⟨X, 0, none⟩) hxl).trans hx
  obtain ⟨F, hF, hPA⟩ := hr.ints
  obtain ⟨G, hG⟩ := dq.ints
  have h1 := d.a1
  have h2 := d.g1
  have h3 := d.cb
  have h4 := dq.up
  have h5 := hr.old
  have h6 := d.up
  have hxl : X < w7.heap.size := hxl
  have ht : Turn X w8 (w8.setCell ⟨X, 0, none⟩ (.slice (some ⟨g8, 0, none⟩) N cc8)) := (Turn.refl _ _).set 0 _
  refine ⟨⟨?_, ?_, h3, ht.cell (by omega) dq.box, (ht.frozen (b := A0) (o := 0) (by omega) h4.1).trans dq.boxf, ht.cell (by omega) dq.res, (ht.frozen (b := w.heap.size) (o := 0) (by omega) (World.block_lt_of_cell? w8 _ dq.res)).trans dq.resf, ⟨G, hG.turn ht hxg h4.2⟩, h1, h2, d.ne, d.n1, d.n2, d.hcc⟩,
    ⟨World.cell?_setCell_same w8 _ _ hx8, ⟨F, hF.turn ht (by omega) (hF.lt (by have := d.n1; omega)), hPA⟩, by omega, hxA, by omega, hx1, by omega, hr.hcc, hc⟩⟩
  · obtain ⟨i, hi, c1⟩ := dq.cur.c1
    obtain ⟨y, c2⟩ := dq.cur.c2
    refine ⟨ht.cell (by omega) dq.cur.c0, ⟨i, hi, ht.cell (by omega) c1⟩, ⟨y, ht.cell (by omega) c2⟩, fun o => by rw [World.frozen?_setCell]; exact dq.cur.free o, fun hn => ?_, dq.cur.rng, dq.cur.small⟩
    obtain ⟨b, off, e1, e2, e3⟩ := dq.cur.code hn
    exact ⟨b, off, e1, e2, fun j hj => ht.cell (by omega) (e3 j hj)⟩
  · have t := dq.turn
    exact ⟨t.os, t.tape, t.output, by rw [World.size_setCell]; exact t.size, fun k hk hn => (Below.heap_setCell w8 ⟨X, 0, none⟩ _ k (by show k ≠ X; omega)).trans (t.block k hk hn)⟩
theorem Bx.call {cb : Nat} {ao : Option Addr} {len cap : Nat} {zs : List Int} {w wr w1 : World} {A0 g N cc X g8 cc8 : Nat} {p8 c8 : Int} (b : Bx w wr A0 N X g8 cc8 p8 c8) (d : Dr cb ao len cap zs w wr A0 g N cc) (h : Drawn cb ao len cap zs wr w1) : Bx w w1 A0 N X g8 cc8 p8 c8 := by
  obtain ⟨F, hF, hPA⟩ := b.ints
  have h1 := b.x1
  have h2 := b.g1
  have h3 := d.cb
  exact ⟨h.2.cell (by omega) b.box, ⟨F, hF.turn h.2 (by omega) (hF.lt (by have := d.n1; omega)), hPA⟩, b.ne, b.x0, b.g0, h1, h2, b.hcc, b.at'⟩
theorem Cur.far {cb : Nat} {ao : Option Addr} {len cap : Nat} {zs : List Int} {w : World} (h : Cur cb ao len cap zs w) (k o : Nat) (hk : cb < k) (v : Value) : Cur cb ao len cap zs (w.setCell ⟨k, o, none⟩ v) := by
  have ht : Turn k w (w.setCell ⟨k, o, none⟩ v) := (Turn.refl _ _).set o _
  obtain ⟨i, hi, c1⟩ := h.c1
  obtain ⟨x, c2⟩ := h.c2
  refine ⟨ht.cell (by omega) h.c0, ⟨i, hi, ht.cell (by omega) c1⟩, ⟨x, ht.cell (by omega) c2⟩, fun o => by rw [World.frozen?_setCell]; exact h.free o, fun hn => ?_, h.rng, h.small⟩
  obtain ⟨b, off, e1, e2, e3⟩ := h.code hn
  exact ⟨b, off, e1, e2, fun j hj => ht.cell (by omega) (e3 j hj)⟩
theorem Turn.far {cb : Nat} {a w : World} (t : Turn cb a w) (k o : Nat) (hk : a.heap.size ≤ k) (v : Value) : Turn cb a (w.setCell ⟨k, o, none⟩ v) :=
  ⟨t.os, t.tape, t.output, by rw [World.size_setCell]; exact t.size, fun j hj hn => (Below.heap_setCell w ⟨k, o, none⟩ _ j (by show j ≠ k; omega)).trans (t.block j hj hn)⟩
/-- A word of what was given is written, and it becomes the arena. -/
theorem fin_b {cb : Nat} {ao : Option Addr} {len cap : Nat} {zs : List Int} {w w9 : World} {A0 g N cc X g8 cc8 q : Nat} {p8 c8 y : Int} (d : Dr cb ao len cap zs w w9 A0 g N cc) (b : Bx w w9 A0 N X g8 cc8 p8 c8) (hq : q + 2 < N) (hc0 : c8 = 0) (hpq : p8 = q) :
    ((w9.setCell ⟨g8, q + 2, none⟩ (.int .i64 y)).cell? ⟨X, 0, none⟩ = some (.slice (some ⟨g8, 0, none⟩) N cc8) ∧ (∃ v, (w9.setCell ⟨g8, q + 2, none⟩ (.int .i64 y)).cell? ⟨A0, 0, none⟩ = some v) ∧ (w9.setCell ⟨g8, q + 2, none⟩ (.int .i64 y)).frozen? ⟨A0, 0, none⟩ = false) ∧
      Dr cb ao len cap zs w ((w9.setCell ⟨g8, q + 2, none⟩ (.int .i64 y)).setCell ⟨A0, 0, none⟩ (.slice (some ⟨g8, 0, none⟩) N cc8)) A0 g8 N cc8 := by
  obtain ⟨F, hF, hPA⟩ := b.ints
  have h1 := d.a1
  have h2 := b.g1
  have h3 := d.cb
  have h4 := b.ne
  have h5 := b.g0
  have h6 := hF.lt (by have := d.n1; omega)
  have h7 := d.turn.size
  obtain ⟨q', m, k1, k2, k3, k4⟩ := hPA hc0
  obtain rfl : q' = q := by omega
  have hI0 := hF.ints.set (q' + 2) hq y
  rw [Nat.zero_add] at hI0
  have hI : WInts (w9.setCell ⟨g8, q' + 2, none⟩ (.int .i64 y)) g8 N (upd F (q' + 2) y) := ⟨hI0, write_whole (i := 0) hF.whole k4 (by omega) (fun j hj => upd_other F y hj)⟩
  have ht : Turn g8 w9 (w9.setCell ⟨g8, q' + 2, none⟩ (.int .i64 y)) := (Turn.refl _ _).set (q' + 2) _
  have ba := ht.cell (by omega) d.box
  have bf : (w9.setCell ⟨g8, q' + 2, none⟩ (.int .i64 y)).frozen? ⟨A0, 0, none⟩ = false := by rw [World.frozen?_setCell]; exact d.boxf
  have hl6 : g8 < (w9.setCell ⟨g8, q' + 2, none⟩ (.int .i64 y)).heap.size := by rw [World.size_setCell]; exact h6
  have r10 := ht.cell (by omega) d.res
  have rf10 : (w9.setCell ⟨g8, q' + 2, none⟩ (.int .i64 y)).frozen? ⟨w.heap.size, 0, none⟩ = false := by rw [World.frozen?_setCell]; exact d.resf
  have c10 := d.cur.far g8 (q' + 2) (by omega) (.int .i64 y)
  have t10 := d.turn.far g8 (q' + 2) (by omega) (.int .i64 y)
  have x10 := ht.cell (by omega) b.box
  generalize w9.setCell ⟨g8, q' + 2, none⟩ (.int .i64 y) = w10 at *
  have hu : Turn A0 w10 (w10.setCell ⟨A0, 0, none⟩ (.slice (some ⟨g8, 0, none⟩) N cc8)) := (Turn.refl _ _).set 0 _
  exact ⟨⟨x10, ⟨_, ba⟩, bf⟩, c10.far A0 0 (by omega) _, t10.far A0 0 (by omega) _, h3, World.cell?_setCell_same w10 _ _ ba, by rw [World.frozen?_setCell]; exact bf, hu.cell (by omega) r10, by rw [World.frozen?_setCell]; exact rf10, ⟨_, hI.turn hu (by omega) hl6⟩, h1, h2, h5, d.n1, d.n2, b.hcc⟩
theorem keepB {w7 w8 : World} {X : Nat} {v : Value} (hb : Below w7.heap.size w7 w8) (h : w7.cell? ⟨X, 0, none⟩ = some v ∧ w7.frozen? ⟨X, 0, none⟩ = false) : w8.cell? ⟨X, 0, none⟩ = some v ∧ w8.frozen? ⟨X, 0, none⟩ = false := by
  have hl := World.block_lt_of_cell? w7 _ h.1
  exact ⟨(hb.cell (p := ⟨X, 0, none⟩) hl).trans h.1, (hb.frozen (p := ⟨X, 0, none⟩) hl).trans h.2⟩
theorem keepN {w7 w8 : World} {v : Value} {t : TypeId} (hb : Below (w7.alloc (.cells #[v] t)).heap.size (w7.alloc (.cells #[v] t)) w8) : w8.cell? ⟨w7.heap.size, 0, none⟩ = some v ∧ w8.frozen? ⟨w7.heap.size, 0, none⟩ = false :=
  keepB hb ⟨World.cell?_alloc_new w7 _ _ 0, World.frozen?_alloc_new w7 _ _ 0⟩
theorem fin_new {cb : Nat} {ao : Option Addr} {len cap : Nat} {zs : List Int} {w w7 w8 : World} {A0 g N cc g8 cc8 : Nat} {p8 c8 : Int} (d : Dr cb ao len cap zs w w7 A0 g N cc) (hr : AlQ w7 w8 N g8 cc8 p8 c8) (hc : c8 = 0 → 0 ≤ p8 ∧ p8 + 2 < N) :
    Dr cb ao len cap zs w (w8.alloc (.cells #[.slice (some ⟨g8, 0, none⟩) N cc8] 26)) A0 g N cc ∧ Bx w (w8.alloc (.cells #[.slice (some ⟨g8, 0, none⟩) N cc8] 26)) A0 N w8.heap.size g8 cc8 p8 c8 := by
  have dq := d.quiet hr.below
  obtain ⟨F, hF, hPA⟩ := hr.ints
  have h1 := d.a1
  have h2 := d.g1
  have h4 := dq.up
  have h5 := hr.old
  have h6 := d.up
  have h7 := hF.lt (by have := d.n1; omega)
  have hbn := (Below.refl w8.heap.size w8).alloc (Nat.le_refl _) (.cells #[.slice (some ⟨g8, 0, none⟩) N cc8] 26)
  exact ⟨dq.quiet hbn, World.cell?_alloc_new w8 _ _ 0, ⟨F, hF.below hbn h7, hPA⟩, by omega, by omega, by omega, by omega, by omega, hr.hcc, hc⟩

theorem Dr.start {cb : Nat} {ao : Option Addr} {len cap : Nat} {zs : List Int} {w w1 w2 : World} {g N : Nat} {o2 : Obj} {F : Nat → Int} (hcb : cb < w.heap.size)
    (hd : Drawn cb ao len cap zs ((w.alloc (.cells #[.slice none 0 0] 26)).alloc o2) w1) (hb : Below w1.heap.size w1 w2) (hg : w1.heap.size ≤ g) (hi : WInts w2 g N F) (h1 : 12 ≤ N) (h2 : N ≤ 80) :
    Dr cb ao len cap zs w (w2.alloc (.cells #[.slice (some ⟨g, 0, none⟩) N N] 26)) w2.heap.size g N N := by
  have hz : ((w.alloc (.cells #[.slice none 0 0] 26)).alloc o2).heap.size = w.heap.size + 2 := by simp
  have s1 := hd.2.size
  have s2 := hb.size
  have q0 : ((w.alloc (.cells #[.slice none 0 0] 26)).alloc o2).cell? ⟨w.heap.size, 0, none⟩ = some (.slice none 0 0) := by
    rw [World.cell?_alloc_lt (h := by show w.heap.size < _; simp)]; exact World.cell?_alloc_new w _ _ 0
  have f0 : ((w.alloc (.cells #[.slice none 0 0] 26)).alloc o2).frozen? ⟨w.heap.size, 0, none⟩ = false := by
    have h3 := (Below.refl _ (w.alloc (.cells #[.slice none 0 0] 26))).alloc (Nat.le_refl _) o2
    rw [h3.frozen (p := ⟨w.heap.size, 0, none⟩) (by simp)]
    exact World.frozen?_alloc_new w _ _ 0
  have hbn := (Below.refl w2.heap.size w2).alloc (Nat.le_refl _) (.cells #[.slice (some ⟨g, 0, none⟩) N N] 26)
  have hb3 := below_join hb hbn
  have hgl := hi.lt (by omega)
  exact ⟨(hd.1.below hb).alloc _, ((((Turn.refl cb w).alloc _).alloc _).trans hd.2).trans (Turn.of_below hb3), hcb, World.cell?_alloc_new w2 _ _ 0, World.frozen?_alloc_new w2 _ _ 0,
    (hb3.cell (p := ⟨w.heap.size, 0, none⟩) (by show w.heap.size < _; omega)).trans (hd.2.cell (by omega) q0), (hb3.frozen (p := ⟨w.heap.size, 0, none⟩) (by show w.heap.size < _; omega)).trans ((hd.2.frozen (b := w.heap.size) (o := 0) (by omega) (by omega)).trans f0),
    ⟨F, hi.below hbn hgl⟩, by omega, by omega, by omega, h1, h2, Nat.le_refl _⟩

set_option maxHeartbeats 20000000 in
set_option maxRecDepth 100000 in
theorem l2Draw_any (cb : Nat) (ao : Option Addr) (len cap : Nat) (zs : List Int) (w : World) (hc : Cur cb ao len cap zs w) (hcb : cb < w.heap.size) :
    Calls Try.prog 60 #[.pointer (some ⟨cb, 0, none⟩)] w fun e w' => ∃ g N cc, e = .returned (.agg #[.slice (some ⟨g, 0, none⟩) N cc]) ∧ 12 ≤ N ∧ N ≤ 80 ∧ N ≤ cc ∧ w.heap.size ≤ g ∧ (∃ F, WInts w' g N F) ∧ Drawn cb ao len cap zs w w' := by
  have HC : Hid (Cur cb ao len cap zs w) := hc
  clear hc
  go_enter Try.func60, Try.ntmps60
  go_wp2_with fail
  refine (int_any cb ao len cap zs _ ((HC.out.alloc _).alloc _) (w.heap.size + 1) [40, 20, 80, 12] (by omega) (by simp) (by simp) ?_).mono ?_
  · have := news_ints (w.alloc (.cells #[.slice none 0 0] 26)) [40, 20, 80, 12] 3
    rw [World.size_alloc] at this
    exact this
  rintro e w1 ⟨x, rfl, hx, hd1⟩
  have hx' : x = 40 ∨ x = 20 ∨ x = 80 ∨ x = 12 := by simpa using hx
  obtain ⟨N, rfl⟩ : ∃ N : Nat, x = N := ⟨x.toNat, by omega⟩
  have hN1 : 12 ≤ N := by omega
  have hN2 : N ≤ 80 := by omega
  clear hx hx'
  go_wp2_with fail
  refine (specNew_any N (by omega) (by omega) _).mono ?_
  rintro e w2 ⟨g, rfl, hg, hb2, hi2⟩
  have hs := Dr.start hcb hd1 hb2 hg ⟨hi2, fresh_whole N (by omega) (by omega)⟩ hN1 hN2
  have HS : Hid (Dr cb ao len cap zs w (w2.alloc (.cells #[.slice (some ⟨g, 0, none⟩) N N] 26)) w2.heap.size g N N) := hs
  clear hs hd1 hb2 hg hi2
  go_wp2_with fail
  have hs := HS.out
  clear HS
  generalize (w2.alloc (.cells #[.slice (some ⟨g, 0, none⟩) N N] 26)) = w3 at hs ⊢
  generalize w2.heap.size = A0 at hs ⊢
  refine (below_any cb ao len cap zs _ hs.cur 10 (by decide) (by decide)).mono ?_
  rintro e w4 ⟨k, rfl, hk0, hk1, hd4⟩
  have HS4 : Hid (Dr cb ao len cap zs w w4 A0 g N N) := hs.call hd4
  clear hs hd4
  go_wp2_with fail
  go_loopw [4] (fun i wr => ∃ (m : Nat) (g2 cc2 : Nat), m ≤ 9 ∧ i = .int .i64 m ∧ Dr cb ao len cap zs w wr A0 g2 N cc2) (fun i _ => (intOf i).toNat)
  case atStart => exact ⟨k.toNat, g, N, by omega, by congr 1; omega, HS4.out⟩
  case round =>
    obtain ⟨m, g2, cc2, hm, rfl, hdr⟩ := hrel
    have HD : Hid (Dr cb ao len cap zs w wr A0 g2 N cc2) := hdr
    have b0 := hdr.box
    clear hdr
    by_cases hm0 : 0 < m
    · go_wp2_with fail
      obtain ⟨F, hF⟩ := HD.out.ints
      refine (specUsed_any (some ⟨g2, 0, none⟩) N cc2 F _ hF.rd (by omega)).mono ?_
      rintro e w5 ⟨v, rfl, hpl, hb5⟩
      have hll : (usd (bk F N 0)).length * 4 ≤ N := by have h1 := usd_len (bk F N 0); have h2 := bk_len4 F N; omega
      generalize usd (bk F N 0) = l at hpl hll
      obtain ⟨la, lc, rfl, hl1, hl2, hl3, hrl⟩ := hpl.slice
      have HD5 : Hid (Dr cb ao len cap zs w w5 A0 g2 N cc2) := HD.out.quiet hb5
      have HL5 : Hid (Rd w5 la l.length (fun j => (l.getD j 0 : Nat))) := hrl
      have HLA : Hid (∀ a, la = some a → a.block ≠ cb) := fun a ha => by have h1 := hl3 a ha; have h2 := HD.out.cb; have h3 := HD.out.turn.size; omega
      clear hF hpl hb5 hl1 hl2 hl3 hrl
      obtain ⟨L, hL⟩ : ∃ L, L = l.length := ⟨_, rfl⟩
      rw [← hL] at HL5 hll
      rw [← hL]
      clear hL b0
      by_cases hL0 : 0 < L
      · have V1 : (0 : Int) < (L : Int) := by omega
        go_wp2_with fail
        refine (once_any cb ao len cap zs _ HD5.out.cur 3 (by decide) (by decide)).mono ?_
        rintro e w6 ⟨x, rfl, hd6⟩
        have HD6 : Hid (Dr cb ao len cap zs w w6 A0 g2 N cc2) := HD5.out.call hd6
        obtain ⟨lb, lo, rfl, hcl⟩ := HL5.out (by omega)
        have HL6 : Hid (∀ j, j < L → w6.cell? ⟨lb, lo + j, none⟩ = some (.int .i64 (l.getD j 0 : Nat))) := fun j hj => hd6.2.cell (HLA.out _ rfl) (hcl j hj)
        clear hd6 hcl HL5 HD5
        cases x with
        | true =>
          have b6 := HD6.out.box
          have KB : Hid (∀ (w7 : World) (y : Int), 0 ≤ y → y < L → Drawn cb ao len cap zs w6.drew w7 → Dr cb ao len cap zs w w7 A0 g2 N cc2 ∧ (w7.cell? ⟨A0, 0, none⟩ = some (.slice (some ⟨g2, 0, none⟩) N cc2)) ∧ ∃ jj : Nat, y = jj ∧ jj < L ∧ w7.cell? ⟨lb, lo + jj, none⟩ = some (.int .i64 (l.getD jj 0 : Nat))) := fun w7 y h0 h1 hd => by
            have hd7 := HD6.out.call hd.drew
            exact ⟨hd7, hd7.box, y.toNat, by omega, by omega, hd.drew.2.cell (HLA.out _ rfl) (HL6.out _ (by omega))⟩
          have KR : Hid (∀ (w7 w8 : World) (g8 cc8 : Nat), Dr cb ao len cap zs w w7 A0 g2 N cc2 → AlQ w7 w8 N g8 cc8 0 1 → w8.cell? ⟨A0, 0, none⟩ = some (.slice (some ⟨g2, 0, none⟩) N cc2) ∧ w8.frozen? ⟨A0, 0, none⟩ = false) := fun w7 w8 g8 cc8 hd hr =>
            ⟨(hd.quiet hr.below).box, (hd.quiet hr.below).boxf⟩
          have hL1 : (1 : Int) ≤ (L : Int) := by omega
          have hL2 : (L : Int) ≤ 256 := by omega
          have hN3 : 1 ≤ N := by omega
          have hN4 : N ≤ 4000 := by omega
          go_wp2_with fail
          go_region_with (first
            | (go_at_call 54; refine (below_any cb ao len cap zs _ ?_ L hL1 hL2).mono ?_; exact HD6.out.cur.drew; rintro e w7 ⟨y, rfl, hy0, hy1, hd7⟩; obtain ⟨hdr7, b7, jj, rfl, hjj, r7⟩ := KB.out w7 y hy0 hy1 hd7; have HD7 : Hid (Dr cb ao len cap zs w w7 A0 g2 N cc2) := hdr7; clear hy0 hy1 hd7 hdr7)
            | (go_at_call 9; obtain ⟨F7, hF7⟩ := HD7.out.ints; refine (specRelease_q g2 0 N cc2 F7 _ _ hF7.cell hF7.whole hN3 hN4).mono ?_; rintro e w8 ⟨g8, cc8, code, rfl, hR⟩; obtain ⟨b8, f8⟩ := KR.out w7 w8 g8 cc8 HD7.out hR; have HR8 : Hid (AlQ w7 w8 N g8 cc8 0 1) := hR; clear hR hF7))
          all_goals
            have HD8 : Hid (Dr cb ao len cap zs w (w8.setCell ⟨A0, 0, none⟩ (.slice (some ⟨g8, 0, none⟩) N cc8)) A0 g8 N cc8) := HD7.out.lay HR8.out
            clear b6 b7 r7 b8 f8
            go_wp2_with fail
            go_roundw
            case rel => exact ⟨m - 1, g8, cc8, by omega, by congr 1; omega, HD8.out⟩
            case measure => simp [intOf]; omega
        | false =>
          have b6 := HD6.out.box
          have hA6 := HD6.out.up
          have KA : Hid (Cur cb ao len cap zs ((w6.alloc (.cells #[.int .i64 1, .int .i64 2, .int .i64 3, .int .i64 5, .int .i64 9] 3)).drew) ∧ (∀ j, j < [(1 : Int), 2, 3, 5, 9].length → ((w6.alloc (.cells #[.int .i64 1, .int .i64 2, .int .i64 3, .int .i64 5, .int .i64 9] 3)).drew).cell? ⟨w6.heap.size, j, none⟩ = some (.int .i64 ([(1 : Int), 2, 3, 5, 9].getD j 0))) ∧ ∀ w7, Drawn cb ao len cap zs ((w6.alloc (.cells #[.int .i64 1, .int .i64 2, .int .i64 3, .int .i64 5, .int .i64 9] 3)).drew) w7 → Dr cb ao len cap zs w w7 A0 g2 N cc2 ∧ ((w7.alloc (.cells #[.slice none 0 0] 26)).cell? ⟨A0, 0, none⟩ = some (.slice (some ⟨g2, 0, none⟩) N cc2)) ∧ w7.cell? ⟨A0, 0, none⟩ = some (.slice (some ⟨g2, 0, none⟩) N cc2)) := by
            have hb := ((Below.refl w6.heap.size w6).alloc (Nat.le_refl _) (.cells #[.int .i64 1, .int .i64 2, .int .i64 3, .int .i64 5, .int .i64 9] 3)).drew
            exact ⟨HD6.out.cur.below hb, news_ints w6 [1, 2, 3, 5, 9] _, fun w7 h => ⟨(HD6.out.quiet hb).call h, (by rw [World.cell?_alloc_lt (h := ((HD6.out.quiet hb).call h).up.1)]; exact ((HD6.out.quiet hb).call h).box), ((HD6.out.quiet hb).call h).box⟩⟩
          have KB : Hid (Cur cb ao len cap zs (((w6.alloc (.cells #[.slice none 0 0] 26)).alloc (.cells #[.int .i64 1, .int .i64 2, .int .i64 3, .int .i64 5, .int .i64 9] 3)).drew) ∧ (∀ j, j < [(1 : Int), 2, 3, 5, 9].length → (((w6.alloc (.cells #[.slice none 0 0] 26)).alloc (.cells #[.int .i64 1, .int .i64 2, .int .i64 3, .int .i64 5, .int .i64 9] 3)).drew).cell? ⟨w6.heap.size + 1, j, none⟩ = some (.int .i64 ([(1 : Int), 2, 3, 5, 9].getD j 0))) ∧ ∀ w7, Drawn cb ao len cap zs (((w6.alloc (.cells #[.slice none 0 0] 26)).alloc (.cells #[.int .i64 1, .int .i64 2, .int .i64 3, .int .i64 5, .int .i64 9] 3)).drew) w7 → Dr cb ao len cap zs w w7 A0 g2 N cc2 ∧ ((w7.alloc (.cells #[.slice none 0 0] 26)).cell? ⟨A0, 0, none⟩ = some (.slice (some ⟨g2, 0, none⟩) N cc2)) ∧ w7.cell? ⟨A0, 0, none⟩ = some (.slice (some ⟨g2, 0, none⟩) N cc2) ∧ w7.cell? ⟨w6.heap.size, 0, none⟩ = some (.slice none 0 0) ∧ w7.frozen? ⟨w6.heap.size, 0, none⟩ = false) := by
            have hb := (((Below.refl w6.heap.size w6).alloc (Nat.le_refl _) (.cells #[.slice none 0 0] 26)).alloc (by simp) (.cells #[.int .i64 1, .int .i64 2, .int .i64 3, .int .i64 5, .int .i64 9] 3)).drew
            have hcb6 := HD6.out.cb
            have hs6 := HD6.out.turn.size
            have hz : (w6.alloc (.cells #[.slice none 0 0] 26)).heap.size = w6.heap.size + 1 := World.size_alloc _ _
            have hb2 := ((Below.refl _ (w6.alloc (.cells #[.slice none 0 0] 26))).alloc (Nat.le_refl _) (.cells #[.int .i64 1, .int .i64 2, .int .i64 3, .int .i64 5, .int .i64 9] 3)).drew
            refine ⟨HD6.out.cur.below hb, ?_, fun w7 h => ⟨(HD6.out.quiet hb).call h, (by rw [World.cell?_alloc_lt (h := ((HD6.out.quiet hb).call h).up.1)]; exact ((HD6.out.quiet hb).call h).box), ((HD6.out.quiet hb).call h).box, ?_, ?_⟩⟩
            · have := news_ints (w6.alloc (.cells #[.slice none 0 0] 26)) [1, 2, 3, 5, 9] 3
              rw [hz] at this
              exact this
            · refine h.2.cell (by omega) ?_
              rw [hb2.cell (p := ⟨w6.heap.size, 0, none⟩) (by show w6.heap.size < _; omega)]
              exact World.cell?_alloc_new w6 _ _ 0
            · rw [h.2.frozen (b := w6.heap.size) (o := 0) (by omega) (by have := hb2.size; show w6.heap.size < _; omega), hb2.frozen (p := ⟨w6.heap.size, 0, none⟩) (by show w6.heap.size < _; omega)]
              exact World.frozen?_alloc_new w6 _ _ 0
          have KC : Hid (Cur cb ao len cap zs (((w6.alloc (.cells #[.int .i64 1, .int .i64 2, .int .i64 3, .int .i64 5, .int .i64 9] 3)).alloc (.cells #[.slice none 0 0] 26)).drew) ∧ (∀ j, j < [(1 : Int), 2, 3, 5, 9].length → (((w6.alloc (.cells #[.int .i64 1, .int .i64 2, .int .i64 3, .int .i64 5, .int .i64 9] 3)).alloc (.cells #[.slice none 0 0] 26)).drew).cell? ⟨w6.heap.size, j, none⟩ = some (.int .i64 ([(1 : Int), 2, 3, 5, 9].getD j 0))) ∧ ∀ w7, Drawn cb ao len cap zs (((w6.alloc (.cells #[.int .i64 1, .int .i64 2, .int .i64 3, .int .i64 5, .int .i64 9] 3)).alloc (.cells #[.slice none 0 0] 26)).drew) w7 → Dr cb ao len cap zs w w7 A0 g2 N cc2 ∧ ((w7.alloc (.cells #[.slice none 0 0] 26)).cell? ⟨A0, 0, none⟩ = some (.slice (some ⟨g2, 0, none⟩) N cc2)) ∧ w7.cell? ⟨A0, 0, none⟩ = some (.slice (some ⟨g2, 0, none⟩) N cc2) ∧ w7.cell? ⟨w6.heap.size + 1, 0, none⟩ = some (.slice none 0 0) ∧ w7.frozen? ⟨w6.heap.size + 1, 0, none⟩ = false) := by
            have hb := (((Below.refl w6.heap.size w6).alloc (Nat.le_refl _) (.cells #[.int .i64 1, .int .i64 2, .int .i64 3, .int .i64 5, .int .i64 9] 3)).alloc (by simp) (.cells #[.slice none 0 0] 26)).drew
            have hcb6 := HD6.out.cb
            have hs6 := HD6.out.turn.size
            have hz : (w6.alloc (.cells #[.int .i64 1, .int .i64 2, .int .i64 3, .int .i64 5, .int .i64 9] 3)).heap.size = w6.heap.size + 1 := World.size_alloc _ _
            have hz2 : ((w6.alloc (.cells #[.int .i64 1, .int .i64 2, .int .i64 3, .int .i64 5, .int .i64 9] 3)).alloc (.cells #[.slice none 0 0] 26)).drew.heap.size = w6.heap.size + 2 := by show ((w6.alloc (.cells #[.int .i64 1, .int .i64 2, .int .i64 3, .int .i64 5, .int .i64 9] 3)).alloc (.cells #[.slice none 0 0] 26)).heap.size = _; simp
            have hb2 := ((Below.refl _ (w6.alloc (.cells #[.int .i64 1, .int .i64 2, .int .i64 3, .int .i64 5, .int .i64 9] 3))).alloc (Nat.le_refl _) (.cells #[.slice none 0 0] 26)).drew
            have qn : (((w6.alloc (.cells #[.int .i64 1, .int .i64 2, .int .i64 3, .int .i64 5, .int .i64 9] 3)).alloc (.cells #[.slice none 0 0] 26)).drew).cell? ⟨w6.heap.size + 1, 0, none⟩ = some (.slice none 0 0) := by
              have := World.cell?_alloc_new (w6.alloc (.cells #[.int .i64 1, .int .i64 2, .int .i64 3, .int .i64 5, .int .i64 9] 3)) #[.slice none 0 0] 26 0
              rw [hz] at this
              exact this
            have fn : (((w6.alloc (.cells #[.int .i64 1, .int .i64 2, .int .i64 3, .int .i64 5, .int .i64 9] 3)).alloc (.cells #[.slice none 0 0] 26)).drew).frozen? ⟨w6.heap.size + 1, 0, none⟩ = false := by
              have := World.frozen?_alloc_new (w6.alloc (.cells #[.int .i64 1, .int .i64 2, .int .i64 3, .int .i64 5, .int .i64 9] 3)) #[.slice none 0 0] 26 0
              rw [hz] at this
              exact this
            refine ⟨HD6.out.cur.below hb, fun j hj => ?_, fun w7 h => ⟨(HD6.out.quiet hb).call h, (by rw [World.cell?_alloc_lt (h := ((HD6.out.quiet hb).call h).up.1)]; exact ((HD6.out.quiet hb).call h).box), ((HD6.out.quiet hb).call h).box, h.2.cell (by omega) qn, (h.2.frozen (b := w6.heap.size + 1) (o := 0) (by omega) (by omega)).trans fn⟩⟩
            rw [hb2.cell (p := ⟨w6.heap.size, j, none⟩) (by show w6.heap.size < _; omega)]
            exact news_ints w6 [1, 2, 3, 5, 9] _ j hj
          have hN3 : 1 ≤ N := by omega
          have hN4 : N ≤ 4000 := by omega
          have hne1 : w6.heap.size ≠ cb := by have h1 := HD6.out.cb; have h2 := HD6.out.turn.size; omega
          have hne2 : w6.heap.size + 1 ≠ cb := by have h1 := HD6.out.cb; have h2 := HD6.out.turn.size; omega
          have hl5 : 1 ≤ [(1 : Int), 2, 3, 5, 9].length := by simp
          have hl6 : [(1 : Int), 2, 3, 5, 9].length ≤ 256 := by simp
          have HNE : Hid (w6.heap.size ≠ cb ∧ w6.heap.size + 1 ≠ cb ∧ 1 ≤ [(1 : Int), 2, 3, 5, 9].length ∧ [(1 : Int), 2, 3, 5, 9].length ≤ 256) := ⟨hne1, hne2, hl5, hl6⟩
          have HX : Hid (w6.heap.size ≠ A0 ∧ w6.heap.size + 1 ≠ A0 ∧ w.heap.size < w6.heap.size ∧ g2 < w6.heap.size) := by have := HD6.out.up; have h2 := HD6.out.a1; exact ⟨by omega, by omega, by omega, by omega⟩
          have KL : Hid (∀ w7 (F : Nat → Int), WInts w7 g2 N F → Dr cb ao len cap zs w w7 A0 g2 N cc2 → ∀ j, j < N → (w7.alloc (.cells #[.slice none 0 0] 26)).cell? ⟨g2, 0 + j, none⟩ = some (.int .i64 (F j))) := fun w7 F hF d j hj => by
            rw [World.cell?_alloc_lt (h := by show g2 < _; exact d.up.2)]; exact hF.cell j hj
          have hlA : A0 < w6.heap.size := hA6.1
          have qa1 : (w6.alloc (.cells #[.int .i64 1, .int .i64 2, .int .i64 3, .int .i64 5, .int .i64 9] 3)).cell? ⟨A0, 0, none⟩ = some (.slice (some ⟨g2, 0, none⟩) N cc2) := by rw [World.cell?_alloc_lt (h := hlA)]; exact b6
          have qa2 : (w6.alloc (.cells #[.slice none 0 0] 26)).cell? ⟨A0, 0, none⟩ = some (.slice (some ⟨g2, 0, none⟩) N cc2) := by rw [World.cell?_alloc_lt (h := hlA)]; exact b6
          have qa3 : ((w6.alloc (.cells #[.int .i64 1, .int .i64 2, .int .i64 3, .int .i64 5, .int .i64 9] 3)).alloc (.cells #[.slice none 0 0] 26)).cell? ⟨A0, 0, none⟩ = some (.slice (some ⟨g2, 0, none⟩) N cc2) := by rw [World.cell?_alloc_lt (h := by show A0 < _; simp; omega)]; exact qa1
          have qa4 : ((w6.alloc (.cells #[.slice none 0 0] 26)).alloc (.cells #[.int .i64 1, .int .i64 2, .int .i64 3, .int .i64 5, .int .i64 9] 3)).cell? ⟨A0, 0, none⟩ = some (.slice (some ⟨g2, 0, none⟩) N cc2) := by rw [World.cell?_alloc_lt (h := by show A0 < _; simp; omega)]; exact qa2
          have na1 : ¬ A0 = w6.heap.size := by omega
          have na2 : ¬ A0 = w6.heap.size + 1 := by omega
          clear hne1 hne2 hl5 hl6 hA6
          go_wp2_with fail
          go_cut [6, 7, 8] from 15 to 58 (fun vb vp vc wx => ∃ (X g8 cc8 : Nat) (p8 c8 : Int), vb = .pointer (some ⟨X, 0, none⟩) ∧ vp = .int .i64 p8 ∧ vc = .int .i64 c8 ∧ Dr cb ao len cap zs w wx A0 g2 N cc2 ∧ Bx w wx A0 N X g8 cc8 p8 c8)
          case first =>
            go_region_law (go_simp; go_wp2_with (first
              | (go_at_call 43; first
                  | ((conv in (World.alloc (World.alloc w6 (.cells #[.slice none 0 0] 26)) (.cells #[.int .i64 1, .int .i64 2, .int .i64 3, .int .i64 5, .int .i64 9] 3)) => skip); refine (int_any cb ao len cap zs (((w6.alloc (.cells #[.slice none 0 0] 26)).alloc (.cells #[.int .i64 1, .int .i64 2, .int .i64 3, .int .i64 5, .int .i64 9] 3)).drew) KB.out.1 (w6.heap.size + 1) [1, 2, 3, 5, 9] HNE.out.2.1 HNE.out.2.2.1 HNE.out.2.2.2 KB.out.2.1).mono ?_; rintro e w7 ⟨y, rfl, hy, hd7⟩; obtain ⟨hdr7, na7, b7, x7, xf7⟩ := KB.out.2.2 w7 hd7; have HD7 : Hid (Dr cb ao len cap zs w w7 A0 g2 N cc2) := hdr7; have HX7 : Hid (w7.cell? ⟨w6.heap.size, 0, none⟩ = some (.slice none 0 0) ∧ w7.frozen? ⟨w6.heap.size, 0, none⟩ = false) := ⟨x7, xf7⟩; clear hy hd7 hdr7)
                  | ((conv in (World.alloc (World.alloc w6 (.cells #[.int .i64 1, .int .i64 2, .int .i64 3, .int .i64 5, .int .i64 9] 3)) (.cells #[.slice none 0 0] 26)) => skip); refine (int_any cb ao len cap zs (((w6.alloc (.cells #[.int .i64 1, .int .i64 2, .int .i64 3, .int .i64 5, .int .i64 9] 3)).alloc (.cells #[.slice none 0 0] 26)).drew) KC.out.1 w6.heap.size [1, 2, 3, 5, 9] HNE.out.1 HNE.out.2.2.1 HNE.out.2.2.2 KC.out.2.1).mono ?_; rintro e w7 ⟨y, rfl, hy, hd7⟩; obtain ⟨hdr7, na7, b7, x7, xf7⟩ := KC.out.2.2 w7 hd7; have HD7 : Hid (Dr cb ao len cap zs w w7 A0 g2 N cc2) := hdr7; have HX7 : Hid (w7.cell? ⟨w6.heap.size + 1, 0, none⟩ = some (.slice none 0 0) ∧ w7.frozen? ⟨w6.heap.size + 1, 0, none⟩ = false) := ⟨x7, xf7⟩; clear hy hd7 hdr7)
                  | (refine (int_any cb ao len cap zs ((w6.alloc (.cells #[.int .i64 1, .int .i64 2, .int .i64 3, .int .i64 5, .int .i64 9] 3)).drew) KA.out.1 w6.heap.size [1, 2, 3, 5, 9] HNE.out.1 HNE.out.2.2.1 HNE.out.2.2.2 KA.out.2.1).mono ?_; rintro e w7 ⟨y, rfl, hy, hd7⟩; obtain ⟨hdr7, na7, b7⟩ := KA.out.2.2 w7 hd7; have HD7 : Hid (Dr cb ao len cap zs w w7 A0 g2 N cc2) := hdr7; have HX7 : Hid (w7.cell? ⟨A0, 0, none⟩ = some (.slice (some ⟨g2, 0, none⟩) N cc2) ∧ w7.frozen? ⟨A0, 0, none⟩ = false) := ⟨b7, HD7.out.boxf⟩; clear hy hd7 hdr7))
              | (go_at_call 44; obtain ⟨F7, hF7⟩ := HD7.out.ints; first
                  | ((conv in (World.alloc w7 (.cells #[.slice none 0 0] 26)) => skip); refine (specAlloc_q g2 0 N cc2 F7 _ (w7.alloc (.cells #[.slice none 0 0] 26)) (KL.out w7 F7 hF7 HD7.out) hF7.whole hN3 hN4).mono ?_; rintro e w8 ⟨g8, cc8, p8, c8, rfl, hR, hcode⟩; have HR8 : Hid (AlQ (w7.alloc (.cells #[.slice none 0 0] 26)) w8 N g8 cc8 p8 c8) := hR; have HCODE : Hid (c8 = 0 → 0 ≤ p8 ∧ p8 + 2 < N) := hcode; obtain ⟨x8, xf8⟩ := keepN hR.below; clear hR hF7 hcode)
                  | (refine (specAlloc_q g2 0 N cc2 F7 _ w7 hF7.cell hF7.whole hN3 hN4).mono ?_; rintro e w8 ⟨g8, cc8, p8, c8, rfl, hR, hcode⟩; have HR8 : Hid (AlQ w7 w8 N g8 cc8 p8 c8) := hR; have HCODE : Hid (c8 = 0 → 0 ≤ p8 ∧ p8 + 2 < N) := hcode; obtain ⟨x8, xf8⟩ := keepB hR.below HX7.out; clear hR hF7 hcode))))
            all_goals
              go_wp2_with fail
              go_meet
              case rel =>
                refine ⟨_, g8, cc8, p8, c8, rfl, rfl, rfl, ?_⟩
                have hX := HX.out
                first
                  | exact fin_set HD7.out HR8.out ⟨_, HX7.out.1⟩ (by omega) (by omega) (by omega) HCODE.out
                  | exact fin_set (HD7.out.quiet ((Below.refl _ _).alloc (Nat.le_refl _) (.cells #[.slice none 0 0] 26))) HR8.out ⟨_, World.cell?_alloc_new w7 _ _ 0⟩ (Nat.ne_of_gt HD7.out.up.1) (Nat.ne_of_lt HD7.out.up.2) (Nat.lt_trans HD7.out.a1 HD7.out.up.1) HCODE.out
                  | exact fin_new HD7.out HR8.out HCODE.out
          case rest =>
            obtain ⟨X, g8, cc8, p8, c8, rfl, rfl, rfl, hdr, hbx⟩ := hcut
            have HDc : Hid (Dr cb ao len cap zs w wc A0 g2 N cc2) := hdr
            have HBc : Hid (Bx w wc A0 N X g8 cc8 p8 c8) := hbx
            clear hdr hbx
            by_cases hc8 : c8 = 0
            · subst hc8
              obtain ⟨hp0, hp1⟩ := HBc.out.at' rfl
              obtain ⟨q, rfl⟩ : ∃ q : Nat, p8 = q := ⟨p8.toNat, by omega⟩
              have bX := HBc.out.box
              have V1 : IntKind.i64.wrap ((q : Int) + 2) = (q : Int) + 2 := by rw [IntKind.wrap_i64]; omega
              have V2 : ((q : Int) + 2).toNat = q + 2 := by omega
              have hq : q + 2 < N := by omega
              have KD : Hid (∀ w9, Drawn cb ao len cap zs wc.drew w9 → Dr cb ao len cap zs w w9 A0 g2 N cc2 ∧ Bx w w9 A0 N X g8 cc8 q 0 ∧ (∃ y, w9.cell? ⟨g8, q + 2, none⟩ = some (.int .i64 y)) ∧ (∀ o, w9.frozen? ⟨g8, o, none⟩ = false) ∧ w9.cell? ⟨X, 0, none⟩ = some (.slice (some ⟨g8, 0, none⟩) N cc8)) := fun w9 h => by
                have hd9 := HDc.out.call h.drew
                have hb9 := HBc.out.call HDc.out h.drew
                obtain ⟨F, hF, _⟩ := hb9.ints
                exact ⟨hd9, hb9, ⟨_, by have := hF.cell (q + 2) hq; rw [Nat.zero_add] at this; exact this⟩, hF.free, hb9.box⟩
              have H50 : Hid ((1 : Int) ≤ 50 ∧ (50 : Int) ≤ 256) := ⟨by decide, by decide⟩
              clear hp0 hp1
              go_wp2_with fail
              go_region_with (go_at_call 54; refine (below_any cb ao len cap zs _ ?_ 50 ?_ ?_).mono ?_; exact HDc.out.cur.drew; exact H50.out.1; exact H50.out.2; rintro e w9 ⟨y, rfl, hy0, hy1, hd9⟩; obtain ⟨hdr9, hbx9, ⟨z9, c9⟩, f9, b9⟩ := KD.out w9 hd9; have HD9 : Hid (Dr cb ao len cap zs w w9 A0 g2 N cc2) := hdr9; have HB9 : Hid (Bx w w9 A0 N X g8 cc8 q 0) := hbx9; clear hy0 hy1 hd9 hdr9 hbx9)
              all_goals
                obtain ⟨⟨x10, ⟨v10, a10⟩, f10⟩, hd11⟩ := fin_b (q := q) (y := y) HD9.out HB9.out hq rfl rfl
                have HD11 : Hid (Dr cb ao len cap zs w ((w9.setCell ⟨g8, q + 2, none⟩ (.int .i64 y)).setCell ⟨A0, 0, none⟩ (.slice (some ⟨g8, 0, none⟩) N cc8)) A0 g8 N cc8) := hd11
                clear hd11 c9 f9 b9 bX
                generalize w9.setCell ⟨g8, q + 2, none⟩ (.int .i64 y) = w10 at *
                go_wp2_with fail
                go_roundw
                case rel => exact ⟨m - 1, g8, cc8, by omega, by congr 1; omega, HD11.out⟩
                case measure => simp [intOf]; omega
            · have hc8' : (c8 == 0) = false := by simpa using hc8
              go_wp2_with fail
              go_roundw
              case rel => exact ⟨m - 1, g2, cc2, by omega, by congr 1; omega, HDc.out⟩
              case measure => simp [intOf]; omega
      · have V1 : ¬ (0 : Int) < (L : Int) := by omega
        obtain ⟨w6, rfl⟩ : ∃ w6 : World, w6 = w5 := ⟨_, rfl⟩
        have HD6 : Hid (Dr cb ao len cap zs w w6 A0 g2 N cc2) := HD5.out
        clear HD5 HL5
        have b6 := HD6.out.box
        have hA6 := HD6.out.up
        have KA : Hid (Cur cb ao len cap zs ((w6.alloc (.cells #[.int .i64 1, .int .i64 2, .int .i64 3, .int .i64 5, .int .i64 9] 3)).drew) ∧ (∀ j, j < [(1 : Int), 2, 3, 5, 9].length → ((w6.alloc (.cells #[.int .i64 1, .int .i64 2, .int .i64 3, .int .i64 5, .int .i64 9] 3)).drew).cell? ⟨w6.heap.size, j, none⟩ = some (.int .i64 ([(1 : Int), 2, 3, 5, 9].getD j 0))) ∧ ∀ w7, Drawn cb ao len cap zs ((w6.alloc (.cells #[.int .i64 1, .int .i64 2, .int .i64 3, .int .i64 5, .int .i64 9] 3)).drew) w7 → Dr cb ao len cap zs w w7 A0 g2 N cc2 ∧ ((w7.alloc (.cells #[.slice none 0 0] 26)).cell? ⟨A0, 0, none⟩ = some (.slice (some ⟨g2, 0, none⟩) N cc2)) ∧ w7.cell? ⟨A0, 0, none⟩ = some (.slice (some ⟨g2, 0, none⟩) N cc2)) := by
          have hb := ((Below.refl w6.heap.size w6).alloc (Nat.le_refl _) (.cells #[.int .i64 1, .int .i64 2, .int .i64 3, .int .i64 5, .int .i64 9] 3)).drew
          exact ⟨HD6.out.cur.below hb, news_ints w6 [1, 2, 3, 5, 9] _, fun w7 h => ⟨(HD6.out.quiet hb).call h, (by rw [World.cell?_alloc_lt (h := ((HD6.out.quiet hb).call h).up.1)]; exact ((HD6.out.quiet hb).call h).box), ((HD6.out.quiet hb).call h).box⟩⟩
        have KB : Hid (Cur cb ao len cap zs (((w6.alloc (.cells #[.slice none 0 0] 26)).alloc (.cells #[.int .i64 1, .int .i64 2, .int .i64 3, .int .i64 5, .int .i64 9] 3)).drew) ∧ (∀ j, j < [(1 : Int), 2, 3, 5, 9].length → (((w6.alloc (.cells #[.slice none 0 0] 26)).alloc (.cells #[.int .i64 1, .int .i64 2, .int .i64 3, .int .i64 5, .int .i64 9] 3)).drew).cell? ⟨w6.heap.size + 1, j, none⟩ = some (.int .i64 ([(1 : Int), 2, 3, 5, 9].getD j 0))) ∧ ∀ w7, Drawn cb ao len cap zs (((w6.alloc (.cells #[.slice none 0 0] 26)).alloc (.cells #[.int .i64 1, .int .i64 2, .int .i64 3, .int .i64 5, .int .i64 9] 3)).drew) w7 → Dr cb ao len cap zs w w7 A0 g2 N cc2 ∧ ((w7.alloc (.cells #[.slice none 0 0] 26)).cell? ⟨A0, 0, none⟩ = some (.slice (some ⟨g2, 0, none⟩) N cc2)) ∧ w7.cell? ⟨A0, 0, none⟩ = some (.slice (some ⟨g2, 0, none⟩) N cc2) ∧ w7.cell? ⟨w6.heap.size, 0, none⟩ = some (.slice none 0 0) ∧ w7.frozen? ⟨w6.heap.size, 0, none⟩ = false) := by
          have hb := (((Below.refl w6.heap.size w6).alloc (Nat.le_refl _) (.cells #[.slice none 0 0] 26)).alloc (by simp) (.cells #[.int .i64 1, .int .i64 2, .int .i64 3, .int .i64 5, .int .i64 9] 3)).drew
          have hcb6 := HD6.out.cb
          have hs6 := HD6.out.turn.size
          have hz : (w6.alloc (.cells #[.slice none 0 0] 26)).heap.size = w6.heap.size + 1 := World.size_alloc _ _
          have hb2 := ((Below.refl _ (w6.alloc (.cells #[.slice none 0 0] 26))).alloc (Nat.le_refl _) (.cells #[.int .i64 1, .int .i64 2, .int .i64 3, .int .i64 5, .int .i64 9] 3)).drew
          refine ⟨HD6.out.cur.below hb, ?_, fun w7 h => ⟨(HD6.out.quiet hb).call h, (by rw [World.cell?_alloc_lt (h := ((HD6.out.quiet hb).call h).up.1)]; exact ((HD6.out.quiet hb).call h).box), ((HD6.out.quiet hb).call h).box, ?_, ?_⟩⟩
          · have := news_ints (w6.alloc (.cells #[.slice none 0 0] 26)) [1, 2, 3, 5, 9] 3
            rw [hz] at this
            exact this
          · refine h.2.cell (by omega) ?_
            rw [hb2.cell (p := ⟨w6.heap.size, 0, none⟩) (by show w6.heap.size < _; omega)]
            exact World.cell?_alloc_new w6 _ _ 0
          · rw [h.2.frozen (b := w6.heap.size) (o := 0) (by omega) (by have := hb2.size; show w6.heap.size < _; omega), hb2.frozen (p := ⟨w6.heap.size, 0, none⟩) (by show w6.heap.size < _; omega)]
            exact World.frozen?_alloc_new w6 _ _ 0
        have KC : Hid (Cur cb ao len cap zs (((w6.alloc (.cells #[.int .i64 1, .int .i64 2, .int .i64 3, .int .i64 5, .int .i64 9] 3)).alloc (.cells #[.slice none 0 0] 26)).drew) ∧ (∀ j, j < [(1 : Int), 2, 3, 5, 9].length → (((w6.alloc (.cells #[.int .i64 1, .int .i64 2, .int .i64 3, .int .i64 5, .int .i64 9] 3)).alloc (.cells #[.slice none 0 0] 26)).drew).cell? ⟨w6.heap.size, j, none⟩ = some (.int .i64 ([(1 : Int), 2, 3, 5, 9].getD j 0))) ∧ ∀ w7, Drawn cb ao len cap zs (((w6.alloc (.cells #[.int .i64 1, .int .i64 2, .int .i64 3, .int .i64 5, .int .i64 9] 3)).alloc (.cells #[.slice none 0 0] 26)).drew) w7 → Dr cb ao len cap zs w w7 A0 g2 N cc2 ∧ ((w7.alloc (.cells #[.slice none 0 0] 26)).cell? ⟨A0, 0, none⟩ = some (.slice (some ⟨g2, 0, none⟩) N cc2)) ∧ w7.cell? ⟨A0, 0, none⟩ = some (.slice (some ⟨g2, 0, none⟩) N cc2) ∧ w7.cell? ⟨w6.heap.size + 1, 0, none⟩ = some (.slice none 0 0) ∧ w7.frozen? ⟨w6.heap.size + 1, 0, none⟩ = false) := by
          have hb := (((Below.refl w6.heap.size w6).alloc (Nat.le_refl _) (.cells #[.int .i64 1, .int .i64 2, .int .i64 3, .int .i64 5, .int .i64 9] 3)).alloc (by simp) (.cells #[.slice none 0 0] 26)).drew
          have hcb6 := HD6.out.cb
          have hs6 := HD6.out.turn.size
          have hz : (w6.alloc (.cells #[.int .i64 1, .int .i64 2, .int .i64 3, .int .i64 5, .int .i64 9] 3)).heap.size = w6.heap.size + 1 := World.size_alloc _ _
          have hz2 : ((w6.alloc (.cells #[.int .i64 1, .int .i64 2, .int .i64 3, .int .i64 5, .int .i64 9] 3)).alloc (.cells #[.slice none 0 0] 26)).drew.heap.size = w6.heap.size + 2 := by show ((w6.alloc (.cells #[.int .i64 1, .int .i64 2, .int .i64 3, .int .i64 5, .int .i64 9] 3)).alloc (.cells #[.slice none 0 0] 26)).heap.size = _; simp
          have hb2 := ((Below.refl _ (w6.alloc (.cells #[.int .i64 1, .int .i64 2, .int .i64 3, .int .i64 5, .int .i64 9] 3))).alloc (Nat.le_refl _) (.cells #[.slice none 0 0] 26)).drew
          have qn : (((w6.alloc (.cells #[.int .i64 1, .int .i64 2, .int .i64 3, .int .i64 5, .int .i64 9] 3)).alloc (.cells #[.slice none 0 0] 26)).drew).cell? ⟨w6.heap.size + 1, 0, none⟩ = some (.slice none 0 0) := by
            have := World.cell?_alloc_new (w6.alloc (.cells #[.int .i64 1, .int .i64 2, .int .i64 3, .int .i64 5, .int .i64 9] 3)) #[.slice none 0 0] 26 0
            rw [hz] at this
            exact this
          have fn : (((w6.alloc (.cells #[.int .i64 1, .int .i64 2, .int .i64 3, .int .i64 5, .int .i64 9] 3)).alloc (.cells #[.slice none 0 0] 26)).drew).frozen? ⟨w6.heap.size + 1, 0, none⟩ = false := by
            have := World.frozen?_alloc_new (w6.alloc (.cells #[.int .i64 1, .int .i64 2, .int .i64 3, .int .i64 5, .int .i64 9] 3)) #[.slice none 0 0] 26 0
            rw [hz] at this
            exact this
          refine ⟨HD6.out.cur.below hb, fun j hj => ?_, fun w7 h => ⟨(HD6.out.quiet hb).call h, (by rw [World.cell?_alloc_lt (h := ((HD6.out.quiet hb).call h).up.1)]; exact ((HD6.out.quiet hb).call h).box), ((HD6.out.quiet hb).call h).box, h.2.cell (by omega) qn, (h.2.frozen (b := w6.heap.size + 1) (o := 0) (by omega) (by omega)).trans fn⟩⟩
          rw [hb2.cell (p := ⟨w6.heap.size, j, none⟩) (by show w6.heap.size < _; omega)]
          exact news_ints w6 [1, 2, 3, 5, 9] _ j hj
        have hN3 : 1 ≤ N := by omega
        have hN4 : N ≤ 4000 := by omega
        have hne1 : w6.heap.size ≠ cb := by have h1 := HD6.out.cb; have h2 := HD6.out.turn.size; omega
        have hne2 : w6.heap.size + 1 ≠ cb := by have h1 := HD6.out.cb; have h2 := HD6.out.turn.size; omega
        have hl5 : 1 ≤ [(1 : Int), 2, 3, 5, 9].length := by simp
        have hl6 : [(1 : Int), 2, 3, 5, 9].length ≤ 256 := by simp
        have HNE : Hid (w6.heap.size ≠ cb ∧ w6.heap.size + 1 ≠ cb ∧ 1 ≤ [(1 : Int), 2, 3, 5, 9].length ∧ [(1 : Int), 2, 3, 5, 9].length ≤ 256) := ⟨hne1, hne2, hl5, hl6⟩
        have HX : Hid (w6.heap.size ≠ A0 ∧ w6.heap.size + 1 ≠ A0 ∧ w.heap.size < w6.heap.size ∧ g2 < w6.heap.size) := by have := HD6.out.up; have h2 := HD6.out.a1; exact ⟨by omega, by omega, by omega, by omega⟩
        have KL : Hid (∀ w7 (F : Nat → Int), WInts w7 g2 N F → Dr cb ao len cap zs w w7 A0 g2 N cc2 → ∀ j, j < N → (w7.alloc (.cells #[.slice none 0 0] 26)).cell? ⟨g2, 0 + j, none⟩ = some (.int .i64 (F j))) := fun w7 F hF d j hj => by
          rw [World.cell?_alloc_lt (h := by show g2 < _; exact d.up.2)]; exact hF.cell j hj
        have hlA : A0 < w6.heap.size := hA6.1
        have qa1 : (w6.alloc (.cells #[.int .i64 1, .int .i64 2, .int .i64 3, .int .i64 5, .int .i64 9] 3)).cell? ⟨A0, 0, none⟩ = some (.slice (some ⟨g2, 0, none⟩) N cc2) := by rw [World.cell?_alloc_lt (h := hlA)]; exact b6
        have qa2 : (w6.alloc (.cells #[.slice none 0 0] 26)).cell? ⟨A0, 0, none⟩ = some (.slice (some ⟨g2, 0, none⟩) N cc2) := by rw [World.cell?_alloc_lt (h := hlA)]; exact b6
        have qa3 : ((w6.alloc (.cells #[.int .i64 1, .int .i64 2, .int .i64 3, .int .i64 5, .int .i64 9] 3)).alloc (.cells #[.slice none 0 0] 26)).cell? ⟨A0, 0, none⟩ = some (.slice (some ⟨g2, 0, none⟩) N cc2) := by rw [World.cell?_alloc_lt (h := by show A0 < _; simp; omega)]; exact qa1
        have qa4 : ((w6.alloc (.cells #[.slice none 0 0] 26)).alloc (.cells #[.int .i64 1, .int .i64 2, .int .i64 3, .int .i64 5, .int .i64 9] 3)).cell? ⟨A0, 0, none⟩ = some (.slice (some ⟨g2, 0, none⟩) N cc2) := by rw [World.cell?_alloc_lt (h := by show A0 < _; simp; omega)]; exact qa2
        have na1 : ¬ A0 = w6.heap.size := by omega
        have na2 : ¬ A0 = w6.heap.size + 1 := by omega
        clear hne1 hne2 hl5 hl6 hA6
        go_wp2_with fail
        go_cut [6, 7, 8] from 15 to 58 (fun vb vp vc wx => ∃ (X g8 cc8 : Nat) (p8 c8 : Int), vb = .pointer (some ⟨X, 0, none⟩) ∧ vp = .int .i64 p8 ∧ vc = .int .i64 c8 ∧ Dr cb ao len cap zs w wx A0 g2 N cc2 ∧ Bx w wx A0 N X g8 cc8 p8 c8)
        case first =>
          go_region_law (go_simp; go_wp2_with (first
            | (go_at_call 43; first
                | ((conv in (World.alloc (World.alloc w6 (.cells #[.slice none 0 0] 26)) (.cells #[.int .i64 1, .int .i64 2, .int .i64 3, .int .i64 5, .int .i64 9] 3)) => skip); refine (int_any cb ao len cap zs (((w6.alloc (.cells #[.slice none 0 0] 26)).alloc (.cells #[.int .i64 1, .int .i64 2, .int .i64 3, .int .i64 5, .int .i64 9] 3)).drew) KB.out.1 (w6.heap.size + 1) [1, 2, 3, 5, 9] HNE.out.2.1 HNE.out.2.2.1 HNE.out.2.2.2 KB.out.2.1).mono ?_; rintro e w7 ⟨y, rfl, hy, hd7⟩; obtain ⟨hdr7, na7, b7, x7, xf7⟩ := KB.out.2.2 w7 hd7; have HD7 : Hid (Dr cb ao len cap zs w w7 A0 g2 N cc2) := hdr7; have HX7 : Hid (w7.cell? ⟨w6.heap.size, 0, none⟩ = some (.slice none 0 0) ∧ w7.frozen? ⟨w6.heap.size, 0, none⟩ = false) := ⟨x7, xf7⟩; clear hy hd7 hdr7)
                | ((conv in (World.alloc (World.alloc w6 (.cells #[.int .i64 1, .int .i64 2, .int .i64 3, .int .i64 5, .int .i64 9] 3)) (.cells #[.slice none 0 0] 26)) => skip); refine (int_any cb ao len cap zs (((w6.alloc (.cells #[.int .i64 1, .int .i64 2, .int .i64 3, .int .i64 5, .int .i64 9] 3)).alloc (.cells #[.slice none 0 0] 26)).drew) KC.out.1 w6.heap.size [1, 2, 3, 5, 9] HNE.out.1 HNE.out.2.2.1 HNE.out.2.2.2 KC.out.2.1).mono ?_; rintro e w7 ⟨y, rfl, hy, hd7⟩; obtain ⟨hdr7, na7, b7, x7, xf7⟩ := KC.out.2.2 w7 hd7; have HD7 : Hid (Dr cb ao len cap zs w w7 A0 g2 N cc2) := hdr7; have HX7 : Hid (w7.cell? ⟨w6.heap.size + 1, 0, none⟩ = some (.slice none 0 0) ∧ w7.frozen? ⟨w6.heap.size + 1, 0, none⟩ = false) := ⟨x7, xf7⟩; clear hy hd7 hdr7)
                | (refine (int_any cb ao len cap zs ((w6.alloc (.cells #[.int .i64 1, .int .i64 2, .int .i64 3, .int .i64 5, .int .i64 9] 3)).drew) KA.out.1 w6.heap.size [1, 2, 3, 5, 9] HNE.out.1 HNE.out.2.2.1 HNE.out.2.2.2 KA.out.2.1).mono ?_; rintro e w7 ⟨y, rfl, hy, hd7⟩; obtain ⟨hdr7, na7, b7⟩ := KA.out.2.2 w7 hd7; have HD7 : Hid (Dr cb ao len cap zs w w7 A0 g2 N cc2) := hdr7; have HX7 : Hid (w7.cell? ⟨A0, 0, none⟩ = some (.slice (some ⟨g2, 0, none⟩) N cc2) ∧ w7.frozen? ⟨A0, 0, none⟩ = false) := ⟨b7, HD7.out.boxf⟩; clear hy hd7 hdr7))
            | (go_at_call 44; obtain ⟨F7, hF7⟩ := HD7.out.ints; first
                | ((conv in (World.alloc w7 (.cells #[.slice none 0 0] 26)) => skip); refine (specAlloc_q g2 0 N cc2 F7 _ (w7.alloc (.cells #[.slice none 0 0] 26)) (KL.out w7 F7 hF7 HD7.out) hF7.whole hN3 hN4).mono ?_; rintro e w8 ⟨g8, cc8, p8, c8, rfl, hR, hcode⟩; have HR8 : Hid (AlQ (w7.alloc (.cells #[.slice none 0 0] 26)) w8 N g8 cc8 p8 c8) := hR; have HCODE : Hid (c8 = 0 → 0 ≤ p8 ∧ p8 + 2 < N) := hcode; obtain ⟨x8, xf8⟩ := keepN hR.below; clear hR hF7 hcode)
                | (refine (specAlloc_q g2 0 N cc2 F7 _ w7 hF7.cell hF7.whole hN3 hN4).mono ?_; rintro e w8 ⟨g8, cc8, p8, c8, rfl, hR, hcode⟩; have HR8 : Hid (AlQ w7 w8 N g8 cc8 p8 c8) := hR; have HCODE : Hid (c8 = 0 → 0 ≤ p8 ∧ p8 + 2 < N) := hcode; obtain ⟨x8, xf8⟩ := keepB hR.below HX7.out; clear hR hF7 hcode))))
          all_goals
            go_wp2_with fail
            go_meet
            case rel =>
              refine ⟨_, g8, cc8, p8, c8, rfl, rfl, rfl, ?_⟩
              have hX := HX.out
              first
                | exact fin_set HD7.out HR8.out ⟨_, HX7.out.1⟩ (by omega) (by omega) (by omega) HCODE.out
                | exact fin_set (HD7.out.quiet ((Below.refl _ _).alloc (Nat.le_refl _) (.cells #[.slice none 0 0] 26))) HR8.out ⟨_, World.cell?_alloc_new w7 _ _ 0⟩ (Nat.ne_of_gt HD7.out.up.1) (Nat.ne_of_lt HD7.out.up.2) (Nat.lt_trans HD7.out.a1 HD7.out.up.1) HCODE.out
                | exact fin_new HD7.out HR8.out HCODE.out
        case rest =>
          obtain ⟨X, g8, cc8, p8, c8, rfl, rfl, rfl, hdr, hbx⟩ := hcut
          have HDc : Hid (Dr cb ao len cap zs w wc A0 g2 N cc2) := hdr
          have HBc : Hid (Bx w wc A0 N X g8 cc8 p8 c8) := hbx
          clear hdr hbx
          by_cases hc8 : c8 = 0
          · subst hc8
            obtain ⟨hp0, hp1⟩ := HBc.out.at' rfl
            obtain ⟨q, rfl⟩ : ∃ q : Nat, p8 = q := ⟨p8.toNat, by omega⟩
            have bX := HBc.out.box
            have V1 : IntKind.i64.wrap ((q : Int) + 2) = (q : Int) + 2 := by rw [IntKind.wrap_i64]; omega
            have V2 : ((q : Int) + 2).toNat = q + 2 := by omega
            have hq : q + 2 < N := by omega
            have KD : Hid (∀ w9, Drawn cb ao len cap zs wc.drew w9 → Dr cb ao len cap zs w w9 A0 g2 N cc2 ∧ Bx w w9 A0 N X g8 cc8 q 0 ∧ (∃ y, w9.cell? ⟨g8, q + 2, none⟩ = some (.int .i64 y)) ∧ (∀ o, w9.frozen? ⟨g8, o, none⟩ = false) ∧ w9.cell? ⟨X, 0, none⟩ = some (.slice (some ⟨g8, 0, none⟩) N cc8)) := fun w9 h => by
              have hd9 := HDc.out.call h.drew
              have hb9 := HBc.out.call HDc.out h.drew
              obtain ⟨F, hF, _⟩ := hb9.ints
              exact ⟨hd9, hb9, ⟨_, by have := hF.cell (q + 2) hq; rw [Nat.zero_add] at this; exact this⟩, hF.free, hb9.box⟩
            have H50 : Hid ((1 : Int) ≤ 50 ∧ (50 : Int) ≤ 256) := ⟨by decide, by decide⟩
            clear hp0 hp1
            go_wp2_with fail
            go_region_with (go_at_call 54; refine (below_any cb ao len cap zs _ ?_ 50 ?_ ?_).mono ?_; exact HDc.out.cur.drew; exact H50.out.1; exact H50.out.2; rintro e w9 ⟨y, rfl, hy0, hy1, hd9⟩; obtain ⟨hdr9, hbx9, ⟨z9, c9⟩, f9, b9⟩ := KD.out w9 hd9; have HD9 : Hid (Dr cb ao len cap zs w w9 A0 g2 N cc2) := hdr9; have HB9 : Hid (Bx w w9 A0 N X g8 cc8 q 0) := hbx9; clear hy0 hy1 hd9 hdr9 hbx9)
            all_goals
              obtain ⟨⟨x10, ⟨v10, a10⟩, f10⟩, hd11⟩ := fin_b (q := q) (y := y) HD9.out HB9.out hq rfl rfl
              have HD11 : Hid (Dr cb ao len cap zs w ((w9.setCell ⟨g8, q + 2, none⟩ (.int .i64 y)).setCell ⟨A0, 0, none⟩ (.slice (some ⟨g8, 0, none⟩) N cc8)) A0 g8 N cc8) := hd11
              clear hd11 c9 f9 b9 bX
              generalize w9.setCell ⟨g8, q + 2, none⟩ (.int .i64 y) = w10 at *
              go_wp2_with fail
              go_roundw
              case rel => exact ⟨m - 1, g8, cc8, by omega, by congr 1; omega, HD11.out⟩
              case measure => simp [intOf]; omega
          · have hc8' : (c8 == 0) = false := by simpa using hc8
            go_wp2_with fail
            go_roundw
            case rel => exact ⟨m - 1, g2, cc2, by omega, by congr 1; omega, HDc.out⟩
            case measure => simp [intOf]; omega
    · have q1 := HD.out.res
      have f1 := HD.out.resf
      go_wp2_with fail
      refine bodyPost_ret (v := .agg #[.slice (some ⟨g2, 0, none⟩) N cc2]) (by simp [results, Try.results60, go_sem, q1]) rfl ⟨g2, N, cc2, rfl, hN1, hN2, HD.out.hcc, by have := HD.out.g1; omega, ?_⟩
      exact HD.out.fin _
end Go.Proofs.Ytmongbpdbcbhlaa
