/-
  Actors in memory; the laws' own functions on them: measure, copy, comparison.
-/
import Derived.Test.YtjibnlpjpbileaaGreatDoorAcB
namespace Go.Proofs.YtjibnlpjpbileaaGreatDoor
open Go.RowKit Atom
set_option linter.unusedVariables false

structure Ac where
  pid : Int
  pc : Int
  regs : List Tm
  box : List Tm
  N : Nat
  f : Nat → Int
/-- Where the three lists of an actor stand. -/
structure Wh where
  ra : Option Addr
  rc : Nat
  ba : Option Addr
  bc : Nat
  la : Option Addr
  lc : Nat
structure AcR (w : World) (a : Ac) (h : Wh) : Prop where
  regs : RepL 0 w a.regs h.ra
  box : RepL 0 w a.box h.ba
  links : RdI w h.la a.N a.f
  r1 : a.regs.length ≤ h.rc
  r2 : h.rc ≤ maxLen
  b1 : a.box.length ≤ h.bc
  b2 : h.bc ≤ maxLen
  l1 : a.N ≤ h.lc
  l2 : h.lc ≤ maxLen
abbrev acV (a : Ac) (h : Wh) : Value := .agg #[.int .i64 a.pid, .int .i64 a.pc, .slice h.ra a.regs.length h.rc, .slice h.ba a.box.length h.bc, .slice h.la a.N h.lc]
theorem AcR.below {w w' : World} {a : Ac} {h : Wh} (x : AcR w a h) (hb : Below w.heap.size w w') : AcR w' a h :=
  ⟨(Keeps.below hb 0).repL _ _ x.regs, (Keeps.below hb 0).repL _ _ x.box, x.links.below hb, x.r1, x.r2, x.b1, x.b2, x.l1, x.l2⟩

theorem keepA {w w' : World} (h : Below w.heap.size w w') {b o : Nat} {v : Value} (hc : w.cell? ⟨b, o, none⟩ = some v) : w'.cell? ⟨b, o, none⟩ = some v := by
  rw [h.cell (p := ⟨b, o, none⟩) (World.block_lt_of_cell? w _ hc)]; exact hc
def zL (l : List Tm) (left : Int) : Int := if left - l.length < 0 then -1 else szGo l (left - l.length)
theorem zL_le (l : List Tm) (a : Int) (h : 0 ≤ a) : -1 ≤ zL l a ∧ zL l a ≤ a := by
  unfold zL
  split
  · omega
  · have := szGo_le l (a - l.length) (by omega); omega
theorem szGo_small : ∀ (l : List Tm) (a : Int), 0 ≤ a → a ≤ 1048576 → 0 ≤ szGo l a → ∀ t ∈ l, SmallT t
  | [], _, _, _, _, t, ht => by cases ht
  | x :: r, a, h0, h1, h2, t, ht => by
    rw [szGo] at h2
    have hx := szT_le x a h0
    split at h2
    · omega
    · rcases List.mem_cons.1 ht with rfl | ht
      · exact sz_small t a h0 h1 (by omega)
      · exact szGo_small r (szT x a) (by omega) (by omega) h2 t ht
def SmL (l : List Tm) : Prop := l.length ≤ 1048576 ∧ ∀ t ∈ l, SmallT t
theorem zL_small {l : List Tm} {a : Int} (h0 : 0 ≤ a) (h1 : a ≤ 1048576) (h2 : 0 ≤ zL l a) : SmL l := by
  unfold zL at h2
  split at h2
  · omega
  · exact ⟨by omega, szGo_small l (a - l.length) (by omega) (by omega) h2⟩
theorem szL_any (l : List Tm) (ao : Option Addr) (cap : Nat) (left : Int) (w : World) (hr : RepL 0 w l ao) (hl : l.length ≤ cap) (hc : cap ≤ maxLen) (h0 : 0 ≤ left) (h1 : left ≤ 1048576) :
    Calls Tryz.prog 26 #[.slice ao l.length cap, .int .i64 left] w fun e w' => e = .returned (.int .i64 (zL l left)) ∧ Below w.heap.size w w' :=
  szS_of l (fun t _ => szT_all t) 0 w ao cap left hr hl hc h0 h1
theorem toL_any (l : List Tm) (ao : Option Addr) (cap : Nat) (w : World) (hr : RepL 0 w l ao) (hl : l.length ≤ cap) (hc : cap ≤ maxLen) (hs : SmL l) :
    Calls Tryz.prog 31 #[.slice ao l.length cap] w fun e w' => ∃ ao', e = .returned (.slice ao' l.length l.length) ∧ Below w.heap.size w w' ∧ RepL w.heap.size w' l ao' :=
  toS_of l hs.1 (fun t ht => toT_all t (hs.2 t ht)) 0 w ao cap hr hl hc
theorem eqL_any (l : List Tm) (ao bo : Option Addr) (cap cap' : Nat) (w : World) (hr : RepL 0 w l ao) (hr' : RepL 0 w l bo) (h1 : l.length ≤ cap) (h2 : cap ≤ maxLen) (h3 : l.length ≤ cap') (h4 : cap' ≤ maxLen) :
    Calls Tryz.prog 40 #[.slice ao l.length cap, .slice bo l.length cap'] w fun e w' => e = .returned (.bool true) ∧ Below w.heap.size w w' :=
  eqS_of l (fun t _ => eqT_all t) 0 w ao bo cap cap' hr hr' h1 h2 h3 h4

/-- What is within limits. -/
def AcS (a : Ac) : Prop := SmL a.regs ∧ SmL a.box ∧ a.N ≤ 1048576

set_option maxHeartbeats 1000000 in
set_option maxRecDepth 100000 in
theorem szActor_any (a : Ac) (h : Wh) (left : Int) (w : World) (hr : AcR w a h) (h0 : 0 ≤ left) (h1 : left ≤ 1048576) :
    Calls Tryz.prog 83 #[acV a h, .int .i64 left] w fun e w' => (∃ r : Int, e = .returned (.int .i64 r) ∧ r ≤ 1048576 ∧ (0 ≤ r → AcS a)) ∧ Below w.heap.size w w' := by
  obtain ⟨pid, pc, regs, box, N, f⟩ := a
  obtain ⟨ra, rc, ba, bc, la, lc⟩ := h
  have HR : Hid (AcR w ⟨pid, pc, regs, box, N, f⟩ ⟨ra, rc, ba, bc, la, lc⟩) := hr
  have hn := Nat.le_trans hr.l1 hr.l2
  have HN : Hid (N ≤ maxLen) := hn
  clear hr hn
  obtain ⟨w0, hw0⟩ : ∃ w0, w0 = w.alloc (.cells #[.int .i64 pid, .int .i64 pc, .slice ra regs.length rc, .slice ba box.length bc, .slice la N lc] 118) := ⟨_, rfl⟩
  have HB0 : Hid (Below w.heap.size w w0) := by rw [hw0]; exact (Below.refl _ _).alloc (Nat.le_refl _) _
  have hq : ∀ j (v : Value), (#[.int .i64 pid, .int .i64 pc, .slice ra regs.length rc, .slice ba box.length bc, .slice la N lc] : Array Value)[j]? = some v → w0.cell? ⟨w.heap.size, j, none⟩ = some v := fun j v hv => by
    rw [hw0, World.cell?_alloc_new]; exact hv
  have HC : Hid (∀ w1, Below w0.heap.size w0 w1 → w1.cell? ⟨w.heap.size, 2, none⟩ = some (.slice ra regs.length rc) ∧ w1.cell? ⟨w.heap.size, 3, none⟩ = some (.slice ba box.length bc) ∧ w1.cell? ⟨w.heap.size, 4, none⟩ = some (.slice la N lc)) := fun w1 hb =>
    ⟨keepA hb (hq 2 _ rfl), keepA hb (hq 3 _ rfl), keepA hb (hq 4 _ rfl)⟩
  clear hq
  go_enter Tryz.func83, Tryz.ntmps83
  go_wp2_with fail
  rw [← hw0]
  clear hw0
  have z1 := zL_le regs left h0
  have HS1 : Hid (0 ≤ zL regs left → SmL regs) := fun h => zL_small h0 h1 h
  refine (szL_any regs ra rc left w0 (HR.out.below HB0.out).regs HR.out.r1 HR.out.r2 h0 h1).mono ?_
  rintro e w1 ⟨rfl, hb1⟩
  have HB1 : Hid (Below w0.heap.size w0 w1) := hb1
  have HX1 : Hid (Below w.heap.size w w1) := HB0.out.trans (hb1.mono HB0.out.size)
  obtain ⟨_, d3, _⟩ := HC.out w1 hb1
  clear hb1
  generalize zL regs left = x1 at *
  by_cases hx1 : x1 < 0
  · go_wp2_with fail
    go_ret
    exact ⟨⟨-1, rfl, by decide, fun h => absurd h (by decide)⟩, HX1.out⟩
  · go_wp2_with fail
    have z2 := zL_le box x1 (by omega)
    have HS2 : Hid (0 ≤ zL box x1 → SmL box) := fun h => zL_small (by omega) (by omega) h
    refine (szL_any box ba bc x1 w1 (HR.out.below HX1.out).box HR.out.b1 HR.out.b2 (by omega) (by omega)).mono ?_
    rintro e w2 ⟨rfl, hb2⟩
    have HB2 : Hid (Below w0.heap.size w0 w2) := HB1.out.trans (hb2.mono HB1.out.size)
    have HX2 : Hid (Below w.heap.size w w2) := HX1.out.trans (hb2.mono HX1.out.size)
    obtain ⟨_, _, d4⟩ := HC.out w2 HB2.out
    clear hb2 d3
    generalize zL box x1 = x2 at *
    by_cases hx2 : x2 < 0
    · go_wp2_with fail
      go_ret
      exact ⟨⟨-1, rfl, by decide, fun h => absurd h (by decide)⟩, HX2.out⟩
    · go_wp2_with fail
      refine (szIntS_any la N lc x2 HN.out (by omega) w2).mono ?_
      rintro e w3 ⟨rfl, hw3⟩
      obtain rfl := hw3.symm
      have HS3 : Hid (0 ≤ szI N x2 → N ≤ 1048576) := fun h => by unfold szI at h; split at h <;> omega
      have z3 : szI N x2 ≤ x2 := by unfold szI; split <;> omega
      generalize szI N x2 = x3 at *
      by_cases hx3 : x3 < 0
      · go_wp2_with fail
        go_ret
        exact ⟨⟨-1, rfl, by decide, fun h => absurd h (by decide)⟩, HX2.out⟩
      · have HALL : Hid (AcS ⟨pid, pc, regs, box, N, f⟩) := ⟨HS1.out (by omega), HS2.out (by omega), HS3.out (by omega)⟩
        go_wp2_with fail
        go_ret
        exact ⟨⟨x3, rfl, by omega, fun _ => HALL.out⟩, HX2.out⟩
end Go.Proofs.YtjibnlpjpbileaaGreatDoor
