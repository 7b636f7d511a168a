/-
  Putting, the program's: the whole.
  (Ahead of it, in this text: Putting, the program's: what catches, and the whole. How the exact laws over rows of strings measure, copy, compare, mark and hold them.)
-/
import Derived.Test.YtabgfaafpgholaaW45
import Derived.Defers
import Derived.Recover
import Derived.Test.YtabgfaafpgholaaW4
import Derived.Deep.RegionWith
import Derived.Laws.IdiomStrings
namespace Go.Proofs.Ytabgfaafpgholaa
open Go.RowKit
set_option linter.unusedVariables false

/-- The four results' cells, written. -/
def fin4 (w : World) (B3 B4 B5 B6 : Nat) (a b c d : Value) : World := (((w.setCell ⟨B3, 0, none⟩ a).setCell ⟨B4, 0, none⟩ b).setCell ⟨B5, 0, none⟩ c).setCell ⟨B6, 0, none⟩ d
/-- Cells that are there. -/
structure Four (w : World) (B : Nat) (a b c d : Value) : Prop where
  q0 : w.cell? ⟨B + 3, 0, none⟩ = some a
  q1 : w.cell? ⟨B + 4, 0, none⟩ = some b
  q2 : w.cell? ⟨B + 5, 0, none⟩ = some c
  q3 : w.cell? ⟨B + 6, 0, none⟩ = some d
  f0 : w.frozen? ⟨B + 3, 0, none⟩ = false
  f1 : w.frozen? ⟨B + 4, 0, none⟩ = false
  f2 : w.frozen? ⟨B + 5, 0, none⟩ = false
  f3 : w.frozen? ⟨B + 6, 0, none⟩ = false
theorem Four.below {w w' : World} {B : Nat} {a b c d : Value} (h : Four w B a b c d) (hb : Below w.heap.size w w') : Four w' B a b c d := by
  have kc : ∀ {b o : Nat} {v : Value}, w.cell? ⟨b, o, none⟩ = some v → w'.cell? ⟨b, o, none⟩ = some v := fun hc => by
    rw [hb.cell (World.block_lt_of_cell? w _ hc)]; exact hc
  have kf : ∀ {b o : Nat} {v : Value} {x : Bool}, w.cell? ⟨b, o, none⟩ = some v → w.frozen? ⟨b, o, none⟩ = x → w'.frozen? ⟨b, o, none⟩ = x := fun hc hf => by
    rw [hb.frozen (World.block_lt_of_cell? w _ hc)]; exact hf
  exact ⟨kc h.q0, kc h.q1, kc h.q2, kc h.q3, kf h.q0 h.f0, kf h.q1 h.f1, kf h.q2 h.f2, kf h.q3 h.f3⟩
theorem CpI.form {w w' : World} {xs : List Int} {hv v : Value} (h : CpI w w' hv xs v) : ∃ a n c, v = .slice a n c := by
  rcases h with ⟨_, rfl, _⟩ | ⟨g, c, rfl, _⟩
  · exact ⟨_, _, _, rfl⟩
  · exact ⟨_, _, _, rfl⟩
theorem CpT.form {w w' : World} {A : List ByteArray} {v : Value} (h : CpT w w' A v) : ∃ a n c, v = .slice a n c := by
  obtain ⟨g, c, rfl, _⟩ := h
  exact ⟨_, _, _, rfl⟩
set_option maxHeartbeats 4000000 in
set_option maxRecDepth 100000 in
theorem catch_put (B : Nat) (hp : Option Addr × Nat × Nat) (xs : List Int) (ab ao ac : Nat) (A : List ByteArray) (w : World) (older : List PanicEntry) (u : TypeId) (pv : Value) (z0 z1 z2 z3 : Value)
    (h4 : Four w B z0 z1 z2 z3) (hW : WV w w.heap.size (.slice hp.1 hp.2.1 hp.2.2) xs) (hA : Txt w ab ao A) (qw : w.cell? ⟨B, 0, none⟩ = some (.slice hp.1 hp.2.1 hp.2.2)) (qa : w.cell? ⟨B + 1, 0, none⟩ = some (.slice (some ⟨ab, ao, none⟩) A.length ac)) (hxl : xs.length ≤ 1048576) (hal : A.length ≤ 1048576) :
    CallsD Try.prog 69 #[.pointer (some ⟨B, 0, none⟩), .pointer (some ⟨B + 1, 0, none⟩), .pointer (some ⟨B + 3, 0, none⟩), .pointer (some ⟨B + 4, 0, none⟩), .pointer (some ⟨B + 5, 0, none⟩), .pointer (some ⟨B + 6, 0, none⟩)] (.panicking ({ v := .iface u pv, recovered := false } :: older)) w fun e u' w' =>
      e = .returned (.tuple #[]) ∧ u' = .panicking ({ v := .iface u pv, recovered := true } :: older) ∧ ∃ w1 w2 hv av, CpI w w1 (.slice hp.1 hp.2.1 hp.2.2) xs hv ∧ Below w.heap.size w w1 ∧ CpT w1 w2 A av ∧ Below w1.heap.size w1 w2 ∧ w' = fin4 w2 (B + 3) (B + 4) (B + 5) (B + 6) hv av (.int .i64 0) (.bool false) := by
  obtain ⟨p, q, r⟩ := hp
  dsimp only at hW qw
  have HC1 : Hid (Calls Try.prog 64 #[.slice p q r] w.drew fun e w' => ∃ v, e = .returned v ∧ CpI w.drew w' (.slice p q r) xs v ∧ Below w.drew.heap.size w.drew w') := cloneI_any _ xs w.drew (hW.behind (Below.refl _ _).drew) hxl
  have HC2 : Hid (∀ w', Below w.heap.size w w' → Calls Try.prog 70 #[.slice (some ⟨ab, ao, none⟩) A.length ac] w' fun e w2 => ∃ v, e = .returned v ∧ CpT w' w2 A v ∧ Below w'.heap.size w' w2) := fun w' hb => cloneT_any ab ao ac A w' (hA.below hb) hal
  have H4 : Hid (Four w B z0 z1 z2 z3) := h4
  have HQ : Hid (∀ w', Below w.heap.size w w' → w'.cell? ⟨B, 0, none⟩ = some (.slice p q r) ∧ w'.cell? ⟨B + 1, 0, none⟩ = some (.slice (some ⟨ab, ao, none⟩) A.length ac)) := fun w' hb => ⟨by rw [hb.cell (World.block_lt_of_cell? w _ qw)]; exact qw, by rw [hb.cell (World.block_lt_of_cell? w _ qa)]; exact qa⟩
  clear h4 hW hA hxl hal
  refine callsD_of_wpS Try.func69 rfl fun c₀ cs hu => ?_
  apply wpS_seq
  apply wpS_region
  simp [wpOpsS, go_sem, recoverD, hu, Try.ntmps69, Exit.thenS]
  refine wpS_cond (t := true) (by simp [Act.eval, Array.replicate]) ?_
  simp only [if_true]
  refine wpS_of_wp ?_
  go_region_law (go_simp; go_wp2_with (first
    | (go_at_call 64; refine HC1.out.mono ?_; rintro e w1 ⟨hv1, rfl, hc1, hb1⟩; obtain ⟨sa, sn, sc, rfl⟩ := hc1.form; have HB1 : Hid (Below w.heap.size w w1 ∧ CpI w w1 (.slice p q r) xs (.slice sa sn sc)) := ⟨(Below.refl _ _).drew.trans hb1, hc1⟩; obtain ⟨r0, r1⟩ := HQ.out w1 HB1.out.1; clear hc1 hb1)
    | (go_at_call 70; refine (HC2.out w1 HB1.out.1).mono ?_; rintro e w2 ⟨av2, rfl, hc2, hb2⟩; obtain ⟨ta, tn, tc, rfl⟩ := hc2.form; have HB2 : Hid (Below w1.heap.size w1 w2 ∧ CpT w1 w2 A (.slice ta tn tc)) := ⟨hb2, hc2⟩; have H42 := (H4.out.below HB1.out.1).below hb2; obtain ⟨x0, x1, x2, x3, y0, y1, y2, y3⟩ := H42; clear hc2 hb2)))
  all_goals
    simp only [bodyPostS, results, Try.results69]
    first
      | exact ⟨_, rfl, rfl, rfl, w1, w2, _, HB1.out.2, HB1.out.1, _, HB2.out.2, HB2.out.1, rfl⟩
      | exact ⟨rfl, rfl, w1, w2, _, HB1.out.2, HB1.out.1, _, HB2.out.2, HB2.out.1, rfl⟩
      | (simp; exact ⟨w1, w2, _, HB1.out.2, HB1.out.1, _, HB2.out.2, HB2.out.1, rfl⟩)
      | fail "HERE"
theorem catch_idleP (p1 p2 p3 p4 p5 p6 : Value) (w : World) :
    CallsD Try.prog 69 #[p1, p2, p3, p4, p5, p6] .returning w fun e u' w' => e = .returned (.tuple #[]) ∧ u' = .returning ∧ w' = w := by
  refine callsD_of_wpS Try.func69 rfl fun c₀ cs hu => ?_
  apply wpS_seq
  apply wpS_region
  simp [wpOpsS, go_sem, recoverD, hu, Try.ntmps69, Exit.thenS]
  refine wpS_cond (t := false) (by simp [Act.eval, Array.replicate]) ?_
  simp only [Bool.false_eq_true, if_false]
  refine wpS_of_wp (wp_skip ?_)
  cases c₀
  simp_all [bodyPostS, results, Try.results69]
end Go.Proofs.Ytabgfaafpgholaa
namespace Go.Proofs.Ytabgfaafpgholaa
open Go.RowKit
set_option linter.unusedVariables false

/-- The N strings f stand in the block b from 0 on, and may be written. -/
structure Sts (w : World) (b N : Nat) (f : Nat → ByteArray) : Prop where
  cell : ∀ j, j < N → w.cell? ⟨b, j, none⟩ = some (.string (f j))
  free : ∀ x, w.frozen? ⟨b, x, none⟩ = false
def updS (f : Nat → ByteArray) (i : Nat) (x : ByteArray) : Nat → ByteArray := fun j => if j = i then x else f j
theorem Sts.congr {w : World} {b N : Nat} {f g : Nat → ByteArray} (h : Sts w b N f) (e : ∀ j, j < N → f j = g j) : Sts w b N g :=
  ⟨fun j hj => by rw [← e j hj]; exact h.cell j hj, h.free⟩
theorem Sts.set {w : World} {b N : Nat} {f : Nat → ByteArray} (h : Sts w b N f) (i : Nat) (hi : i < N) (x : ByteArray) : Sts (w.setCell ⟨b, i, none⟩ (.string x)) b N (updS f i x) := by
  refine ⟨fun j hj => ?_, fun y => by rw [World.frozen?_setCell]; exact h.free y⟩
  by_cases e : j = i
  · subst e
    rw [updS, if_pos rfl]
    exact World.cell?_setCell_same w _ _ (h.cell j hj)
  · rw [updS, if_neg e, World.cell?_setCell_other (h := fun q => by simp at q; try omega)]
    exact h.cell j hj
theorem Sts.below {w w' : World} {b N : Nat} {f : Nat → ByteArray} (h : Sts w b N f) (hb : Below w.heap.size w w') (hlt : b < w.heap.size) : Sts w' b N f :=
  ⟨fun j hj => by rw [hb.cell (p := ⟨b, j, none⟩) hlt]; exact h.cell j hj, fun x => by rw [hb.frozen (p := ⟨b, x, none⟩) hlt]; exact h.free x⟩
theorem Sts.turn {cb : Nat} {w w' : World} {b N : Nat} {f : Nat → ByteArray} (h : Sts w b N f) (t : Turn cb w w') (hn : b ≠ cb) (hlt : b < w.heap.size) : Sts w' b N f :=
  ⟨fun j hj => t.cell hn (h.cell j hj), fun x => by rw [t.frozen hn hlt]; exact h.free x⟩
def lf (L : List ByteArray) : Nat → ByteArray := fun j => L.getD j ByteArray.empty
theorem lf_at (L : List ByteArray) (j : Nat) (h : j < L.length) : lf L j = L[j] := by
  unfold lf; rw [List.getD_eq_getElem?_getD, List.getElem?_eq_getElem h]; rfl
theorem Sts.txt {w : World} {b : Nat} {L : List ByteArray} (h : Sts w b L.length (lf L)) : Txt w b 0 L := fun j hj => by
  rw [Nat.zero_add, ← lf_at L j hj]; exact h.cell j hj

/-- What a law is handed: L, wherever it lies; of nothing the place is open. -/
def RdT (w : World) (ao : Option Addr) (L : List ByteArray) : Prop := L.length ≠ 0 → ∃ b o, ao = some ⟨b, o, none⟩ ∧ Txt w b o L
theorem RdT.below {w w' : World} {ao : Option Addr} {L : List ByteArray} (h : RdT w ao L) (hb : Below w.heap.size w w') : RdT w' ao L := fun h0 => by
  obtain ⟨b, o, e, hc⟩ := h h0
  exact ⟨b, o, e, hc.below hb⟩
theorem Txt.rd {w : World} {b o : Nat} {L : List ByteArray} (h : Txt w b o L) : RdT w (some ⟨b, o, none⟩) L := fun _ => ⟨b, o, rfl, h⟩

set_option maxHeartbeats 1000000 in
theorem szStr_any (ao : Option Addr) (cap : Nat) (L : List ByteArray) (w : World) (hr : RdT w ao L) (hN : L.length ≤ maxLen) (hs : ∀ x ∈ L, x.size ≤ maxLen) :
    Calls Try.prog 7 #[.slice ao L.length cap, .int .i64 1048576] w fun e w' => ∃ y : Int, e = .returned (.int .i64 y) ∧ w' = w ∧ -1 ≤ y ∧ (0 ≤ y → L.length ≤ 1048576) := by
  have HR : Hid (RdT w ao L) := hr
  have HS : Hid (∀ x ∈ L, x.size ≤ maxLen) := hs
  clear hr hs
  unfold maxLen at hN
  by_cases hb : L.length ≤ 1048576
  · go_enter Try.func7, Try.ntmps7
    go_wp2_with fail
    go_loop [1, 5] (fun a i => ∃ (m : Nat) (c : Int), m ≤ L.length ∧ i = .int .i64 m ∧ a = .int .i64 c ∧ 0 ≤ c ∧ c ≤ 1048576) (fun _ i => L.length - (intOf i).toNat)
    case atStart => exact ⟨0, 1048576 - L.length, Nat.zero_le _, rfl, rfl, by omega, by omega⟩
    case round =>
      obtain ⟨m, c, hm, rfl, rfl, hc0, hc1⟩ := hrel
      by_cases hlt : m < L.length
      · obtain ⟨b, o, rfl, hc⟩ := HR.out (by omega)
        have q := hc m hlt
        have hsz := HS.out _ (List.getElem_mem hlt)
        unfold maxLen at hsz
        generalize L[m] = x at *
        clear hc
        by_cases hx : c - x.size < 0
        · go_wp2_with fail
          go_ret
          exact ⟨(-1 : Int), rfl, rfl, by omega⟩
        · go_wp2_with fail
          go_round
          case rel => exact ⟨m + 1, c - x.size, by omega, by go_num, rfl, by omega, by omega⟩
          case measure => simp [intOf]; omega
      · go_wp2_with fail
        go_ret
        exact ⟨c, rfl, rfl, by omega⟩
  · go_enter Try.func7, Try.ntmps7
    go_wp2_with fail
    go_ret
    exact ⟨_, rfl, rfl, by omega, fun h => absurd h (by omega)⟩

theorem infoStr : (Try.prog.info? 9).map (fun i => (i.zero, i.size, i.bytes)) = some (some (.string ByteArray.empty), 1, 16) := by kernel_rfl
theorem undStrs : Try.prog.underlying 25 = some (.slice 9) := by kernel_rfl
theorem run_strs (n : Nat) (hn : n ≤ 1048576) (w : World) :
    (Instr.makeSlice 25 (.int .i64 (n : Int)) (.int .i64 (n : Int))).run Try.prog w = .ok (.slice (some ⟨w.heap.size, 0, none⟩) n n) (w.alloc (.cells (madeCells #[.string ByteArray.empty] n) 9)) :=
  run_make_row' (P := Try.prog) 25 9 (.string ByteArray.empty) 16 undStrs infoStr rfl .i64 .i64 n (by omega) (by omega) w
theorem strs_made (w : World) (n : Nat) : Sts (w.alloc (.cells (madeCells #[.string ByteArray.empty] n) 9)) w.heap.size n (fun _ => ByteArray.empty) := by
  have h := World.rowIs_made w (.string ByteArray.empty) n 9
  exact ⟨fun j hj => h.cell hj, fun x => h.frozen x⟩

set_option maxHeartbeats 1000000 in
theorem toStr_any (ao : Option Addr) (cap : Nat) (L : List ByteArray) (w : World) (hr : RdT w ao L) (hN : L.length ≤ 1048576) :
    Calls Try.prog 11 #[.slice ao L.length cap] w fun e w' => e = .returned (.slice (some ⟨w.heap.size, 0, none⟩) L.length L.length) ∧ Sts w' w.heap.size L.length (lf L) ∧ w.heap.size < w'.heap.size ∧ Below w.heap.size w w' := by
  have HR : Hid (RdT w ao L) := hr
  clear hr
  have hmk := run_strs L.length hN
  go_enter Try.func11, Try.ntmps11
  go_wp2_with fail
  clear hmk
  have hst : Sts (w.alloc (.cells (madeCells #[.string ByteArray.empty] L.length) 9)) w.heap.size L.length (fun j => if j < 0 then lf L j else ByteArray.empty) := (strs_made w L.length).congr (fun j _ => by rw [if_neg (by omega)])
  have hb : Below w.heap.size w (w.alloc (.cells (madeCells #[.string ByteArray.empty] L.length) 9)) := (Below.refl _ _).alloc (Nat.le_refl _) _
  have hl : w.heap.size < (w.alloc (.cells (madeCells #[.string ByteArray.empty] L.length) 9)).heap.size := by simp
  have HS : Hid (Sts (w.alloc (.cells (madeCells #[.string ByteArray.empty] L.length) 9)) w.heap.size L.length (fun j => if j < 0 then lf L j else ByteArray.empty) ∧ Below w.heap.size w (w.alloc (.cells (madeCells #[.string ByteArray.empty] L.length) 9)) ∧ w.heap.size < (w.alloc (.cells (madeCells #[.string ByteArray.empty] L.length) 9)).heap.size) := ⟨hst, hb, hl⟩
  clear hst hb hl
  go_loopw [4] (fun i wr => ∃ m : Nat, m ≤ L.length ∧ i = .int .i64 m ∧ Sts wr w.heap.size L.length (fun j => if j < m then lf L j else ByteArray.empty) ∧ Below w.heap.size w wr ∧ w.heap.size < wr.heap.size) (fun i _ => L.length - (intOf i).toNat)
  case atStart => exact ⟨0, Nat.zero_le _, rfl, HS.out.1, HS.out.2.1, HS.out.2.2⟩
  case round =>
    obtain ⟨m, hm, rfl, hi, hb, hl⟩ := hrel
    have HI : Hid (Sts wr w.heap.size L.length (fun j => if j < m then lf L j else ByteArray.empty)) := hi
    have HB : Hid (Below w.heap.size w wr ∧ w.heap.size < wr.heap.size) := ⟨hb, hl⟩
    by_cases hlt : m < L.length
    · obtain ⟨b, o, rfl, hc⟩ := HR.out (by omega)
      have hbl : b < w.heap.size := World.block_lt_of_cell? w _ (hc m hlt)
      have cs := (hb.cell (p := ⟨b, o + m, none⟩) hbl).trans (hc m hlt)
      have cd := hi.cell m hlt
      have fr : ∀ x, wr.frozen? ⟨w.heap.size, x, none⟩ = false := hi.free
      have hne : ¬ b = w.heap.size := by omega
      have HX : Hid (lf L m = L[m]) := lf_at L m hlt
      generalize L[m] = x at *
      clear hi hb hl hc
      go_wp2_with fail
      go_roundw
      case rel =>
        have h := HI.out.set m hlt x
        refine ⟨m + 1, by omega, by go_num, h.congr fun j _ => ?_, HB.out.1.setCell (Nat.le_refl _) _, by rw [World.size_setCell]; exact HB.out.2⟩
        unfold updS
        by_cases e : j = m
        · subst e
          rw [if_pos rfl, if_pos (by omega)]; exact HX.out.symm
        · rw [if_neg e]
          dsimp only
          by_cases e2 : j < m
          · rw [if_pos e2, if_pos (by omega)]
          · rw [if_neg e2, if_neg (by omega)]
      case measure => simp [intOf]; omega
    · have hme : m = L.length := by omega
      subst hme
      clear hi hb hl
      go_wp2_with fail
      go_ret
      exact ⟨rfl, HI.out.congr (fun j hj => by rw [if_pos hj]), HB.out.2, HB.out.1⟩

set_option maxHeartbeats 1000000 in
theorem eqStr_same (ao bo : Option Addr) (ca cb : Nat) (L : List ByteArray) (w : World) (ha : RdT w ao L) (hb : RdT w bo L) (hN : L.length ≤ 1048577) :
    Calls Try.prog 15 #[.slice ao L.length ca, .slice bo L.length cb] w fun e w' => e = .returned (.bool true) ∧ Below w.heap.size w w' := by
  have HA : Hid (RdT w ao L) := ha
  have HB : Hid (RdT w bo L) := hb
  clear ha hb
  go_enter Try.func15, Try.ntmps15
  go_wp2_with fail
  go_loopw [5] (fun i w' => ∃ m : Nat, m ≤ L.length ∧ i = .int .i64 m ∧ Below w.heap.size w w') (fun i _ => L.length - (intOf i).toNat)
  case atStart => exact ⟨0, Nat.zero_le _, by simp, Below.refl _ _⟩
  case round =>
    obtain ⟨m, hm, rfl, hbl⟩ := hrel
    have HBL : Hid (Below w.heap.size w wr) := hbl
    by_cases hlt : m < L.length
    · obtain ⟨b1, o1, rfl, c1⟩ := HA.out.below hbl (by omega)
      obtain ⟨b2, o2, rfl, c2⟩ := HB.out.below hbl (by omega)
      have q1 := c1 m hlt
      have q2 := c2 m hlt
      clear c1 c2 hbl
      generalize L[m] = x at *
      go_wp2_with fail
      go_quiet (fail)
      go_wp2_with fail
      go_roundw
      case rel => exact ⟨m + 1, by omega, by go_num, by first | exact HBL.out.drew | exact below_drewN HBL.out _⟩
      case measure => simp [intOf]; omega
    · clear hbl
      go_wp2_with fail
      go_ret
      exact ⟨rfl, HBL.out⟩

/-- The text of a mark. -/
def mkGo (k : Nat) (out : ByteArray) : ByteArray := if h : k = 0 then out else mkGo (k / 10) (⟨#[UInt8.ofNat (48 + k % 10)]⟩ ++ out)
termination_by k
decreasing_by omega
def mkT (k : Nat) : ByteArray := ⟨#[109]⟩ ++ mkGo k ⟨#[]⟩

theorem conv1 (b : UInt8) (x : Int) (h : x = b.toNat) (W : World) (g : Nat) (hc : W.cell? ⟨g, 0, none⟩ = some (.int .u8 x)) :
    (convert 47 9 (.slice (some ⟨g, 0, none⟩) 1 1)).run Try.prog W = .ok (.string ⟨#[b]⟩) W := by
  have := run_convert_bytes_back (P := Try.prog) W 47 9 5 ⟨g, 0, none⟩ 1 [b] Try.underlying47 Try.underlying5 Try.underlying9 (fun j hj => by
    have : j = 0 := by simpa using hj
    subst this
    show W.cell? ((⟨g, 0, none⟩ : Addr).add 0) = some (.int .u8 (b.toNat : Int))
    rw [← h]
    simpa [Addr.add] using hc)
  exact this
theorem tm (u : Nat) : 48 + (u : Int) % 10 = ((UInt8.ofNat (48 + u % 10)).toNat : Int) := by
  simp; omega
theorem ret_str {a b : ByteArray} (h : a = b) : Ending.returned (.string a) = .returned (.string b) := by rw [h]
theorem pow_fit {m k u : Nat} (h : u * 10 ^ m ≤ k) (hk : k ≤ 4000000000) (hu : 1 ≤ u) : m ≤ 9 := by
  rcases Nat.lt_or_ge 9 m with h6 | h6
  · have h1 : 10 ^ 10 ≤ 10 ^ m := Nat.pow_le_pow_right (by omega) h6
    have h2 : 10 ^ m ≤ u * 10 ^ m := Nat.le_mul_of_pos_left _ hu
    have : (10 : Nat) ^ 10 = 10000000000 := by decide
    omega
  · exact h6
theorem size_cons (b : UInt8) (s : ByteArray) : ((⟨#[b]⟩ : ByteArray) ++ s).size = s.size + 1 := by
  rw [ByteArray.size_append]
  show 1 + s.size = s.size + 1
  omega
set_option maxHeartbeats 1000000 in
set_option maxRecDepth 100000 in
theorem markText_any (k : Nat) (hk : 1 ≤ k) (hm : k ≤ 4000000000) (w : World) :
    Calls Try.prog 49 #[.int .i64 k] w fun e w' => e = .returned (.string (mkT k)) ∧ Below w.heap.size w w' := by
  have HE : Hid (mkT k = ⟨#[109]⟩ ++ mkGo k ⟨#[]⟩) := by show _ = _; rfl
  go_enter Try.func49, Try.ntmps49
  go_wp2_with fail
  go_loopw [0, 3] (fun a o wr => ∃ (u : Nat) (s : ByteArray), a = .int .i64 u ∧ o = .string s ∧ u * 10 ^ s.size ≤ k ∧ mkGo u s = mkGo k ⟨#[]⟩ ∧ s.size ≤ 10 ∧ Below w.heap.size w wr) (fun a _ _ => (intOf a).toNat)
  case atStart => exact ⟨k, ⟨#[]⟩, rfl, rfl, by show k * 10 ^ 0 ≤ k; simp, rfl, by decide, Below.refl _ _⟩
  case round =>
    obtain ⟨u, s, rfl, rfl, hf, hg, hs, hb⟩ := hrel
    have HF : Hid (u * 10 ^ s.size ≤ k) := hf
    have HG : Hid (mkGo u s = mkGo k ⟨#[]⟩) := hg
    have HB : Hid (Below w.heap.size w wr) := hb
    have hul : u ≤ 4000000000 := Nat.le_trans (Nat.le_trans (Nat.le_mul_of_pos_right u (Nat.pow_pos (by omega))) hf) hm
    clear hf hg hb
    by_cases hu : u = 0
    · subst hu
      have HS : Hid (s = mkGo k ⟨#[]⟩) := by
        have h := HG.out
        rw [mkGo, dif_pos rfl] at h
        exact h
      go_wp2_with fail
      go_ret
      exact ⟨ret_str (by rw [HE.out, ← HS.out]), HB.out⟩
    · have h6 := pow_fit HF.out hm (by omega)
      obtain ⟨b, hbb⟩ : ∃ b, b = UInt8.ofNat (48 + u % 10) := ⟨_, rfl⟩
      have HBB : Hid (b = UInt8.ofNat (48 + u % 10)) := hbb
      have hcv := conv1 b (48 + (u : Int) % 10) (by rw [hbb]; exact tm u) (wr.alloc (.cells #[.int .u8 (48 + (u : Int) % 10)] 5)) wr.heap.size (by simp)
      clear hbb
      have hup : 0 < (u : Int) := by omega
      go_wp2_with fail
      go_roundw
      case rel =>
        refine ⟨u / 10, ⟨#[b]⟩ ++ s, ?_, rfl, ?_, ?_, ?_, HB.out.alloc HB.out.size _⟩
        · first | rfl | (congr 1; omega) | go_num
        · rw [size_cons, Nat.pow_succ]
          have e : u / 10 * (10 ^ s.size * 10) = u / 10 * 10 * 10 ^ s.size := by rw [Nat.mul_comm (10 ^ s.size) 10, Nat.mul_assoc]
          rw [e]
          exact Nat.le_trans (Nat.mul_le_mul_right _ (by omega)) HF.out
        · rw [← HG.out]
          conv => rhs; rw [mkGo, dif_neg hu]
          rw [HBB.out]
        · rw [size_cons]; omega
      case measure => simp [intOf]; omega
end Go.Proofs.Ytabgfaafpgholaa
namespace Go.Proofs.Ytabgfaafpgholaa
open Go.RowKit
set_option linter.unusedVariables false

theorem txt_stsP {w : World} {g : Nat} {L : List ByteArray} (h : Txt w g 0 L) (hf : ∀ x, w.frozen? ⟨g, x, none⟩ = false) : Sts w g L.length (lf L) :=
  ⟨fun j hj => by rw [lf_at L j hj]; have := h j hj; rw [Nat.zero_add] at this; exact this, hf⟩
/-- The numbers of a row, by their places. -/
def lfI (xs : List Int) (j : Nat) : Int := xs.getD j 0
theorem lfI_get (xs : List Int) (j : Nat) (h : j < xs.length) : lfI xs j = xs[j] := by simp [lfI, h]
theorem lfI_row (n : Nat) (f : Nat → Int) (j : Nat) (h : j < n) : lfI (rowF n f) j = f j := by
  rw [lfI_get _ _ (by rw [rowF_len]; exact h), rowF_get]
/-- Words and atoms that are answered, in blocks of the call's own. -/
structure PEnd (w w' : World) (h0 : Value) (ao : Option Addr) (ys : List Int) (ga : Nat) (B : List ByteArray) : Prop where
  wr : ys.length ≠ 0 ∨ h0 ≠ .slice none 0 0 → ∃ g, ao = some ⟨g, 0, none⟩ ∧ w.heap.size ≤ g ∧ g < w'.heap.size ∧ g ≠ ga ∧ Ints w' g 0 ys.length (lfI ys)
  ar : Sts w' ga B.length (lf B)
  al : w.heap.size ≤ ga
  at' : ga < w'.heap.size
  be : Below w.heap.size w w'
/-- What was handed in, where all is answered: its row is another one in any case where it was put. -/
def hok (ok : Bool) (h0 : Value) : Value := if ok then .bool true else h0
def PBe (w : World) (h0 : Value) (xs : List Int) (A : List ByteArray) (R : Option (List Int × List ByteArray × Int)) (e : Ending) (w' : World) : Prop :=
  ∃ ao cap ga c ys B x ok, e = .returned (.tuple #[.slice ao ys.length cap, .slice (some ⟨ga, 0, none⟩) B.length c, .int .i64 x, .bool ok]) ∧ PEnd w w' (hok ok h0) ao ys ga B ∧
    ((ok = true ∧ ∃ ns, R = some (ns, B, x) ∧ ys = xs ++ ns) ∨ (ok = false ∧ x = 0 ∧ ys = xs ∧ B = A ∧ R = none)) ∧ (ok = true → ys.length ≤ cap)
theorem fin4_heap (w : World) (B3 B4 B5 B6 : Nat) (a b c d : Value) (k : Nat) (h3 : k ≠ B3) (h4 : k ≠ B4) (h5 : k ≠ B5) (h6 : k ≠ B6) : (fin4 w B3 B4 B5 B6 a b c d).heap[k]? = w.heap[k]? := by
  unfold fin4
  rw [Below.heap_setCell _ _ _ _ h6, Below.heap_setCell _ _ _ _ h5, Below.heap_setCell _ _ _ _ h4, Below.heap_setCell _ _ _ _ h3]
theorem fin4_size (w : World) (B3 B4 B5 B6 : Nat) (a b c d : Value) : (fin4 w B3 B4 B5 B6 a b c d).heap.size = w.heap.size := by
  unfold fin4
  simp only [World.size_setCell]
theorem fin4_below {w0 w : World} {lo B : Nat} (h : Below lo w0 w) (hl : lo ≤ B) (a b c d : Value) : Below lo w0 (fin4 w (B + 3) (B + 4) (B + 5) (B + 6) a b c d) := by
  unfold fin4
  exact (((h.setCell (by show _ ≤ B + 3; omega) _).setCell (by show _ ≤ B + 4; omega) _).setCell (by show _ ≤ B + 5; omega) _).setCell (by show _ ≤ B + 6; omega) _
theorem own_intsP {w : World} {base g cc : Nat} {xs : List Int} (h : w.ownsRow base 3 1 (.slice (some ⟨g, 0, none⟩) xs.length cc) xs.length (xs.map (Value.int .i64))) : Ints w g 0 xs.length (lfI xs) ∧ base ≤ g ∧ g < w.heap.size := by
  refine ⟨⟨fun j hj => ?_, fun x => h.frozenAt x⟩, (h.lt g rfl).1, (h.lt g rfl).2⟩
  rw [h.cellAt (0 + j) (by omega), Nat.zero_add, lfI_get _ _ hj]
  simp [hj]
theorem Ints.heap {w w' : World} {g n : Nat} {f : Nat → Int} (h : Ints w g 0 n f) (e : w'.heap[g]? = w.heap[g]?) : Ints w' g 0 n f :=
  ⟨fun j hj => by rw [World.cell?_of_block (w := w) e]; exact h.cell j hj, fun x => by rw [World.frozen?_of_block (w := w) e]; exact h.free x⟩
theorem Sts.heap {w w' : World} {g n : Nat} {f : Nat → ByteArray} (h : Sts w g n f) (e : w'.heap[g]? = w.heap[g]?) : Sts w' g n f :=
  ⟨fun j hj => by rw [World.cell?_of_block (w := w) e]; exact h.cell j hj, fun x => by rw [World.frozen?_of_block (w := w) e]; exact h.free x⟩
/-- What catching answers. -/
theorem caught_end {w w0 w1 w2 : World} {B : Nat} {xs : List Int} {A : List ByteArray} {h0 hv av : Value} (hb0 : Below w.heap.size w w0) (hB : w.heap.size ≤ B) (hB6 : B + 6 < w0.heap.size) (h1 : CpI w0 w1 h0 xs hv) (h2 : Below w0.heap.size w0 w1) (h3 : CpT w1 w2 A av) (h4 : Below w1.heap.size w1 w2) :
    PBe w h0 xs A none (.returned (.tuple #[hv, av, .int .i64 0, .bool false])) (fin4 w2 (B + 3) (B + 4) (B + 5) (B + 6) hv av (.int .i64 0) (.bool false)) := by
  obtain ⟨ga, ca, rfl, ho⟩ := h3
  obtain ⟨t1, t2, t3, t4⟩ := own_txt ho
  have z1 := h2.size
  have z2 := h4.size
  have hbe : Below w.heap.size w w2 := (hb0.trans (h2.mono hb0.size)).trans (h4.mono (Nat.le_trans hb0.size z1))
  have hst : Sts (fin4 w2 (B + 3) (B + 4) (B + 5) (B + 6) hv (.slice (some ⟨ga, 0, none⟩) A.length ca) (.int .i64 0) (.bool false)) ga A.length (lf A) := (txt_stsP t1 t4).heap (fin4_heap _ _ _ _ _ _ _ _ _ _ (by omega) (by omega) (by omega) (by omega))
  rcases h1 with ⟨hh, rfl, rfl⟩ | ⟨g, c, rfl, ho1⟩
  · exact ⟨none, 0, ga, ca, [], A, 0, false, rfl, ⟨fun h => h.elim (fun h => absurd rfl h) (fun h => absurd hh h), hst, by omega, by rw [fin4_size]; exact t3, fin4_below hbe hB _ _ _ _⟩, .inr ⟨rfl, rfl, rfl, rfl, rfl⟩, fun h => by cases h⟩
  · obtain ⟨i1, i2, i3⟩ := own_intsP ho1
    exact ⟨some ⟨g, 0, none⟩, c, ga, ca, xs, A, 0, false, rfl, ⟨fun _ => ⟨g, rfl, by omega, by rw [fin4_size]; omega, by omega, (i1.heap (h4.block g i3)).heap (fin4_heap _ _ _ _ _ _ _ _ _ _ (by omega) (by omega) (by omega) (by omega))⟩, hst, by omega, by rw [fin4_size]; exact t3, fin4_below hbe hB _ _ _ _⟩, .inr ⟨rfl, rfl, rfl, rfl, rfl⟩, fun h => by cases h⟩
/-- The seven variables. -/
theorem seven (w : World) (o0 o1 o2 : Value) (t0 t1 t2 t3 t4 t5 t6 : TypeId) (c2 : Array Value) (W : World) (hW : W = ((((((w.alloc (.cells #[o0] t0)).alloc (.cells #[o1] t1)).alloc (.cells c2 t2)).alloc (.cells #[.slice none 0 0] t3)).alloc (.cells #[.slice none 0 0] t4)).alloc (.cells #[.int .i64 0] t5)).alloc (.cells #[.bool false] t6)) :
    W.heap.size = w.heap.size + 7 ∧ Below w.heap.size w W ∧ W.cell? ⟨w.heap.size, 0, none⟩ = some o0 ∧ W.cell? ⟨w.heap.size + 1, 0, none⟩ = some o1 ∧ (∀ j, W.cell? ⟨w.heap.size + 2, j, none⟩ = c2[j]?) ∧ Four W w.heap.size (.slice none 0 0) (.slice none 0 0) (.int .i64 0) (.bool false) := by
  have hh : W.heap = ((((((w.heap.push (.cells #[o0] t0)).push (.cells #[o1] t1)).push (.cells c2 t2)).push (.cells #[.slice none 0 0] t3)).push (.cells #[.slice none 0 0] t4)).push (.cells #[.int .i64 0] t5)).push (.cells #[.bool false] t6) := by subst hW; rfl
  have hb : Below w.heap.size w W := by
    subst hW
    exact (((((((Below.refl _ _).alloc (Nat.le_refl _) _).alloc (by simp only [World.size_alloc]; omega) _).alloc (by simp only [World.size_alloc]; omega) _).alloc (by simp only [World.size_alloc]; omega) _).alloc (by simp only [World.size_alloc]; omega) _).alloc (by simp only [World.size_alloc]; omega) _).alloc (by simp only [World.size_alloc]; omega) _
  have h0 : W.heap[w.heap.size]? = some (.cells #[o0] t0) := by rw [hh]; rw [Array.getElem?_push, if_neg (by simp only [Array.size_push]; omega)]; rw [Array.getElem?_push, if_neg (by simp only [Array.size_push]; omega)]; rw [Array.getElem?_push, if_neg (by simp only [Array.size_push]; omega)]; rw [Array.getElem?_push, if_neg (by simp only [Array.size_push]; omega)]; rw [Array.getElem?_push, if_neg (by simp only [Array.size_push]; omega)]; rw [Array.getElem?_push, if_neg (by simp only [Array.size_push]; omega)]; rw [Array.getElem?_push, if_pos rfl]
  have h1 : W.heap[w.heap.size + 1]? = some (.cells #[o1] t1) := by rw [hh]; rw [Array.getElem?_push, if_neg (by simp only [Array.size_push]; omega)]; rw [Array.getElem?_push, if_neg (by simp only [Array.size_push]; omega)]; rw [Array.getElem?_push, if_neg (by simp only [Array.size_push]; omega)]; rw [Array.getElem?_push, if_neg (by simp only [Array.size_push]; omega)]; rw [Array.getElem?_push, if_neg (by simp only [Array.size_push]; omega)]; rw [Array.getElem?_push, if_pos (by simp only [Array.size_push]; try omega)]
  have h2 : W.heap[w.heap.size + 2]? = some (.cells c2 t2) := by rw [hh]; rw [Array.getElem?_push, if_neg (by simp only [Array.size_push]; omega)]; rw [Array.getElem?_push, if_neg (by simp only [Array.size_push]; omega)]; rw [Array.getElem?_push, if_neg (by simp only [Array.size_push]; omega)]; rw [Array.getElem?_push, if_neg (by simp only [Array.size_push]; omega)]; rw [Array.getElem?_push, if_pos (by simp only [Array.size_push]; try omega)]
  have h3 : W.heap[w.heap.size + 3]? = some (.cells #[.slice none 0 0] t3) := by rw [hh]; rw [Array.getElem?_push, if_neg (by simp only [Array.size_push]; omega)]; rw [Array.getElem?_push, if_neg (by simp only [Array.size_push]; omega)]; rw [Array.getElem?_push, if_neg (by simp only [Array.size_push]; omega)]; rw [Array.getElem?_push, if_pos (by simp only [Array.size_push]; try omega)]
  have h4 : W.heap[w.heap.size + 4]? = some (.cells #[.slice none 0 0] t4) := by rw [hh]; rw [Array.getElem?_push, if_neg (by simp only [Array.size_push]; omega)]; rw [Array.getElem?_push, if_neg (by simp only [Array.size_push]; omega)]; rw [Array.getElem?_push, if_pos (by simp only [Array.size_push]; try omega)]
  have h5 : W.heap[w.heap.size + 5]? = some (.cells #[.int .i64 0] t5) := by rw [hh]; rw [Array.getElem?_push, if_neg (by simp only [Array.size_push]; omega)]; rw [Array.getElem?_push, if_pos (by simp only [Array.size_push]; try omega)]
  have h6 : W.heap[w.heap.size + 6]? = some (.cells #[.bool false] t6) := by rw [hh]; rw [Array.getElem?_push, if_pos (by simp only [Array.size_push]; try omega)]
  refine ⟨by rw [hh]; simp, hb, by simp [World.cell?, h0], by simp [World.cell?, h1], fun j => by simp [World.cell?, h2], ⟨by simp [World.cell?, h3], by simp [World.cell?, h4], by simp [World.cell?, h5], by simp [World.cell?, h6], by simp [World.frozen?, h3], by simp [World.frozen?, h4], by simp [World.frozen?, h5], by simp [World.frozen?, h6]⟩⟩
/-- The putting, as startPut lays it. -/
theorem pp_start {w0 w1 : World} {xs : List Int} {A : List ByteArray} {n g base : Nat} {av : Value} (h : SP w0 w1 xs A n g av) (pa qa : Nat) (ty : TypeId) :
    PP ⟨w1.heap.size, g, n, base, w0.heap.size, pa, qa⟩ (w1.alloc (.cells #[.slice (some ⟨g, 0, none⟩) n n, .int .i64 (xs.length : Int), .int .i64 (base : Int), av] ty)) (ovr (fun _ => 0) 0 xs) xs.length A := by
  obtain ⟨ga, c, rfl, ho⟩ := h.at'
  obtain ⟨t1, t2, t3, t4⟩ := own_txt ho
  have hl := h.lt
  have hlo := h.lo
  have hb : Below w1.heap.size w1 (w1.alloc (.cells #[.slice (some ⟨g, 0, none⟩) n n, .int .i64 (xs.length : Int), .int .i64 (base : Int), .slice (some ⟨ga, 0, none⟩) A.length c] ty)) := (Below.refl _ _).alloc (Nat.le_refl _) _
  obtain ⟨x1, x2⟩ := ho.2.elim (fun h => by cases h.1) (fun ⟨g', c', cur, e, q1, q2, q3, q4, q5, q6⟩ => by cases e; exact (⟨q3, q4⟩ : A.length ≤ c ∧ c ≤ maxLen))
  refine ⟨?_, ?_, ?_, ⟨_, ?_, ga, c, rfl, t1.below hb, fun o => ?_, by show ga ≠ w1.heap.size; omega, by show ga ≠ g; omega, by show w0.heap.size ≤ ga; omega, by rw [World.size_alloc]; omega, x1, x2⟩, fun o => ?_, fun o => ?_, fun j hj => ?_, by show w1.heap.size ≠ g; omega, by show w0.heap.size ≤ w1.heap.size; omega, hlo, by rw [World.size_alloc]; show g < _; omega⟩
  · show World.cell? _ ⟨w1.heap.size, 0, none⟩ = _; rw [World.cell?_alloc_at (hn := rfl)]; rfl
  · show World.cell? _ ⟨w1.heap.size, 1, none⟩ = _; rw [World.cell?_alloc_at (hn := rfl)]; rfl
  · show World.cell? _ ⟨w1.heap.size, 2, none⟩ = _; rw [World.cell?_alloc_at (hn := rfl)]; rfl
  · show World.cell? _ ⟨w1.heap.size, 3, none⟩ = _; rw [World.cell?_alloc_at (hn := rfl)]; rfl
  · rw [hb.frozen (p := ⟨ga, o, none⟩) t3]; exact t4 o
  · show World.frozen? _ ⟨w1.heap.size, o, none⟩ = _; rw [World.frozen?_alloc_at (hn := rfl)]
  · show World.frozen? _ ⟨g, o, none⟩ = _; rw [hb.frozen (p := ⟨g, o, none⟩) hl]; exact h.ws.free o
  · show World.cell? _ ⟨g, j, none⟩ = _
    rw [hb.cell (p := ⟨g, j, none⟩) hl]
    have h9 := h.ws.cell j hj
    rw [Nat.zero_add] at h9
    exact h9
end Go.Proofs.Ytabgfaafpgholaa
