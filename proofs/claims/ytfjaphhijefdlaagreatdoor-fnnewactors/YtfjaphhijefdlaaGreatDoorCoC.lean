/-
  The specification's InsOk: it answers specOk.
-/
import Derived.Test.YtfjaphhijefdlaaGreatDoorCoB
import Derived.Test.YtfjaphhijefdlaaGreatDoorSgA
import Derived.Test.YtfjaphhijefdlaaGreatDoorInn
import Derived.Deep.RegionLaw
import Derived.Deep.RegionWith
import Derived.Deep.CutRange
namespace Go.Proofs.YtfjaphhijefdlaaGreatDoor.Code
open Go.RowKit
open Go.Proofs.YtfjaphhijefdlaaGreatDoor.Atom
set_option linter.unusedVariables false

/-- The letters of the k-th Op, as a text. -/
def useT (k : Nat) : ByteArray := ⟨(uses k).toArray⟩
def wordT (k : Nat) : ByteArray := ⟨(word k).toArray⟩
def usesL : List ByteArray := (List.range 20).map fun k => useT (k + 1)
def wordsL : List ByteArray := (List.range 20).map fun k => wordT (k + 1)
theorem usesL_at (k : Nat) (h : k < 20) : usesL[k]? = some (useT (k + 1)) := by
  unfold usesL; rw [List.getElem?_map, List.getElem?_range h]; rfl
theorem wordsL_at (k : Nat) (h : k < 20) : wordsL[k]? = some (wordT (k + 1)) := by
  unfold wordsL; rw [List.getElem?_map, List.getElem?_range h]; rfl
theorem below20 {j : Nat} (h : j < 20) : j = 0 ∨ j = 1 ∨ j = 2 ∨ j = 3 ∨ j = 4 ∨ j = 5 ∨ j = 6 ∨ j = 7 ∨ j = 8 ∨ j = 9 ∨ j = 10 ∨ j = 11 ∨ j = 12 ∨ j = 13 ∨ j = 14 ∨ j = 15 ∨ j = 16 ∨ j = 17 ∨ j = 18 ∨ j = 19 := by omega
theorem use_len (k : Nat) : (useT k).size ≤ 3 := by
  unfold useT ByteArray.size
  by_cases h : k < 21
  · have : k = 0 ∨ k - 1 < 20 := by omega
    rcases this with rfl | h1
    · decide
    · by_cases h0 : k = 0
      · subst h0; decide
      · obtain ⟨j, rfl⟩ : ∃ j, k = j + 1 := ⟨k - 1, by omega⟩
        rcases below20 (show j < 20 by omega) with rfl | rfl | rfl | rfl | rfl | rfl | rfl | rfl | rfl | rfl | rfl | rfl | rfl | rfl | rfl | rfl | rfl | rfl | rfl | rfl <;> decide
  · have : uses k = [] := by unfold uses; split <;> first | omega | rfl
    rw [this]; decide

theorem uses_any (w : World) :
    Calls Tryz.prog 61 #[] w fun e w' => e = .returned (.slice (some ⟨w.heap.size, 0, none⟩) 20 20) ∧ Below w.heap.size w w' ∧ w'.heap.size = w.heap.size + 1 ∧ ∀ k, k < 20 → w'.cell? ⟨w.heap.size, k, none⟩ = some (.string (useT (k + 1))) := by
  go_enter Tryz.func61, Tryz.ntmps61
  go_wp2
  go_ret
  refine ⟨rfl, (Below.refl _ w).alloc (Nat.le_refl _) _, by simp, fun k hk => ?_⟩
  rw [World.cell?_alloc_new]
  rcases below20 hk with rfl | rfl | rfl | rfl | rfl | rfl | rfl | rfl | rfl | rfl | rfl | rfl | rfl | rfl | rfl | rfl | rfl | rfl | rfl | rfl <;> rfl


theorem below_undrew {W w3 : World} (hb : Below W.drew.heap.size W.drew w3) : Below W.heap.size W w3 := ⟨hb.os, hb.tape, hb.output, hb.size, hb.block⟩
/-- The six cells of an instruction, one behind the other. -/
structure Bx6 (w : World) (B o : Nat) (x : I) : Prop where
  c0 : w.cell? ⟨B, o, none⟩ = some (.int .i64 x.op)
  c1 : w.cell? ⟨B, o + 1, none⟩ = some (.int .i64 x.a)
  c2 : w.cell? ⟨B, o + 2, none⟩ = some (.int .i64 x.b)
  c3 : w.cell? ⟨B, o + 3, none⟩ = some (.int .i64 x.c)
  c4 : w.cell? ⟨B, o + 4, none⟩ = some (.int .i64 x.n)
  c5 : w.cell? ⟨B, o + 5, none⟩ = some (.string x.s)
theorem Bx6.lt {w : World} {B o : Nat} {x : I} (h : Bx6 w B o x) : B < w.heap.size := World.block_lt_of_cell? w _ h.c0
theorem Bx6.below {w w' : World} {B o : Nat} {x : I} (h : Bx6 w B o x) (hb : Below w.heap.size w w') : Bx6 w' B o x := by
  have k : ∀ i v, w.cell? ⟨B, i, none⟩ = some v → w'.cell? ⟨B, i, none⟩ = some v := fun i v hv => (hb.cell (p := ⟨B, i, none⟩) h.lt).trans hv
  exact ⟨k _ _ h.c0, k _ _ h.c1, k _ _ h.c2, k _ _ h.c3, k _ _ h.c4, k _ _ h.c5⟩

set_option maxHeartbeats 2000000 in
theorem specIns_any (op a b c n N : Int) (s : ByteArray) (w : World) (hs : s.size ≤ maxLen) :
    Calls Tryz.prog 77 #[.agg #[.int .i64 op, .int .i64 a, .int .i64 b, .int .i64 c, .int .i64 n, .string s], .int .i64 N] w fun e w' => e = .returned (.bool (specOk ⟨op, a, b, c, n, s⟩ N)) ∧ Below w.heap.size w w' := by
  have hbn := (Below.refl w.heap.size w).alloc (Nat.le_refl _) (.cells #[.int .i64 op, .int .i64 a, .int .i64 b, .int .i64 c, .int .i64 n, .string s] 77)
  cases hN : Atom.inB N 1 200
  · have HR : Hid (specOk ⟨op, a, b, c, n, s⟩ N = false) := by show _ = _; unfold specOk; rw [hN]; rfl
    go_enter Tryz.func77, Tryz.ntmps77
    go_wp2_with (go_at_call 21; refine (Atom.in_any _ _ _ _).mono ?_; rintro e w' ⟨rfl, rfl⟩)
    go_ret
    exact ⟨ret_bool HR.out.symm, hbn⟩
  cases ho : Atom.inB op 1 20
  · have HR : Hid (specOk ⟨op, a, b, c, n, s⟩ N = false) := by show _ = _; unfold specOk; rw [hN]; simp only [ho]; rfl
    go_enter Tryz.func77, Tryz.ntmps77
    go_wp2_with (go_at_call 21; refine (Atom.in_any _ _ _ _).mono ?_; rintro e w' ⟨rfl, rfl⟩)
    go_ret
    exact ⟨ret_bool HR.out.symm, hbn⟩
  obtain ⟨k, hk, rfl⟩ : ∃ k : Nat, k < 20 ∧ op = (k : Int) + 1 := by
    have := of_decide_eq_true ho
    exact ⟨(op - 1).toNat, by omega, by omega⟩
  have e1 : IntKind.i64.wrap ((k : Int) + 1 - 1) = (k : Int) := by rw [IntKind.wrap_i64]; omega
  have e2 : IntKind.i64.wrap (k : Int) = (k : Int) := by rw [IntKind.wrap_i64]; omega
  have hki : (k : Int) < 20 := by omega
  have hU : (useT (k + 1)).size ≤ maxLen := Nat.le_trans (use_len _) (by unfold maxLen; omega)
  have HR : Hid (specOk ⟨(k : Int) + 1, a, b, c, n, s⟩ N = (regB (useT (k + 1)).data.toList 65 a && (regB (useT (k + 1)).data.toList 67 c && ((if (k : Int) + 1 = 11 then Atom.inB b 1 6 else regB (useT (k + 1)).data.toList 66 b) &&
    ((if (k : Int) + 1 = 2 then atomB s else s.data.toList.isEmpty) && numB ⟨(k : Int) + 1, a, b, c, n, s⟩ N))))) := by
    show _ = _; unfold specOk; rw [hN]; simp only [ho, Bool.true_and]; rfl
  have HBX : Hid (Bx6 (w.alloc (.cells #[.int .i64 ((k : Int) + 1), .int .i64 a, .int .i64 b, .int .i64 c, .int .i64 n, .string s] 77)) w.heap.size 0 ⟨(k : Int) + 1, a, b, c, n, s⟩) := by
    constructor <;> rw [World.cell?_alloc_new] <;> rfl
  go_enter Tryz.func77, Tryz.ntmps77
  go_wp2_with (go_at_call 21; refine (Atom.in_any _ _ _ _).mono ?_; rintro e w' ⟨rfl, rfl⟩)
  have HB1 : Hid (Below w.heap.size w (w.alloc (.cells #[.int .i64 ((k : Int) + 1), .int .i64 a, .int .i64 b, .int .i64 c, .int .i64 n, .string s] 77))) := hbn
  clear hbn
  generalize (w.alloc (.cells #[.int .i64 ((k : Int) + 1), .int .i64 a, .int .i64 b, .int .i64 c, .int .i64 n, .string s] 77)) = w1 at HB1 HBX ⊢
  obtain ⟨B, hB⟩ : ∃ B, B = w.heap.size := ⟨_, rfl⟩
  have HBB : Hid (B = w.heap.size) := hB
  rw [← hB] at HBX ⊢
  clear hB
  go_cut [5] from 15 to 21 (fun v wx => v = .string (useT (k + 1)) ∧ Below w1.heap.size w1 wx)
  case first =>
    have b0 := HBX.out.c0
    have K4 : Hid (∀ w5, Below w1.drew.heap.size w1.drew w5 → Bx6 w5 B 0 ⟨(k : Int) + 1, a, b, c, n, s⟩ ∧ Below w1.heap.size w1 w5) := fun w5 h => ⟨HBX.out.below (below_undrew h), below_undrew h⟩
    go_region_law (go_simp; go_wp2_with (go_at_call 61; refine (uses_any _).mono ?_; rintro e w5 ⟨rfl, hb5, _, hc5⟩; have HF5 := K4.out w5 hb5; have b5 := HF5.1.c0; have hc5' : w5.cell? ⟨w1.heap.size, k, none⟩ = some (.string (useT (k + 1))) := hc5 k hk; have HF6 : Hid (Below w1.heap.size w1 w5) := HF5.2; clear hc5 hb5 HF5))
    all_goals
      go_wp2_with fail
      try go_simp
      go_meet
      case rel => exact ⟨by simp, HF6.out⟩
  case rest =>
    obtain ⟨rfl, hbc⟩ := hcut
    have HBC : Hid (Below w.heap.size w wc) := HB1.out.trans (hbc.mono HB1.out.size)
    have HCX := HBX.out.below hbc
    have b0 := HCX.c0
    have b1 := HCX.c1
    have b2 := HCX.c2
    have b3 := HCX.c3
    have b4 := HCX.c4
    have b5 := HCX.c5
    clear HBX HB1 hbc HCX e1 e2 HBB
    have hemp : s.toList.isEmpty = s.data.toList.isEmpty := by rw [ByteArray.toList_eq]
    have hst : ∃ q : Bool, s.data.toList.isEmpty = q := ⟨_, rfl⟩
    obtain ⟨q, hq⟩ := hst
    rw [hq] at hemp
    have HQ : Hid (s.data.toList.isEmpty = q) := hq
    clear hq
    cases hA : regB (useT (k + 1)).data.toList 65 a
    · go_wp2_with (go_at_call 93; refine (reg_any _ _ _ _ hU).mono ?_; rintro e w' ⟨rfl, rfl⟩)
      go_ret
      exact ⟨ret_bool (by rw [HR.out, hA]; rfl), HBC.out⟩
    cases hC : regB (useT (k + 1)).data.toList 67 c
    · go_wp2_with (go_at_call 93; refine (reg_any _ _ _ _ hU).mono ?_; rintro e w' ⟨rfl, rfl⟩)
      go_ret
      exact ⟨ret_bool (by rw [HR.out, hA, hC]; rfl), HBC.out⟩
    by_cases h11 : k = 10
    · subst h11
      cases hb : Atom.inB b 1 6
      · go_wp2_with (first
          | (go_at_call 93; refine (reg_any _ _ _ _ hU).mono ?_; rintro e w' ⟨rfl, rfl⟩)
          | (go_at_call 21; refine (Atom.in_any _ _ _ _).mono ?_; rintro e w' ⟨rfl, rfl⟩))
        go_ret
        exact ⟨ret_bool (by rw [HR.out, hA, hC]; simp [hb]), HBC.out⟩
      · cases q
        · go_wp2_with (first
            | (go_at_call 93; refine (reg_any _ _ _ _ hU).mono ?_; rintro e w' ⟨rfl, rfl⟩)
            | (go_at_call 21; refine (Atom.in_any _ _ _ _).mono ?_; rintro e w' ⟨rfl, rfl⟩))
          go_ret
          exact ⟨ret_bool (by rw [HR.out, hA, hC, HQ.out]; simp), HBC.out⟩
        · go_wp2_with (first
            | (go_at_call 93; refine (reg_any _ _ _ _ hU).mono ?_; rintro e w' ⟨rfl, rfl⟩)
            | (go_at_call 21; refine (Atom.in_any _ _ _ _).mono ?_; rintro e w' ⟨rfl, rfl⟩)
            | (go_at_call 94; refine (num_any _ _ _ _ _ _ _ _).mono ?_; rintro e w' ⟨rfl, hbn⟩; have HBN : Hid (Below _ _ _) := hbn; clear hbn))
          go_ret
          exact ⟨ret_bool (by rw [HR.out, hA, hC, HQ.out]; simp [hb]), HBC.out.trans (HBN.out.mono HBC.out.size)⟩
    · have h11' : ¬ ((k : Int) + 1 = 11) := by omega
      cases hb : regB (useT (k + 1)).data.toList 66 b
      · go_wp2_with (go_at_call 93; refine (reg_any _ _ _ _ hU).mono ?_; rintro e w' ⟨rfl, rfl⟩)
        go_ret
        exact ⟨ret_bool (by rw [HR.out, hA, hC, if_neg h11', hb]; rfl), HBC.out⟩
      by_cases h2 : k = 1
      · subst h2
        cases ha : atomB s
        · go_wp2_with (first
            | (go_at_call 93; refine (reg_any _ _ _ _ hU).mono ?_; rintro e w' ⟨rfl, rfl⟩)
            | (go_at_call 71; refine (Atom.spec_any _ _ hs).mono ?_; rintro e w' ⟨rfl, rfl⟩))
          go_ret
          exact ⟨ret_bool (by rw [HR.out, hA, hC, if_neg h11', hb]; simp [ha]), HBC.out⟩
        · go_wp2_with (first
            | (go_at_call 93; refine (reg_any _ _ _ _ hU).mono ?_; rintro e w' ⟨rfl, rfl⟩)
            | (go_at_call 71; refine (Atom.spec_any _ _ hs).mono ?_; rintro e w' ⟨rfl, rfl⟩)
            | (go_at_call 94; refine (num_any _ _ _ _ _ _ _ _).mono ?_; rintro e w' ⟨rfl, hbn⟩; have HBN : Hid (Below _ _ _) := hbn; clear hbn))
          go_ret
          exact ⟨ret_bool (by rw [HR.out, hA, hC, if_neg h11', hb]; simp [ha]), HBC.out.trans (HBN.out.mono HBC.out.size)⟩
      · have h2' : ¬ ((k : Int) + 1 = 2) := by omega
        cases q
        · go_wp2_with (go_at_call 93; refine (reg_any _ _ _ _ hU).mono ?_; rintro e w' ⟨rfl, rfl⟩)
          go_ret
          exact ⟨ret_bool (by rw [HR.out, hA, hC, if_neg h11', hb, if_neg h2', HQ.out]; rfl), HBC.out⟩
        · go_wp2_with (first
            | (go_at_call 93; refine (reg_any _ _ _ _ hU).mono ?_; rintro e w' ⟨rfl, rfl⟩)
            | (go_at_call 94; refine (num_any _ _ _ _ _ _ _ _).mono ?_; rintro e w' ⟨rfl, hbn⟩; have HBN : Hid (Below _ _ _) := hbn; clear hbn))
          go_ret
          exact ⟨ret_bool (by rw [HR.out, hA, hC, if_neg h11', hb, if_neg h2', HQ.out]; rfl), HBC.out.trans (HBN.out.mono HBC.out.size)⟩
end Go.Proofs.YtfjaphhijefdlaaGreatDoor.Code
