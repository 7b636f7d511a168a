/-
  What the program's AddAtom answers.
-/
import Derived.Test.YtabgfaafpgholaaW10
import Derived.Laws.MakeOwn
namespace Go.Proofs.Ytabgfaafpgholaa
open Go.RowKit
set_option linter.unusedVariables false

theorem run_make1 (n : Nat) (hn : n ≤ 1048576) (w : World) :
    (Instr.makeSlice 25 (.int .i64 (n : Int)) (.int .i64 ((n : Int) + 1))).run Try.prog w = .ok (.slice (some ⟨w.heap.size, 0, none⟩) n (n + 1)) (w.alloc (.cells (madeCells #[.string ByteArray.empty] (n + 1)) 9)) := by
  obtain ⟨i0, hi, hz0, hz1, hz2⟩ := info_parts infoStr1
  have h := run_make (P := Try.prog) w 25 9 i0 (.string ByteArray.empty) undStrs1 hi hz0 .i64 .i64 n ((n : Int) + 1) (by omega) (by omega) (by rw [hz2]; omega) (by omega)
  rw [hz1] at h
  have e1 : ((n : Int) + 1).toNat = n + 1 := by omega
  rw [e1, Nat.mul_one, Int.toNat_natCast] at h
  exact h

theorem sizeStr : (Try.prog.info? 9).map (·.size) = some 1 := by kernel_rfl
theorem run_fillT (W W0 : World) (B g cap b o : Nat) (L : List ByteArray) (hg : W.heap[g]? = some (.cells (madeCells #[.string ByteArray.empty] (L.length + 1)) 9 (0, 0))) (hsrc : Txt W b o L) (hb : Below B W0 W) (hBg : B ≤ g) (hN : L.length ≤ 1048576) :
    ∃ W2, (Builtin.copy_ #[25, 25] 3 #[.slice (some ⟨g, 0, none⟩) L.length (L.length + 1), .slice (some ⟨b, o, none⟩) L.length cap]).run Try.prog W = .ok (goInt L.length) W2 ∧
      W2.ownsRow B 9 1 (.slice (some ⟨g, 0, none⟩) L.length (L.length + 1)) L.length (L.map Value.string) ∧ Below B W0 W2 := by
  have hml : (madeCells #[.string ByteArray.empty] (L.length + 1)).size = L.length + 1 := size_madeCells _ _
  have hmx : L.length + 1 ≤ maxLen := by unfold maxLen; omega
  have hcl : (L.map Value.string).length = L.length := by simp
  by_cases h0 : L.length = 0
  · have hL : L = [] := List.eq_nil_of_length_eq_zero h0
    subst hL
    refine ⟨W, run_copy_none (P := Try.prog) W _ _ _ 9 _ _ _ _ _ _ undStrs1 sizeStr (Nat.min_self 0), ⟨rfl, .inr ⟨g, 1, _, rfl, hBg, hg, by simp, hmx, hml, by simp⟩⟩, hb⟩
  · have hrun := run_copy_row (P := Try.prog) W 25 25 3 9 g 0 L.length (L.length + 1) ⟨b, o, none⟩ L.length cap _ 9 (L.map Value.string) undStrs1 sizeStr hg (by rw [hcl]; exact (Nat.min_self _).symm) (srcT hsrc) (by rw [hcl, hml]; omega) (oneT L)
    rw [hcl] at hrun
    refine ⟨_, hrun, ⟨by simp, .inr ⟨g, L.length + 1, _, rfl, hBg, setRow_heap W g _ _ 9 _ hg, by omega, hmx, ?_, ?_⟩⟩, below_setRow hb hBg _⟩
    · simp only [List.size_toArray, List.length_append, List.length_take, List.length_drop, hcl, Array.length_toList, hml]
      omega
    · simp only [List.take_zero, List.nil_append, Nat.mul_one]
      rw [List.take_append_of_le_length (by rw [hcl]; exact Nat.le_refl _), List.take_of_length_le (by rw [hcl]; exact Nat.le_refl _)]

set_option maxHeartbeats 2000000 in
set_option maxRecDepth 100000 in
theorem implAdd_any (b o cap : Nat) (L : List ByteArray) (s : ByteArray) (w : World) (hr : Txt w b o L) (hN : L.length ≤ 1048576) (hs : s.size ≤ maxLen) :
    Calls Try.prog 131 #[.slice (some ⟨b, o, none⟩) L.length cap, .string s] w fun e w' => ∃ v, e = .returned (.tuple #[v, .int .i64 (addK L s)]) ∧ Row1 w' w.heap.size v (addL L s) ∧ Below w.heap.size w w' := by
  have HR : Hid (Txt w b o L) := hr
  have HS : Hid (s.size ≤ maxLen) := hs
  clear hr hs
  obtain ⟨i0, hi, hz0, hz1, hz2⟩ := info_parts infoStr1
  have HI : Hid (Try.prog.info? 9 = some i0 ∧ i0.zero = some (.string ByteArray.empty) ∧ i0.size = 1 ∧ i0.bytes = 16) := ⟨hi, hz0, hz1, hz2⟩
  clear hi hz0 hz1 hz2
  have hmk := run_make1 L.length hN w
  have hbm : Below w.heap.size w (w.alloc (.cells (madeCells #[.string ByteArray.empty] (L.length + 1)) 9)) := (Below.refl _ _).alloc (Nat.le_refl _) _
  obtain ⟨w2, hcp, hown, hb2⟩ := run_fillT (w.alloc (.cells (madeCells #[.string ByteArray.empty] (L.length + 1)) 9)) w w.heap.size w.heap.size cap b o L (heap_alloc_new w _) (HR.out.below hbm) hbm (Nat.le_refl _) hN
  have HOW : Hid (w2.ownsRow w.heap.size 9 1 (.slice (some ⟨w.heap.size, 0, none⟩) L.length (L.length + 1)) L.length (L.map Value.string)) := hown
  have HB2 : Hid (Below w.heap.size w w2) := hb2
  clear hown hb2 hbm
  have hK := idx_lt L s
  have hK0 := idx_ge L s
  go_enter Try.func131, Try.ntmps131
  go_wp2_with fail
  clear hcp hmk
  refine (implAtomAt_any b o cap L s _ (HR.out.below HB2.out) hN).mono ?_
  rintro e w3 ⟨rfl, rfl⟩
  by_cases hk : idx L s = -1
  · rw [hk] at hK hK0 ⊢
    have HK : Hid (idx L s = -1) := hk
    clear hk
    cases ha : Atom.atomB s with
    | false =>
      have HA : Hid (Atom.atomB s = false) := ha
      clear ha
      go_wp2_with fail
      refine (Atom.impl_any _ _ HS.out).mono ?_
      rintro e w4 ⟨rfl, hw4⟩
      rw [HA.out]
      have hb4 : Below w3.heap.size w3 w4 := by
        rcases hw4 with rfl | ⟨pos, rfl⟩
        · exact Below.refl _ _
        · exact (Below.refl _ _).alloc (Nat.le_refl _) _
      have hg4 : w3.grownBy w4 none := ⟨hb4.os, hb4.tape, hb4.output, hb4.size, fun k hk _ => hb4.block k hk⟩
      have HO4 : Hid (w4.ownsRow w.heap.size 9 1 (.slice (some ⟨w.heap.size, 0, none⟩) L.length (L.length + 1)) L.length (L.map Value.string)) := HOW.out.kept hg4 (.inr (by simp [Value.ownBlock]))
      have HB4 : Hid (Below w.heap.size w w4) := HB2.out.trans (hb4.mono HB2.out.size)
      clear hb4 hg4 hw4
      go_wp2_with fail
      have e0 : adds L s = false := adds_no2 HA.out
      refine bodyPost_ret (v := .tuple #[.slice (some ⟨w.heap.size, 0, none⟩) L.length (L.length + 1), .int .i64 (-1)]) (by simp [results, Try.results131, go_sem]) rfl ⟨.slice (some ⟨w.heap.size, 0, none⟩) L.length (L.length + 1), ?_, ?_, HB4.out⟩
      · rw [addK, e0, if_neg (by simp), HK.out]
      · rw [addL, e0, if_neg (by simp)]; exact ⟨_, _, rfl, HO4.out⟩
    | true =>
      have HA : Hid (Atom.atomB s = true) := ha
      clear ha
      go_wp2_with fail
      refine (Atom.impl_any _ _ HS.out).mono ?_
      rintro e w4 ⟨rfl, hw4⟩
      rw [HA.out]
      have hb4 : Below w3.heap.size w3 w4 := by
        rcases hw4 with rfl | ⟨pos, rfl⟩
        · exact Below.refl _ _
        · exact (Below.refl _ _).alloc (Nat.le_refl _) _
      have hg4 : w3.grownBy w4 none := ⟨hb4.os, hb4.tape, hb4.output, hb4.size, fun k hk _ => hb4.block k hk⟩
      have HO4 : Hid (w4.ownsRow w.heap.size 9 1 (.slice (some ⟨w.heap.size, 0, none⟩) L.length (L.length + 1)) L.length (L.map Value.string)) := HOW.out.kept hg4 (.inr (by simp [Value.ownBlock]))
      have HB4 : Hid (Below w.heap.size w w4) := HB2.out.trans (hb4.mono HB2.out.size)
      clear hb4 hg4 hw4
      by_cases hl : L.length < 200
      · have HE0 : Hid (adds L s = true) := adds_yes HK.out HA.out hl
        have HO5 : Hid ((w4.alloc (.cells #[.string s] 9)).ownsRow w.heap.size 9 1 (.slice (some ⟨w.heap.size, 0, none⟩) L.length (L.length + 1)) L.length (L.map Value.string)) := HO4.out.alloc _
        have HL5 : Hid ([Value.string s].length = 1 * 1) := rfl
        have C3 : Hid (L.length + 1 ≤ maxLen) := by show _ ≤ _; unfold maxLen; omega
        have C4 : Hid ((L.length + 1) * 16 ≤ 140737488355328) := by show _ ≤ _; omega
        have HB5 : Hid (Below w.heap.size w (w4.alloc (.cells #[.string s] 9))) := HB4.out.alloc HB4.out.size _
        go_wp2_with (at_builtin; refine wpList_append_own_at _ rfl _ _ 25 rfl w.heap.size 9 i0 (.string ByteArray.empty) 1 16 undStrs1 HI.out.1 HI.out.2.1 HI.out.2.2.1 HI.out.2.2.2 rfl Nat.zero_lt_one _ L.length _ rfl HO5.out ⟨_, 0, none⟩ 1 1 [.string s] rfl HL5.out (src1 _ s _) (one1 s) C3.out C4.out HB5.out.size ?_; intro v5 w5 hown5 hgr5 hnn5 hat5)
        have hrow : Row1 w5 w.heap.size v5 (L ++ [s]) := row_of (by rw [List.map_append]; exact hown5) (fun e => by have := (hnn5.1 e).1; cases this)
        have hb5 : Below w.heap.size w w5 := HB5.out.grown hgr5 HB5.out.size (fun k hk => (HO5.out.lt k hk).1)
        refine bodyPost_ret (v := .tuple #[v5, .int .i64 L.length]) (by simp [results, Try.results131, go_sem]) rfl ⟨v5, ?_, ?_, hb5⟩
        · rw [addK, HE0.out, if_pos rfl]
        · rw [addL, HE0.out, if_pos rfl]; exact hrow
      · have HE0 : Hid (adds L s = false) := adds_no3 hl
        go_wp2_with fail
        refine bodyPost_ret (v := .tuple #[.slice (some ⟨w.heap.size, 0, none⟩) L.length (L.length + 1), .int .i64 (-1)]) (by simp [results, Try.results131, go_sem]) rfl ⟨.slice (some ⟨w.heap.size, 0, none⟩) L.length (L.length + 1), ?_, ?_, HB4.out⟩
        · rw [addK, HE0.out, if_neg (by simp), HK.out]
        · rw [addL, HE0.out, if_neg (by simp)]; exact ⟨_, _, rfl, HO4.out⟩
  · have HE0 : Hid (adds L s = false) := adds_no1 hk
    have hp : 0 ≤ idx L s := by omega
    generalize hx : idx L s = x at *
    have HX : Hid (idx L s = x) := hx
    clear hx
    go_wp2_with fail
    refine bodyPost_ret (v := .tuple #[.slice (some ⟨w.heap.size, 0, none⟩) L.length (L.length + 1), .int .i64 x]) (by simp [results, Try.results131, go_sem]) rfl ⟨.slice (some ⟨w.heap.size, 0, none⟩) L.length (L.length + 1), ?_, ?_, HB2.out⟩
    · rw [addK, HE0.out, if_neg (by simp), HX.out]
    · rw [addL, HE0.out, if_neg (by simp)]; exact ⟨_, _, rfl, HOW.out⟩
end Go.Proofs.Ytabgfaafpgholaa
