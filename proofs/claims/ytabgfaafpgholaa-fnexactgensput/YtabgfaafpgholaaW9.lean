/-
  TermOk, the specification's and the program's; and the walk of the law.
  (Ahead of it, in this text: spendTerm answers as l1Look.)
-/
import Derived.Test.YtabgfaafpgholaaW8
import Derived.Test.YtabgfaafpgholaaW2
import Derived.Test.YtabgfaafpgholaaW5
namespace Go.Proofs.Ytabgfaafpgholaa
open Go.RowKit Atom
set_option linter.unusedVariables false

/-- What spendTerm answers. -/
def spendN (o : Option Nat) : Int := match o with | none => 0 | some x => x
theorem ret_pair {a b : Int} {x y : Bool} (h : a = b) (k : x = y) : Ending.returned (.tuple #[.int .i64 a, .bool x]) = .returned (.tuple #[.int .i64 b, .bool y]) := by rw [h, k]

def SpendT (t : Tm) : Prop := ∀ (B : Nat) (w : World) (v : Value) (deep left : Nat), RepV B w t v → deep ≤ 6 → left ≤ 100 →
  Calls Try.prog 116 #[v, .int .i64 deep, .int .i64 left] w fun e w' => e = .returned (.tuple #[.int .i64 (spendN (look t deep left)), .bool (look t deep left).isSome]) ∧ Below w.heap.size w w'

set_option maxRecDepth 100000 in
set_option maxHeartbeats 1000000 in
theorem spend_of (k n : Int) (s : ByteArray) (l : List Tm) (ih : ∀ t, t ∈ l → SpendT t) : SpendT (.mk k n s l) := by
  intro B w v deep left hv hd hm
  obtain ⟨ao, cap, rfl, hs, hl, hc, hr⟩ := hv
  have IH : Hid (∀ t, t ∈ l → SpendT t) := ih
  have HR : Hid (RepL B w l ao) := hr
  have HE : Hid (look (.mk k n s l) deep left = if deep = 0 ∨ left = 0 ∨ shapeB k n s l.length = false then none else lookL l (deep - 1) (left - 1)) := by
    show look _ _ _ = _; rw [look]
  have HS : Hid (s.size ≤ maxLen) := hs
  clear ih hr hs
  unfold maxLen at hc
  by_cases h0 : deep = 0 ∨ left = 0
  · have HF : Hid (look (.mk k n s l) deep left = none) := by
      show _ = _; rw [HE.out, if_pos (by omega)]
    by_cases h1 : deep = 0
    · subst h1
      go_enter Try.func116, Try.ntmps116
      go_wp2_with fail
      go_ret2
      exact ⟨ret_pair (by rw [HF.out]; rfl) (by rw [HF.out]; rfl), (Below.refl _ _).alloc (Nat.le_refl _) _⟩
    · have h2 : left = 0 := by omega
      subst h2
      have d1 : ((deep : Int) == 0) = false := by simp; omega
      go_enter Try.func116, Try.ntmps116
      go_wp2_with fail
      go_ret2
      exact ⟨ret_pair (by rw [HF.out]; rfl) (by rw [HF.out]; rfl), (Below.refl _ _).alloc (Nat.le_refl _) _⟩
  · have h1 : 1 ≤ deep := by omega
    have h2 : 1 ≤ left := by omega
    have d1 : ((deep : Int) == 0) = false := by simp; omega
    have d2 : ((left : Int) == 0) = false := by simp; omega
    clear h0
    go_enter Try.func116, Try.ntmps116
    go_wp2_with fail
    refine (right_any k n s HS.out ao l.length cap _).mono ?_
    rintro e w1 ⟨rfl, hb1⟩
    obtain ⟨hz, q1, f1⟩ := one_new (hb1.mono (by simp))
    have HB1 : Hid (Below w.heap.size w w1) := ((Below.refl _ _).alloc (Nat.le_refl _) _).trans (hb1.mono (by simp))
    clear hb1
    cases hsh : shapeB k n s l.length
    · have HF : Hid (look (.mk k n s l) deep left = none) := by
        show _ = _; rw [HE.out, if_pos (by right; right; exact hsh)]
      clear HE
      go_wp2_with fail
      go_ret2
      exact ⟨ret_pair (by rw [HF.out]; rfl) (by rw [HF.out]; rfl), HB1.out⟩
    · have HF : Hid (look (.mk k n s l) deep left = lookL l (deep - 1) (left - 1)) := by
        show _ = _; rw [HE.out, if_neg (by rw [hsh]; simp; omega)]
      clear HE
      go_wp2_with fail
      go_loopw [2, 28] (fun a i w' => ∃ (j x : Nat), j ≤ l.length ∧ i = .int .i64 j ∧ a = .int .i64 x ∧ x ≤ left ∧ lookL (l.drop j) (deep - 1) x = lookL l (deep - 1) (left - 1) ∧ Below w1.heap.size w1 w') (fun _ i _ => l.length - (intOf i).toNat)
      case atStart => exact ⟨0, left - 1, Nat.zero_le _, rfl, by congr 1; omega, by omega, rfl, Below.refl _ _⟩
      case round =>
        obtain ⟨j, x, hj, rfl, rfl, hx, hlk, hb2⟩ := hrel
        have HB2 : Hid (Below w.heap.size w wr) := HB1.out.trans (hb2.mono (by omega))
        have HB3 : Hid (Below w1.heap.size w1 wr) := hb2
        have HK : Hid (lookL (l.drop j) (deep - 1) x = lookL l (deep - 1) (left - 1)) := hlk
        clear hb2 q1 f1 hlk
        by_cases hlt : j < l.length
        · obtain ⟨b, off, rfl, hB, ht⟩ := RepL.at l ao ((Keeps.below HB2.out B).repL _ _ HR.out) j hlt
          obtain ⟨tk, tn, ts, tao, tlen, tcap, c0, c1, c2, c3, hv⟩ := ht.cells
          have HV : Hid (RepV B wr l[j] (.agg #[.int .i64 tk, .int .i64 tn, .string ts, .slice tao tlen tcap])) := hv
          have HT : Hid (SpendT l[j]) := IH.out _ (List.getElem_mem hlt)
          have HD := lookL_drop l j hlt (deep - 1) x
          have HD' : Hid (lookL (l.drop j) (deep - 1) x = match look l[j] (deep - 1) x with | none => none | some y => lookL (l.drop (j + 1)) (deep - 1) y) := HD
          have HLe : Hid (∀ y, look l[j] (deep - 1) x = some y → y ≤ x) := fun y hy => look_le _ _ _ _ hy
          clear hv ht HD
          go_wp2_with fail
          rw [show ((deep : Int) - 1) = ((deep - 1 : Nat) : Int) by omega]
          refine (HT.out B _ _ (deep - 1) x ((Keeps.below ?_ B).repV HV.out) (by omega) (by omega)).mono ?_
          · exact (Below.refl _ _).alloc (Nat.le_refl _) _
          rintro e w2 ⟨rfl, hb4⟩
          have HB4 : Hid (Below w1.heap.size w1 w2) := (HB3.out.alloc HB3.out.size _).trans (hb4.mono (by have := HB3.out.size; simp; omega))
          clear hb4 c0 c1 c2 c3
          revert HD' HLe
          generalize look l[j] (deep - 1) x = o'
          intro HD' HLe
          cases o' with
          | none =>
            have HN : Hid (look (.mk k n s l) deep left = none) := by show _ = _; rw [HF.out, ← HK.out, HD'.out]
            simp only [spendN, Option.isSome_none]
            go_wp2_with fail
            go_ret2
            exact ⟨ret_pair (by rw [HN.out]; rfl) (by rw [HN.out]; rfl), HB1.out.trans (HB4.out.mono (by omega))⟩
          | some y =>
            simp only [spendN, Option.isSome_some]
            go_wp2_with fail
            go_roundw
            case rel => exact ⟨j + 1, y, by omega, by go_num, rfl, by have := HLe.out y rfl; omega, by rw [← HK.out, HD'.out], HB4.out⟩
            case measure => simp [intOf]; omega
        · go_wp2_with fail
          go_ret2
          have hjl : j = l.length := by omega
          have h := HK.out
          rw [hjl, List.drop_length, lookL] at h
          exact ⟨ret_pair (by rw [HF.out, ← h]; rfl) (by rw [HF.out, ← h]; rfl), HB2.out⟩
theorem spend_all : ∀ t, SpendT t := Tm.ind fun k n s l ih => spend_of k n s l ih
end Go.Proofs.Ytabgfaafpgholaa
namespace Go.Proofs.Ytabgfaafpgholaa
open Go.RowKit Atom
set_option linter.unusedVariables false

theorem RepV.form {B : Nat} {w : World} {t : Tm} {v : Value} (h : RepV B w t v) : ∃ a b c d e f, v = .agg #[.int .i64 a, .int .i64 b, .string c, .slice d e f] := by
  obtain ⟨k', n', s', l'⟩ := t
  obtain ⟨ao', cap', e', _⟩ := h
  exact ⟨_, _, _, _, _, _, e'⟩

set_option maxHeartbeats 400000 in
theorem specOk_any (t : Tm) (B : Nat) (w : World) (v : Value) (hv : RepV B w t v) :
    Calls Try.prog 40 #[v] w fun e w' => e = .returned (.bool (look t 6 100).isSome) ∧ Below w.heap.size w w' := by
  obtain ⟨a, b, c, d, e, f, rfl⟩ := hv.form
  have HV : Hid (RepV B w t (.agg #[.int .i64 a, .int .i64 b, .string c, .slice d e f])) := hv
  clear hv
  go_enter Try.func40, Try.ntmps40
  go_wp2_with fail
  refine (look_all t B _ _ 6 100 ((Keeps.below ?_ B).repV HV.out) (by omega) (by omega)).mono ?_
  · exact (Below.refl _ _).alloc (Nat.le_refl _) _
  rintro e w1 ⟨rfl, hb1⟩
  have HB1 : Hid (Below w.heap.size w w1) := ((Below.refl _ _).alloc (Nat.le_refl _) _).trans (hb1.mono (by simp))
  clear hb1
  generalize ho : look t 6 100 = o
  have HO : Hid (look t 6 100 = o) := ho
  clear ho
  cases o with
  | none =>
    simp only [lookI]
    go_wp2_with fail
    go_ret
    exact ⟨ret_bool (by rw [HO.out]; rfl), HB1.out⟩
  | some x =>
    simp only [lookI]
    have hx : (0 : Int) ≤ (x : Int) := by omega
    go_wp2_with fail
    go_ret
    exact ⟨ret_bool (by rw [HO.out]; simp), HB1.out⟩

set_option maxHeartbeats 400000 in
theorem implOk_any (t : Tm) (B : Nat) (w : World) (v : Value) (hv : RepV B w t v) :
    Calls Try.prog 94 #[v] w fun e w' => e = .returned (.bool (look t 6 100).isSome) ∧ Below w.heap.size w w' := by
  obtain ⟨a, b, c, d, e, f, rfl⟩ := hv.form
  have HV : Hid (RepV B w t (.agg #[.int .i64 a, .int .i64 b, .string c, .slice d e f])) := hv
  clear hv
  go_enter Try.func94, Try.ntmps94
  go_wp2_with fail
  refine (spend_all t B _ _ 6 100 ((Keeps.below ?_ B).repV HV.out) (by omega) (by omega)).mono ?_
  · exact (Below.refl _ _).alloc (Nat.le_refl _) _
  rintro e w1 ⟨rfl, hb1⟩
  have HB1 : Hid (Below w.heap.size w w1) := ((Below.refl _ _).alloc (Nat.le_refl _) _).trans (hb1.mono (by simp))
  clear hb1
  go_wp2_with fail
  go_ret
  exact ⟨rfl, HB1.out⟩

theorem Below.repV {w w' : World} {B : Nat} {t : Tm} {v : Value} (h : Below w.heap.size w w') (hv : RepV B w t v) : RepV B w' t v := (Keeps.below h B).repV hv

end Go.Proofs.Ytabgfaafpgholaa
