/-
  Words: what both kinds of MakeWord, TagOf and ValOf answer.
  (Ahead of it, in this text: What is right of a term but for what is in its L: l1Shape and rightAlone answer the same. How deep and how many: l1Look and spendTerm answer the same.)
-/
import Derived.Test.YtabgfaafpgholaaW1
import Derived.Deep.RegionWith
import Derived.BigQuiet
import Derived.WalkSmall
namespace Go.Proofs.Ytabgfaafpgholaa
open Go.RowKit Atom

def shapeB (k n : Int) (s : ByteArray) (len : Nat) : Bool :=
  if k = 1 then inB n (-1000000) 1000000 && decide (s.toList = []) && ((len : Int) == 0)
  else if k = 2 then atomB s && (n == 0) && ((len : Int) == 0)
  else if k = 3 then inB n 0 99999 && decide (s.toList = []) && ((len : Int) == 0)
  else if k = 4 then (n == 0) && decide (s.toList = []) && decide ((len : Int) ≤ 8)
  else if k = 5 then (n == 0) && decide (s.toList = []) && decide ((len : Int) ≤ 20)
  else if k = 6 then (n == 0) && decide ((s.size : Int) ≤ 40) && ((len : Int) == 0)
  else false
theorem atom_below (s : ByteArray) (w : World) (hs : s.size ≤ maxLen) :
    Calls Try.prog 76 #[.string s] w fun e w' => e = .returned (.bool (atomB s)) ∧ Below w.heap.size w w' :=
  (impl_any s w hs).mono fun e w' ⟨he, hw⟩ => ⟨he, by
    rcases hw with rfl | ⟨pos, rfl⟩
    · exact Below.refl _ _
    · exact (Below.refl _ _).alloc (Nat.le_refl _) _⟩

set_option maxHeartbeats 1000000 in
theorem shape_1 (n : Int) (s : ByteArray) (hm : s.size ≤ maxLen) (ao : Option Addr) (len cap : Nat) (w : World) :
    Calls Try.prog 89 #[.agg #[.int .i64 1, .int .i64 n, .string s, .slice ao len cap]] w fun e w' => e = .returned (.bool (shapeB 1 n s len)) ∧ Below w.heap.size w w' := by
  have HM : Hid (s.size ≤ maxLen) := hm
  unfold maxLen at hm
  cases h1 : inB n (-1000000) 1000000 <;> by_cases hs : s.toList = []
  all_goals
    go_enter Try.func89, Try.ntmps89
    go_wp2_with (first | (go_at_call 90; refine (in_any _ _ _ _).mono ?_; rintro e w' ⟨rfl, rfl⟩) | (go_at_call 92; refine (spec_any s _ HM.out).mono ?_; rintro e w' ⟨rfl, rfl⟩))
    go_ret
    exact ⟨ret_bool (by simp [shapeB, h1, hs]), (Below.refl _ _).alloc (Nat.le_refl _) _⟩

set_option maxHeartbeats 1000000 in
theorem shape_2 (n : Int) (s : ByteArray) (hm : s.size ≤ maxLen) (ao : Option Addr) (len cap : Nat) (w : World) :
    Calls Try.prog 89 #[.agg #[.int .i64 2, .int .i64 n, .string s, .slice ao len cap]] w fun e w' => e = .returned (.bool (shapeB 2 n s len)) ∧ Below w.heap.size w w' := by
  have HM : Hid (s.size ≤ maxLen) := hm
  unfold maxLen at hm
  cases h1 : atomB s <;> by_cases hn : n = 0
  all_goals
    go_enter Try.func89, Try.ntmps89
    go_wp2_with (first | (go_at_call 90; refine (in_any _ _ _ _).mono ?_; rintro e w' ⟨rfl, rfl⟩) | (go_at_call 92; refine (spec_any s _ HM.out).mono ?_; rintro e w' ⟨rfl, rfl⟩))
    go_ret
    exact ⟨ret_bool (by simp [shapeB, h1, hn]), (Below.refl _ _).alloc (Nat.le_refl _) _⟩

set_option maxHeartbeats 1000000 in
theorem shape_3 (n : Int) (s : ByteArray) (hm : s.size ≤ maxLen) (ao : Option Addr) (len cap : Nat) (w : World) :
    Calls Try.prog 89 #[.agg #[.int .i64 3, .int .i64 n, .string s, .slice ao len cap]] w fun e w' => e = .returned (.bool (shapeB 3 n s len)) ∧ Below w.heap.size w w' := by
  have HM : Hid (s.size ≤ maxLen) := hm
  unfold maxLen at hm
  cases h1 : inB n 0 99999 <;> by_cases hs : s.toList = []
  all_goals
    go_enter Try.func89, Try.ntmps89
    go_wp2_with (first | (go_at_call 90; refine (in_any _ _ _ _).mono ?_; rintro e w' ⟨rfl, rfl⟩) | (go_at_call 92; refine (spec_any s _ HM.out).mono ?_; rintro e w' ⟨rfl, rfl⟩))
    go_ret
    exact ⟨ret_bool (by simp [shapeB, h1, hs]), (Below.refl _ _).alloc (Nat.le_refl _) _⟩

set_option maxHeartbeats 1000000 in
theorem shape_4 (n : Int) (s : ByteArray) (hm : s.size ≤ maxLen) (ao : Option Addr) (len cap : Nat) (w : World) :
    Calls Try.prog 89 #[.agg #[.int .i64 4, .int .i64 n, .string s, .slice ao len cap]] w fun e w' => e = .returned (.bool (shapeB 4 n s len)) ∧ Below w.heap.size w w' := by
  have HM : Hid (s.size ≤ maxLen) := hm
  unfold maxLen at hm
  by_cases hn : n = 0 <;> by_cases hs : s.toList = []
  all_goals
    go_enter Try.func89, Try.ntmps89
    go_wp2_with (first | (go_at_call 90; refine (in_any _ _ _ _).mono ?_; rintro e w' ⟨rfl, rfl⟩) | (go_at_call 92; refine (spec_any s _ HM.out).mono ?_; rintro e w' ⟨rfl, rfl⟩))
    go_ret
    exact ⟨ret_bool (by simp [shapeB, hn, hs]), (Below.refl _ _).alloc (Nat.le_refl _) _⟩

set_option maxHeartbeats 1000000 in
theorem shape_5 (n : Int) (s : ByteArray) (hm : s.size ≤ maxLen) (ao : Option Addr) (len cap : Nat) (w : World) :
    Calls Try.prog 89 #[.agg #[.int .i64 5, .int .i64 n, .string s, .slice ao len cap]] w fun e w' => e = .returned (.bool (shapeB 5 n s len)) ∧ Below w.heap.size w w' := by
  have HM : Hid (s.size ≤ maxLen) := hm
  unfold maxLen at hm
  by_cases hn : n = 0 <;> by_cases hs : s.toList = []
  all_goals
    go_enter Try.func89, Try.ntmps89
    go_wp2_with (first | (go_at_call 90; refine (in_any _ _ _ _).mono ?_; rintro e w' ⟨rfl, rfl⟩) | (go_at_call 92; refine (spec_any s _ HM.out).mono ?_; rintro e w' ⟨rfl, rfl⟩))
    go_ret
    exact ⟨ret_bool (by simp [shapeB, hn, hs]), (Below.refl _ _).alloc (Nat.le_refl _) _⟩

set_option maxHeartbeats 1000000 in
theorem shape_6 (n : Int) (s : ByteArray) (hm : s.size ≤ maxLen) (ao : Option Addr) (len cap : Nat) (w : World) :
    Calls Try.prog 89 #[.agg #[.int .i64 6, .int .i64 n, .string s, .slice ao len cap]] w fun e w' => e = .returned (.bool (shapeB 6 n s len)) ∧ Below w.heap.size w w' := by
  have HM : Hid (s.size ≤ maxLen) := hm
  unfold maxLen at hm
  by_cases hn : n = 0 <;> by_cases hs : (s.size : Int) ≤ 40
  all_goals
    go_enter Try.func89, Try.ntmps89
    go_wp2_with (first | (go_at_call 90; refine (in_any _ _ _ _).mono ?_; rintro e w' ⟨rfl, rfl⟩) | (go_at_call 92; refine (spec_any s _ HM.out).mono ?_; rintro e w' ⟨rfl, rfl⟩))
    go_ret
    exact ⟨ret_bool (by first | (simp [shapeB, hn, hs]; done) | (simp [shapeB]; omega)), (Below.refl _ _).alloc (Nat.le_refl _) _⟩

set_option maxHeartbeats 1000000 in
theorem shape_0 (k n : Int) (h1 : (k == 1) = false) (h2 : (k == 2) = false) (h3 : (k == 3) = false) (h4 : (k == 4) = false) (h5 : (k == 5) = false) (h6 : (k == 6) = false) (s : ByteArray) (ao : Option Addr) (len cap : Nat) (w : World) :
    Calls Try.prog 89 #[.agg #[.int .i64 k, .int .i64 n, .string s, .slice ao len cap]] w fun e w' => e = .returned (.bool (shapeB k n s len)) ∧ Below w.heap.size w w' := by
  have HE : Hid (shapeB k n s len = false) := by
    show _ = _
    simp at h1 h2 h3 h4 h5 h6
    simp [shapeB, h1, h2, h3, h4, h5, h6]
  go_enter Try.func89, Try.ntmps89
  go_wp2_with fail
  go_ret
  exact ⟨ret_bool HE.out.symm, (Below.refl _ _).alloc (Nat.le_refl _) _⟩
theorem shape_any (k n : Int) (s : ByteArray) (hm : s.size ≤ maxLen) (ao : Option Addr) (len cap : Nat) (w : World) :
    Calls Try.prog 89 #[.agg #[.int .i64 k, .int .i64 n, .string s, .slice ao len cap]] w fun e w' => e = .returned (.bool (shapeB k n s len)) ∧ Below w.heap.size w w' := by
  by_cases h1 : k = 1
  · subst h1; exact shape_1 n s hm ao len cap w
  by_cases h2 : k = 2
  · subst h2; exact shape_2 n s hm ao len cap w
  by_cases h3 : k = 3
  · subst h3; exact shape_3 n s hm ao len cap w
  by_cases h4 : k = 4
  · subst h4; exact shape_4 n s hm ao len cap w
  by_cases h5 : k = 5
  · subst h5; exact shape_5 n s hm ao len cap w
  by_cases h6 : k = 6
  · subst h6; exact shape_6 n s hm ao len cap w
  exact shape_0 k n (by simpa using h1) (by simpa using h2) (by simpa using h3) (by simpa using h4) (by simpa using h5) (by simpa using h6) s ao len cap w

end Go.Proofs.Ytabgfaafpgholaa
namespace Go.Proofs.Ytabgfaafpgholaa
open Go.RowKit Atom
set_option linter.unusedVariables false

mutual
/-- How many are left behind t and all within it; nothing: t is not right. -/
def look : Tm → Nat → Nat → Option Nat
  | .mk k n s l, deep, left => if deep = 0 ∨ left = 0 ∨ shapeB k n s l.length = false then none else lookL l (deep - 1) (left - 1)
def lookL : List Tm → Nat → Nat → Option Nat
  | [], _, left => some left
  | t :: r, deep, left => match look t deep left with
    | none => none
    | some x => lookL r deep x
end
mutual
theorem look_le : ∀ (t : Tm) (d m x : Nat), look t d m = some x → x ≤ m
  | .mk k n s l, d, m, x, h => by
    rw [look] at h
    split at h
    · cases h
    · have := lookL_le l _ _ _ h; omega
theorem lookL_le : ∀ (l : List Tm) (d m x : Nat), lookL l d m = some x → x ≤ m
  | [], d, m, x, h => by rw [lookL] at h; cases h; exact Nat.le_refl _
  | t :: r, d, m, x, h => by
    rw [lookL] at h
    split at h
    · cases h
    · rename_i y hy
      have h1 := look_le t d m y hy
      have h2 := lookL_le r d y x h
      omega
end
theorem lookL_drop (l : List Tm) (k : Nat) (h : k < l.length) (d m : Nat) : lookL (l.drop k) d m = match look l[k] d m with | none => none | some x => lookL (l.drop (k + 1)) d x := by
  rw [List.drop_eq_getElem_cons h, lookL]

/-- What l1Look answers. -/
def lookI (o : Option Nat) : Int := match o with | none => -1 | some x => x

def LookT (t : Tm) : Prop := ∀ (B : Nat) (w : World) (v : Value) (deep left : Nat), RepV B w t v → deep ≤ 6 → left ≤ 100 →
  Calls Try.prog 65 #[v, .int .i64 deep, .int .i64 left] w fun e w' => e = .returned (.int .i64 (lookI (look t deep left))) ∧ Below w.heap.size w w'

/-- The first new block behind a call that lets it be. -/
theorem one_new {w w1 : World} {c1 : Array Value} {t1 : TypeId} (hb : Below (w.heap.size + 1) (w.alloc (.cells c1 t1)) w1) :
    w.heap.size + 1 ≤ w1.heap.size ∧ (∀ o, w1.cell? ⟨w.heap.size, o, none⟩ = c1[o]?) ∧ (∀ o, w1.frozen? ⟨w.heap.size, o, none⟩ = false) := by
  have e1 : (w.alloc (.cells c1 t1)).heap[w.heap.size]? = some (.cells c1 t1 (0, 0)) := by
    show (w.heap.push _)[w.heap.size]? = _
    simp
  have hs : (w.alloc (.cells c1 t1)).heap.size = w.heap.size + 1 := by
    show (w.heap.push _).size = _
    simp
  refine ⟨by have := hb.size; omega, fun o => ?_, fun o => ?_⟩
  · rw [hb.cell (p := ⟨w.heap.size, o, none⟩) (by show w.heap.size < _; omega)]
    unfold World.cell?; rw [e1]; rfl
  · rw [hb.frozen (p := ⟨w.heap.size, o, none⟩) (by show w.heap.size < _; omega)]
    unfold World.frozen?; rw [e1]; simp

set_option maxRecDepth 100000 in
set_option maxHeartbeats 1000000 in
theorem look_of (k n : Int) (s : ByteArray) (l : List Tm) (ih : ∀ t, t ∈ l → LookT t) : LookT (.mk k n s l) := by
  intro B w v deep left hv hd hm
  obtain ⟨ao, cap, rfl, hs, hl, hc, hr⟩ := hv
  have IH : Hid (∀ t, t ∈ l → LookT t) := ih
  have HR : Hid (RepL B w l ao) := hr
  have HE : Hid (look (.mk k n s l) deep left = if deep = 0 ∨ left = 0 ∨ shapeB k n s l.length = false then none else lookL l (deep - 1) (left - 1)) := by
    show look _ _ _ = _; rw [look]
  have HS : Hid (s.size ≤ maxLen) := hs
  clear ih hr hs
  unfold maxLen at hc
  by_cases h0 : deep = 0 ∨ left = 0
  · have HF : Hid (lookI (look (.mk k n s l) deep left) = -1) := by
      show _ = _; rw [HE.out, if_pos (by omega)]; rfl
    by_cases h1 : deep = 0
    · subst h1
      go_enter Try.func65, Try.ntmps65
      go_wp2_with fail
      go_ret
      exact ⟨ret_int HF.out.symm, (Below.refl _ _).alloc (Nat.le_refl _) _⟩
    · have h2 : left = 0 := by omega
      subst h2
      go_enter Try.func65, Try.ntmps65
      go_wp2_with fail
      go_ret
      exact ⟨ret_int HF.out.symm, (Below.refl _ _).alloc (Nat.le_refl _) _⟩
  · have h1 : 1 ≤ deep := by omega
    have h2 : 1 ≤ left := by omega
    have d1 : decide ((deep : Int) < 1) = false := by simp; omega
    have d2 : decide ((left : Int) < 1) = false := by simp; omega
    clear h0
    go_enter Try.func65, Try.ntmps65
    go_wp2_with fail
    refine (shape_any k n s HS.out ao l.length cap _).mono ?_
    rintro e w1 ⟨rfl, hb1⟩
    obtain ⟨hz, q1, f1⟩ := one_new (hb1.mono (by simp))
    have HB1 : Hid (Below w.heap.size w w1) := ((Below.refl _ _).alloc (Nat.le_refl _) _).trans (hb1.mono (by simp))
    clear hb1
    cases hsh : shapeB k n s l.length
    · have HF : Hid (lookI (look (.mk k n s l) deep left) = -1) := by
        show _ = _; rw [HE.out, if_pos (by right; right; exact hsh)]; rfl
      clear HE
      go_wp2_with fail
      go_ret
      exact ⟨ret_int HF.out.symm, HB1.out⟩
    · have HF : Hid (look (.mk k n s l) deep left = lookL l (deep - 1) (left - 1)) := by
        show _ = _; rw [HE.out, if_neg (by rw [hsh]; simp; omega)]
      clear HE
      go_wp2_with fail
      go_loopw [2, 7] (fun a i w' => ∃ (j : Nat) (o : Option Nat), j ≤ l.length ∧ i = .int .i64 j ∧ a = .int .i64 (lookI o) ∧ (∀ x, o = some x → x ≤ left ∧ lookL (l.drop j) (deep - 1) x = lookL l (deep - 1) (left - 1)) ∧
          (o = none → lookL l (deep - 1) (left - 1) = none) ∧ Below w1.heap.size w1 w') (fun _ i _ => l.length - (intOf i).toNat)
      case atStart => exact ⟨0, some (left - 1), Nat.zero_le _, rfl, by show _ = Value.int .i64 (((left - 1 : Nat) : Nat) : Int); congr 1; omega, fun x hx => by cases hx; exact ⟨by omega, rfl⟩, (fun h => by cases h), Below.refl _ _⟩
      case round =>
        obtain ⟨j, o, hj, rfl, rfl, ho, hno, hb2⟩ := hrel
        have HB2 : Hid (Below w.heap.size w wr) := HB1.out.trans (hb2.mono (by omega))
        have q2 : wr.cell? ⟨w.heap.size, 3, none⟩ = some (.slice ao l.length cap) := by rw [hb2.cell (p := ⟨w.heap.size, 3, none⟩) (by show w.heap.size < _; omega), q1]; rfl
        have HB3 : Hid (Below w1.heap.size w1 wr) := hb2
        clear hb2 q1 f1
        cases o with
        | none =>
          have HN : Hid (lookI (look (.mk k n s l) deep left) = -1) := by show _ = _; rw [HF.out, hno rfl]; rfl
          clear ho hno
          by_cases hlt : j < l.length
          · simp only [lookI]
            go_wp2_with fail
            go_ret
            exact ⟨ret_int HN.out.symm, HB2.out⟩
          · simp only [lookI]
            go_wp2_with fail
            go_ret
            exact ⟨ret_int HN.out.symm, HB2.out⟩
        | some x =>
          obtain ⟨hx, hlk⟩ := ho x rfl
          have HK : Hid (lookL (l.drop j) (deep - 1) x = lookL l (deep - 1) (left - 1)) := hlk
          clear ho hno hlk
          simp only [lookI]
          by_cases hlt : j < l.length
          · obtain ⟨b, off, rfl, hB, ht⟩ := RepL.at l ao ((Keeps.below HB2.out B).repL _ _ HR.out) j hlt
            obtain ⟨tk, tn, ts, tao, tlen, tcap, c0, c1, c2, c3, hv⟩ := ht.cells
            have HV : Hid (RepV B wr l[j] (.agg #[.int .i64 tk, .int .i64 tn, .string ts, .slice tao tlen tcap])) := hv
            have HT : Hid (LookT l[j]) := IH.out _ (List.getElem_mem hlt)
            have HD := lookL_drop l j hlt (deep - 1) x
            have HD' : Hid (lookL (l.drop j) (deep - 1) x = match look l[j] (deep - 1) x with | none => none | some y => lookL (l.drop (j + 1)) (deep - 1) y) := HD
            have HLe : Hid (∀ y, look l[j] (deep - 1) x = some y → y ≤ x) := fun y hy => look_le _ _ _ _ hy
            clear hv ht HD
            go_wp2_with fail
            rw [show ((deep : Int) - 1) = ((deep - 1 : Nat) : Int) by omega]
            refine (HT.out B _ _ (deep - 1) x HV.out (by omega) (by omega)).mono ?_
            rintro e w2 ⟨rfl, hb4⟩
            have HB4 : Hid (Below w1.heap.size w1 w2) := HB3.out.trans (hb4.mono HB3.out.size)
            clear hb4
            revert HD' HLe
            generalize look l[j] (deep - 1) x = o'
            intro HD' HLe
            go_wp2_with fail
            go_roundw
            case rel =>
              refine ⟨j + 1, o', by omega, by go_num, rfl, fun y hy => ?_, fun hn => ?_, HB4.out⟩
              · subst hy
                exact ⟨by have := HLe.out y rfl; omega, by rw [← HK.out, HD'.out]⟩
              · subst hn
                rw [← HK.out, HD'.out]
            case measure => simp [intOf]; omega
          · go_wp2_with fail
            go_ret
            have hjl : j = l.length := by omega
            have h := HK.out
            rw [hjl, List.drop_length, lookL] at h
            exact ⟨ret_int (by rw [HF.out, ← h]; rfl), HB2.out⟩
theorem look_all : ∀ t, LookT t := Tm.ind fun k n s l ih => look_of k n s l ih
end Go.Proofs.Ytabgfaafpgholaa
namespace Go.Proofs.Ytabgfaafpgholaa
open Go.RowKit
set_option linter.unusedVariables false

def mkw (t v : Int) : Int := if inB t 0 6 && inB v 0 4000000 then v * 8 + t else 0
def tagW (x : Int) : Int := if x < 0 then 0 else x % 8
def valW (x : Int) : Int := if x < 0 then 0 else x / 8

theorem inB_yes {x a b : Int} (h : inB x a b = true) : a ≤ x ∧ x ≤ b := by simpa [inB] using h
theorem inB_no {x a b : Int} (h : ¬ (a ≤ x ∧ x ≤ b)) : inB x a b = false := by simpa [inB] using h

theorem i64_le {x : Int} (h : (Lit.int .i64 x).wf = true) : x ≤ 9223372036854775807 := by
  have h2 : decide (x ≤ IntKind.i64.max) = true := by
    have h' : (decide (IntKind.i64.min ≤ x) && decide (x ≤ IntKind.i64.max)) = true := h
    exact (Bool.and_eq_true_iff.1 h').2
  exact of_decide_eq_true h2

theorem specMake_any (t v : Int) (w : World) :
    Calls Try.prog 66 #[.int .i64 t, .int .i64 v] w fun e w' => e = .returned (.int .i64 (mkw t v)) ∧ w' = w := by
  have HM : Hid (mkw t v = if inB t 0 6 && inB v 0 4000000 then v * 8 + t else 0) := by show _ = _; rfl
  have ht : inB t 0 6 = true → 0 ≤ t ∧ t ≤ 6 := inB_yes
  have hv : inB v 0 4000000 = true → 0 ≤ v ∧ v ≤ 4000000 := inB_yes
  cases h1 : inB t 0 6
  · go_enter Try.func66, Try.ntmps66
    go_wp2_with (go_at_call 90; refine (in_any _ _ _ _).mono ?_; rintro e w' ⟨rfl, rfl⟩)
    go_ret
    exact ⟨ret_int (by rw [HM.out, h1]; rfl), rfl⟩
  · cases h2 : inB v 0 4000000
    · go_enter Try.func66, Try.ntmps66
      go_wp2_with (go_at_call 90; refine (in_any _ _ _ _).mono ?_; rintro e w' ⟨rfl, rfl⟩)
      go_ret
      exact ⟨ret_int (by rw [HM.out, h1, h2]; rfl), rfl⟩
    · have k1 := ht h1
      have k2 := hv h2
      go_enter Try.func66, Try.ntmps66
      go_wp2_with (go_at_call 90; refine (in_any _ _ _ _).mono ?_; rintro e w' ⟨rfl, rfl⟩)
      go_ret
      exact ⟨ret_int (by rw [HM.out, h1, h2]; rfl), rfl⟩

theorem implMake_any (t v : Int) (w : World) :
    Calls Try.prog 98 #[.int .i64 t, .int .i64 v] w fun e w' => e = .returned (.int .i64 (mkw t v)) ∧ w' = w := by
  have HM : Hid (mkw t v = if inB t 0 6 && inB v 0 4000000 then v * 8 + t else 0) := by show _ = _; rfl
  by_cases a1 : 0 ≤ t
  · by_cases a2 : t ≤ 6
    · by_cases a3 : 0 ≤ v
      · by_cases a4 : v ≤ 4000000
        · go_enter Try.func98, Try.ntmps98
          go_wp2
          go_ret
          exact ⟨ret_int (by rw [HM.out]; simp [inB, a1, a2, a3, a4]), rfl⟩
        · go_enter Try.func98, Try.ntmps98
          go_wp2
          go_ret
          exact ⟨ret_int (by rw [HM.out, inB_no (x := v) (by omega)]; simp), rfl⟩
      · go_enter Try.func98, Try.ntmps98
        go_wp2
        go_ret
        exact ⟨ret_int (by rw [HM.out, inB_no (x := v) (by omega)]; simp), rfl⟩
    · go_enter Try.func98, Try.ntmps98
      go_wp2
      go_ret
      exact ⟨ret_int (by rw [HM.out, inB_no (x := t) (by omega)]; simp), rfl⟩
  · go_enter Try.func98, Try.ntmps98
    go_wp2
    go_ret
    exact ⟨ret_int (by rw [HM.out, inB_no (x := t) (by omega)]; simp), rfl⟩

theorem specTag_any (x : Int) (w : World) :
    Calls Try.prog 115 #[.int .i64 x] w fun e w' => e = .returned (.int .i64 (tagW x)) ∧ w' = w := by
  by_cases h : x < 0
  · go_enter Try.func115, Try.ntmps115
    go_wp2
    go_ret
    exact ⟨ret_int (by rw [tagW, if_pos h]), rfl⟩
  · go_enter Try.func115, Try.ntmps115
    go_wp2
    go_ret
    exact ⟨ret_int (by rw [tagW, if_neg (by omega)]), rfl⟩
theorem specVal_any (x : Int) (hx : x ≤ 9223372036854775807) (w : World) :
    Calls Try.prog 114 #[.int .i64 x] w fun e w' => e = .returned (.int .i64 (valW x)) ∧ w' = w := by
  by_cases h : x < 0
  · go_enter Try.func114, Try.ntmps114
    go_wp2
    go_ret
    exact ⟨ret_int (by rw [valW, if_pos h]), rfl⟩
  · go_enter Try.func114, Try.ntmps114
    go_wp2
    go_ret
    exact ⟨ret_int (by rw [valW, if_neg (by omega)]), rfl⟩

def notB (x : Int) : Int := if x < 0 then 0 else x
theorem notB_any (x : Int) (w : World) :
    Calls Try.prog 132 #[.int .i64 x] w fun e w' => e = .returned (.int .i64 (notB x)) ∧ w' = w := by
  by_cases h : x < 0
  · go_enter Try.func132, Try.ntmps132
    go_wp2
    go_ret
    exact ⟨ret_int (by rw [notB, if_pos h]), rfl⟩
  · go_enter Try.func132, Try.ntmps132
    go_wp2
    go_ret
    exact ⟨ret_int (by rw [notB, if_neg (by omega)]), rfl⟩
theorem notB_ge (x : Int) : 0 ≤ notB x := by unfold notB; split <;> omega
theorem notB_le (x : Int) (h : x ≤ 9223372036854775807) : notB x ≤ 9223372036854775807 := by unfold notB; split <;> omega
theorem notB_tag (x : Int) : tagW x = notB x % 8 := by unfold notB tagW; split <;> simp
theorem notB_val (x : Int) : valW x = notB x / 8 := by unfold notB valW; split <;> simp
theorem implTag_any (x : Int) (hx : x ≤ 9223372036854775807) (w : World) :
    Calls Try.prog 120 #[.int .i64 x] w fun e w' => e = .returned (.int .i64 (tagW x)) ∧ w' = w := by
  have HT : Hid (tagW x = notB x % 8) := notB_tag x
  have hg := notB_ge x
  have hl := notB_le x hx
  go_enter Try.func120, Try.ntmps120
  go_wp2_with fail
  refine (notB_any _ _).mono ?_
  rintro e w' ⟨rfl, rfl⟩
  generalize notB x = y at *
  go_wp2_with fail
  go_ret
  exact ⟨ret_int HT.out.symm, rfl⟩
theorem implVal_any (x : Int) (hx : x ≤ 9223372036854775807) (w : World) :
    Calls Try.prog 121 #[.int .i64 x] w fun e w' => e = .returned (.int .i64 (valW x)) ∧ w' = w := by
  have HT : Hid (valW x = notB x / 8) := notB_val x
  have hg := notB_ge x
  have hl := notB_le x hx
  go_enter Try.func121, Try.ntmps121
  go_wp2_with fail
  refine (notB_any _ _).mono ?_
  rintro e w' ⟨rfl, rfl⟩
  generalize notB x = y at *
  go_wp2_with fail
  go_ret
  exact ⟨ret_int HT.out.symm, rfl⟩
end Go.Proofs.Ytabgfaafpgholaa
