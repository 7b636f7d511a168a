/-
  How deep and how many: l1Look and spendTerm answer the same.
-/
import Derived.Test.YtabgfaafpgholaaTmE
import Derived.WalkSmall
namespace Go.Proofs.Ytabgfaafpgholaa
open Go.RowKit Atom
set_option linter.unusedVariables false

mutual
/-- How many are left behind t and all within it; nothing: t is not right. -/
def look : Tm → Nat → Nat → Option Nat
  | .mk k n s l, deep, left => if deep = 0 ∨ left = 0 ∨ shapeB k n s l.length = false then none else lookL l (deep - 1) (left - 1)
def lookL : List Tm → Nat → Nat → Option Nat
  | [], _, left => some left
  | t :: r, deep, left => match look t deep left with
    | none => none
    | some x => lookL r deep x
end
mutual
theorem look_le : ∀ (t : Tm) (d m x : Nat), look t d m = some x → x ≤ m
  | .mk k n s l, d, m, x, h => by
    rw [look] at h
    split at h
    · cases h
    · have := lookL_le l _ _ _ h; omega
theorem lookL_le : ∀ (l : List Tm) (d m x : Nat), lookL l d m = some x → x ≤ m
  | [], d, m, x, h => by rw [lookL] at h; cases h; exact Nat.le_refl _
  | t :: r, d, m, x, h => by
    rw [lookL] at h
    split at h
    · cases h
    · rename_i y hy
      have h1 := look_le t d m y hy
      have h2 := lookL_le r d y x h
      omega
end
theorem lookL_drop (l : List Tm) (k : Nat) (h : k < l.length) (d m : Nat) : lookL (l.drop k) d m = match look l[k] d m with | none => none | some x => lookL (l.drop (k + 1)) d x := by
  rw [List.drop_eq_getElem_cons h, lookL]

/-- What l1Look answers. -/
def lookI (o : Option Nat) : Int := match o with | none => -1 | some x => x

def LookT (t : Tm) : Prop := ∀ (B : Nat) (w : World) (v : Value) (deep left : Nat), RepV B w t v → deep ≤ 6 → left ≤ 100 →
  Calls Try.prog 65 #[v, .int .i64 deep, .int .i64 left] w fun e w' => e = .returned (.int .i64 (lookI (look t deep left))) ∧ Below w.heap.size w w'

/-- The first new block behind a call that lets it be. -/
theorem one_new {w w1 : World} {c1 : Array Value} {t1 : TypeId} (hb : Below (w.heap.size + 1) (w.alloc (.cells c1 t1)) w1) :
    w.heap.size + 1 ≤ w1.heap.size ∧ (∀ o, w1.cell? ⟨w.heap.size, o, none⟩ = c1[o]?) ∧ (∀ o, w1.frozen? ⟨w.heap.size, o, none⟩ = false) := by
  have e1 : (w.alloc (.cells c1 t1)).heap[w.heap.size]? = some (.cells c1 t1 (0, 0)) := by
    show (w.heap.push _)[w.heap.size]? = _
    simp
  have hs : (w.alloc (.cells c1 t1)).heap.size = w.heap.size + 1 := by
    show (w.heap.push _).size = _
    simp
  refine ⟨by have := hb.size; omega, fun o => ?_, fun o => ?_⟩
  · rw [hb.cell (p := ⟨w.heap.size, o, none⟩) (by show w.heap.size < _; omega)]
    unfold World.cell?; rw [e1]; rfl
  · rw [hb.frozen (p := ⟨w.heap.size, o, none⟩) (by show w.heap.size < _; omega)]
    unfold World.frozen?; rw [e1]; simp

set_option maxRecDepth 100000 in
set_option maxHeartbeats 1000000 in
theorem look_of (k n : Int) (s : ByteArray) (l : List Tm) (ih : ∀ t, t ∈ l → LookT t) : LookT (.mk k n s l) := by
  intro B w v deep left hv hd hm
  obtain ⟨ao, cap, rfl, hs, hl, hc, hr⟩ := hv
  have IH : Hid (∀ t, t ∈ l → LookT t) := ih
  have HR : Hid (RepL B w l ao) := hr
  have HE : Hid (look (.mk k n s l) deep left = if deep = 0 ∨ left = 0 ∨ shapeB k n s l.length = false then none else lookL l (deep - 1) (left - 1)) := by
    show look _ _ _ = _; rw [look]
  have HS : Hid (s.size ≤ maxLen) := hs
  clear ih hr hs
  unfold maxLen at hc
  by_cases h0 : deep = 0 ∨ left = 0
  · have HF : Hid (lookI (look (.mk k n s l) deep left) = -1) := by
      show _ = _; rw [HE.out, if_pos (by omega)]; rfl
    by_cases h1 : deep = 0
    · subst h1
      go_enter Try.func65, Try.ntmps65
      go_wp2_with fail
      go_ret
      exact ⟨ret_int HF.out.symm, (Below.refl _ _).alloc (Nat.le_refl _) _⟩
    · have h2 : left = 0 := by omega
      subst h2
      go_enter Try.func65, Try.ntmps65
      go_wp2_with fail
      go_ret
      exact ⟨ret_int HF.out.symm, (Below.refl _ _).alloc (Nat.le_refl _) _⟩
  · have h1 : 1 ≤ deep := by omega
    have h2 : 1 ≤ left := by omega
    have d1 : decide ((deep : Int) < 1) = false := by simp; omega
    have d2 : decide ((left : Int) < 1) = false := by simp; omega
    clear h0
    go_enter Try.func65, Try.ntmps65
    go_wp2_with fail
    refine (shape_any k n s HS.out ao l.length cap _).mono ?_
    rintro e w1 ⟨rfl, hb1⟩
    obtain ⟨hz, q1, f1⟩ := one_new (hb1.mono (by simp))
    have HB1 : Hid (Below w.heap.size w w1) := ((Below.refl _ _).alloc (Nat.le_refl _) _).trans (hb1.mono (by simp))
    clear hb1
    cases hsh : shapeB k n s l.length
    · have HF : Hid (lookI (look (.mk k n s l) deep left) = -1) := by
        show _ = _; rw [HE.out, if_pos (by right; right; exact hsh)]; rfl
      clear HE
      go_wp2_with fail
      go_ret
      exact ⟨ret_int HF.out.symm, HB1.out⟩
    · have HF : Hid (look (.mk k n s l) deep left = lookL l (deep - 1) (left - 1)) := by
        show _ = _; rw [HE.out, if_neg (by rw [hsh]; simp; omega)]
      clear HE
      go_wp2_with fail
      go_loopw [2, 7] (fun a i w' => ∃ (j : Nat) (o : Option Nat), j ≤ l.length ∧ i = .int .i64 j ∧ a = .int .i64 (lookI o) ∧ (∀ x, o = some x → x ≤ left ∧ lookL (l.drop j) (deep - 1) x = lookL l (deep - 1) (left - 1)) ∧
          (o = none → lookL l (deep - 1) (left - 1) = none) ∧ Below w1.heap.size w1 w') (fun _ i _ => l.length - (intOf i).toNat)
      case atStart => exact ⟨0, some (left - 1), Nat.zero_le _, rfl, by show _ = Value.int .i64 (((left - 1 : Nat) : Nat) : Int); congr 1; omega, fun x hx => by cases hx; exact ⟨by omega, rfl⟩, (fun h => by cases h), Below.refl _ _⟩
      case round =>
        obtain ⟨j, o, hj, rfl, rfl, ho, hno, hb2⟩ := hrel
        have HB2 : Hid (Below w.heap.size w wr) := HB1.out.trans (hb2.mono (by omega))
        have q2 : wr.cell? ⟨w.heap.size, 3, none⟩ = some (.slice ao l.length cap) := by rw [hb2.cell (p := ⟨w.heap.size, 3, none⟩) (by show w.heap.size < _; omega), q1]; rfl
        have HB3 : Hid (Below w1.heap.size w1 wr) := hb2
        clear hb2 q1 f1
        cases o with
        | none =>
          have HN : Hid (lookI (look (.mk k n s l) deep left) = -1) := by show _ = _; rw [HF.out, hno rfl]; rfl
          clear ho hno
          by_cases hlt : j < l.length
          · simp only [lookI]
            go_wp2_with fail
            go_ret
            exact ⟨ret_int HN.out.symm, HB2.out⟩
          · simp only [lookI]
            go_wp2_with fail
            go_ret
            exact ⟨ret_int HN.out.symm, HB2.out⟩
        | some x =>
          obtain ⟨hx, hlk⟩ := ho x rfl
          have HK : Hid (lookL (l.drop j) (deep - 1) x = lookL l (deep - 1) (left - 1)) := hlk
          clear ho hno hlk
          simp only [lookI]
          by_cases hlt : j < l.length
          · obtain ⟨b, off, rfl, hB, ht⟩ := RepL.at l ao ((Keeps.below HB2.out B).repL _ _ HR.out) j hlt
            obtain ⟨tk, tn, ts, tao, tlen, tcap, c0, c1, c2, c3, hv⟩ := ht.cells
            have HV : Hid (RepV B wr l[j] (.agg #[.int .i64 tk, .int .i64 tn, .string ts, .slice tao tlen tcap])) := hv
            have HT : Hid (LookT l[j]) := IH.out _ (List.getElem_mem hlt)
            have HD := lookL_drop l j hlt (deep - 1) x
            have HD' : Hid (lookL (l.drop j) (deep - 1) x = match look l[j] (deep - 1) x with | none => none | some y => lookL (l.drop (j + 1)) (deep - 1) y) := HD
            have HLe : Hid (∀ y, look l[j] (deep - 1) x = some y → y ≤ x) := fun y hy => look_le _ _ _ _ hy
            clear hv ht HD
            go_wp2_with fail
            rw [show ((deep : Int) - 1) = ((deep - 1 : Nat) : Int) by omega]
            refine (HT.out B _ _ (deep - 1) x HV.out (by omega) (by omega)).mono ?_
            rintro e w2 ⟨rfl, hb4⟩
            have HB4 : Hid (Below w1.heap.size w1 w2) := HB3.out.trans (hb4.mono HB3.out.size)
            clear hb4
            revert HD' HLe
            generalize look l[j] (deep - 1) x = o'
            intro HD' HLe
            go_wp2_with fail
            go_roundw
            case rel =>
              refine ⟨j + 1, o', by omega, by go_num, rfl, fun y hy => ?_, fun hn => ?_, HB4.out⟩
              · subst hy
                exact ⟨by have := HLe.out y rfl; omega, by rw [← HK.out, HD'.out]⟩
              · subst hn
                rw [← HK.out, HD'.out]
            case measure => simp [intOf]; omega
          · go_wp2_with fail
            go_ret
            have hjl : j = l.length := by omega
            have h := HK.out
            rw [hjl, List.drop_length, lookL] at h
            exact ⟨ret_int (by rw [HF.out, ← h]; rfl), HB2.out⟩
theorem look_all : ∀ t, LookT t := Tm.ind fun k n s l ih => look_of k n s l ih
end Go.Proofs.Ytabgfaafpgholaa
