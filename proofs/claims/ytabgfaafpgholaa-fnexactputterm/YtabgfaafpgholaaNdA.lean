/-
  How many words the specification says that a term needs.
-/
import Derived.Test.YtabgfaafpgholaaTmI
namespace Go.Proofs.Ytabgfaafpgholaa
open Go.RowKit
set_option linter.unusedVariables false

def ndO (k : Int) (s : ByteArray) (len : Nat) : Nat := if k = 4 then 1 + len else if k = 5 then 2 * len else if k = 6 then 1 + s.size else 0
mutual
def ndT : Tm → Nat
  | .mk k _ s l => ndO k s l.length + ndL l
def ndL : List Tm → Nat
  | [] => 0
  | t :: r => ndT t + ndL r
end
theorem ndL_take (l : List Tm) (i : Nat) (h : i < l.length) : ndL (l.take (i + 1)) = ndL (l.take i) + ndT l[i] := by
  induction l generalizing i with
  | nil => simp at h
  | cons t r ih =>
    cases i with
    | zero => simp [ndL]
    | succ j =>
      have := ih j (by simpa using h)
      rw [List.take_succ_cons, List.take_succ_cons, ndL, ndL, this]
      simp only [List.getElem_cons_succ]
      omega
theorem ndL_le (l : List Tm) (i : Nat) : ndL (l.take i) ≤ ndL l := by
  induction l generalizing i with
  | nil => simp [ndL]
  | cons t r ih =>
    cases i with
    | zero => simp [ndL]
    | succ j => rw [List.take_succ_cons, ndL, ndL]; have := ih j; omega
def NdC (t : Tm) : Prop := ∀ (B : Nat) (w : World) (v : Value), RepV B w t v → ndT t ≤ 1000000 →
  Calls Try.prog 41 #[v] w fun e w' => e = .returned (.int .i64 (ndT t)) ∧ Below w.heap.size w w'

set_option maxRecDepth 100000 in
set_option maxHeartbeats 4000000 in
theorem nd_of (k n : Int) (s : ByteArray) (l : List Tm) (ih : ∀ t, t ∈ l → NdC t) : NdC (.mk k n s l) := by
  intro B w v hv hm
  obtain ⟨ao, cap, rfl, hs, hl, hc, hr⟩ := hv
  have IH : Hid (∀ t, t ∈ l → NdC t) := ih
  have HR : Hid (RepL B w l ao) := hr
  clear ih hr
  unfold maxLen at hc hs
  rw [ndT] at hm ⊢
  obtain ⟨O, hO⟩ : ∃ O, ndO k s l.length = O := ⟨_, rfl⟩
  rw [hO] at hm ⊢
  have hOL : O + ndL l ≤ 1000000 := hm
  have hk : (k = 4 ∧ O = 1 + l.length) ∨ (k = 5 ∧ O = 2 * l.length) ∨ (k = 6 ∧ O = 1 + s.size) ∨ ((k == 4) = false ∧ (k == 5) = false ∧ (k == 6) = false ∧ O = 0) := by
    unfold ndO at hO
    by_cases h4 : k = 4
    · exact .inl ⟨h4, by rw [if_pos h4] at hO; exact hO.symm⟩
    · rw [if_neg h4] at hO
      by_cases h5 : k = 5
      · exact .inr (.inl ⟨h5, by rw [if_pos h5] at hO; exact hO.symm⟩)
      · rw [if_neg h5] at hO
        by_cases h6 : k = 6
        · exact .inr (.inr (.inl ⟨h6, by rw [if_pos h6] at hO; exact hO.symm⟩))
        · rw [if_neg h6] at hO
          exact .inr (.inr (.inr ⟨by simpa using h4, by simpa using h5, by simpa using h6, hO.symm⟩))
  clear hO hm
  have HRND : Hid (∀ wr, Below w.heap.size w wr → ∀ i (hi : i < l.length), ∃ b off a1 a2 a3 a4 a5 a6, ao = some ⟨b, off, none⟩ ∧ wr.cell? ⟨b, off + i * 4, none⟩ = some (.int .i64 a1) ∧ wr.cell? ⟨b, off + i * 4 + 1, none⟩ = some (.int .i64 a2) ∧ wr.cell? ⟨b, off + i * 4 + 2, none⟩ = some (.string a3) ∧ wr.cell? ⟨b, off + i * 4 + 3, none⟩ = some (.slice a4 a5 a6) ∧ RepV B wr l[i] (.agg #[.int .i64 a1, .int .i64 a2, .string a3, .slice a4 a5 a6])) := fun wr hb i hi => by
    obtain ⟨b, off, e, _, hT⟩ := RepL.at _ _ ((Keeps.below hb B).repL _ _ HR.out) i hi
    generalize l[i] = t at *
    obtain ⟨k', n', s', l'⟩ := t
    rw [RepT] at hT
    obtain ⟨h0, h1, h2, h3, ao', cap', h4, h5, h6, h7⟩ := hT
    exact ⟨b, off, k', n', s', ao', l'.length, cap', e, h0, h1, h2, h4, ao', cap', rfl, h3, h5, h6, h7⟩
  rcases hk with ⟨rfl, hO⟩ | ⟨rfl, hO⟩ | ⟨rfl, hO⟩ | ⟨h4, h5, h6, hO⟩
  all_goals
    have HO : Hid (O = _) := hO
    try have hb1 : l.length ≤ 1000000 := by omega
    try have hb2 : s.size ≤ 1000000 := by omega
    clear hO
    go_enter Try.func41, Try.ntmps41
    go_wp2_with fail
    go_loopw [3, 4] (fun vn vi wr => ∃ i : Nat, i ≤ l.length ∧ vi = .int .i64 i ∧ vn = .int .i64 ((O + ndL (l.take i) : Nat) : Int) ∧ Below (w.heap.size + 1) (w.alloc (.cells #[.int .i64 _, .int .i64 n, .string s, .slice ao l.length cap] 39)) wr) (fun _ vi _ => l.length - (intOf vi).toNat)
    case atStart => exact ⟨0, Nat.zero_le _, rfl, by have := HO.out; simp [ndL]; omega, Below.refl _ _⟩
    case round =>
      obtain ⟨i, hi0, rfl, rfl, hb⟩ := hrel
      obtain ⟨hz, q1, f1⟩ := one_new hb
      have HB : Hid (Below w.heap.size w wr) := ((Below.refl _ _).alloc (Nat.le_refl _) _).trans (hb.mono (Nat.le_succ _))
      have HB1 : Hid (Below (w.heap.size + 1) _ wr) := hb
      clear hb
      have hle := ndL_le l i
      by_cases hlt : i < l.length
      · have htk := ndL_take l i hlt
        have hle2 := ndL_le l (i + 1)
        obtain ⟨b, off, a1, a2, a3, a4, a5, a6, rfl, c0, c1, c2, c3, hv⟩ := HRND.out wr HB.out i hlt
        have HV : Hid (RepV B wr l[i] (.agg #[.int .i64 a1, .int .i64 a2, .string a3, .slice a4 a5 a6])) := hv
        have HT : Hid (NdC l[i]) := IH.out _ (List.getElem_mem hlt)
        have HTK : Hid (O + ndL (l.take (i + 1)) = O + ndL (l.take i) + ndT l[i]) := by show _ = _; omega
        have hnd : ndT l[i] ≤ 1000000 := by omega
        obtain ⟨y, hy⟩ : ∃ y, ndT l[i] = y := ⟨_, rfl⟩
        obtain ⟨z, hz'⟩ : ∃ z, O + ndL (l.take i) = z := ⟨_, rfl⟩
        rw [hy] at HTK hnd
        have hyz : (z : Int) + (y : Int) ≤ 1000000 := by omega
        have HY : Hid (ndT l[i] = y) := hy
        rw [hz'] at HTK ⊢
        clear hv htk hle2 hle hy hz'
        generalize l[i] = t at *
        go_wp2_with (go_at_call 41; refine (HT.out B _ _ HV.out (by rw [HY.out]; exact hnd)).mono ?_; rintro e w5 ⟨rfl, hb5⟩; rw [HY.out]; have HB5 : Hid (Below (w.heap.size + 1) _ w5) := HB1.out.trans (hb5.mono hz); clear hb5)
        go_roundw
        case rel => exact ⟨i + 1, by omega, by go_num, by rw [HTK.out]; exact congrArg (Value.int .i64) (by omega), HB5.out⟩
        case measure => simp [intOf]; omega
      · have hil : i = l.length := by omega
        have HE : Hid (O + ndL (l.take i) = O + ndL l) := by show _ = _; rw [hil]; simp
        clear hil
        go_wp2_with fail
        go_ret
        exact ⟨ret_int (by have := HE.out; omega), HB.out⟩
theorem nd_all : ∀ t, NdC t := Tm.ind fun k n s l ih => nd_of k n s l ih
end Go.Proofs.Ytabgfaafpgholaa
