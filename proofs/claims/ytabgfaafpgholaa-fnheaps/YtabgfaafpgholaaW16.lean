/-
  What is put is read back, as reckoning.
  (Ahead of it, in this text: A number that is drawn below another one, however great: what l1Below answers.
  A drawn term is right, and has room.
  No word that is put is great, and no atom long.)
-/
import Derived.Test.YtabgfaafpgholaaW4
import Derived.Test.YtabgfaafpgholaaW6
import Derived.Test.YtabgfaafpgholaaW13
import Derived.Test.YtabgfaafpgholaaW10
import Derived.Test.YtabgfaafpgholaaW7
namespace Go.Proofs.Ytabgfaafpgholaa
open Go.RowKit
set_option linter.unusedVariables false

theorem Drawn.then {cb : Nat} {ao : Option Addr} {len cap : Nat} {zs : List Int} {w w1 w2 : World} (h : Drawn cb ao len cap zs w w1) (k : Drawn cb ao len cap zs w1 w2) : Drawn cb ao len cap zs w w2 := ⟨k.1, h.2.trans k.2⟩
set_option maxHeartbeats 1000000 in
theorem below_big (cb : Nat) (ao : Option Addr) (len cap : Nat) (zs : List Int) (w : World) (hc : Cur cb ao len cap zs w) (n : Int) (h0 : 257 ≤ n) (h1 : n ≤ 1000000) :
    Calls Try.prog 55 #[.pointer (some ⟨cb, 0, none⟩), .int .i64 n] w fun e w' => ∃ x : Int, e = .returned (.int .i64 x) ∧ 0 ≤ x ∧ x < n ∧ Drawn cb ao len cap zs w w' := by
  have HC : Hid (Cur cb ao len cap zs w) := hc
  clear hc
  go_enter Try.func55, Try.ntmps55
  go_wp2_with fail
  refine (byte_any cb ao len cap zs _ HC.out).mono ?_
  rintro e w1 ⟨x, rfl, hx0, hx1, hc1, ht1⟩
  have HD : Hid (Drawn cb ao len cap zs w w1) := ⟨hc1, ht1⟩
  clear hc1 ht1
  go_wp2_with fail
  refine (byte_any cb ao len cap zs _ HD.out.1).mono ?_
  rintro e w2 ⟨y, rfl, hy0, hy1, hc2, ht2⟩
  have HD2 : Hid (Drawn cb ao len cap zs w w2) := HD.out.then ⟨hc2, ht2⟩
  clear hc2 ht2
  go_wp2_with fail
  refine (byte_any cb ao len cap zs _ HD2.out.1).mono ?_
  rintro e w3 ⟨z, rfl, hz0, hz1, hc3, ht3⟩
  have HD3 : Hid (Drawn cb ao len cap zs w w3) := HD2.out.then ⟨hc3, ht3⟩
  clear hc3 ht3
  go_wp2_with fail
  go_ret
  exact ⟨_, rfl, Int.emod_nonneg _ (by omega), Int.emod_lt_of_pos _ (by omega), HD3.out⟩
theorem below_none (cb : Nat) (w : World) (n : Int) (h0 : n ≤ 0) :
    Calls Try.prog 55 #[.pointer (some ⟨cb, 0, none⟩), .int .i64 n] w fun e w' => e = .returned (.int .i64 0) ∧ w' = w := by
  go_enter Try.func55, Try.ntmps55
  go_wp2_with fail
  go_ret
  exact ⟨rfl, rfl⟩
theorem below_all (cb : Nat) (ao : Option Addr) (len cap : Nat) (zs : List Int) (w : World) (hc : Cur cb ao len cap zs w) (n : Int) (h0 : 1 ≤ n) (h1 : n ≤ 1000000) :
    Calls Try.prog 55 #[.pointer (some ⟨cb, 0, none⟩), .int .i64 n] w fun e w' => ∃ x : Int, e = .returned (.int .i64 x) ∧ 0 ≤ x ∧ x < n ∧ Drawn cb ao len cap zs w w' := by
  by_cases h : n ≤ 256
  · exact below_any cb ao len cap zs w hc n h0 h
  · exact below_big cb ao len cap zs w hc n (by omega) h1
end Go.Proofs.Ytabgfaafpgholaa

namespace Go.Proofs.Ytabgfaafpgholaa
open Go.RowKit
set_option linter.unusedVariables false

theorem drawnAtom_ok {s : ByteArray} (h : s ∈ drawnAtoms) : Atom.atomB s = true := by
  simp only [drawnAtoms, List.mem_cons, List.not_mem_nil, or_false] at h
  rcases h with rfl | rfl | rfl | rfl <;> decide
theorem wf_shape {k n : Int} {s : ByteArray} {l : List Tm} (h : WfT (.mk k n s l)) : shapeB k n s l.length = true := by
  rw [WfT] at h
  obtain ⟨h, hl, _⟩ := h
  rcases h with ⟨rfl, rfl, rfl, h0, h1⟩ | ⟨rfl, rfl, rfl, h⟩ | ⟨rfl, rfl, rfl, h0, h1⟩ | ⟨rfl | rfl, rfl, rfl⟩ | ⟨rfl, rfl, rfl, h⟩
  · simp [shapeB, inB, h0, h1]
  · simp [shapeB, drawnAtom_ok h]
  · simp [shapeB, inB, h0]; omega
  · simp [shapeB]; omega
  · simp [shapeB]; omega
  · simp [shapeB]; omega
theorem wf_in {k n : Int} {s : ByteArray} {l : List Tm} (h : WfT (.mk k n s l)) : l.length ≤ 3 ∧ ∀ t, t ∈ l → WfT t := by
  rw [WfT] at h
  exact h.2
def szD : Nat → Nat
  | 0 => 1
  | d + 1 => 1 + 3 * szD d
theorem lookL_rt (d : Nat) (ih : ∀ (t : Tm) (deep left : Nat), RtT d t → d < deep → szD d ≤ left → ∃ x, look t deep left = some x ∧ left ≤ x + szD d) :
    ∀ (l : List Tm) (deep left : Nat), (∀ t, t ∈ l → RtT d t) → d < deep → l.length * szD d ≤ left → ∃ x, lookL l deep left = some x ∧ left ≤ x + l.length * szD d
  | [], deep, left, h, hd, hl => ⟨left, by rw [lookL], by simp⟩
  | t :: r, deep, left, h, hd, hl => by
    simp only [List.length_cons, Nat.add_mul, Nat.one_mul] at hl
    obtain ⟨x, e1, h1⟩ := ih t deep left (h t (by simp)) hd (by omega)
    obtain ⟨y, e2, h2⟩ := lookL_rt d ih r deep x (fun u hu => h u (by simp [hu])) hd (by omega)
    refine ⟨y, by rw [lookL, e1]; exact e2, ?_⟩
    simp only [List.length_cons, Nat.add_mul, Nat.one_mul]
    omega
theorem look_rt : ∀ (d : Nat) (t : Tm) (deep left : Nat), RtT d t → d < deep → szD d ≤ left → ∃ x, look t deep left = some x ∧ left ≤ x + szD d
  | 0, .mk k n s l, deep, left, h, hd, hl => by
    have hs := wf_shape h.1
    have he : l = [] := by have := h.2; rw [DpT] at this; exact this
    subst he
    rw [szD] at hl ⊢
    rw [look, if_neg (by rw [hs]; simp; omega), lookL]
    exact ⟨_, rfl, by omega⟩
  | d + 1, .mk k n s l, deep, left, h, hd, hl => by
    have hs := wf_shape h.1
    obtain ⟨h3, hw⟩ := wf_in h.1
    have he : ∀ t, t ∈ l → DpT d t := by have := h.2; rw [DpT] at this; exact this
    rw [szD] at hl ⊢
    have hm : l.length * szD d ≤ 3 * szD d := Nat.mul_le_mul_right _ h3
    rw [look, if_neg (by rw [hs]; simp; omega)]
    obtain ⟨x, e1, h1⟩ := lookL_rt d (fun t => look_rt d t) l (deep - 1) (left - 1) (fun t ht => ⟨hw t ht, he t ht⟩) (by omega) (by omega)
    exact ⟨x, e1, by omega⟩
theorem rt_ok {d : Nat} {t : Tm} (h : RtT d t) (hd : d ≤ 3) : (look t 6 100).isSome = true := by
  have hz : szD d ≤ 40 := by
    have : d = 0 ∨ d = 1 ∨ d = 2 ∨ d = 3 := by omega
    rcases this with rfl | rfl | rfl | rfl <;> decide
  obtain ⟨x, e, _⟩ := look_rt d t 6 100 h (by omega) (by omega)
  rw [e]; rfl
theorem wf_ndO {k n : Int} {s : ByteArray} {l : List Tm} (h : WfT (.mk k n s l)) : ndO k s l.length ≤ 6 := by
  rw [WfT] at h
  obtain ⟨h, hl, _⟩ := h
  unfold ndO
  rcases h with ⟨rfl, _⟩ | ⟨rfl, _⟩ | ⟨rfl, _⟩ | ⟨rfl | rfl, _⟩ | ⟨rfl, _, _, h⟩ <;> simp <;> omega
theorem ndL_rt (d : Nat) (ih : ∀ t : Tm, RtT d t → ndT t ≤ 6 * szD d) : ∀ l : List Tm, (∀ t, t ∈ l → RtT d t) → ndL l ≤ l.length * (6 * szD d)
  | [], h => by simp [ndL]
  | t :: r, h => by
    have h1 := ih t (h t (by simp))
    have h2 := ndL_rt d ih r (fun u hu => h u (by simp [hu]))
    rw [ndL]
    simp only [List.length_cons, Nat.add_mul, Nat.one_mul] at h2 ⊢
    omega
theorem nd_rt : ∀ (d : Nat) (t : Tm), RtT d t → ndT t ≤ 6 * szD d
  | 0, .mk k n s l, h => by
    have h0 := wf_ndO h.1
    have he : l = [] := by have := h.2; rw [DpT] at this; exact this
    subst he
    rw [ndT, ndL, szD]
    omega
  | d + 1, .mk k n s l, h => by
    have h0 := wf_ndO h.1
    obtain ⟨h3, hw⟩ := wf_in h.1
    have he : ∀ t, t ∈ l → DpT d t := by have := h.2; rw [DpT] at this; exact this
    have h1 := ndL_rt d (nd_rt d) l (fun t ht => ⟨hw t ht, he t ht⟩)
    have hm : l.length * (6 * szD d) ≤ 3 * (6 * szD d) := Nat.mul_le_mul_right _ h3
    rw [ndT, szD]
    omega
theorem addK_nn {A : List ByteArray} {s : ByteArray} (hs : Atom.atomB s = true) (hA : A.length < 200) : ¬ addK A s < 0 := by
  unfold addK
  split
  · omega
  · rename_i h
    have h1 : idx A s ≠ -1 := fun e => h (adds_yes e hs hA)
    have h2 := idx_ge A s
    omega
theorem ptL_rt (d : Nat) (ih : ∀ (t : Tm) (a : Nat) (A : List ByteArray), RtT d t → A.length + szD d ≤ 200 → ∃ ns A' w, ptT t a A = some (ns, A', w) ∧ A'.length ≤ A.length + szD d) :
    ∀ (l : List Tm) (a : Nat) (A : List ByteArray), (∀ t, t ∈ l → RtT d t) → A.length + l.length * szD d ≤ 200 → ∃ ws ns A', ptL l a A = some (ws, ns, A') ∧ A'.length ≤ A.length + l.length * szD d
  | [], a, A, h, hA => ⟨[], [], A, by rw [ptL], by simp⟩
  | t :: r, a, A, h, hA => by
    simp only [List.length_cons, Nat.add_mul, Nat.one_mul] at hA ⊢
    obtain ⟨ns, A1, w, e1, h1⟩ := ih t a A (h t (by simp)) (by omega)
    obtain ⟨ws, ns2, A2, e2, h2⟩ := ptL_rt d ih r (a + ns.length) A1 (fun u hu => h u (by simp [hu])) (by omega)
    exact ⟨w :: ws, ns ++ ns2, A2, by rw [ptL, e1]; simp only [e2], by omega⟩
theorem ptT_rt : ∀ (d : Nat) (t : Tm) (a : Nat) (A : List ByteArray), RtT d t → A.length + szD d ≤ 200 → ∃ ns A' w, ptT t a A = some (ns, A', w) ∧ A'.length ≤ A.length + szD d
  | d, .mk k n s l, a, A, h, hA => by
    obtain ⟨h3, hw⟩ := wf_in h.1
    have hL : ∀ a', ∃ ws ns A', ptL l a' A = some (ws, ns, A') ∧ A'.length ≤ A.length + (szD d - 1) := fun a' => by
      match d, h, hA with
      | 0, h, hA =>
        have he : l = [] := by have := h.2; rw [DpT] at this; exact this
        subst he
        exact ⟨[], [], A, by rw [ptL], by simp⟩
      | d + 1, h, hA =>
        have he : ∀ t, t ∈ l → DpT d t := by have := h.2; rw [DpT] at this; exact this
        rw [szD] at hA ⊢
        have hm : l.length * szD d ≤ 3 * szD d := Nat.mul_le_mul_right _ h3
        obtain ⟨ws, ns, A', e, h1⟩ := ptL_rt d (ptT_rt d) l a' A (fun t ht => ⟨hw t ht, he t ht⟩) (by omega)
        exact ⟨ws, ns, A', e, by omega⟩
    have hp : 1 ≤ szD d := by cases d <;> rw [szD] <;> omega
    rw [ptT]
    have hk := h.1
    rw [WfT] at hk
    rcases hk.1 with ⟨rfl, _⟩ | ⟨rfl, _, _, hs⟩ | ⟨rfl, _⟩ | ⟨rfl | rfl, _⟩ | ⟨rfl, _⟩
    · exact ⟨_, _, _, by simp only [if_pos]; rfl, by omega⟩
    · refine ⟨[], addL A s, mkw 1 (addK A s), ?_, by have := addL_len A s; omega⟩
      rw [if_neg (by decide), if_neg (by decide), if_pos rfl, if_neg (addK_nn (drawnAtom_ok hs) (by omega))]
    · exact ⟨_, _, _, by rw [if_neg (by decide), if_pos rfl], by omega⟩
    · obtain ⟨ws, ns, A', e, h1⟩ := hL (a + 1 + l.length)
      refine ⟨_, A', _, by rw [if_neg (by decide), if_neg (by decide), if_neg (by decide), if_neg (by decide), if_pos rfl, e], by omega⟩
    · rw [if_neg (by decide), if_neg (by decide), if_neg (by decide), if_neg (by decide), if_neg (by decide)]
      by_cases h0 : l.length = 0
      · rw [if_pos h0]; exact ⟨_, _, _, rfl, by omega⟩
      · rw [if_neg h0]
        obtain ⟨ws, ns, A', e, h1⟩ := hL (a + 2 * l.length)
        exact ⟨_, A', _, by rw [e], by omega⟩
    · exact ⟨_, _, _, by rw [if_neg (by decide), if_neg (by decide), if_neg (by decide), if_pos rfl], by omega⟩
  termination_by d => d
theorem put_first {t : Tm} (h : RtT 2 t) : PtR t [] [] ≠ none := by
  unfold PtR
  rw [if_pos ⟨rt_ok h (by omega), by have := nd_rt 2 t h; have e : szD 2 = 13 := rfl; rw [e] at this; simp only [List.length_nil]; omega⟩]
  obtain ⟨ns, A', w, e, _⟩ := ptT_rt 2 t 0 [] h (by decide)
  simp only [List.length_nil]
  rw [e]
  simp
end Go.Proofs.Ytabgfaafpgholaa

namespace Go.Proofs.Ytabgfaafpgholaa
open Go.RowKit
set_option linter.unusedVariables false

theorem mkw_le (t v : Int) : mkw t v ≤ 32000006 := by
  unfold mkw
  split
  · rename_i h
    rw [Bool.and_eq_true] at h
    have h1 := inB_yes h.1
    have h2 := inB_yes h.2
    omega
  · omega
theorem consL_le : ∀ (ws : List Int) (a : Nat), (∀ x ∈ ws, x ≤ 32000006) → ∀ x ∈ consL ws a, x ≤ 32000006
  | [], a, h, x, hx => by simp [consL] at hx
  | [y], a, h, x, hx => by
    simp only [consL, List.mem_cons, List.not_mem_nil, or_false] at hx
    rcases hx with rfl | rfl
    · exact h _ (by simp)
    · decide
  | y :: z :: r, a, h, x, hx => by
    rw [consL, List.mem_cons, List.mem_cons] at hx
    rcases hx with hx | hx | hx
    · rw [hx]; exact h y (List.mem_cons_self ..)
    · rw [hx]; exact mkw_le _ _
    · exact consL_le (z :: r) (a + 2) (fun u hu => h u (List.mem_cons_of_mem _ hu)) x hx
theorem bytesI_le (s : ByteArray) : ∀ x ∈ bytesI s, x ≤ 32000006 := by
  intro x hx
  unfold bytesI at hx
  obtain ⟨b, _, rfl⟩ := List.mem_map.1 hx
  have := b.toNat_lt
  omega
theorem addL_le {A : List ByteArray} {s : ByteArray} (h : ∀ x ∈ A, x.size ≤ 12) : ∀ x ∈ addL A s, x.size ≤ 12 := by
  intro x hx
  unfold addL at hx
  split at hx
  · rename_i ha
    rcases List.mem_append.1 hx with hx | hx
    · exact h x hx
    · have : x = s := by simpa using hx
      subst this
      have h2 : Atom.atomB x = true := by simp [adds] at ha; exact ha.1.2
      unfold Atom.atomB at h2
      simp at h2
      omega
  · exact h x hx
mutual
theorem ptT_le : ∀ (t : Tm) (a : Nat) (A : List ByteArray) (ns : List Int) (A' : List ByteArray) (w : Int), goodT t → ptT t a A = some (ns, A', w) → (∀ x ∈ A, x.size ≤ 12) → (∀ x ∈ ns, x ≤ 32000006) ∧ w ≤ 32000006 ∧ ∀ x ∈ A', x.size ≤ 12
  | .mk k n s l, a, A, ns, A', w, hg, h, hA => by
    rw [goodT] at hg
    have hsh := hg.1
    rw [ptT] at h
    by_cases k1 : k = 1
    · rw [if_pos k1] at h
      simp only [Option.some.injEq, Prod.mk.injEq] at h
      obtain ⟨rfl, rfl, rfl⟩ := h
      exact ⟨by simp, mkw_le _ _, hA⟩
    rw [if_neg k1] at h
    by_cases k3 : k = 3
    · rw [if_pos k3] at h
      simp only [Option.some.injEq, Prod.mk.injEq] at h
      obtain ⟨rfl, rfl, rfl⟩ := h
      exact ⟨by simp, mkw_le _ _, hA⟩
    rw [if_neg k3] at h
    by_cases k2 : k = 2
    · rw [if_pos k2] at h
      split at h
      · cases h
      · simp only [Option.some.injEq, Prod.mk.injEq] at h
        obtain ⟨rfl, rfl, rfl⟩ := h
        exact ⟨by simp, mkw_le _ _, addL_le hA⟩
    rw [if_neg k2] at h
    by_cases k6 : k = 6
    · rw [if_pos k6] at h
      simp only [Option.some.injEq, Prod.mk.injEq] at h
      obtain ⟨rfl, rfl, rfl⟩ := h
      refine ⟨fun x hx => ?_, mkw_le _ _, hA⟩
      rcases List.mem_cons.1 hx with rfl | hx
      · subst k6; simp [shapeB] at hsh; omega
      · exact bytesI_le s x hx
    rw [if_neg k6] at h
    by_cases k4 : k = 4
    · rw [if_pos k4] at h
      split at h
      · cases h
      · rename_i ws ns' A1 hp
        simp only [Option.some.injEq, Prod.mk.injEq] at h
        obtain ⟨rfl, rfl, rfl⟩ := h
        obtain ⟨h1, h2, h3⟩ := ptL_le l _ A ws ns' A1 hg.2 hp hA
        refine ⟨fun x hx => ?_, mkw_le _ _, h3⟩
        rcases List.mem_cons.1 hx with rfl | hx
        · subst k4; simp [shapeB] at hsh; omega
        · rcases List.mem_append.1 hx with hx | hx
          · exact h1 x hx
          · exact h2 x hx
    rw [if_neg k4] at h
    split at h
    · simp only [Option.some.injEq, Prod.mk.injEq] at h
      obtain ⟨rfl, rfl, rfl⟩ := h
      exact ⟨by simp, by decide, hA⟩
    · split at h
      · cases h
      · rename_i ws ns' A1 hp
        simp only [Option.some.injEq, Prod.mk.injEq] at h
        obtain ⟨rfl, rfl, rfl⟩ := h
        obtain ⟨h1, h2, h3⟩ := ptL_le l _ A ws ns' A1 hg.2 hp hA
        refine ⟨fun x hx => ?_, mkw_le _ _, h3⟩
        rcases List.mem_append.1 hx with hx | hx
        · exact consL_le ws a h1 x hx
        · exact h2 x hx
theorem ptL_le : ∀ (l : List Tm) (a : Nat) (A : List ByteArray) (ws ns : List Int) (A' : List ByteArray), goodL l → ptL l a A = some (ws, ns, A') → (∀ x ∈ A, x.size ≤ 12) → (∀ x ∈ ws, x ≤ 32000006) ∧ (∀ x ∈ ns, x ≤ 32000006) ∧ ∀ x ∈ A', x.size ≤ 12
  | [], a, A, ws, ns, A', _, h, hA => by
    rw [ptL] at h
    simp only [Option.some.injEq, Prod.mk.injEq] at h
    obtain ⟨rfl, rfl, rfl⟩ := h
    exact ⟨by simp, by simp, hA⟩
  | t :: r, a, A, ws, ns, A', hg, h, hA => by
    rw [goodL] at hg
    rw [ptL] at h
    split at h
    · cases h
    · rename_i ns1 A1 w1 hp
      obtain ⟨a1, a2, a3⟩ := ptT_le t a A ns1 A1 w1 hg.1 hp hA
      split at h
      · cases h
      · rename_i ws2 ns2 A2 hp2
        simp only [Option.some.injEq, Prod.mk.injEq] at h
        obtain ⟨rfl, rfl, rfl⟩ := h
        obtain ⟨b1, b2, b3⟩ := ptL_le r _ A1 ws2 ns2 A2 hg.2 hp2 a3
        refine ⟨fun x hx => ?_, fun x hx => ?_, b3⟩
        · rcases List.mem_cons.1 hx with rfl | hx
          · exact a2
          · exact b1 x hx
        · rcases List.mem_append.1 hx with hx | hx
          · exact a1 x hx
          · exact b2 x hx
end
/-- What was put, and where: no word great, no atom long. -/
def BW (xs : List Int) (A : List ByteArray) (ws : List Int) : Prop := (∀ x ∈ xs, x ≤ 32000006) ∧ (∀ s ∈ A, s.size ≤ 12) ∧ ∀ x ∈ ws, x ≤ 32000006
theorem BW.put {xs ns : List Int} {A A' : List ByteArray} {ws : List Int} {t : Tm} {x : Int} (h : BW xs A ws) (hp : PtR t xs A = some (ns, A', x)) : BW (xs ++ ns) A' (ws ++ [x]) := by
  unfold PtR at hp
  split at hp
  · rename_i hc
    obtain ⟨h1, h2, h3⟩ := ptT_le t _ A ns A' x (look_b hc.1).1 hp h.2.1
    refine ⟨fun y hy => ?_, h3, fun y hy => ?_⟩
    · rcases List.mem_append.1 hy with hy | hy
      · exact h.1 y hy
      · exact h1 y hy
    · rcases List.mem_append.1 hy with hy | hy
      · exact h.2.2 y hy
      · have : y = x := by simpa using hy
        subst this; exact h2
  · cases hp
theorem BW.nil : BW [] [] [] := ⟨by simp, by simp, by simp⟩
end Go.Proofs.Ytabgfaafpgholaa
namespace Go.Proofs.Ytabgfaafpgholaa
open Go.RowKit
set_option linter.unusedVariables false

theorem mkw_back {t v : Int} (h1 : 0 ≤ t ∧ t ≤ 6) (h2 : 0 ≤ v ∧ v ≤ 4000000) : tagW (mkw t v) = t ∧ valW (mkw t v) = v ∧ isW (mkw t v) = true := by
  have e : mkw t v = v * 8 + t := by unfold mkw inB; simp [h1, h2]
  have h0 : 0 ≤ v * 8 + t := by omega
  rw [e]
  have a1 : tagW (v * 8 + t) = t := by rw [tagW_of h0]; omega
  have a2 : valW (v * 8 + t) = v := by rw [valW_of h0]; omega
  exact ⟨a1, a2, isW_of h0 (by rw [a1]; omega) (by rw [a2]; omega)⟩
theorem empty_of {s : ByteArray} (h : s.toList = []) : s = ByteArray.empty := by
  rw [ByteArray.toList_eq] at h
  cases s with
  | mk d =>
    have : d = #[] := by
      cases d with
      | mk l => simp only at h; subst h; rfl
    subst this
    rfl
theorem addK_at (A : List ByteArray) (s : ByteArray) (h : ¬ addK A s < 0) : addK A s < (addL A s).length ∧ (addL A s).getD (addK A s).toNat ByteArray.empty = s := by
  unfold addK addL at *
  cases ha : adds A s with
  | true => simp; omega
  | false =>
    rw [ha] at h
    simp only [Bool.false_eq_true, if_false] at h ⊢
    rcases idx_cases A s with ⟨h1, _⟩ | ⟨m, hm, h1, h2, _⟩
    · omega
    · rw [h1]
      refine ⟨by omega, ?_⟩
      rw [Int.toNat_natCast]
      simp [hm, h2]
theorem txtB_back (s : ByteArray) : txt (bytesI s) = some s := by
  have hall : (bytesI s).all isByte = true := by
    rw [List.all_eq_true]
    intro x hx
    obtain ⟨b, _, rfl⟩ := List.mem_map.1 hx
    have := b.toNat_lt
    simp [isByte]
    omega
  unfold txt
  rw [if_pos hall]
  congr 1
  unfold txtB bytesI
  rw [List.map_map]
  cases s with
  | mk d =>
    congr 1
    have : (List.map ((fun x : Int => UInt8.ofNat x.toNat) ∘ fun b : UInt8 => (b.toNat : Int)) d.toList) = d.toList := by
      have e : ((fun x : Int => UInt8.ofNat x.toNat) ∘ fun b : UInt8 => (b.toNat : Int)) = id := by
        funext b
        simp
      rw [e, List.map_id]
    rw [this]
/-- The words ws are read as the terms l, one after the other. -/
def Chain (g : Rd) : List Int → List Tm → Nat → Nat → Prop
  | [], [], left, x => x = left
  | w :: ws, t :: l, left, x => ∃ y, g w left = some (t, y) ∧ Chain g ws l y x
  | _, _, _, _ => False
theorem chain_TR {H : Hp} {g : Rd} : ∀ (ws : List Int) (l : List Tm) (p left x : Nat), Chain g ws l left x → (∀ j (h : j < ws.length), H.f (p + j) = ws[j]) → TR H g l p left x
  | [], [], p, left, x, h, _ => by rw [Chain] at h; rw [TR]; exact h
  | w :: ws, t :: l, p, left, x, h, hf => by
    rw [Chain] at h
    obtain ⟨y, h1, h2⟩ := h
    rw [TR]
    refine ⟨y, by rw [show H.f p = w from hf 0 (by simp)]; exact h1, chain_TR ws l (p + 1) y x h2 (fun j hj => ?_)⟩
    have := hf (j + 1) (by simpa using hj)
    rw [Nat.add_assoc, Nat.add_comm 1 j]
    simpa using this
  | [], t :: l, p, left, x, h, _ => by rw [Chain] at h; exact h.elim; all_goals simp
  | w :: ws, [], p, left, x, h, _ => by rw [Chain] at h; exact h.elim; all_goals simp
theorem chain_LR {H : Hp} {g : Rd} (hN : H.N ≤ 1048576) : ∀ (ws : List Int) (l : List Tm) (p left x : Nat), ws ≠ [] → Chain g ws l left x → (∀ j (h : j < (consL ws p).length), H.f (p + j) = (consL ws p)[j]) → p + 2 * ws.length ≤ H.N → LR H g l (mkw 5 p) left x
  | [], _, _, _, _, h, _, _, _ => absurd rfl h
  | [w], [t], p, left, x, _, h, hf, hp => by
    rw [Chain] at h
    obtain ⟨y, h1, h2⟩ := h
    rw [Chain] at h2
    have hp' : p + 2 ≤ H.N := by simpa using hp
    obtain ⟨b1, b2, b3⟩ := mkw_back (t := 5) (v := (p : Int)) (by omega) (by omega)
    rw [LR]
    have f0 : H.f p = w := hf 0 (by simp [consL])
    have f1 : H.f (p + 1) = 3 := hf 1 (by simp [consL])
    refine ⟨fun e => by rw [e] at b1; simp [tagW] at b1, ⟨b1, by rw [b2]; omega⟩, y, by rw [b2, Int.toNat_natCast, f0]; exact h1, ?_⟩
    rw [b2, Int.toNat_natCast, f1, LR]
    exact ⟨rfl, h2⟩
  | w :: v :: ws, t :: l, p, left, x, _, h, hf, hp => by
    rw [Chain] at h
    obtain ⟨y, h1, h2⟩ := h
    have hp' : p + 2 * (ws.length + 2) ≤ H.N := by simpa using hp
    obtain ⟨b1, b2, b3⟩ := mkw_back (t := 5) (v := (p : Int)) (by omega) (by omega)
    rw [LR]
    have f0 : H.f p = w := hf 0 (by rw [consL_len]; simp)
    have f1 : H.f (p + 1) = mkw 5 ((p : Int) + 2) := (hf 1 (by rw [consL_len]; simp only [List.length_cons]; omega)).trans (by simp only [consL, List.getElem_cons_succ, List.getElem_cons_zero])
    refine ⟨fun e => by rw [e] at b1; simp [tagW] at b1, ⟨b1, by rw [b2]; omega⟩, y, by rw [b2, Int.toNat_natCast, f0]; exact h1, ?_⟩
    rw [b2, Int.toNat_natCast, f1]
    have e : ((p : Int) + 2) = ((p + 2 : Nat) : Int) := by omega
    rw [e]
    refine chain_LR hN (v :: ws) l (p + 2) y x (by simp) h2 (fun j hj => ?_) (by simp; omega)
    have := hf (j + 2) (by rw [consL_len] at hj ⊢; simp at hj ⊢; omega)
    rw [Nat.add_assoc, Nat.add_comm 2 j, this]
    simp [consL]
  | [w], [], p, left, x, _, h, _, _ => by rw [Chain] at h; exact h.elim; all_goals simp
  | [w], t :: u :: l, p, left, x, _, h, _, _ => by
    rw [Chain] at h
    obtain ⟨y, _, h2⟩ := h
    rw [Chain] at h2; exact h2.elim; all_goals simp
  | w :: v :: ws, [], p, left, x, _, h, _, _ => by rw [Chain] at h; exact h.elim; all_goals simp
/-- The words that are new stand behind the place a. -/
def Lies (H : Hp) (a : Nat) (ns : List Int) : Prop := ∀ j (h : j < ns.length), H.f (a + j) = ns[j]
theorem Lies.left {H : Hp} {a : Nat} {xs ys : List Int} (h : Lies H a (xs ++ ys)) : Lies H a xs := fun j hj => by
  rw [h j (by simp; omega), List.getElem_append_left hj]
theorem Lies.right {H : Hp} {a : Nat} {xs ys : List Int} (h : Lies H a (xs ++ ys)) : Lies H (a + xs.length) ys := fun j hj => by
  rw [Nat.add_assoc, h (xs.length + j) (by simp; omega), List.getElem_append_right (by omega)]
  congr 1
  omega
theorem Lies.tail {H : Hp} {a : Nat} {x : Int} {ys : List Int} (h : Lies H a (x :: ys)) : H.f a = x ∧ Lies H (a + 1) ys := by
  refine ⟨h 0 (by simp), fun j hj => ?_⟩
  have := h (j + 1) (by simpa using hj)
  rw [Nat.add_assoc, Nat.add_comm 1 j]
  simpa using this
theorem lies_words {H : Hp} {p : Nat} {ns : List Int} (h : Lies H p ns) : wordsAt H p ns.length = ns := by
  apply List.ext_getElem (by simp [wordsAt])
  intro j h1 h2
  rw [wordsAt_get]
  exact h j h2
mutual
theorem back_T {H : Hp} (ho : H.ok) : ∀ (t : Tm) (a : Nat) (A : List ByteArray) (ns : List Int) (A' : List ByteArray) (w : Int) (d left x : Nat), AllK t → look t d left = some x → ptT t a A = some (ns, A', w) → Lies H a ns → a + ns.length ≤ H.N → (∃ C, H.A = A' ++ C) → rT true H d w left = some (t, x)
  | .mk k n s l, a, A, ns, A', w, d, left, x, hK, hl, hp, hf, hN, hC => by
    have hn := ho.n
    have ha := ho.a
    rw [look] at hl
    split at hl
    · cases hl
    rename_i hcond
    obtain ⟨d', rfl⟩ : ∃ d', d = d' + 1 := ⟨d - 1, by omega⟩
    obtain ⟨m, rfl⟩ : ∃ m, left = m + 1 := ⟨left - 1, by omega⟩
    simp only [Nat.add_sub_cancel] at hl
    have hsh : shapeB k n s l.length = true := by
      cases h : shapeB k n s l.length with
      | true => rfl
      | false => exact absurd (Or.inr (Or.inr h)) hcond
    have key : isW w = true → raw true H (rT true H d') w m = some (.mk k n s l, x) → rT true H (d' + 1) w (m + 1) = some (.mk k n s l, x) := fun h1 h2 => by
      rw [rT_on h1]
      exact held_true.2 ⟨h2, hsh⟩
    rw [AllK] at hK
    rw [ptT] at hp
    unfold shapeB at hsh
    by_cases k1 : k = 1
    · subst k1
      rw [if_pos rfl] at hp hsh
      simp only [Option.some.injEq, Prod.mk.injEq] at hp
      obtain ⟨rfl, rfl, rfl⟩ := hp
      simp only [Bool.and_eq_true, decide_eq_true_eq, beq_iff_eq] at hsh
      obtain ⟨⟨h1, h2⟩, h3⟩ := hsh
      have h1' := inB_yes h1
      have hl0 : l = [] := List.eq_nil_of_length_eq_zero (by omega)
      subst hl0
      rw [lookL] at hl
      cases hl
      obtain ⟨b1, b2, b3⟩ := mkw_back (t := 0) (v := n + 1000000) (by omega) (by omega)
      refine key b3 ?_
      unfold raw
      rw [if_pos b1, if_neg (by simp), b2, show n + 1000000 - 1000000 = n by omega, empty_of h2]
    rw [if_neg k1] at hp hsh
    by_cases k3 : k = 3
    · subst k3
      rw [if_pos rfl] at hp
      rw [if_neg (by omega), if_pos rfl] at hsh
      simp only [Option.some.injEq, Prod.mk.injEq] at hp
      obtain ⟨rfl, rfl, rfl⟩ := hp
      simp only [Bool.and_eq_true, decide_eq_true_eq, beq_iff_eq] at hsh
      obtain ⟨⟨h1, h2⟩, h3⟩ := hsh
      have h1' := inB_yes h1
      have hl0 : l = [] := List.eq_nil_of_length_eq_zero (by omega)
      subst hl0
      rw [lookL] at hl
      cases hl
      obtain ⟨b1, b2, b3⟩ := mkw_back (t := 2) (v := n) (by omega) (by omega)
      refine key b3 ?_
      unfold raw
      rw [if_neg (by omega), if_neg (by omega), if_pos b1, b2, empty_of h2]
    rw [if_neg k3] at hp
    by_cases k2 : k = 2
    · subst k2
      rw [if_pos rfl] at hp hsh
      split at hp
      · cases hp
      rename_i hk
      simp only [Option.some.injEq, Prod.mk.injEq] at hp
      obtain ⟨rfl, rfl, rfl⟩ := hp
      simp only [Bool.and_eq_true, beq_iff_eq] at hsh
      obtain ⟨⟨h1, h2⟩, h3⟩ := hsh
      have hl0 : l = [] := List.eq_nil_of_length_eq_zero (by omega)
      subst hl0
      rw [lookL] at hl
      cases hl
      obtain ⟨C, hC⟩ := hC
      obtain ⟨c1, c2⟩ := addK_at A s hk
      have hlen : (addL A s).length ≤ H.A.length := by rw [hC]; simp
      obtain ⟨b1, b2, b3⟩ := mkw_back (t := 1) (v := addK A s) (by omega) (by omega)
      refine key b3 ?_
      unfold raw
      rw [if_neg (by omega), if_pos b1]
      unfold rAtom
      rw [b2, if_pos (by omega), hC]
      have e : (addL A s ++ C).getD (addK A s).toNat ByteArray.empty = s := by
        rw [List.getD_eq_getElem?_getD, List.getElem?_append_left (by omega), ← List.getD_eq_getElem?_getD]
        exact c2
      rw [e, h2]
    rw [if_neg k2] at hp hsh
    by_cases k6 : k = 6
    · subst k6
      rw [if_pos rfl] at hp
      rw [if_neg (by omega), if_neg (by omega), if_neg (by omega), if_pos rfl] at hsh
      simp only [Option.some.injEq, Prod.mk.injEq] at hp
      obtain ⟨rfl, rfl, rfl⟩ := hp
      simp only [Bool.and_eq_true, decide_eq_true_eq, beq_iff_eq] at hsh
      obtain ⟨⟨h1, h2⟩, h3⟩ := hsh
      have hl0 : l = [] := List.eq_nil_of_length_eq_zero (by omega)
      subst hl0
      rw [lookL] at hl
      cases hl
      rw [List.length_cons, bytesI_len] at hN
      obtain ⟨b1, b2, b3⟩ := mkw_back (t := 6) (v := (a : Int)) (by omega) (by omega)
      obtain ⟨f0, f1⟩ := hf.tail
      refine key b3 ?_
      unfold raw
      rw [if_neg (by omega), if_neg (by omega), if_neg (by omega), if_neg (by omega), if_pos b1, b2]
      have hc : cnt H (a : Int) 40 = some s.size := by
        unfold cnt
        rw [Int.toNat_natCast, f0, if_pos ⟨by omega, by omega, by omega, by omega⟩]
        simp
      unfold rBin
      rw [hc]
      have hw : wordsAt H (a + 1) s.size = bytesI s := by
        have := lies_words f1
        rw [bytesI_len] at this
        exact this
      show bin x (txt (wordsAt H ((a : Int).toNat + 1) s.size)) = _
      rw [Int.toNat_natCast, hw, txtB_back, h1]
      rfl
    rw [if_neg k6] at hp
    by_cases k4 : k = 4
    · subst k4
      rw [if_pos rfl] at hp
      rw [if_neg (by omega), if_pos rfl] at hsh
      split at hp
      · cases hp
      rename_i ws ns' A1 hp1
      simp only [Option.some.injEq, Prod.mk.injEq] at hp
      obtain ⟨rfl, rfl, rfl⟩ := hp
      simp only [Bool.and_eq_true, decide_eq_true_eq, beq_iff_eq] at hsh
      obtain ⟨⟨h1, h2⟩, h3⟩ := hsh
      obtain ⟨e1, e2, _⟩ := ptL_len l _ A ws ns' A1 hK.2 hp1
      rw [List.length_cons, List.length_append] at hN
      obtain ⟨f0, f1⟩ := hf.tail
      have f2 := f1.right
      rw [e1] at f2
      have hch := back_L ho l _ A ws ns' A1 d' m x hK.2 hl hp1 f2 (by omega) hC
      obtain ⟨b1, b2, b3⟩ := mkw_back (t := 4) (v := (a : Int)) (by omega) (by omega)
      refine key b3 ?_
      unfold raw
      rw [if_neg (by omega), if_neg (by omega), if_neg (by omega), if_pos b1, b2]
      have hc : cnt H (a : Int) 8 = some l.length := by
        unfold cnt
        rw [Int.toNat_natCast, f0, if_pos ⟨by omega, by omega, by omega, by omega⟩]
        simp
      unfold rCnt
      rw [hc]
      show tup 4 (rTs H (rT true H d') l.length ((a : Int).toNat + 1) m) = _
      rw [Int.toNat_natCast, (rTs_iff H _ _ _ _ l x).2 ⟨rfl, chain_TR ws l (a + 1) m x hch f1.left⟩, h1, empty_of h2]
      rfl
    rw [if_neg k4] at hp
    have k5 : k = 5 := by rcases hK.1 with ⟨h, _⟩ | h | h <;> omega
    subst k5
    rw [if_neg (by omega), if_neg (by omega), if_pos rfl] at hsh
    simp only [Bool.and_eq_true, decide_eq_true_eq, beq_iff_eq] at hsh
    obtain ⟨⟨h1, h2⟩, h3⟩ := hsh
    split at hp
    · rename_i hl0
      simp only [Option.some.injEq, Prod.mk.injEq] at hp
      obtain ⟨rfl, rfl, rfl⟩ := hp
      have hl0' : l = [] := List.eq_nil_of_length_eq_zero hl0
      subst hl0'
      rw [lookL] at hl
      cases hl
      refine key (by decide) ?_
      have t3 : tagW 3 = 3 := by decide
      unfold raw
      rw [if_neg (by omega), if_neg (by omega), if_neg (by omega), if_neg (by omega), if_neg (by omega), if_neg (by omega), (rL_iff H _ _ _ _ [] x).2 ⟨Nat.zero_le _, by rw [LR]; exact ⟨rfl, rfl⟩⟩, h1, empty_of h2]
      rfl
    · rename_i hl0
      split at hp
      · cases hp
      rename_i ws ns' A1 hp1
      simp only [Option.some.injEq, Prod.mk.injEq] at hp
      obtain ⟨rfl, rfl, rfl⟩ := hp
      obtain ⟨e1, e2, _⟩ := ptL_len l _ A ws ns' A1 hK.2 hp1
      rw [List.length_append, consL_len, e1] at hN
      have f2 := hf.right
      rw [consL_len, e1] at f2
      have hch := back_L ho l _ A ws ns' A1 d' m x hK.2 hl hp1 f2 (by omega) hC
      obtain ⟨b1, b2, b3⟩ := mkw_back (t := 5) (v := (a : Int)) (by omega) (by omega)
      refine key b3 ?_
      have hLR : LR H (rT true H d') l (mkw 5 a) m x := chain_LR hn ws l a m x (fun e => by rw [e] at e1; simp at e1; omega) hch hf.left (by omega)
      have hll := LR_len (rT_lt true H d') l _ m x hLR
      unfold raw
      rw [if_neg (by omega), if_neg (by omega), if_neg (by omega), if_neg (by omega), if_neg (by omega), if_neg (by omega), if_pos rfl, (rL_iff H _ _ _ _ l x).2 ⟨by omega, hLR⟩, h1, empty_of h2]
      rfl
theorem back_L {H : Hp} (ho : H.ok) : ∀ (l : List Tm) (a : Nat) (A : List ByteArray) (ws ns : List Int) (A' : List ByteArray) (d left x : Nat), AllKL l → lookL l d left = some x → ptL l a A = some (ws, ns, A') → Lies H a ns → a + ns.length ≤ H.N → (∃ C, H.A = A' ++ C) → Chain (rT true H d) ws l left x
  | [], a, A, ws, ns, A', d, left, x, _, hl, hp, _, _, _ => by
    rw [lookL] at hl
    rw [ptL] at hp
    simp only [Option.some.injEq, Prod.mk.injEq] at hp hl
    obtain ⟨rfl, rfl, rfl⟩ := hp
    rw [Chain]; exact hl.symm
  | t :: r, a, A, ws, ns, A', d, left, x, hK, hl, hp, hf, hN, hC => by
    rw [AllKL] at hK
    rw [lookL] at hl
    rw [ptL] at hp
    split at hl
    · cases hl
    rename_i y hy
    split at hp
    · cases hp
    rename_i ns1 A1 w1 hp1
    split at hp
    · cases hp
    rename_i ws2 ns2 A2 hp2
    simp only [Option.some.injEq, Prod.mk.injEq] at hp
    obtain ⟨rfl, rfl, rfl⟩ := hp
    rw [List.length_append] at hN
    obtain ⟨_, _, B, rfl⟩ := ptL_len r _ _ ws2 ns2 A2 hK.2 hp2
    obtain ⟨C, hC⟩ := hC
    rw [Chain]
    exact ⟨y, back_T ho t a A ns1 A1 w1 d left y hK.1 hy hp1 hf.left (by omega) ⟨B ++ C, by rw [hC]; simp⟩, back_L ho r _ A1 ws2 ns2 _ d y x hK.2 hl hp2 hf.right (by omega) ⟨C, hC⟩⟩
end
end Go.Proofs.Ytabgfaafpgholaa
