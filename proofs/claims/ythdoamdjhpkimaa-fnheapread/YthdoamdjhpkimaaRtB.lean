/-
  A number that is drawn below another one, however great: what l1Below answers.
  A drawn term is right, and has room.
  No word that is put is great, and no atom long.
-/
import Derived.Test.YthdoamdjhpkimaaCurA
import Derived.Test.YthdoamdjhpkimaaDrB
import Derived.Test.YthdoamdjhpkimaaPuI
namespace Go.Proofs.Ythdoamdjhpkimaa
open Go.RowKit
set_option linter.unusedVariables false

theorem Drawn.then {cb : Nat} {ao : Option Addr} {len cap : Nat} {zs : List Int} {w w1 w2 : World} (h : Drawn cb ao len cap zs w w1) (k : Drawn cb ao len cap zs w1 w2) : Drawn cb ao len cap zs w w2 := ⟨k.1, h.2.trans k.2⟩
set_option maxHeartbeats 1000000 in
theorem below_big (cb : Nat) (ao : Option Addr) (len cap : Nat) (zs : List Int) (w : World) (hc : Cur cb ao len cap zs w) (n : Int) (h0 : 257 ≤ n) (h1 : n ≤ 1000000) :
    Calls Try.prog 41 #[.pointer (some ⟨cb, 0, none⟩), .int .i64 n] w fun e w' => ∃ x : Int, e = .returned (.int .i64 x) ∧ 0 ≤ x ∧ x < n ∧ Drawn cb ao len cap zs w w' := by
  have HC : Hid (Cur cb ao len cap zs w) := hc
  clear hc
  go_enter Try.func41, Try.ntmps41
  go_wp2_with fail
  refine (byte_any cb ao len cap zs _ HC.out).mono ?_
  rintro e w1 ⟨x, rfl, hx0, hx1, hc1, ht1⟩
  have HD : Hid (Drawn cb ao len cap zs w w1) := ⟨hc1, ht1⟩
  clear hc1 ht1
  go_wp2_with fail
  refine (byte_any cb ao len cap zs _ HD.out.1).mono ?_
  rintro e w2 ⟨y, rfl, hy0, hy1, hc2, ht2⟩
  have HD2 : Hid (Drawn cb ao len cap zs w w2) := HD.out.then ⟨hc2, ht2⟩
  clear hc2 ht2
  go_wp2_with fail
  refine (byte_any cb ao len cap zs _ HD2.out.1).mono ?_
  rintro e w3 ⟨z, rfl, hz0, hz1, hc3, ht3⟩
  have HD3 : Hid (Drawn cb ao len cap zs w w3) := HD2.out.then ⟨hc3, ht3⟩
  clear hc3 ht3
  go_wp2_with fail
  go_ret
  exact ⟨_, rfl, Int.emod_nonneg _ (by omega), Int.emod_lt_of_pos _ (by omega), HD3.out⟩
theorem below_none (cb : Nat) (w : World) (n : Int) (h0 : n ≤ 0) :
    Calls Try.prog 41 #[.pointer (some ⟨cb, 0, none⟩), .int .i64 n] w fun e w' => e = .returned (.int .i64 0) ∧ w' = w := by
  go_enter Try.func41, Try.ntmps41
  go_wp2_with fail
  go_ret
  exact ⟨rfl, rfl⟩
theorem below_all (cb : Nat) (ao : Option Addr) (len cap : Nat) (zs : List Int) (w : World) (hc : Cur cb ao len cap zs w) (n : Int) (h0 : 1 ≤ n) (h1 : n ≤ 1000000) :
    Calls Try.prog 41 #[.pointer (some ⟨cb, 0, none⟩), .int .i64 n] w fun e w' => ∃ x : Int, e = .returned (.int .i64 x) ∧ 0 ≤ x ∧ x < n ∧ Drawn cb ao len cap zs w w' := by
  by_cases h : n ≤ 256
  · exact below_any cb ao len cap zs w hc n h0 h
  · exact below_big cb ao len cap zs w hc n (by omega) h1
end Go.Proofs.Ythdoamdjhpkimaa

namespace Go.Proofs.Ythdoamdjhpkimaa
open Go.RowKit
set_option linter.unusedVariables false

theorem drawnAtom_ok {s : ByteArray} (h : s ∈ drawnAtoms) : Atom.atomB s = true := by
  simp only [drawnAtoms, List.mem_cons, List.not_mem_nil, or_false] at h
  rcases h with rfl | rfl | rfl | rfl <;> decide
theorem wf_shape {k n : Int} {s : ByteArray} {l : List Tm} (h : WfT (.mk k n s l)) : shapeB k n s l.length = true := by
  rw [WfT] at h
  obtain ⟨h, hl, _⟩ := h
  rcases h with ⟨rfl, rfl, rfl, h0, h1⟩ | ⟨rfl, rfl, rfl, h⟩ | ⟨rfl, rfl, rfl, h0, h1⟩ | ⟨rfl | rfl, rfl, rfl⟩ | ⟨rfl, rfl, rfl, h⟩
  · simp [shapeB, inB, h0, h1]
  · simp [shapeB, drawnAtom_ok h]
  · simp [shapeB, inB, h0]; omega
  · simp [shapeB]; omega
  · simp [shapeB]; omega
  · simp [shapeB]; omega
theorem wf_in {k n : Int} {s : ByteArray} {l : List Tm} (h : WfT (.mk k n s l)) : l.length ≤ 3 ∧ ∀ t, t ∈ l → WfT t := by
  rw [WfT] at h
  exact h.2
def szD : Nat → Nat
  | 0 => 1
  | d + 1 => 1 + 3 * szD d
theorem lookL_rt (d : Nat) (ih : ∀ (t : Tm) (deep left : Nat), RtT d t → d < deep → szD d ≤ left → ∃ x, look t deep left = some x ∧ left ≤ x + szD d) :
    ∀ (l : List Tm) (deep left : Nat), (∀ t, t ∈ l → RtT d t) → d < deep → l.length * szD d ≤ left → ∃ x, lookL l deep left = some x ∧ left ≤ x + l.length * szD d
  | [], deep, left, h, hd, hl => ⟨left, by rw [lookL], by simp⟩
  | t :: r, deep, left, h, hd, hl => by
    simp only [List.length_cons, Nat.add_mul, Nat.one_mul] at hl
    obtain ⟨x, e1, h1⟩ := ih t deep left (h t (by simp)) hd (by omega)
    obtain ⟨y, e2, h2⟩ := lookL_rt d ih r deep x (fun u hu => h u (by simp [hu])) hd (by omega)
    refine ⟨y, by rw [lookL, e1]; exact e2, ?_⟩
    simp only [List.length_cons, Nat.add_mul, Nat.one_mul]
    omega
theorem look_rt : ∀ (d : Nat) (t : Tm) (deep left : Nat), RtT d t → d < deep → szD d ≤ left → ∃ x, look t deep left = some x ∧ left ≤ x + szD d
  | 0, .mk k n s l, deep, left, h, hd, hl => by
    have hs := wf_shape h.1
    have he : l = [] := by have := h.2; rw [DpT] at this; exact this
    subst he
    rw [szD] at hl ⊢
    rw [look, if_neg (by rw [hs]; simp; omega), lookL]
    exact ⟨_, rfl, by omega⟩
  | d + 1, .mk k n s l, deep, left, h, hd, hl => by
    have hs := wf_shape h.1
    obtain ⟨h3, hw⟩ := wf_in h.1
    have he : ∀ t, t ∈ l → DpT d t := by have := h.2; rw [DpT] at this; exact this
    rw [szD] at hl ⊢
    have hm : l.length * szD d ≤ 3 * szD d := Nat.mul_le_mul_right _ h3
    rw [look, if_neg (by rw [hs]; simp; omega)]
    obtain ⟨x, e1, h1⟩ := lookL_rt d (fun t => look_rt d t) l (deep - 1) (left - 1) (fun t ht => ⟨hw t ht, he t ht⟩) (by omega) (by omega)
    exact ⟨x, e1, by omega⟩
theorem rt_ok {d : Nat} {t : Tm} (h : RtT d t) (hd : d ≤ 3) : (look t 6 100).isSome = true := by
  have hz : szD d ≤ 40 := by
    have : d = 0 ∨ d = 1 ∨ d = 2 ∨ d = 3 := by omega
    rcases this with rfl | rfl | rfl | rfl <;> decide
  obtain ⟨x, e, _⟩ := look_rt d t 6 100 h (by omega) (by omega)
  rw [e]; rfl
theorem wf_ndO {k n : Int} {s : ByteArray} {l : List Tm} (h : WfT (.mk k n s l)) : ndO k s l.length ≤ 6 := by
  rw [WfT] at h
  obtain ⟨h, hl, _⟩ := h
  unfold ndO
  rcases h with ⟨rfl, _⟩ | ⟨rfl, _⟩ | ⟨rfl, _⟩ | ⟨rfl | rfl, _⟩ | ⟨rfl, _, _, h⟩ <;> simp <;> omega
theorem ndL_rt (d : Nat) (ih : ∀ t : Tm, RtT d t → ndT t ≤ 6 * szD d) : ∀ l : List Tm, (∀ t, t ∈ l → RtT d t) → ndL l ≤ l.length * (6 * szD d)
  | [], h => by simp [ndL]
  | t :: r, h => by
    have h1 := ih t (h t (by simp))
    have h2 := ndL_rt d ih r (fun u hu => h u (by simp [hu]))
    rw [ndL]
    simp only [List.length_cons, Nat.add_mul, Nat.one_mul] at h2 ⊢
    omega
theorem nd_rt : ∀ (d : Nat) (t : Tm), RtT d t → ndT t ≤ 6 * szD d
  | 0, .mk k n s l, h => by
    have h0 := wf_ndO h.1
    have he : l = [] := by have := h.2; rw [DpT] at this; exact this
    subst he
    rw [ndT, ndL, szD]
    omega
  | d + 1, .mk k n s l, h => by
    have h0 := wf_ndO h.1
    obtain ⟨h3, hw⟩ := wf_in h.1
    have he : ∀ t, t ∈ l → DpT d t := by have := h.2; rw [DpT] at this; exact this
    have h1 := ndL_rt d (nd_rt d) l (fun t ht => ⟨hw t ht, he t ht⟩)
    have hm : l.length * (6 * szD d) ≤ 3 * (6 * szD d) := Nat.mul_le_mul_right _ h3
    rw [ndT, szD]
    omega
theorem addK_nn {A : List ByteArray} {s : ByteArray} (hs : Atom.atomB s = true) (hA : A.length < 200) : ¬ addK A s < 0 := by
  unfold addK
  split
  · omega
  · rename_i h
    have h1 : idx A s ≠ -1 := fun e => h (adds_yes e hs hA)
    have h2 := idx_ge A s
    omega
theorem ptL_rt (d : Nat) (ih : ∀ (t : Tm) (a : Nat) (A : List ByteArray), RtT d t → A.length + szD d ≤ 200 → ∃ ns A' w, ptT t a A = some (ns, A', w) ∧ A'.length ≤ A.length + szD d) :
    ∀ (l : List Tm) (a : Nat) (A : List ByteArray), (∀ t, t ∈ l → RtT d t) → A.length + l.length * szD d ≤ 200 → ∃ ws ns A', ptL l a A = some (ws, ns, A') ∧ A'.length ≤ A.length + l.length * szD d
  | [], a, A, h, hA => ⟨[], [], A, by rw [ptL], by simp⟩
  | t :: r, a, A, h, hA => by
    simp only [List.length_cons, Nat.add_mul, Nat.one_mul] at hA ⊢
    obtain ⟨ns, A1, w, e1, h1⟩ := ih t a A (h t (by simp)) (by omega)
    obtain ⟨ws, ns2, A2, e2, h2⟩ := ptL_rt d ih r (a + ns.length) A1 (fun u hu => h u (by simp [hu])) (by omega)
    exact ⟨w :: ws, ns ++ ns2, A2, by rw [ptL, e1]; simp only [e2], by omega⟩
theorem ptT_rt : ∀ (d : Nat) (t : Tm) (a : Nat) (A : List ByteArray), RtT d t → A.length + szD d ≤ 200 → ∃ ns A' w, ptT t a A = some (ns, A', w) ∧ A'.length ≤ A.length + szD d
  | d, .mk k n s l, a, A, h, hA => by
    obtain ⟨h3, hw⟩ := wf_in h.1
    have hL : ∀ a', ∃ ws ns A', ptL l a' A = some (ws, ns, A') ∧ A'.length ≤ A.length + (szD d - 1) := fun a' => by
      match d, h, hA with
      | 0, h, hA =>
        have he : l = [] := by have := h.2; rw [DpT] at this; exact this
        subst he
        exact ⟨[], [], A, by rw [ptL], by simp⟩
      | d + 1, h, hA =>
        have he : ∀ t, t ∈ l → DpT d t := by have := h.2; rw [DpT] at this; exact this
        rw [szD] at hA ⊢
        have hm : l.length * szD d ≤ 3 * szD d := Nat.mul_le_mul_right _ h3
        obtain ⟨ws, ns, A', e, h1⟩ := ptL_rt d (ptT_rt d) l a' A (fun t ht => ⟨hw t ht, he t ht⟩) (by omega)
        exact ⟨ws, ns, A', e, by omega⟩
    have hp : 1 ≤ szD d := by cases d <;> rw [szD] <;> omega
    rw [ptT]
    have hk := h.1
    rw [WfT] at hk
    rcases hk.1 with ⟨rfl, _⟩ | ⟨rfl, _, _, hs⟩ | ⟨rfl, _⟩ | ⟨rfl | rfl, _⟩ | ⟨rfl, _⟩
    · exact ⟨_, _, _, by simp only [if_pos]; rfl, by omega⟩
    · refine ⟨[], addL A s, mkw 1 (addK A s), ?_, by have := addL_len A s; omega⟩
      rw [if_neg (by decide), if_neg (by decide), if_pos rfl, if_neg (addK_nn (drawnAtom_ok hs) (by omega))]
    · exact ⟨_, _, _, by rw [if_neg (by decide), if_pos rfl], by omega⟩
    · obtain ⟨ws, ns, A', e, h1⟩ := hL (a + 1 + l.length)
      refine ⟨_, A', _, by rw [if_neg (by decide), if_neg (by decide), if_neg (by decide), if_neg (by decide), if_pos rfl, e], by omega⟩
    · rw [if_neg (by decide), if_neg (by decide), if_neg (by decide), if_neg (by decide), if_neg (by decide)]
      by_cases h0 : l.length = 0
      · rw [if_pos h0]; exact ⟨_, _, _, rfl, by omega⟩
      · rw [if_neg h0]
        obtain ⟨ws, ns, A', e, h1⟩ := hL (a + 2 * l.length)
        exact ⟨_, A', _, by rw [e], by omega⟩
    · exact ⟨_, _, _, by rw [if_neg (by decide), if_neg (by decide), if_neg (by decide), if_pos rfl], by omega⟩
  termination_by d => d
theorem put_first {t : Tm} (h : RtT 2 t) : PtR t [] [] ≠ none := by
  unfold PtR
  rw [if_pos ⟨rt_ok h (by omega), by have := nd_rt 2 t h; have e : szD 2 = 13 := rfl; rw [e] at this; simp only [List.length_nil]; omega⟩]
  obtain ⟨ns, A', w, e, _⟩ := ptT_rt 2 t 0 [] h (by decide)
  simp only [List.length_nil]
  rw [e]
  simp
end Go.Proofs.Ythdoamdjhpkimaa

namespace Go.Proofs.Ythdoamdjhpkimaa
open Go.RowKit
set_option linter.unusedVariables false

theorem mkw_le (t v : Int) : mkw t v ≤ 32000006 := by
  unfold mkw
  split
  · rename_i h
    rw [Bool.and_eq_true] at h
    have h1 := inB_yes h.1
    have h2 := inB_yes h.2
    omega
  · omega
theorem consL_le : ∀ (ws : List Int) (a : Nat), (∀ x ∈ ws, x ≤ 32000006) → ∀ x ∈ consL ws a, x ≤ 32000006
  | [], a, h, x, hx => by simp [consL] at hx
  | [y], a, h, x, hx => by
    simp only [consL, List.mem_cons, List.not_mem_nil, or_false] at hx
    rcases hx with rfl | rfl
    · exact h _ (by simp)
    · decide
  | y :: z :: r, a, h, x, hx => by
    rw [consL, List.mem_cons, List.mem_cons] at hx
    rcases hx with hx | hx | hx
    · rw [hx]; exact h y (List.mem_cons_self ..)
    · rw [hx]; exact mkw_le _ _
    · exact consL_le (z :: r) (a + 2) (fun u hu => h u (List.mem_cons_of_mem _ hu)) x hx
theorem bytesI_le (s : ByteArray) : ∀ x ∈ bytesI s, x ≤ 32000006 := by
  intro x hx
  unfold bytesI at hx
  obtain ⟨b, _, rfl⟩ := List.mem_map.1 hx
  have := b.toNat_lt
  omega
theorem addL_le {A : List ByteArray} {s : ByteArray} (h : ∀ x ∈ A, x.size ≤ 12) : ∀ x ∈ addL A s, x.size ≤ 12 := by
  intro x hx
  unfold addL at hx
  split at hx
  · rename_i ha
    rcases List.mem_append.1 hx with hx | hx
    · exact h x hx
    · have : x = s := by simpa using hx
      subst this
      have h2 : Atom.atomB x = true := by simp [adds] at ha; exact ha.1.2
      unfold Atom.atomB at h2
      simp at h2
      omega
  · exact h x hx
mutual
theorem ptT_le : ∀ (t : Tm) (a : Nat) (A : List ByteArray) (ns : List Int) (A' : List ByteArray) (w : Int), goodT t → ptT t a A = some (ns, A', w) → (∀ x ∈ A, x.size ≤ 12) → (∀ x ∈ ns, x ≤ 32000006) ∧ w ≤ 32000006 ∧ ∀ x ∈ A', x.size ≤ 12
  | .mk k n s l, a, A, ns, A', w, hg, h, hA => by
    rw [goodT] at hg
    have hsh := hg.1
    rw [ptT] at h
    by_cases k1 : k = 1
    · rw [if_pos k1] at h
      simp only [Option.some.injEq, Prod.mk.injEq] at h
      obtain ⟨rfl, rfl, rfl⟩ := h
      exact ⟨by simp, mkw_le _ _, hA⟩
    rw [if_neg k1] at h
    by_cases k3 : k = 3
    · rw [if_pos k3] at h
      simp only [Option.some.injEq, Prod.mk.injEq] at h
      obtain ⟨rfl, rfl, rfl⟩ := h
      exact ⟨by simp, mkw_le _ _, hA⟩
    rw [if_neg k3] at h
    by_cases k2 : k = 2
    · rw [if_pos k2] at h
      split at h
      · cases h
      · simp only [Option.some.injEq, Prod.mk.injEq] at h
        obtain ⟨rfl, rfl, rfl⟩ := h
        exact ⟨by simp, mkw_le _ _, addL_le hA⟩
    rw [if_neg k2] at h
    by_cases k6 : k = 6
    · rw [if_pos k6] at h
      simp only [Option.some.injEq, Prod.mk.injEq] at h
      obtain ⟨rfl, rfl, rfl⟩ := h
      refine ⟨fun x hx => ?_, mkw_le _ _, hA⟩
      rcases List.mem_cons.1 hx with rfl | hx
      · subst k6; simp [shapeB] at hsh; omega
      · exact bytesI_le s x hx
    rw [if_neg k6] at h
    by_cases k4 : k = 4
    · rw [if_pos k4] at h
      split at h
      · cases h
      · rename_i ws ns' A1 hp
        simp only [Option.some.injEq, Prod.mk.injEq] at h
        obtain ⟨rfl, rfl, rfl⟩ := h
        obtain ⟨h1, h2, h3⟩ := ptL_le l _ A ws ns' A1 hg.2 hp hA
        refine ⟨fun x hx => ?_, mkw_le _ _, h3⟩
        rcases List.mem_cons.1 hx with rfl | hx
        · subst k4; simp [shapeB] at hsh; omega
        · rcases List.mem_append.1 hx with hx | hx
          · exact h1 x hx
          · exact h2 x hx
    rw [if_neg k4] at h
    split at h
    · simp only [Option.some.injEq, Prod.mk.injEq] at h
      obtain ⟨rfl, rfl, rfl⟩ := h
      exact ⟨by simp, by decide, hA⟩
    · split at h
      · cases h
      · rename_i ws ns' A1 hp
        simp only [Option.some.injEq, Prod.mk.injEq] at h
        obtain ⟨rfl, rfl, rfl⟩ := h
        obtain ⟨h1, h2, h3⟩ := ptL_le l _ A ws ns' A1 hg.2 hp hA
        refine ⟨fun x hx => ?_, mkw_le _ _, h3⟩
        rcases List.mem_append.1 hx with hx | hx
        · exact consL_le ws a h1 x hx
        · exact h2 x hx
theorem ptL_le : ∀ (l : List Tm) (a : Nat) (A : List ByteArray) (ws ns : List Int) (A' : List ByteArray), goodL l → ptL l a A = some (ws, ns, A') → (∀ x ∈ A, x.size ≤ 12) → (∀ x ∈ ws, x ≤ 32000006) ∧ (∀ x ∈ ns, x ≤ 32000006) ∧ ∀ x ∈ A', x.size ≤ 12
  | [], a, A, ws, ns, A', _, h, hA => by
    rw [ptL] at h
    simp only [Option.some.injEq, Prod.mk.injEq] at h
    obtain ⟨rfl, rfl, rfl⟩ := h
    exact ⟨by simp, by simp, hA⟩
  | t :: r, a, A, ws, ns, A', hg, h, hA => by
    rw [goodL] at hg
    rw [ptL] at h
    split at h
    · cases h
    · rename_i ns1 A1 w1 hp
      obtain ⟨a1, a2, a3⟩ := ptT_le t a A ns1 A1 w1 hg.1 hp hA
      split at h
      · cases h
      · rename_i ws2 ns2 A2 hp2
        simp only [Option.some.injEq, Prod.mk.injEq] at h
        obtain ⟨rfl, rfl, rfl⟩ := h
        obtain ⟨b1, b2, b3⟩ := ptL_le r _ A1 ws2 ns2 A2 hg.2 hp2 a3
        refine ⟨fun x hx => ?_, fun x hx => ?_, b3⟩
        · rcases List.mem_cons.1 hx with rfl | hx
          · exact a2
          · exact b1 x hx
        · rcases List.mem_append.1 hx with hx | hx
          · exact a1 x hx
          · exact b2 x hx
end
/-- What was put, and where: no word great, no atom long. -/
def BW (xs : List Int) (A : List ByteArray) (ws : List Int) : Prop := (∀ x ∈ xs, x ≤ 32000006) ∧ (∀ s ∈ A, s.size ≤ 12) ∧ ∀ x ∈ ws, x ≤ 32000006
theorem BW.put {xs ns : List Int} {A A' : List ByteArray} {ws : List Int} {t : Tm} {x : Int} (h : BW xs A ws) (hp : PtR t xs A = some (ns, A', x)) : BW (xs ++ ns) A' (ws ++ [x]) := by
  unfold PtR at hp
  split at hp
  · rename_i hc
    obtain ⟨h1, h2, h3⟩ := ptT_le t _ A ns A' x (look_b hc.1).1 hp h.2.1
    refine ⟨fun y hy => ?_, h3, fun y hy => ?_⟩
    · rcases List.mem_append.1 hy with hy | hy
      · exact h.1 y hy
      · exact h1 y hy
    · rcases List.mem_append.1 hy with hy | hy
      · exact h.2.2 y hy
      · have : y = x := by simpa using hy
        subst this; exact h2
  · cases hp
theorem BW.nil : BW [] [] [] := ⟨by simp, by simp, by simp⟩
end Go.Proofs.Ythdoamdjhpkimaa
