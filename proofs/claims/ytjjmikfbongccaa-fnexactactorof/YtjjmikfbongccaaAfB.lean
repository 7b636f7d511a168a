/-
  Words read as terms, one behind the other: the program. The list and all within it stand apart, in memory of its own.
-/
import Derived.Test.YtjjmikfbongccaaAfA
namespace Go.Proofs.Ytjjmikfbongccaa.Gn
open Go.RowKit
set_option linter.unusedVariables false

theorem OwR.hi {w : World} : ∀ {l : List Tm} {g lo hi hi' off : Nat}, hi ≤ hi' → OwR w l g lo hi off → OwR w l g lo hi' off
  | [], g, lo, hi, hi', off, hh, h => by rw [OwR] at h ⊢; omega
  | t :: r, g, lo, hi, hi', off, hh, h => by
    rw [OwR] at h ⊢
    obtain ⟨a, m, h1, h2, h3, h4, h5⟩ := h
    exact ⟨a, m, h1, h2, h3, h4, OwR.hi hh h5⟩
/-- A list of n terms in the block g, of which those of l are there. -/
structure MO (w wr : World) (g n : Nat) (l : List Tm) : Prop where
  be : Below w.heap.size w wr
  lo : w.heap.size ≤ g
  lt : g < wr.heap.size
  free : ∀ o, wr.frozen? ⟨g, o, none⟩ = false
  some : ∀ j, j < n * 4 → (wr.cell? ⟨g, j, none⟩).isSome = true
  row : OwR wr l g (g + 1) wr.heap.size 0
theorem MO.start (w : World) (n : Nat) : MO w (w.alloc (.cells (zeros n) 64)) w.heap.size n [] := by
  have e : (w.alloc (.cells (zeros n) 64)).heap[w.heap.size]? = Option.some (.cells (zeros n) 64 (0, 0)) := by show (w.heap.push _)[w.heap.size]? = _; simp
  refine ⟨(Below.refl _ _).alloc (Nat.le_refl _) _, Nat.le_refl _, by simp, fun o => frozen_of e, fun j hj => ?_, by rw [OwR, World.size_alloc]; omega⟩
  rw [cell_of e]
  have : j < (zeros n).size := by unfold zeros; rw [size_madeCells]; exact hj
  simp [this]
theorem MO.call {w wr w1 : World} {g n : Nat} {l : List Tm} (h : MO w wr g n l) (hb : Below wr.heap.size wr w1) : MO w w1 g n l :=
  ⟨h.be.trans (hb.mono h.be.size), h.lo, Nat.lt_of_lt_of_le h.lt hb.size, fun o => by rw [hb.frozen (p := ⟨g, o, none⟩) h.lt]; exact h.free o, fun j hj => by rw [hb.cell (p := ⟨g, j, none⟩) h.lt]; exact h.some j hj,
    OwR.hi hb.size (OwR.keep l g (g + 1) wr.heap.size 0 (fun b _ _ _ hbl => hb.block b hbl) (fun o v _ _ hv => by rw [hb.cell (p := ⟨g, o, none⟩) h.lt]; exact hv) h.row)⟩
theorem set4_block {w : World} {g o k : Nat} {a b c d : Value} (h : k ≠ g) : (set4 w g o a b c d).heap[k]? = w.heap[k]? := by
  unfold set4
  have e : ∀ (W : World) (j : Nat) (v : Value), (W.setCell ⟨g, j, none⟩ v).heap[k]? = W.heap[k]? := fun W j v => Below.heap_setCell W ⟨g, j, none⟩ v k h
  rw [e, e, e, e]
/-- One more is stored; what it leads to stands from B on, in w1. -/
theorem MO.store {w wr w1 : World} {g n : Nat} {l : List Tm} (h : MO w wr g n l) (hb : Below wr.heap.size wr w1) (hk : l.length < n) {t : Tm} {a b c d : Value} {hi : Nat} (hhi : hi ≤ w1.heap.size) (hwh : wr.heap.size ≤ hi) (hv : OwV w1 wr.heap.size hi t (.agg #[a, b, c, d])) :
    MO w (set4 w1 g (l.length * 4) a b c d) g n (l ++ [t]) := by
  have h1 := h.call hb
  have hin := set4_in (w := w1) (g := g) (o := l.length * 4) (a := a) (b := b) (c := c) (d := d) (fun j hj => h1.some (l.length * 4 + j) (by omega))
  have hlt := h.lt
  refine ⟨?_, h.lo, by rw [set4_size]; exact h1.lt, fun o => by rw [set4_frozen]; exact h1.free o, ?_, ?_⟩
  · exact ((((h1.be.setCell (p := ⟨g, l.length * 4, none⟩) h.lo _).setCell (p := ⟨g, l.length * 4 + 1, none⟩) h.lo _).setCell (p := ⟨g, l.length * 4 + 2, none⟩) h.lo _).setCell (p := ⟨g, l.length * 4 + 3, none⟩) h.lo _)
  · intro j hj
    by_cases hj1 : j < l.length * 4 ∨ l.length * 4 + 3 < j
    · rw [set4_far (p := ⟨g, j, none⟩) (Or.inr hj1)]; exact h1.some j hj
    · have : j = l.length * 4 ∨ j = l.length * 4 + 1 ∨ j = l.length * 4 + 2 ∨ j = l.length * 4 + 3 := by omega
      rcases this with rfl | rfl | rfl | rfl
      · rw [hin.1]; rfl
      · rw [hin.2.1]; rfl
      · rw [hin.2.2.1]; rfl
      · rw [hin.2.2.2]; rfl
  · have hA : OwR (set4 w1 g (l.length * 4) a b c d) l g (g + 1) wr.heap.size 0 := by
      have h0 : OwR w1 l g (g + 1) wr.heap.size 0 := OwR.keep l g (g + 1) wr.heap.size 0 (fun b _ _ _ hbl => hb.block b hbl) (fun o v _ _ hv => by rw [hb.cell (p := ⟨g, o, none⟩) h.lt]; exact hv) h.row
      exact OwR.keep l g (g + 1) wr.heap.size 0 (fun x _ _ hx _ => set4_block hx) (fun o v _ ho hv => by rw [set4_far (p := ⟨g, o, none⟩) (Or.inr (Or.inl (by show o < l.length * 4; omega)))]; exact hv) h0
    have hT : OwT (set4 w1 g (l.length * 4) a b c d) t wr.heap.size hi g (0 + l.length * 4) := by
      obtain ⟨k', n', s', l'⟩ := t
      obtain ⟨ao, cap, e, hs, hl, hc, hr⟩ := hv
      simp only [Value.agg.injEq, Array.mk.injEq, List.cons.injEq, and_true] at e
      obtain ⟨rfl, rfl, rfl, rfl⟩ := e
      rw [OwT, Nat.zero_add]
      exact ⟨hin.1, hin.2.1, hin.2.2.1, hs, ao, cap, hin.2.2.2, hl, hc, OwL.keep _ _ _ _ (fun x hx1 hx2 _ => set4_block (by omega)) hr⟩
    rw [set4_size]
    exact OwR.join hA (Nat.le_refl _) hwh (.inl hlt) hT (by rw [OwR]; exact hhi)
theorem MO.list {w wr : World} {g n : Nat} {l : List Tm} (h : MO w wr g n l) : OwL wr l w.heap.size wr.heap.size (Option.some ⟨g, 0, none⟩) := by
  by_cases hl : l = []
  · subst hl; rw [OwL]; trivial
  · exact (OwL.iff hl).2 ⟨g, g + 1, wr.heap.size, rfl, h.lo, h.lt, by have := h.lo; omega, Nat.le_refl _, h.free, h.row⟩
/-- What the program's reading of a list answers. -/
def TermsO (G : GE) (R : List Int) (w : World) (e : Ending) (w' : World) : Prop :=
  Below w.heap.size w w' ∧ ((allB G.H R = true ∧ ∃ g, e = .returned (.tuple #[.slice (Option.some ⟨g, 0, none⟩) R.length R.length, .bool true]) ∧ w.heap.size ≤ g ∧ OwL w' (tms G.H R) w.heap.size w'.heap.size (Option.some ⟨g, 0, none⟩)) ∨
    (allB G.H R = false ∧ e = .returned (.tuple #[.slice none 0 0, .bool false])))

set_option maxHeartbeats 4000000 in
set_option maxRecDepth 100000 in
theorem termsOf_any (G : GE) (R : List Int) (rv : Option Addr) (rcap : Nat) (w : World) (h : GSrc G w) (hr : Roots w rv R) (hR : R.length ≤ 1048576) (hb : ∀ x ∈ R, x ≤ 9223372036854775807) :
    Calls Try.prog 31 #[G.v, .slice G.av G.A.length G.acap, .slice rv R.length rcap] w (TermsO G R w) := by
  have HRD : Hid (∀ w', Below w.heap.size w w' → ∀ x, x ≤ 9223372036854775807 → Calls Try.prog 39 #[.agg #[.slice G.wv G.N G.cap, .slice G.yv G.M G.ycap, .int .i64 G.mark], .slice G.av G.A.length G.acap, .int .i64 x] w' fun e w5 => Below w'.heap.size w' w5 ∧
      ((∃ t v, readT G.H x = some t ∧ e = .returned (.tuple #[v, .bool true]) ∧ OwV w5 (w'.heap.size) w5.heap.size t v) ∨ (readT G.H x = none ∧ e = .returned (.tuple #[zT, .bool false])))) := fun w' hb' x hx => implGensRead_any G w' (h.below hb') x hx
  have HR : Hid (Roots w rv R) := hr
  have HBR : Hid (∀ x ∈ R, x ≤ 9223372036854775807) := hb
  clear h hr hb
  generalize G.A.length = AL at *
  obtain ⟨W0, hW0⟩ : ∃ W0, W0 = w.alloc (.cells #[.slice G.wv G.N G.cap, .slice G.yv G.M G.ycap, .int .i64 G.mark] 44) := ⟨_, rfl⟩
  have hb0 : Below w.heap.size w W0 := by rw [hW0]; exact (Below.refl _ _).alloc (Nat.le_refl _) _
  have hz0 : W0.heap.size = w.heap.size + 1 := by rw [hW0, World.size_alloc]
  have hq0 : ∀ o, W0.cell? ⟨w.heap.size, o, none⟩ = (#[.slice G.wv G.N G.cap, .slice G.yv G.M G.ycap, .int .i64 G.mark] : Array Value)[o]? := fun o => by rw [hW0]; exact World.cell?_alloc_new w _ _ o
  have HB0 : Hid (Below w.heap.size w W0) := hb0
  have HS0 : Hid (MO W0 (W0.alloc (.cells (zeros R.length) 64)) W0.heap.size R.length []) := MO.start W0 R.length
  have HQ : Hid (∀ w', Below W0.heap.size W0 w' → ∀ o, w'.cell? ⟨w.heap.size, o, none⟩ = (#[.slice G.wv G.N G.cap, .slice G.yv G.M G.ycap, .int .i64 G.mark] : Array Value)[o]?) := fun w' hb' o => by rw [hb'.cell (p := ⟨w.heap.size, o, none⟩) (by show w.heap.size < _; omega)]; exact hq0 o
  have HZ0 : Hid (W0.heap.size = w.heap.size + 1) := hz0
  have hmk := run_zeros R.length hR W0
  clear hq0 hb0
  go_enter Try.func31, Try.ntmps31
  rw [hW0] at hmk
  go_wp2_with fail
  rw [← hW0] at hmk ⊢
  clear hmk
  clear hW0
  rw [← hz0]
  clear hz0
  go_loopw [18] (fun i wr => ∃ m : Nat, m ≤ R.length ∧ i = .int .i64 m ∧ (∀ x ∈ R.take m, (readT G.H x).isSome = true) ∧ MO W0 wr W0.heap.size R.length (tms G.H (R.take m))) (fun i _ => R.length - (intOf i).toNat)
  case atStart => exact ⟨0, Nat.zero_le _, rfl, by simp, HS0.out⟩
  case round =>
    obtain ⟨m, hm, rfl, hall, hmo⟩ := hrel
    have HALL : Hid (∀ x ∈ R.take m, (readT G.H x).isSome = true) := hall
    have HMO : Hid (MO W0 wr W0.heap.size R.length (tms G.H (R.take m))) := hmo
    have q0 := HQ.out wr hmo.be
    have HBW : Hid (Below w.heap.size w wr) := HB0.out.trans (hmo.be.mono HB0.out.size)
    clear hall hmo
    by_cases hlt : m < R.length
    · obtain ⟨b, o, rfl, hcs⟩ := (HR.out.below HBW.out) (by omega)
      have q := hcs m hlt
      have HX : Hid (R[m] ≤ 9223372036854775807) := HBR.out _ (List.getElem_mem hlt)
      have HM : Hid (R[m] ∈ R) := List.getElem_mem hlt
      have HT : Hid ((readT G.H R[m]).isSome = true → ∀ x ∈ R.take (m + 1), (readT G.H x).isSome = true) := fun h => take_in hlt HALL.out h
      have HTK : Hid (tms G.H (R.take (m + 1)) = tms G.H (R.take m) ++ [tmO (readT G.H R[m])]) := tms_take G.H R m hlt
      have HLEN : Hid ((tms G.H (R.take m)).length = m) := by show _ = _; rw [tms_len, List.length_take]; omega
      clear hcs
      generalize R[m] = x at *
      go_wp2_with (go_at_call 39; fail)
      refine (HRD.out wr HBW.out x HX.out).mono ?_
      rintro e w5 ⟨hb5, ⟨t, v, hrd, rfl, hv5⟩ | ⟨hrd, rfl⟩⟩
      · obtain ⟨va, vb, vc, vd, ve, vf, rfl⟩ := hv5.form
        have HE : Hid (∀ x ∈ R.take (m + 1), (readT G.H x).isSome = true) := HT.out (by rw [hrd]; rfl)
        have HTL : Hid (tms G.H (R.take (m + 1)) = tms G.H (R.take m) ++ [t]) := by rw [HTK.out, hrd]; rfl
        have HB6 : Hid (Below wr.heap.size wr (w5.alloc (.cells #[.int .i64 va, .int .i64 vb, .string vc, .slice vd ve vf] 64))) := hb5.alloc hb5.size _
        have HV6 : Hid (OwV (w5.alloc (.cells #[.int .i64 va, .int .i64 vb, .string vc, .slice vd ve vf] 64)) wr.heap.size w5.heap.size t (.agg #[.int .i64 va, .int .i64 vb, .string vc, .slice vd ve vf])) := hv5.keep (fun x _ _ hx => ((Below.refl _ _).alloc (Nat.le_refl _) _).block x hx)
        have HZ5 : Hid (wr.heap.size ≤ w5.heap.size) := hb5.size
        obtain ⟨W6, hW6⟩ : ∃ W6, W6 = w5.alloc (.cells #[.int .i64 va, .int .i64 vb, .string vc, .slice vd ve vf] 64) := ⟨_, rfl⟩
        have q6 : ∀ o, W6.cell? ⟨w5.heap.size, o, none⟩ = (#[.int .i64 va, .int .i64 vb, .string vc, .slice vd ve vf] : Array Value)[o]? := fun o => by rw [hW6]; exact World.cell?_alloc_new w5 _ _ o
        have z6 : w5.heap.size ≤ W6.heap.size := by rw [hW6, World.size_alloc]; omega
        have HM6 : Hid (MO W0 W6 W0.heap.size R.length (tms G.H (R.take m))) := HMO.out.call (by rw [hW6]; exact HB6.out)
        have HST : Hid (MO W0 (set4 W6 W0.heap.size (m * 4) (.int .i64 va) (.int .i64 vb) (.string vc) (.slice vd ve vf)) W0.heap.size R.length (tms G.H (R.take (m + 1)))) := by
          have hh := HMO.out.store (w1 := W6) (by rw [hW6]; exact HB6.out) (by rw [HLEN.out]; exact hlt) (hi := w5.heap.size) z6 HZ5.out (by rw [hW6]; exact HV6.out)
          rw [HLEN.out] at hh
          rw [HTL.out]
          exact hh
        have hf := HM6.out.free
        obtain ⟨x0, hs0⟩ := Option.isSome_iff_exists.1 (HM6.out.some (m * 4) (by omega))
        obtain ⟨x1, hs1⟩ := Option.isSome_iff_exists.1 (HM6.out.some (m * 4 + 1) (by omega))
        obtain ⟨x2, hs2⟩ := Option.isSome_iff_exists.1 (HM6.out.some (m * 4 + 2) (by omega))
        obtain ⟨x3, hs3⟩ := Option.isSome_iff_exists.1 (HM6.out.some (m * 4 + 3) (by omega))
        clear hb5 hv5 hrd q0 q z6 HB6 HV6
        rw [hW6] at hf hs0 hs1 hs2 hs3
        go_wp2_with fail
        rw [← hW6]
        clear hW6
        go_roundw
        case rel => exact ⟨m + 1, by omega, by go_num, HE.out, HST.out⟩
        case measure => simp [intOf]; omega
      · have HE : Hid (allB G.H R = false) := allB_no HM.out hrd
        have HB5 : Hid (Below w.heap.size w w5) := HBW.out.trans (hb5.mono HBW.out.size)
        clear hb5 hrd
        go_wp2_with fail
        exact bodyPost_ret (v := .tuple #[.slice none 0 0, .bool false]) (by simp [results, Try.results31, go_sem]) rfl ⟨HB5.out.alloc HB5.out.size _, .inr ⟨HE.out, rfl⟩⟩
    · have HE : Hid (allB G.H R = true) := by
        show _ = _
        unfold allB
        rw [List.all_eq_true]
        exact fun x hx => HALL.out x (by rw [List.take_of_length_le (by omega)]; exact hx)
      have em : m = R.length := by omega
      have hg := HMO.out
      rw [em, List.take_length] at hg
      have HF : Hid (OwL wr (tms G.H R) w.heap.size wr.heap.size (Option.some ⟨W0.heap.size, 0, none⟩)) := hg.list.mono (by have := HZ0.out; omega) (Nat.le_refl _)
      clear hg
      go_wp2_with fail
      exact bodyPost_ret (v := .tuple #[.slice (Option.some ⟨W0.heap.size, 0, none⟩) R.length R.length, .bool true]) (by simp [results, Try.results31, go_sem]) rfl ⟨HBW.out, .inl ⟨HE.out, W0.heap.size, rfl, by have := HZ0.out; omega, HF.out⟩⟩
end Go.Proofs.Ytjjmikfbongccaa.Gn
