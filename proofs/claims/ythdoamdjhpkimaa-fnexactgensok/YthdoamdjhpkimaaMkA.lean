/-
  What the laws mark of a term, and find marked.
-/
import Derived.Test.YthdoamdjhpkimaaOwB
import Derived.Test.YthdoamdjhpkimaaSgB
namespace Go.Proofs.Ythdoamdjhpkimaa
open Go.RowKit
set_option linter.unusedVariables false

mutual
def cT : Tm → Nat
  | .mk _ _ _ l => 3 + cL l
def cL : List Tm → Nat
  | [] => 0
  | t :: r => cT t + cL r
end
mutual
def mrT : Tm → Nat → Tm
  | .mk _ _ _ l, K => .mk K ((K : Int) + 1) (mkT (K + 2)) (mrL l (K + 3))
def mrL : List Tm → Nat → List Tm
  | [], _ => []
  | t :: r, K => mrT t K :: mrL r (K + cT t)
end
theorem mrL_len : ∀ (l : List Tm) (K : Nat), (mrL l K).length = l.length
  | [], K => by rw [mrL]
  | t :: r, K => by rw [mrL, List.length_cons, List.length_cons, mrL_len r]
theorem cL_take (l : List Tm) (i : Nat) (h : i < l.length) : cL (l.take (i + 1)) = cL (l.take i) + cT l[i] := by
  induction l generalizing i with
  | nil => simp at h
  | cons t r ih =>
    cases i with
    | zero => simp [cL]
    | succ j =>
      have := ih j (by simpa using h)
      rw [List.take_succ_cons, List.take_succ_cons, cL, cL, this]
      simp only [List.getElem_cons_succ]
      omega
theorem mrL_take (l : List Tm) (i K : Nat) (h : i < l.length) : mrL (l.take (i + 1)) K = mrL (l.take i) K ++ [mrT l[i] (K + cL (l.take i))] := by
  induction l generalizing i K with
  | nil => simp at h
  | cons t r ih =>
    cases i with
    | zero => simp [mrL, cL]
    | succ j =>
      have := ih j (K + cT t) (by simpa using h)
      rw [List.take_succ_cons, List.take_succ_cons, mrL, mrL, this, cL]
      simp only [List.getElem_cons_succ, List.cons_append]
      rw [Nat.add_assoc]
theorem cL_le (l : List Tm) (i : Nat) : cL (l.take i) ≤ cL l := by
  induction l generalizing i with
  | nil => simp [cL]
  | cons t r ih =>
    cases i with
    | zero => simp [cL]
    | succ j => rw [List.take_succ_cons, cL, cL]; have := ih j; omega
theorem mkGo_size : ∀ (k : Nat) (s : ByteArray), (mkGo k s).size ≤ s.size + k := by
  intro k
  induction k using Nat.strongRecOn with
  | ind k ih =>
    intro s
    rw [mkGo]
    split
    · omega
    · rename_i hk
      have h1 := ih (k / 10) (by omega) (⟨#[UInt8.ofNat (48 + k % 10)]⟩ ++ s)
      rw [size_cons] at h1
      omega
theorem mkT_size (k : Nat) (h : k ≤ 3999999999) : (mkT k).size ≤ maxLen := by
  unfold mkT
  rw [size_cons]
  have := mkGo_size k ⟨#[]⟩
  have e : (⟨#[]⟩ : ByteArray).size = 0 := rfl
  unfold maxLen
  omega

/-- What was outside of [lo, hi) is as it was. -/
structure Out (lo hi : Nat) (w w' : World) : Prop where
  os : w'.os = w.os
  tape : w'.tape = w.tape
  output : w'.output = w.output
  size : w.heap.size ≤ w'.heap.size
  block : ∀ b, b < w.heap.size → ¬ (lo ≤ b ∧ b < hi) → w'.heap[b]? = w.heap[b]?
theorem Out.refl (lo hi : Nat) (w : World) : Out lo hi w w := ⟨rfl, rfl, rfl, Nat.le_refl _, fun _ _ _ => rfl⟩
theorem Out.trans {lo hi : Nat} {a b c : World} (h : Out lo hi a b) (k : Out lo hi b c) : Out lo hi a c :=
  ⟨k.os.trans h.os, k.tape.trans h.tape, k.output.trans h.output, Nat.le_trans h.size k.size, fun x hx hn => (k.block x (Nat.lt_of_lt_of_le hx h.size) hn).trans (h.block x hx hn)⟩
theorem Out.wide {lo hi lo' hi' : Nat} {a b : World} (h : Out lo hi a b) (h1 : lo' ≤ lo) (h2 : hi ≤ hi') : Out lo' hi' a b := ⟨h.os, h.tape, h.output, h.size, fun x hx hn => h.block x hx (fun hh => hn (by omega))⟩
theorem Out.below {lo hi : Nat} {a b : World} (h : Below a.heap.size a b) : Out lo hi a b := ⟨h.os, h.tape, h.output, h.size, fun x hx _ => h.block x hx⟩
theorem Out.set {lo hi : Nat} {a b : World} (h : Out lo hi a b) {g : Nat} (h1 : lo ≤ g) (h2 : g < hi) (o : Nat) (v : Value) : Out lo hi a (b.setCell ⟨g, o, none⟩ v) :=
  ⟨h.os, h.tape, h.output, by rw [World.size_setCell]; exact h.size, fun x hx hn => by rw [Below.heap_setCell _ ⟨g, o, none⟩ _ x (by show x ≠ g; omega)]; exact h.block x hx hn⟩

theorem keepM {w w' : World} (h : Below w.heap.size w w') {b o : Nat} {v : Value} (hc : w.cell? ⟨b, o, none⟩ = some v) : w'.cell? ⟨b, o, none⟩ = some v := by
  rw [h.cell (p := ⟨b, o, none⟩) (World.block_lt_of_cell? w _ hc)]; exact hc
/-- The two first cells are written. -/
def two (wr : World) (g o : Nat) (x y : Value) : World := (wr.setCell ⟨g, o, none⟩ x).setCell ⟨g, o + 1, none⟩ y
theorem two_far1 {wr : World} {g o : Nat} {x y : Value} {b o' : Nat} (h : b ≠ g ∨ o' < o ∨ o + 1 < o') : (two wr g o x y).cell? ⟨b, o', none⟩ = wr.cell? ⟨b, o', none⟩ := by
  unfold two
  rw [World.cell?_setCell_other (h := fun e => by simp only [Addr.mk.injEq] at e; omega), World.cell?_setCell_other (h := fun e => by simp only [Addr.mk.injEq] at e; omega)]
theorem two_in {wr : World} {g o : Nat} {x y x0 y0 : Value} (h0 : wr.cell? ⟨g, o, none⟩ = some x0) (h1 : wr.cell? ⟨g, o + 1, none⟩ = some y0) : (two wr g o x y).cell? ⟨g, o, none⟩ = some x ∧ (two wr g o x y).cell? ⟨g, o + 1, none⟩ = some y := by
  unfold two
  refine ⟨?_, ?_⟩
  · rw [World.cell?_setCell_other (h := fun e => by simp only [Addr.mk.injEq] at e; omega)]
    exact World.cell?_setCell_same wr _ _ h0
  · refine World.cell?_setCell_same _ _ _ (u := y0) ?_
    rw [World.cell?_setCell_other (h := fun e => by simp only [Addr.mk.injEq] at e; omega)]
    exact h1
theorem two_block {wr : World} {g o : Nat} {x y : Value} {b : Nat} (h : b ≠ g) : (two wr g o x y).heap[b]? = wr.heap[b]? := by
  unfold two
  rw [Below.heap_setCell _ ⟨g, o + 1, none⟩ _ b h, Below.heap_setCell _ ⟨g, o, none⟩ _ b h]
theorem two_size {wr : World} {g o : Nat} {x y : Value} : (two wr g o x y).heap.size = wr.heap.size := by
  unfold two
  rw [World.size_setCell, World.size_setCell]
theorem two_frozen {wr : World} {g o : Nat} {x y : Value} (p : Addr) : (two wr g o x y).frozen? p = wr.frozen? p := by
  unfold two
  rw [World.frozen?_setCell, World.frozen?_setCell]
/-- One of a row is marked. -/
theorem mark_step {wr w3 w5 : World} {A B : List Tm} {g lo1 hi1 e a m i Q : Nat} {k0 n0 : Int} {s0 : ByteArray} {L0 : List Tm} {ao0 : Option Addr} {cap0 : Nat} (hAl : A.length = i)
    (hA : OwR wr A g lo1 e 0) (he : e ≤ a) (ham : a ≤ m) (hmh : m ≤ hi1) (hhw : hi1 ≤ wr.heap.size) (hgw : g < wr.heap.size) (hex : g < a ∨ m ≤ g) (hB : OwR wr B g m hi1 (i * 4 + 4)) (hQ : Q ≤ 3999999988)
    (h0 : wr.cell? ⟨g, i * 4, none⟩ = some (.int .i64 k0)) (h1 : wr.cell? ⟨g, i * 4 + 1, none⟩ = some (.int .i64 n0)) (h2 : wr.cell? ⟨g, i * 4 + 2, none⟩ = some (.string s0)) (h3 : wr.cell? ⟨g, i * 4 + 3, none⟩ = some (.slice ao0 L0.length cap0)) (hl0 : L0.length ≤ cap0) (hc0 : cap0 ≤ maxLen)
    (hb3 : Below (two wr g (i * 4) (.int .i64 Q) (.int .i64 ((Q : Int) + 1))).heap.size (two wr g (i * 4) (.int .i64 Q) (.int .i64 ((Q : Int) + 1))) w3)
    (hO5 : OwL w5 (mrL L0 (Q + 3)) a m ao0) (hout : Out a m (w3.setCell ⟨g, i * 4 + 2, none⟩ (.string (mkT (Q + 2)))) w5) :
    OwR w5 (A ++ mrT (.mk k0 n0 s0 L0) Q :: B) g lo1 hi1 0 ∧ (∀ o, wr.frozen? ⟨g, o, none⟩ = w5.frozen? ⟨g, o, none⟩) := by
  have s2 : (two wr g (i * 4) (.int .i64 Q) (.int .i64 ((Q : Int) + 1))).heap.size = wr.heap.size := two_size
  have s3 := hb3.size
  rw [s2] at s3
  have hg3 : g < (w3.setCell ⟨g, i * 4 + 2, none⟩ (.string (mkT (Q + 2)))).heap.size := by rw [World.size_setCell]; omega
  have hgb : w5.heap[g]? = (w3.setCell ⟨g, i * 4 + 2, none⟩ (.string (mkT (Q + 2)))).heap[g]? := hout.block g hg3 (by omega)
  have hgc : ∀ o, w5.cell? ⟨g, o, none⟩ = (w3.setCell ⟨g, i * 4 + 2, none⟩ (.string (mkT (Q + 2)))).cell? ⟨g, o, none⟩ := fun o => World.cell?_of_block hgb
  have hfar : ∀ o v, (o < i * 4 ∨ i * 4 + 2 < o) → wr.cell? ⟨g, o, none⟩ = some v → w5.cell? ⟨g, o, none⟩ = some v := fun o v ho hv => by
    rw [hgc, World.cell?_setCell_other (h := fun e => by simp only [Addr.mk.injEq] at e; omega)]
    exact keepM hb3 (by rw [two_far1 (by omega)]; exact hv)
  have hblk : ∀ b, b ≠ g → ¬ (a ≤ b ∧ b < m) → b < wr.heap.size → w5.heap[b]? = wr.heap[b]? := fun b hbg hbn hbl => by
    rw [hout.block b (by rw [World.size_setCell]; omega) hbn, Below.heap_setCell _ ⟨g, i * 4 + 2, none⟩ _ b hbg, hb3.block b (by rw [s2]; exact hbl), two_block hbg]
  obtain ⟨t0, t1⟩ := two_in (x := .int .i64 Q) (y := .int .i64 ((Q : Int) + 1)) h0 h1
  refine ⟨OwR.join (e := e) (a := a) (m := m) (OwR.keep A g lo1 e 0 (fun b hb1 hb2 hb3' hbl => hblk b hb3' (by omega) hbl) (fun o v _ ho hv => hfar o v (by omega) hv) hA) he ham hex ?_ ?_, fun o => ?_⟩
  · rw [hAl, Nat.zero_add, mrT, OwT]
    refine ⟨?_, ?_, ?_, mkT_size _ (by omega), ao0, cap0, ?_, by rw [mrL_len]; exact hl0, hc0, hO5⟩
    · rw [hgc, World.cell?_setCell_other (h := fun e => by simp only [Addr.mk.injEq] at e; omega)]
      exact keepM hb3 t0
    · rw [hgc, World.cell?_setCell_other (h := fun e => by simp only [Addr.mk.injEq] at e; omega)]
      exact keepM hb3 t1
    · rw [hgc]
      refine World.cell?_setCell_same _ _ _ (u := .string s0) ?_
      exact keepM hb3 (by rw [two_far1 (by omega)]; exact h2)
    · rw [mrL_len]
      exact hfar _ _ (by omega) h3
  · rw [hAl, Nat.zero_add]
    exact OwR.keep B g m hi1 (i * 4 + 4) (fun b hb1 hb2 hb3' hbl => hblk b hb3' (by omega) hbl) (fun o v ho _ hv => hfar o v (by omega) hv) hB
  · have f1 : w5.frozen? ⟨g, o, none⟩ = (w3.setCell ⟨g, i * 4 + 2, none⟩ (.string (mkT (Q + 2)))).frozen? ⟨g, o, none⟩ := World.frozen?_of_block hgb
    rw [f1, World.frozen?_setCell, hb3.frozen (p := ⟨g, o, none⟩) (by show g < _; rw [s2]; exact hgw), two_frozen]

def MkS (l : List Tm) : Prop := ∀ (w : World) (lo hi : Nat) (ao : Option Addr) (cap K : Nat), OwL w l lo hi ao → hi ≤ w.heap.size → l.length ≤ cap → cap ≤ maxLen → 1 ≤ K → K + cL l ≤ 3999999990 →
  Calls Try.prog 53 #[.slice ao l.length cap, .int .i64 K] w fun e w' => e = .returned (.int .i64 ((K + cL l : Nat) : Int)) ∧ OwL w' (mrL l K) lo hi ao ∧ Out lo hi w w'

set_option maxHeartbeats 4000000 in
set_option maxRecDepth 100000 in
theorem mkS_of (l : List Tm) (ih : ∀ t, t ∈ l → ∀ k n s L, t = .mk k n s L → MkS L) : MkS l := by
  intro w lo hi ao cap K h hhi hlc hcm hK hKc
  unfold maxLen at hcm
  by_cases hl : l = []
  · subst hl
    go_enter Try.func53, Try.ntmps53
    go_wp2_with fail
    go_loopw [1, 5] (fun vk vi wr => vk = .int .i64 K ∧ vi = .int .i64 0 ∧ wr = w) (fun _ _ _ => 0)
    case atStart => exact ⟨rfl, rfl, rfl⟩
    case round =>
      obtain ⟨rfl, rfl, rfl⟩ := hrel
      go_wp2_with fail
      go_ret
      exact ⟨by simp [cL], by rw [mrL, OwL]; trivial, Out.refl _ _ _⟩
  · obtain ⟨g, lo1, hi1, rfl, hg1, hg2, hlo, hhi1, hfz, hrow⟩ := (OwL.iff hl).1 h
    have IH : Hid (∀ t, t ∈ l → ∀ k n s L, t = .mk k n s L → MkS L) := ih
    have HROW : Hid (OwR w l g lo1 hi1 0) := hrow
    have HFZ : Hid (∀ o, w.frozen? ⟨g, o, none⟩ = false) := hfz
    have HL : Hid (l ≠ []) := hl
    clear ih h hrow hfz hl
    go_enter Try.func53, Try.ntmps53
    go_wp2_with fail
    go_loopw [1, 5] (fun vk vi wr => ∃ i : Nat, i ≤ l.length ∧ vi = .int .i64 i ∧ vk = .int .i64 ((K + cL (l.take i) : Nat) : Int) ∧ OwR wr (mrL (l.take i) K ++ l.drop i) g lo1 hi1 0 ∧ (∀ o, wr.frozen? ⟨g, o, none⟩ = false) ∧ Out lo hi w wr) (fun _ vi _ => l.length - (intOf vi).toNat)
    case atStart => exact ⟨0, Nat.zero_le _, rfl, by simp [cL], by simpa [mrL] using HROW.out, HFZ.out, Out.refl _ _ _⟩
    case round =>
      obtain ⟨i, hi0, rfl, rfl, hr, hf, ho⟩ := hrel
      by_cases hlt : i < l.length
      · have hcl := cL_take l i hlt
        have hcle := cL_le l (i + 1)
        rw [List.drop_eq_getElem_cons hlt] at hr
        obtain ⟨e, a, m, hA, he, ham, hmh, hex, hT, hB⟩ := OwR.split hr
        have hAl : (mrL (l.take i) K).length = i := by rw [mrL_len]; simp; omega
        rw [hAl, Nat.zero_add] at hT hB
        have HMR : Hid (mrL (l.take (i + 1)) K = mrL (l.take i) K ++ [mrT l[i] (K + cL (l.take i))]) := mrL_take l i K hlt
        have HIM : Hid (∀ k n s L, l[i] = .mk k n s L → MkS L) := IH.out _ (List.getElem_mem hlt)
        generalize l[i] = t at *
        obtain ⟨k0, n0, s0, L0⟩ := t
        rw [OwT] at hT
        obtain ⟨h0, h1, h2, hs0, ao0, cap0, h3, hl0, hc0, hOL⟩ := hT
        rw [cT] at hcl
        obtain ⟨Q, hQ⟩ : ∃ Q, Q = K + cL (l.take i) := ⟨_, rfl⟩
        rw [← hQ] at HMR ⊢
        have hQ3 : Q + 3 + cL L0 ≤ 3999999990 := by omega
        have HQN : Hid (K + cL (l.take (i + 1)) = Q + 3 + cL L0) := by show _ = _; omega
        clear hQ hcl hcle
        have hgw : g < wr.heap.size := World.block_lt_of_cell? wr _ h0
        have hzw := ho.size
        have HSTEP : Hid (∀ w3 w5, Below (two wr g (i * 4) (.int .i64 Q) (.int .i64 ((Q : Int) + 1))).heap.size (two wr g (i * 4) (.int .i64 Q) (.int .i64 ((Q : Int) + 1))) w3 → OwL w5 (mrL L0 (Q + 3)) a m ao0 → Out a m (w3.setCell ⟨g, i * 4 + 2, none⟩ (.string (mkT (Q + 2)))) w5 → OwR w5 (mrL (l.take i) K ++ mrT (.mk k0 n0 s0 L0) Q :: l.drop (i + 1)) g lo1 hi1 0 ∧ (∀ o, wr.frozen? ⟨g, o, none⟩ = w5.frozen? ⟨g, o, none⟩)) :=
          fun w3 w5 hb3 hO5 hout => mark_step hAl hA he ham hmh (by omega) hgw hex hB (by omega) h0 h1 h2 h3 hl0 hc0 hb3 hO5 hout
        have HOL : Hid (OwL wr L0 a m ao0) := hOL
        have HIH : Hid (MkS L0) := HIM.out _ _ _ _ rfl
        have HEX : Hid (g < a ∨ m ≤ g) := hex
        have HO : Hid (Out lo hi w wr) := ho
        have HC0 : Hid (L0.length ≤ cap0 ∧ cap0 ≤ maxLen) := ⟨hl0, hc0⟩
        have HK2 : Hid (((Q : Int) + 1 + 1) = ((Q + 2 : Nat) : Int)) := by show _ = _; omega
        have HK2b : Hid (((Q : Int) + 2) = ((Q + 2 : Nat) : Int)) := by show _ = _; omega
        have HK3 : Hid (((Q : Int) + 1 + 1 + 1) = ((Q + 3 : Nat) : Int)) := by show _ = _; omega
        have HK3c : Hid (((Q : Int) + 2 + 1) = ((Q + 3 : Nat) : Int)) := by show _ = _; omega
        have HK3b : Hid (((Q : Int) + 3) = ((Q + 3 : Nat) : Int)) := by show _ = _; omega
        have hQi : (Q : Int) ≤ 3999999990 := by omega
        have HFF : Hid (∀ o, wr.frozen? ⟨g, o, none⟩ = false) := hf
        have hmz : m ≤ wr.heap.size := by omega
        have hla : lo ≤ a := by have := OwR.le hA; omega
        clear hA hB hex hOL hl0 hc0 hs0 ho
        go_wp2_with (first
          | (go_at_call 52; (first | rw [HK2.out] | rw [HK2b.out]); refine (markText_any (Q + 2) (by omega) (by omega) _).mono ?_; rintro e w3 ⟨rfl, hb3⟩; have HB3 : Hid (Below (two wr g (i * 4) (.int .i64 Q) (.int .i64 ((Q : Int) + 1))).heap.size (two wr g (i * 4) (.int .i64 Q) (.int .i64 ((Q : Int) + 1))) w3) := hb3; have c23 := keepM HB3.out (show (two wr g (i * 4) (.int .i64 Q) (.int .i64 ((Q : Int) + 1))).cell? ⟨g, i * 4 + 2, none⟩ = some (.string s0) from (two_far1 (by omega)).trans h2); have c33 := keepM HB3.out (show (two wr g (i * 4) (.int .i64 Q) (.int .i64 ((Q : Int) + 1))).cell? ⟨g, i * 4 + 3, none⟩ = some (.slice ao0 L0.length cap0) from (two_far1 (by omega)).trans h3); have f33 : ∀ o, w3.frozen? ⟨g, o, none⟩ = false := (fun o => by rw [HB3.out.frozen (p := ⟨g, o, none⟩) (by rw [two_size]; exact hgw), two_frozen]; exact HFF.out o); have hz3 : wr.heap.size ≤ w3.heap.size := (by have := HB3.out.size; rw [two_size] at this; exact this); clear hb3)
          | (go_at_call 53; (first | rw [HK3.out] | rw [HK3c.out] | rw [HK3b.out]); refine (HIH.out (w3.setCell ⟨g, i * 4 + 2, none⟩ (.string (mkT (Q + 2)))) a m ao0 cap0 (Q + 3) (OwL.keep _ _ _ _ (fun b hb1 hb2 hbl => by rw [Below.heap_setCell _ ⟨g, i * 4 + 2, none⟩ _ b (by show b ≠ g; have := HEX.out; omega), HB3.out.block b (by rw [two_size]; exact hbl), two_block (by have := HEX.out; omega)]) HOL.out) (by rw [World.size_setCell]; omega) HC0.out.1 HC0.out.2 (by omega) (by omega)).mono ?_; rintro e w5 ⟨rfl, hO5, hout5⟩; obtain ⟨hR5, hF5⟩ := HSTEP.out w3 w5 HB3.out hO5 hout5; have HR5 : Hid (OwR w5 (mrL (l.take (i + 1)) K ++ l.drop (i + 1)) g lo1 hi1 0) := (by rw [HMR.out, List.append_assoc]; exact hR5); have HF5 : Hid (∀ o, w5.frozen? ⟨g, o, none⟩ = false) := (fun o => (hF5 o).symm.trans (HFF.out o)); have HO5 : Hid (Out a m (w3.setCell ⟨g, i * 4 + 2, none⟩ (.string (mkT (Q + 2)))) w5) := hout5; clear hO5 hout5 hR5 hF5))
        have HOUT : Hid (Out lo hi w w5) := by
          have o1 : Out lo hi wr (two wr g (i * 4) (.int .i64 Q) (.int .i64 ((Q : Int) + 1))) := ((Out.refl lo hi wr).set hg1 hg2 _ _).set hg1 hg2 _ _
          exact HO.out.trans (o1.trans ((((Out.below HB3.out).set hg1 hg2 _ _)).trans (HO5.out.wide hla (by omega))))
        go_roundw
        case rel => exact ⟨i + 1, by omega, by go_num, by rw [HQN.out]; exact congrArg (Value.int .i64) (by omega), HR5.out, HF5.out, HOUT.out⟩
        case measure => simp [intOf]; omega
      · have hil : i = l.length := by omega
        have HE : Hid (OwR wr (mrL l K) g lo1 hi1 0) := by
          show OwR ..
          rw [hil] at hr
          simpa using hr
        have HEQ : Hid (K + cL (l.take i) = K + cL l) := by show _ = _; rw [hil]; simp
        have HF : Hid (∀ o, wr.frozen? ⟨g, o, none⟩ = false) := hf
        have HO : Hid (Out lo hi w wr) := ho
        have HNE : Hid (mrL l K ≠ []) := by
          intro e
          have := mrL_len l K
          rw [e] at this
          exact HL.out (List.eq_nil_of_length_eq_zero this.symm)
        clear hr hf ho hil
        go_wp2_with fail
        go_ret
        exact ⟨ret_int (by have := HEQ.out; omega), (OwL.iff HNE.out).2 ⟨g, lo1, hi1, rfl, hg1, hg2, hlo, hhi1, HF.out, HE.out⟩, HO.out⟩
theorem mkT_all : ∀ t : Tm, ∀ k n s L, t = .mk k n s L → MkS L := Tm.ind fun k n s l ih k' n' s' L' e => by
  simp only [Tm.mk.injEq] at e
  obtain ⟨_, _, _, rfl⟩ := e
  exact mkS_of l ih
theorem mkS_all (l : List Tm) : MkS l := mkT_all (.mk 0 0 ByteArray.empty l) _ _ _ _ rfl
end Go.Proofs.Ythdoamdjhpkimaa
