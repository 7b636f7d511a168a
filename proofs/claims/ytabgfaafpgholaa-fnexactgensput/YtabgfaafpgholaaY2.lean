/-
  What the laws mark of a term whose lists stand each in a block of its own.
-/
import Derived.Test.YtabgfaafpgholaaW28
import Derived.Test.YtabgfaafpgholaaW46
namespace Go.Proofs.Ytabgfaafpgholaa
open Go.RowKit
set_option linter.unusedVariables false

mutual
def cT : Tm → Nat
  | .mk _ _ _ l => 3 + cL l
def cL : List Tm → Nat
  | [] => 0
  | t :: r => cT t + cL r
end
mutual
def mrT : Tm → Nat → Tm
  | .mk _ _ _ l, K => .mk K ((K : Int) + 1) (mkT (K + 2)) (mrL l (K + 3))
def mrL : List Tm → Nat → List Tm
  | [], _ => []
  | t :: r, K => mrT t K :: mrL r (K + cT t)
end
theorem mrL_len : ∀ (l : List Tm) (K : Nat), (mrL l K).length = l.length
  | [], K => by rw [mrL]
  | t :: r, K => by rw [mrL, List.length_cons, List.length_cons, mrL_len r]
theorem cL_take (l : List Tm) (i : Nat) (h : i < l.length) : cL (l.take (i + 1)) = cL (l.take i) + cT l[i] := by
  induction l generalizing i with
  | nil => simp at h
  | cons t r ih =>
    cases i with
    | zero => simp [cL]
    | succ j =>
      have := ih j (by simpa using h)
      rw [List.take_succ_cons, List.take_succ_cons, cL, cL, this]
      simp only [List.getElem_cons_succ]
      omega
theorem mrL_take (l : List Tm) (i K : Nat) (h : i < l.length) : mrL (l.take (i + 1)) K = mrL (l.take i) K ++ [mrT l[i] (K + cL (l.take i))] := by
  induction l generalizing i K with
  | nil => simp at h
  | cons t r ih =>
    cases i with
    | zero => simp [mrL, cL]
    | succ j =>
      have := ih j (K + cT t) (by simpa using h)
      rw [List.take_succ_cons, List.take_succ_cons, mrL, mrL, this, cL]
      simp only [List.getElem_cons_succ, List.cons_append]
      rw [Nat.add_assoc]
theorem cL_le (l : List Tm) (i : Nat) : cL (l.take i) ≤ cL l := by
  induction l generalizing i with
  | nil => simp [cL]
  | cons t r ih =>
    cases i with
    | zero => simp [cL]
    | succ j => rw [List.take_succ_cons, cL, cL]; have := ih j; omega
theorem mkGo_dig : ∀ (d k : Nat) (s : ByteArray), k < 10 ^ d → (mkGo k s).size ≤ s.size + d := by
  intro d
  induction d with
  | zero =>
    intro k s h
    rw [mkGo]
    split
    · omega
    · rename_i hk; simp at h; omega
  | succ d ih =>
    intro k s h
    rw [mkGo]
    split
    · omega
    · have h1 := ih (k / 10) (⟨#[UInt8.ofNat (48 + k % 10)]⟩ ++ s) (by rw [Nat.pow_succ] at h; omega)
      rw [size_cons] at h1
      omega
theorem mkT_dig (k : Nat) (h : k ≤ 9000000) : (mkT k).size ≤ 1048576 := by
  unfold mkT
  rw [size_cons]
  have := mkGo_dig 7 k ⟨#[]⟩ (by omega)
  have e : (⟨#[]⟩ : ByteArray).size = 0 := rfl
  omega

/-- What is in none of these blocks is as it was. -/
structure OutB (bs : List Nat) (w w' : World) : Prop where
  os : w'.os = w.os
  tape : w'.tape = w.tape
  output : w'.output = w.output
  size : w.heap.size ≤ w'.heap.size
  block : ∀ b, b < w.heap.size → b ∉ bs → w'.heap[b]? = w.heap[b]?
theorem OutB.refl (bs : List Nat) (w : World) : OutB bs w w := ⟨rfl, rfl, rfl, Nat.le_refl _, fun _ _ _ => rfl⟩
theorem OutB.trans {bs : List Nat} {a b c : World} (h : OutB bs a b) (k : OutB bs b c) : OutB bs a c :=
  ⟨k.os.trans h.os, k.tape.trans h.tape, k.output.trans h.output, Nat.le_trans h.size k.size, fun x hx hn => (k.block x (Nat.lt_of_lt_of_le hx h.size) hn).trans (h.block x hx hn)⟩
theorem OutB.wide {bs bs' : List Nat} {a b : World} (h : OutB bs a b) (h1 : ∀ x ∈ bs, x ∈ bs') : OutB bs' a b := ⟨h.os, h.tape, h.output, h.size, fun x hx hn => h.block x hx (fun hh => hn (h1 x hh))⟩
theorem OutB.below {bs : List Nat} {a b : World} (h : Below a.heap.size a b) : OutB bs a b := ⟨h.os, h.tape, h.output, h.size, fun x hx _ => h.block x hx⟩
theorem OutB.set {bs : List Nat} {a b : World} (h : OutB bs a b) {g : Nat} (h1 : g ∈ bs) (o : Nat) (v : Value) : OutB bs a (b.setCell ⟨g, o, none⟩ v) :=
  ⟨h.os, h.tape, h.output, by rw [World.size_setCell]; exact h.size, fun x hx hn => by rw [Below.heap_setCell _ ⟨g, o, none⟩ _ x (by show x ≠ g; intro e; exact hn (by rw [e]; exact h1))]; exact h.block x hx hn⟩

theorem keepM {w w' : World} (h : Below w.heap.size w w') {b o : Nat} {v : Value} (hc : w.cell? ⟨b, o, none⟩ = some v) : w'.cell? ⟨b, o, none⟩ = some v := by
  rw [h.cell (p := ⟨b, o, none⟩) (World.block_lt_of_cell? w _ hc)]; exact hc
/-- The two first cells are written. -/
def two (wr : World) (g o : Nat) (x y : Value) : World := (wr.setCell ⟨g, o, none⟩ x).setCell ⟨g, o + 1, none⟩ y
theorem two_far1 {wr : World} {g o : Nat} {x y : Value} {b o' : Nat} (h : b ≠ g ∨ o' < o ∨ o + 1 < o') : (two wr g o x y).cell? ⟨b, o', none⟩ = wr.cell? ⟨b, o', none⟩ := by
  unfold two
  rw [World.cell?_setCell_other (h := fun e => by simp only [Addr.mk.injEq] at e; omega), World.cell?_setCell_other (h := fun e => by simp only [Addr.mk.injEq] at e; omega)]
theorem two_in {wr : World} {g o : Nat} {x y x0 y0 : Value} (h0 : wr.cell? ⟨g, o, none⟩ = some x0) (h1 : wr.cell? ⟨g, o + 1, none⟩ = some y0) : (two wr g o x y).cell? ⟨g, o, none⟩ = some x ∧ (two wr g o x y).cell? ⟨g, o + 1, none⟩ = some y := by
  unfold two
  refine ⟨?_, ?_⟩
  · rw [World.cell?_setCell_other (h := fun e => by simp only [Addr.mk.injEq] at e; omega)]
    exact World.cell?_setCell_same wr _ _ h0
  · refine World.cell?_setCell_same _ _ _ (u := y0) ?_
    rw [World.cell?_setCell_other (h := fun e => by simp only [Addr.mk.injEq] at e; omega)]
    exact h1
theorem two_block {wr : World} {g o : Nat} {x y : Value} {b : Nat} (h : b ≠ g) : (two wr g o x y).heap[b]? = wr.heap[b]? := by
  unfold two
  rw [Below.heap_setCell _ ⟨g, o + 1, none⟩ _ b h, Below.heap_setCell _ ⟨g, o, none⟩ _ b h]
theorem two_size {wr : World} {g o : Nat} {x y : Value} : (two wr g o x y).heap.size = wr.heap.size := by
  unfold two
  rw [World.size_setCell, World.size_setCell]
theorem two_frozen {wr : World} {g o : Nat} {x y : Value} (p : Addr) : (two wr g o x y).frozen? p = wr.frozen? p := by
  unfold two
  rw [World.frozen?_setCell, World.frozen?_setCell]
/-- One of a row is marked. -/
theorem mark_stepB {wr w3 w5 : World} {A B : List Tm} {g i f Q : Nat} {ba bt bb : List Nat} {k0 n0 : Int} {s0 : ByteArray} {L0 : List Tm} {ao0 : Option Addr} {cap0 : Nat} (hAl : A.length = i)
    (hA : OsR wr A ba g f) (hgw : g < wr.heap.size) (hnd : (g :: (ba ++ (bt ++ bb))).Nodup) (hlt : ∀ x ∈ ba ++ (bt ++ bb), x < wr.heap.size) (hB : OsR wr B bb g (f + i * 4 + 4)) (hQ : Q ≤ 8999990)
    (h0 : wr.cell? ⟨g, f + i * 4, none⟩ = some (.int .i64 k0)) (h1 : wr.cell? ⟨g, f + i * 4 + 1, none⟩ = some (.int .i64 n0)) (h2 : wr.cell? ⟨g, f + i * 4 + 2, none⟩ = some (.string s0)) (h3 : wr.cell? ⟨g, f + i * 4 + 3, none⟩ = some (.slice ao0 L0.length cap0)) (hl0 : L0.length ≤ cap0) (hc0 : cap0 ≤ maxLen)
    (hb3 : Below (two wr g (f + i * 4) (.int .i64 Q) (.int .i64 ((Q : Int) + 1))).heap.size (two wr g (f + i * 4) (.int .i64 Q) (.int .i64 ((Q : Int) + 1))) w3)
    (hO5 : OsL w5 (mrL L0 (Q + 3)) bt ao0) (hout : OutB bt (w3.setCell ⟨g, f + i * 4 + 2, none⟩ (.string (mkT (Q + 2)))) w5) :
    OsR w5 (A ++ mrT (.mk k0 n0 s0 L0) Q :: B) (ba ++ (bt ++ bb)) g f ∧ (∀ o, wr.frozen? ⟨g, o, none⟩ = w5.frozen? ⟨g, o, none⟩) := by
  have s2 : (two wr g (f + i * 4) (.int .i64 Q) (.int .i64 ((Q : Int) + 1))).heap.size = wr.heap.size := two_size
  have s3 := hb3.size
  rw [s2] at s3
  obtain ⟨n1, n2⟩ := List.nodup_cons.1 hnd
  have hgt : g ∉ bt := fun h => n1 (by simp [h])
  have hg3 : g < (w3.setCell ⟨g, f + i * 4 + 2, none⟩ (.string (mkT (Q + 2)))).heap.size := by rw [World.size_setCell]; omega
  have hgb : w5.heap[g]? = (w3.setCell ⟨g, f + i * 4 + 2, none⟩ (.string (mkT (Q + 2)))).heap[g]? := hout.block g hg3 hgt
  have hgc : ∀ o, w5.cell? ⟨g, o, none⟩ = (w3.setCell ⟨g, f + i * 4 + 2, none⟩ (.string (mkT (Q + 2)))).cell? ⟨g, o, none⟩ := fun o => World.cell?_of_block hgb
  have hfar : ∀ o v, (o < f + i * 4 ∨ f + i * 4 + 2 < o) → wr.cell? ⟨g, o, none⟩ = some v → w5.cell? ⟨g, o, none⟩ = some v := fun o v ho hv => by
    rw [hgc, World.cell?_setCell_other (h := fun e => by simp only [Addr.mk.injEq] at e; omega)]
    exact keepM hb3 (by rw [two_far1 (by omega)]; exact hv)
  have hblk : ∀ b, b ≠ g → b ∉ bt → b < wr.heap.size → w5.heap[b]? = wr.heap[b]? := fun b hbg hbn hbl => by
    rw [hout.block b (by rw [World.size_setCell]; omega) hbn, Below.heap_setCell _ ⟨g, f + i * 4 + 2, none⟩ _ b hbg, hb3.block b (by rw [s2]; exact hbl), two_block hbg]
  obtain ⟨t0, t1⟩ := two_in (x := .int .i64 Q) (y := .int .i64 ((Q : Int) + 1)) h0 h1
  have d1 := List.nodup_append.1 n2
  have d2 := List.nodup_append.1 d1.2.1
  refine ⟨OsR.join (OsR.keep A ba g f (fun b hb hbl => hblk b (fun e => n1 (by rw [← e]; simp [hb])) (fun hq => d1.2.2 b hb b (by simp [hq]) rfl) hbl) (fun o v _ ho hv => hfar o v (by omega) hv) hA) ?_ ?_, fun o => ?_⟩
  · rw [hAl, mrT, OsT]
    refine ⟨?_, ?_, ?_, mkT_dig _ (by omega), ao0, cap0, ?_, by rw [mrL_len]; exact hl0, hc0, hO5⟩
    · rw [hgc, World.cell?_setCell_other (h := fun e => by simp only [Addr.mk.injEq] at e; omega)]
      exact keepM hb3 t0
    · rw [hgc, World.cell?_setCell_other (h := fun e => by simp only [Addr.mk.injEq] at e; omega)]
      exact keepM hb3 t1
    · rw [hgc]
      refine World.cell?_setCell_same _ _ _ (u := .string s0) ?_
      exact keepM hb3 (by rw [two_far1 (by omega)]; exact h2)
    · rw [mrL_len]
      exact hfar _ _ (by omega) h3
  · rw [hAl]
    exact OsR.keep B bb g (f + i * 4 + 4) (fun b hb hbl => hblk b (fun e => n1 (by rw [← e]; simp [hb])) (fun hq => d2.2.2 b hq b hb rfl) hbl) (fun o v ho _ hv => hfar o v (by omega) hv) hB
  · have f1 : w5.frozen? ⟨g, o, none⟩ = (w3.setCell ⟨g, f + i * 4 + 2, none⟩ (.string (mkT (Q + 2)))).frozen? ⟨g, o, none⟩ := World.frozen?_of_block hgb
    rw [f1, World.frozen?_setCell, hb3.frozen (p := ⟨g, o, none⟩) (by show g < _; rw [s2]; exact hgw), two_frozen]

def MkB (l : List Tm) : Prop := ∀ (w : World) (bs : List Nat) (ao : Option Addr) (cap K : Nat), OsL w l bs ao → bs.Nodup → l.length ≤ cap → cap ≤ maxLen → 1 ≤ K → K + cL l ≤ 8999990 →
  Calls Try.prog 50 #[.slice ao l.length cap, .int .i64 K] w fun e w' => e = .returned (.int .i64 ((K + cL l : Nat) : Int)) ∧ OsL w' (mrL l K) bs ao ∧ OutB bs w w'

set_option maxHeartbeats 4000000 in
set_option maxRecDepth 100000 in
theorem mkB_of (l : List Tm) (ih : ∀ t, t ∈ l → ∀ k n s L, t = .mk k n s L → MkB L) : MkB l := by
  intro w bs ao cap K h hnd hlc hcm hK hKc
  unfold maxLen at hcm
  by_cases hl : l = []
  · subst hl
    rw [OsL] at h
    subst h
    go_enter Try.func50, Try.ntmps50
    go_wp2_with fail
    go_loopw [1, 5] (fun vk vi wr => vk = .int .i64 K ∧ vi = .int .i64 0 ∧ wr = w) (fun _ _ _ => 0)
    case atStart => exact ⟨rfl, rfl, rfl⟩
    case round =>
      obtain ⟨rfl, rfl, rfl⟩ := hrel
      go_wp2_with fail
      go_ret
      exact ⟨by simp [cL], by rw [mrL, OsL], OutB.refl _ _⟩
  · obtain ⟨g, f, b0, rfl, rfl, hfz, hrow⟩ := (OsL.iff hl).1 h
    have IH : Hid (∀ t, t ∈ l → ∀ k n s L, t = .mk k n s L → MkB L) := ih
    have HROW : Hid (OsR w l b0 g f) := hrow
    have HFZ : Hid (∀ o, w.frozen? ⟨g, o, none⟩ = false) := hfz
    have HL : Hid (l ≠ []) := hl
    have HND : Hid ((g :: b0).Nodup) := hnd
    clear ih h hrow hfz hl hnd
    go_enter Try.func50, Try.ntmps50
    go_wp2_with fail
    go_loopw [1, 5] (fun vk vi wr => ∃ i : Nat, i ≤ l.length ∧ vi = .int .i64 i ∧ vk = .int .i64 ((K + cL (l.take i) : Nat) : Int) ∧ OsR wr (mrL (l.take i) K ++ l.drop i) b0 g f ∧ (∀ o, wr.frozen? ⟨g, o, none⟩ = false) ∧ OutB (g :: b0) w wr) (fun _ vi _ => l.length - (intOf vi).toNat)
    case atStart => exact ⟨0, Nat.zero_le _, rfl, by simp [cL], by simpa [mrL] using HROW.out, HFZ.out, OutB.refl _ _⟩
    case round =>
      obtain ⟨i, hi0, rfl, rfl, hr, hf, ho⟩ := hrel
      by_cases hlt : i < l.length
      · have hcl := cL_take l i hlt
        have hcle := cL_le l (i + 1)
        rw [List.drop_eq_getElem_cons hlt] at hr
        have hltw := OsR.lt _ _ _ _ hr
        obtain ⟨ba, bt, bb, eb, hA, hT, hB⟩ := OsR.split hr
        have hAl : (mrL (l.take i) K).length = i := by rw [mrL_len]; simp; omega
        rw [hAl] at hT hB
        have HMR : Hid (mrL (l.take (i + 1)) K = mrL (l.take i) K ++ [mrT l[i] (K + cL (l.take i))]) := mrL_take l i K hlt
        have HIM : Hid (∀ k n s L, l[i] = .mk k n s L → MkB L) := IH.out _ (List.getElem_mem hlt)
        have hnd := HND.out
        rw [eb] at hnd hltw
        have HEB : Hid (b0 = ba ++ (bt ++ bb)) := eb
        generalize l[i] = t at *
        obtain ⟨k0, n0, s0, L0⟩ := t
        rw [OsT] at hT
        obtain ⟨h0, h1, h2, hs0, ao0, cap0, h3, hl0, hc0, hOL⟩ := hT
        rw [cT] at hcl
        obtain ⟨Q, hQ⟩ : ∃ Q, Q = K + cL (l.take i) := ⟨_, rfl⟩
        rw [← hQ] at HMR ⊢
        have hQ3 : Q + 3 + cL L0 ≤ 8999990 := by omega
        have HQN : Hid (K + cL (l.take (i + 1)) = Q + 3 + cL L0) := by show _ = _; omega
        clear hQ hcl hcle
        have hgw : g < wr.heap.size := World.block_lt_of_cell? wr _ h0
        have hzw := ho.size
        obtain ⟨n1, n2⟩ := List.nodup_cons.1 hnd
        have d1 := List.nodup_append.1 n2
        have d2 := List.nodup_append.1 d1.2.1
        have HGT : Hid (∀ b ∈ bt, b ≠ g) := fun b hb e => n1 (by rw [← e]; simp [hb])
        have HBT : Hid (bt.Nodup ∧ ∀ b ∈ bt, b ∈ g :: b0) := ⟨d2.1, fun b hb => by rw [eb]; simp [hb]⟩
        have HSTEP : Hid (∀ w3 w5, Below (two wr g (f + i * 4) (.int .i64 Q) (.int .i64 ((Q : Int) + 1))).heap.size (two wr g (f + i * 4) (.int .i64 Q) (.int .i64 ((Q : Int) + 1))) w3 → OsL w5 (mrL L0 (Q + 3)) bt ao0 → OutB bt (w3.setCell ⟨g, f + i * 4 + 2, none⟩ (.string (mkT (Q + 2)))) w5 → OsR w5 (mrL (l.take i) K ++ mrT (.mk k0 n0 s0 L0) Q :: l.drop (i + 1)) b0 g f ∧ (∀ o, wr.frozen? ⟨g, o, none⟩ = w5.frozen? ⟨g, o, none⟩)) :=
          fun w3 w5 hb3 hO5 hout => by rw [eb]; exact mark_stepB hAl hA hgw hnd hltw hB (by omega) h0 h1 h2 h3 hl0 hc0 hb3 hO5 hout
        have HOL : Hid (OsL wr L0 bt ao0) := hOL
        have HIH : Hid (MkB L0) := HIM.out _ _ _ _ rfl
        have HO : Hid (OutB (g :: b0) w wr) := ho
        have HC0 : Hid (L0.length ≤ cap0 ∧ cap0 ≤ maxLen) := ⟨hl0, hc0⟩
        have HK2 : Hid (((Q : Int) + 1 + 1) = ((Q + 2 : Nat) : Int)) := by show _ = _; omega
        have HK2b : Hid (((Q : Int) + 2) = ((Q + 2 : Nat) : Int)) := by show _ = _; omega
        have HK3 : Hid (((Q : Int) + 1 + 1 + 1) = ((Q + 3 : Nat) : Int)) := by show _ = _; omega
        have HK3c : Hid (((Q : Int) + 2 + 1) = ((Q + 3 : Nat) : Int)) := by show _ = _; omega
        have HK3b : Hid (((Q : Int) + 3) = ((Q + 3 : Nat) : Int)) := by show _ = _; omega
        have hQi : (Q : Int) ≤ 8999990 := by omega
        have HFF : Hid (∀ o, wr.frozen? ⟨g, o, none⟩ = false) := hf
        clear hA hB hOL hl0 hc0 hs0 ho hnd hltw n1 n2 d1 d2 eb hr
        go_wp2_with (first
          | (go_at_call 49; (first | rw [HK2.out] | rw [HK2b.out]); refine (markText_any (Q + 2) (by omega) (by omega) _).mono ?_; rintro e w3 ⟨rfl, hb3⟩; have HB3 : Hid (Below (two wr g (f + i * 4) (.int .i64 Q) (.int .i64 ((Q : Int) + 1))).heap.size (two wr g (f + i * 4) (.int .i64 Q) (.int .i64 ((Q : Int) + 1))) w3) := hb3; have c23 := keepM HB3.out (show (two wr g (f + i * 4) (.int .i64 Q) (.int .i64 ((Q : Int) + 1))).cell? ⟨g, f + i * 4 + 2, none⟩ = some (.string s0) from (two_far1 (by omega)).trans h2); have c33 := keepM HB3.out (show (two wr g (f + i * 4) (.int .i64 Q) (.int .i64 ((Q : Int) + 1))).cell? ⟨g, f + i * 4 + 3, none⟩ = some (.slice ao0 L0.length cap0) from (two_far1 (by omega)).trans h3); have f33 : ∀ o, w3.frozen? ⟨g, o, none⟩ = false := (fun o => by rw [HB3.out.frozen (p := ⟨g, o, none⟩) (by rw [two_size]; exact hgw), two_frozen]; exact HFF.out o); have hz3 : wr.heap.size ≤ w3.heap.size := (by have := HB3.out.size; rw [two_size] at this; exact this); clear hb3)
          | (go_at_call 50; (first | rw [HK3.out] | rw [HK3c.out] | rw [HK3b.out]); refine (HIH.out (w3.setCell ⟨g, f + i * 4 + 2, none⟩ (.string (mkT (Q + 2)))) bt ao0 cap0 (Q + 3) (OsL.keep _ _ _ (fun b hb hbl => by rw [Below.heap_setCell _ ⟨g, f + i * 4 + 2, none⟩ _ b (HGT.out b hb), HB3.out.block b (by rw [two_size]; exact hbl), two_block (HGT.out b hb)]) HOL.out) HBT.out.1 HC0.out.1 HC0.out.2 (by omega) (by omega)).mono ?_; rintro e w5 ⟨rfl, hO5, hout5⟩; obtain ⟨hR5, hF5⟩ := HSTEP.out w3 w5 HB3.out hO5 hout5; have HR5 : Hid (OsR w5 (mrL (l.take (i + 1)) K ++ l.drop (i + 1)) b0 g f) := (by rw [HMR.out, List.append_assoc]; exact hR5); have HF5 : Hid (∀ o, w5.frozen? ⟨g, o, none⟩ = false) := (fun o => (hF5 o).symm.trans (HFF.out o)); have HO5 : Hid (OutB bt (w3.setCell ⟨g, f + i * 4 + 2, none⟩ (.string (mkT (Q + 2)))) w5) := hout5; clear hO5 hout5 hR5 hF5))
        have HOUT : Hid (OutB (g :: b0) w w5) := by
          have o1 : OutB (g :: b0) wr (two wr g (f + i * 4) (.int .i64 Q) (.int .i64 ((Q : Int) + 1))) := ((OutB.refl (g :: b0) wr).set (by simp) _ _).set (by simp) _ _
          exact HO.out.trans (o1.trans ((((OutB.below HB3.out).set (by simp) _ _)).trans (HO5.out.wide HBT.out.2)))
        go_roundw
        case rel => exact ⟨i + 1, by omega, by go_num, by rw [HQN.out]; exact congrArg (Value.int .i64) (by omega), HR5.out, HF5.out, HOUT.out⟩
        case measure => simp [intOf]; omega
      · have hil : i = l.length := by omega
        have HE : Hid (OsR wr (mrL l K) b0 g f) := by
          show OsR ..
          rw [hil] at hr
          simpa using hr
        have HEQ : Hid (K + cL (l.take i) = K + cL l) := by show _ = _; rw [hil]; simp
        have HF : Hid (∀ o, wr.frozen? ⟨g, o, none⟩ = false) := hf
        have HO : Hid (OutB (g :: b0) w wr) := ho
        have HNE : Hid (mrL l K ≠ []) := by
          intro e
          have := mrL_len l K
          rw [e] at this
          exact HL.out (List.eq_nil_of_length_eq_zero this.symm)
        clear hr hf ho hil
        go_wp2_with fail
        go_ret
        exact ⟨ret_int (by have := HEQ.out; omega), (OsL.iff HNE.out).2 ⟨g, f, b0, rfl, rfl, HF.out, HE.out⟩, HO.out⟩
theorem mkBT_all : ∀ t : Tm, ∀ k n s L, t = .mk k n s L → MkB L := Tm.ind fun k n s l ih k' n' s' L' e => by
  simp only [Tm.mk.injEq] at e
  obtain ⟨_, _, _, rfl⟩ := e
  exact mkB_of l ih
theorem mkB_all (l : List Tm) : MkB l := mkBT_all (.mk 0 0 ByteArray.empty l) _ _ _ _ rfl
end Go.Proofs.Ytabgfaafpgholaa
