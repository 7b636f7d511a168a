/-
  Copies that the laws make of terms: each list in a block of its own.
  (Ahead of it, in this text: What the laws mark of a term whose lists stand each in a block of its own. What is marked is found marked (marks up to nine millions).)
-/
import Derived.Test.YtabgfaafpgholaaOsA
import Derived.Test.YtabgfaafpgholaaV6
import Derived.Deep.RegionWith
namespace Go.Proofs.Ytabgfaafpgholaa
open Go.RowKit
set_option linter.unusedVariables false

mutual
def cT : Tm → Nat
  | .mk _ _ _ l => 3 + cL l
def cL : List Tm → Nat
  | [] => 0
  | t :: r => cT t + cL r
end
mutual
def mrT : Tm → Nat → Tm
  | .mk _ _ _ l, K => .mk K ((K : Int) + 1) (mkT (K + 2)) (mrL l (K + 3))
def mrL : List Tm → Nat → List Tm
  | [], _ => []
  | t :: r, K => mrT t K :: mrL r (K + cT t)
end
theorem mrL_len : ∀ (l : List Tm) (K : Nat), (mrL l K).length = l.length
  | [], K => by rw [mrL]
  | t :: r, K => by rw [mrL, List.length_cons, List.length_cons, mrL_len r]
theorem cL_take (l : List Tm) (i : Nat) (h : i < l.length) : cL (l.take (i + 1)) = cL (l.take i) + cT l[i] := by
  induction l generalizing i with
  | nil => simp at h
  | cons t r ih =>
    cases i with
    | zero => simp [cL]
    | succ j =>
      have := ih j (by simpa using h)
      rw [List.take_succ_cons, List.take_succ_cons, cL, cL, this]
      simp only [List.getElem_cons_succ]
      omega
theorem mrL_take (l : List Tm) (i K : Nat) (h : i < l.length) : mrL (l.take (i + 1)) K = mrL (l.take i) K ++ [mrT l[i] (K + cL (l.take i))] := by
  induction l generalizing i K with
  | nil => simp at h
  | cons t r ih =>
    cases i with
    | zero => simp [mrL, cL]
    | succ j =>
      have := ih j (K + cT t) (by simpa using h)
      rw [List.take_succ_cons, List.take_succ_cons, mrL, mrL, this, cL]
      simp only [List.getElem_cons_succ, List.cons_append]
      rw [Nat.add_assoc]
theorem cL_le (l : List Tm) (i : Nat) : cL (l.take i) ≤ cL l := by
  induction l generalizing i with
  | nil => simp [cL]
  | cons t r ih =>
    cases i with
    | zero => simp [cL]
    | succ j => rw [List.take_succ_cons, cL, cL]; have := ih j; omega
theorem mkGo_dig : ∀ (d k : Nat) (s : ByteArray), k < 10 ^ d → (mkGo k s).size ≤ s.size + d := by
  intro d
  induction d with
  | zero =>
    intro k s h
    rw [mkGo]
    split
    · omega
    · rename_i hk; simp at h; omega
  | succ d ih =>
    intro k s h
    rw [mkGo]
    split
    · omega
    · have h1 := ih (k / 10) (⟨#[UInt8.ofNat (48 + k % 10)]⟩ ++ s) (by rw [Nat.pow_succ] at h; omega)
      rw [size_cons] at h1
      omega
theorem mkT_dig (k : Nat) (h : k ≤ 9000000) : (mkT k).size ≤ 1048576 := by
  unfold mkT
  rw [size_cons]
  have := mkGo_dig 7 k ⟨#[]⟩ (by omega)
  have e : (⟨#[]⟩ : ByteArray).size = 0 := rfl
  omega

/-- What is in none of these blocks is as it was. -/
structure OutB (bs : List Nat) (w w' : World) : Prop where
  os : w'.os = w.os
  tape : w'.tape = w.tape
  output : w'.output = w.output
  size : w.heap.size ≤ w'.heap.size
  block : ∀ b, b < w.heap.size → b ∉ bs → w'.heap[b]? = w.heap[b]?
theorem OutB.refl (bs : List Nat) (w : World) : OutB bs w w := ⟨rfl, rfl, rfl, Nat.le_refl _, fun _ _ _ => rfl⟩
theorem OutB.trans {bs : List Nat} {a b c : World} (h : OutB bs a b) (k : OutB bs b c) : OutB bs a c :=
  ⟨k.os.trans h.os, k.tape.trans h.tape, k.output.trans h.output, Nat.le_trans h.size k.size, fun x hx hn => (k.block x (Nat.lt_of_lt_of_le hx h.size) hn).trans (h.block x hx hn)⟩
theorem OutB.wide {bs bs' : List Nat} {a b : World} (h : OutB bs a b) (h1 : ∀ x ∈ bs, x ∈ bs') : OutB bs' a b := ⟨h.os, h.tape, h.output, h.size, fun x hx hn => h.block x hx (fun hh => hn (h1 x hh))⟩
theorem OutB.below {bs : List Nat} {a b : World} (h : Below a.heap.size a b) : OutB bs a b := ⟨h.os, h.tape, h.output, h.size, fun x hx _ => h.block x hx⟩
theorem OutB.set {bs : List Nat} {a b : World} (h : OutB bs a b) {g : Nat} (h1 : g ∈ bs) (o : Nat) (v : Value) : OutB bs a (b.setCell ⟨g, o, none⟩ v) :=
  ⟨h.os, h.tape, h.output, by rw [World.size_setCell]; exact h.size, fun x hx hn => by rw [Below.heap_setCell _ ⟨g, o, none⟩ _ x (by show x ≠ g; intro e; exact hn (by rw [e]; exact h1))]; exact h.block x hx hn⟩

theorem keepM {w w' : World} (h : Below w.heap.size w w') {b o : Nat} {v : Value} (hc : w.cell? ⟨b, o, none⟩ = some v) : w'.cell? ⟨b, o, none⟩ = some v := by
  rw [h.cell (p := ⟨b, o, none⟩) (World.block_lt_of_cell? w _ hc)]; exact hc
/-- The two first cells are written. -/
def two (wr : World) (g o : Nat) (x y : Value) : World := (wr.setCell ⟨g, o, none⟩ x).setCell ⟨g, o + 1, none⟩ y
theorem two_far1 {wr : World} {g o : Nat} {x y : Value} {b o' : Nat} (h : b ≠ g ∨ o' < o ∨ o + 1 < o') : (two wr g o x y).cell? ⟨b, o', none⟩ = wr.cell? ⟨b, o', none⟩ := by
  unfold two
  rw [World.cell?_setCell_other (h := fun e => by simp only [Addr.mk.injEq] at e; omega), World.cell?_setCell_other (h := fun e => by simp only [Addr.mk.injEq] at e; omega)]
theorem two_in {wr : World} {g o : Nat} {x y x0 y0 : Value} (h0 : wr.cell? ⟨g, o, none⟩ = some x0) (h1 : wr.cell? ⟨g, o + 1, none⟩ = some y0) : (two wr g o x y).cell? ⟨g, o, none⟩ = some x ∧ (two wr g o x y).cell? ⟨g, o + 1, none⟩ = some y := by
  unfold two
  refine ⟨?_, ?_⟩
  · rw [World.cell?_setCell_other (h := fun e => by simp only [Addr.mk.injEq] at e; omega)]
    exact World.cell?_setCell_same wr _ _ h0
  · refine World.cell?_setCell_same _ _ _ (u := y0) ?_
    rw [World.cell?_setCell_other (h := fun e => by simp only [Addr.mk.injEq] at e; omega)]
    exact h1
theorem two_block {wr : World} {g o : Nat} {x y : Value} {b : Nat} (h : b ≠ g) : (two wr g o x y).heap[b]? = wr.heap[b]? := by
  unfold two
  rw [Below.heap_setCell _ ⟨g, o + 1, none⟩ _ b h, Below.heap_setCell _ ⟨g, o, none⟩ _ b h]
theorem two_size {wr : World} {g o : Nat} {x y : Value} : (two wr g o x y).heap.size = wr.heap.size := by
  unfold two
  rw [World.size_setCell, World.size_setCell]
theorem two_frozen {wr : World} {g o : Nat} {x y : Value} (p : Addr) : (two wr g o x y).frozen? p = wr.frozen? p := by
  unfold two
  rw [World.frozen?_setCell, World.frozen?_setCell]
/-- One of a row is marked. -/
theorem mark_stepB {wr w3 w5 : World} {A B : List Tm} {g i f Q : Nat} {ba bt bb : List Nat} {k0 n0 : Int} {s0 : ByteArray} {L0 : List Tm} {ao0 : Option Addr} {cap0 : Nat} (hAl : A.length = i)
    (hA : OsR wr A ba g f) (hgw : g < wr.heap.size) (hnd : (g :: (ba ++ (bt ++ bb))).Nodup) (hlt : ∀ x ∈ ba ++ (bt ++ bb), x < wr.heap.size) (hB : OsR wr B bb g (f + i * 4 + 4)) (hQ : Q ≤ 8999990)
    (h0 : wr.cell? ⟨g, f + i * 4, none⟩ = some (.int .i64 k0)) (h1 : wr.cell? ⟨g, f + i * 4 + 1, none⟩ = some (.int .i64 n0)) (h2 : wr.cell? ⟨g, f + i * 4 + 2, none⟩ = some (.string s0)) (h3 : wr.cell? ⟨g, f + i * 4 + 3, none⟩ = some (.slice ao0 L0.length cap0)) (hl0 : L0.length ≤ cap0) (hc0 : cap0 ≤ maxLen)
    (hb3 : Below (two wr g (f + i * 4) (.int .i64 Q) (.int .i64 ((Q : Int) + 1))).heap.size (two wr g (f + i * 4) (.int .i64 Q) (.int .i64 ((Q : Int) + 1))) w3)
    (hO5 : OsL w5 (mrL L0 (Q + 3)) bt ao0) (hout : OutB bt (w3.setCell ⟨g, f + i * 4 + 2, none⟩ (.string (mkT (Q + 2)))) w5) :
    OsR w5 (A ++ mrT (.mk k0 n0 s0 L0) Q :: B) (ba ++ (bt ++ bb)) g f ∧ (∀ o, wr.frozen? ⟨g, o, none⟩ = w5.frozen? ⟨g, o, none⟩) := by
  have s2 : (two wr g (f + i * 4) (.int .i64 Q) (.int .i64 ((Q : Int) + 1))).heap.size = wr.heap.size := two_size
  have s3 := hb3.size
  rw [s2] at s3
  obtain ⟨n1, n2⟩ := List.nodup_cons.1 hnd
  have hgt : g ∉ bt := fun h => n1 (by simp [h])
  have hg3 : g < (w3.setCell ⟨g, f + i * 4 + 2, none⟩ (.string (mkT (Q + 2)))).heap.size := by rw [World.size_setCell]; omega
  have hgb : w5.heap[g]? = (w3.setCell ⟨g, f + i * 4 + 2, none⟩ (.string (mkT (Q + 2)))).heap[g]? := hout.block g hg3 hgt
  have hgc : ∀ o, w5.cell? ⟨g, o, none⟩ = (w3.setCell ⟨g, f + i * 4 + 2, none⟩ (.string (mkT (Q + 2)))).cell? ⟨g, o, none⟩ := fun o => World.cell?_of_block hgb
  have hfar : ∀ o v, (o < f + i * 4 ∨ f + i * 4 + 2 < o) → wr.cell? ⟨g, o, none⟩ = some v → w5.cell? ⟨g, o, none⟩ = some v := fun o v ho hv => by
    rw [hgc, World.cell?_setCell_other (h := fun e => by simp only [Addr.mk.injEq] at e; omega)]
    exact keepM hb3 (by rw [two_far1 (by omega)]; exact hv)
  have hblk : ∀ b, b ≠ g → b ∉ bt → b < wr.heap.size → w5.heap[b]? = wr.heap[b]? := fun b hbg hbn hbl => by
    rw [hout.block b (by rw [World.size_setCell]; omega) hbn, Below.heap_setCell _ ⟨g, f + i * 4 + 2, none⟩ _ b hbg, hb3.block b (by rw [s2]; exact hbl), two_block hbg]
  obtain ⟨t0, t1⟩ := two_in (x := .int .i64 Q) (y := .int .i64 ((Q : Int) + 1)) h0 h1
  have d1 := List.nodup_append.1 n2
  have d2 := List.nodup_append.1 d1.2.1
  refine ⟨OsR.join (OsR.keep A ba g f (fun b hb hbl => hblk b (fun e => n1 (by rw [← e]; simp [hb])) (fun hq => d1.2.2 b hb b (by simp [hq]) rfl) hbl) (fun o v _ ho hv => hfar o v (by omega) hv) hA) ?_ ?_, fun o => ?_⟩
  · rw [hAl, mrT, OsT]
    refine ⟨?_, ?_, ?_, mkT_dig _ (by omega), ao0, cap0, ?_, by rw [mrL_len]; exact hl0, hc0, hO5⟩
    · rw [hgc, World.cell?_setCell_other (h := fun e => by simp only [Addr.mk.injEq] at e; omega)]
      exact keepM hb3 t0
    · rw [hgc, World.cell?_setCell_other (h := fun e => by simp only [Addr.mk.injEq] at e; omega)]
      exact keepM hb3 t1
    · rw [hgc]
      refine World.cell?_setCell_same _ _ _ (u := .string s0) ?_
      exact keepM hb3 (by rw [two_far1 (by omega)]; exact h2)
    · rw [mrL_len]
      exact hfar _ _ (by omega) h3
  · rw [hAl]
    exact OsR.keep B bb g (f + i * 4 + 4) (fun b hb hbl => hblk b (fun e => n1 (by rw [← e]; simp [hb])) (fun hq => d2.2.2 b hq b hb rfl) hbl) (fun o v ho _ hv => hfar o v (by omega) hv) hB
  · have f1 : w5.frozen? ⟨g, o, none⟩ = (w3.setCell ⟨g, f + i * 4 + 2, none⟩ (.string (mkT (Q + 2)))).frozen? ⟨g, o, none⟩ := World.frozen?_of_block hgb
    rw [f1, World.frozen?_setCell, hb3.frozen (p := ⟨g, o, none⟩) (by show g < _; rw [s2]; exact hgw), two_frozen]

def MkB (l : List Tm) : Prop := ∀ (w : World) (bs : List Nat) (ao : Option Addr) (cap K : Nat), OsL w l bs ao → bs.Nodup → l.length ≤ cap → cap ≤ maxLen → 1 ≤ K → K + cL l ≤ 8999990 →
  Calls Try.prog 50 #[.slice ao l.length cap, .int .i64 K] w fun e w' => e = .returned (.int .i64 ((K + cL l : Nat) : Int)) ∧ OsL w' (mrL l K) bs ao ∧ OutB bs w w'

set_option maxHeartbeats 4000000 in
set_option maxRecDepth 100000 in
theorem mkB_of (l : List Tm) (ih : ∀ t, t ∈ l → ∀ k n s L, t = .mk k n s L → MkB L) : MkB l := by
  intro w bs ao cap K h hnd hlc hcm hK hKc
  unfold maxLen at hcm
  by_cases hl : l = []
  · subst hl
    rw [OsL] at h
    subst h
    go_enter Try.func50, Try.ntmps50
    go_wp2_with fail
    go_loopw [1, 5] (fun vk vi wr => vk = .int .i64 K ∧ vi = .int .i64 0 ∧ wr = w) (fun _ _ _ => 0)
    case atStart => exact ⟨rfl, rfl, rfl⟩
    case round =>
      obtain ⟨rfl, rfl, rfl⟩ := hrel
      go_wp2_with fail
      go_ret
      exact ⟨by simp [cL], by rw [mrL, OsL], OutB.refl _ _⟩
  · obtain ⟨g, f, b0, rfl, rfl, hfz, hrow⟩ := (OsL.iff hl).1 h
    have IH : Hid (∀ t, t ∈ l → ∀ k n s L, t = .mk k n s L → MkB L) := ih
    have HROW : Hid (OsR w l b0 g f) := hrow
    have HFZ : Hid (∀ o, w.frozen? ⟨g, o, none⟩ = false) := hfz
    have HL : Hid (l ≠ []) := hl
    have HND : Hid ((g :: b0).Nodup) := hnd
    clear ih h hrow hfz hl hnd
    go_enter Try.func50, Try.ntmps50
    go_wp2_with fail
    go_loopw [1, 5] (fun vk vi wr => ∃ i : Nat, i ≤ l.length ∧ vi = .int .i64 i ∧ vk = .int .i64 ((K + cL (l.take i) : Nat) : Int) ∧ OsR wr (mrL (l.take i) K ++ l.drop i) b0 g f ∧ (∀ o, wr.frozen? ⟨g, o, none⟩ = false) ∧ OutB (g :: b0) w wr) (fun _ vi _ => l.length - (intOf vi).toNat)
    case atStart => exact ⟨0, Nat.zero_le _, rfl, by simp [cL], by simpa [mrL] using HROW.out, HFZ.out, OutB.refl _ _⟩
    case round =>
      obtain ⟨i, hi0, rfl, rfl, hr, hf, ho⟩ := hrel
      by_cases hlt : i < l.length
      · have hcl := cL_take l i hlt
        have hcle := cL_le l (i + 1)
        rw [List.drop_eq_getElem_cons hlt] at hr
        have hltw := OsR.lt _ _ _ _ hr
        obtain ⟨ba, bt, bb, eb, hA, hT, hB⟩ := OsR.split hr
        have hAl : (mrL (l.take i) K).length = i := by rw [mrL_len]; simp; omega
        rw [hAl] at hT hB
        have HMR : Hid (mrL (l.take (i + 1)) K = mrL (l.take i) K ++ [mrT l[i] (K + cL (l.take i))]) := mrL_take l i K hlt
        have HIM : Hid (∀ k n s L, l[i] = .mk k n s L → MkB L) := IH.out _ (List.getElem_mem hlt)
        have hnd := HND.out
        rw [eb] at hnd hltw
        have HEB : Hid (b0 = ba ++ (bt ++ bb)) := eb
        generalize l[i] = t at *
        obtain ⟨k0, n0, s0, L0⟩ := t
        rw [OsT] at hT
        obtain ⟨h0, h1, h2, hs0, ao0, cap0, h3, hl0, hc0, hOL⟩ := hT
        rw [cT] at hcl
        obtain ⟨Q, hQ⟩ : ∃ Q, Q = K + cL (l.take i) := ⟨_, rfl⟩
        rw [← hQ] at HMR ⊢
        have hQ3 : Q + 3 + cL L0 ≤ 8999990 := by omega
        have HQN : Hid (K + cL (l.take (i + 1)) = Q + 3 + cL L0) := by show _ = _; omega
        clear hQ hcl hcle
        have hgw : g < wr.heap.size := World.block_lt_of_cell? wr _ h0
        have hzw := ho.size
        obtain ⟨n1, n2⟩ := List.nodup_cons.1 hnd
        have d1 := List.nodup_append.1 n2
        have d2 := List.nodup_append.1 d1.2.1
        have HGT : Hid (∀ b ∈ bt, b ≠ g) := fun b hb e => n1 (by rw [← e]; simp [hb])
        have HBT : Hid (bt.Nodup ∧ ∀ b ∈ bt, b ∈ g :: b0) := ⟨d2.1, fun b hb => by rw [eb]; simp [hb]⟩
        have HSTEP : Hid (∀ w3 w5, Below (two wr g (f + i * 4) (.int .i64 Q) (.int .i64 ((Q : Int) + 1))).heap.size (two wr g (f + i * 4) (.int .i64 Q) (.int .i64 ((Q : Int) + 1))) w3 → OsL w5 (mrL L0 (Q + 3)) bt ao0 → OutB bt (w3.setCell ⟨g, f + i * 4 + 2, none⟩ (.string (mkT (Q + 2)))) w5 → OsR w5 (mrL (l.take i) K ++ mrT (.mk k0 n0 s0 L0) Q :: l.drop (i + 1)) b0 g f ∧ (∀ o, wr.frozen? ⟨g, o, none⟩ = w5.frozen? ⟨g, o, none⟩)) :=
          fun w3 w5 hb3 hO5 hout => by rw [eb]; exact mark_stepB hAl hA hgw hnd hltw hB (by omega) h0 h1 h2 h3 hl0 hc0 hb3 hO5 hout
        have HOL : Hid (OsL wr L0 bt ao0) := hOL
        have HIH : Hid (MkB L0) := HIM.out _ _ _ _ rfl
        have HO : Hid (OutB (g :: b0) w wr) := ho
        have HC0 : Hid (L0.length ≤ cap0 ∧ cap0 ≤ maxLen) := ⟨hl0, hc0⟩
        have HK2 : Hid (((Q : Int) + 1 + 1) = ((Q + 2 : Nat) : Int)) := by show _ = _; omega
        have HK2b : Hid (((Q : Int) + 2) = ((Q + 2 : Nat) : Int)) := by show _ = _; omega
        have HK3 : Hid (((Q : Int) + 1 + 1 + 1) = ((Q + 3 : Nat) : Int)) := by show _ = _; omega
        have HK3c : Hid (((Q : Int) + 2 + 1) = ((Q + 3 : Nat) : Int)) := by show _ = _; omega
        have HK3b : Hid (((Q : Int) + 3) = ((Q + 3 : Nat) : Int)) := by show _ = _; omega
        have hQi : (Q : Int) ≤ 8999990 := by omega
        have HFF : Hid (∀ o, wr.frozen? ⟨g, o, none⟩ = false) := hf
        clear hA hB hOL hl0 hc0 hs0 ho hnd hltw n1 n2 d1 d2 eb hr
        go_wp2_with (first
          | (go_at_call 49; (first | rw [HK2.out] | rw [HK2b.out]); refine (markText_any (Q + 2) (by omega) (by omega) _).mono ?_; rintro e w3 ⟨rfl, hb3⟩; have HB3 : Hid (Below (two wr g (f + i * 4) (.int .i64 Q) (.int .i64 ((Q : Int) + 1))).heap.size (two wr g (f + i * 4) (.int .i64 Q) (.int .i64 ((Q : Int) + 1))) w3) := hb3; have c23 := keepM HB3.out (show (two wr g (f + i * 4) (.int .i64 Q) (.int .i64 ((Q : Int) + 1))).cell? ⟨g, f + i * 4 + 2, none⟩ = some (.string s0) from (two_far1 (by omega)).trans h2); have c33 := keepM HB3.out (show (two wr g (f + i * 4) (.int .i64 Q) (.int .i64 ((Q : Int) + 1))).cell? ⟨g, f + i * 4 + 3, none⟩ = some (.slice ao0 L0.length cap0) from (two_far1 (by omega)).trans h3); have f33 : ∀ o, w3.frozen? ⟨g, o, none⟩ = false := (fun o => by rw [HB3.out.frozen (p := ⟨g, o, none⟩) (by rw [two_size]; exact hgw), two_frozen]; exact HFF.out o); have hz3 : wr.heap.size ≤ w3.heap.size := (by have := HB3.out.size; rw [two_size] at this; exact this); clear hb3)
          | (go_at_call 50; (first | rw [HK3.out] | rw [HK3c.out] | rw [HK3b.out]); refine (HIH.out (w3.setCell ⟨g, f + i * 4 + 2, none⟩ (.string (mkT (Q + 2)))) bt ao0 cap0 (Q + 3) (OsL.keep _ _ _ (fun b hb hbl => by rw [Below.heap_setCell _ ⟨g, f + i * 4 + 2, none⟩ _ b (HGT.out b hb), HB3.out.block b (by rw [two_size]; exact hbl), two_block (HGT.out b hb)]) HOL.out) HBT.out.1 HC0.out.1 HC0.out.2 (by omega) (by omega)).mono ?_; rintro e w5 ⟨rfl, hO5, hout5⟩; obtain ⟨hR5, hF5⟩ := HSTEP.out w3 w5 HB3.out hO5 hout5; have HR5 : Hid (OsR w5 (mrL (l.take (i + 1)) K ++ l.drop (i + 1)) b0 g f) := (by rw [HMR.out, List.append_assoc]; exact hR5); have HF5 : Hid (∀ o, w5.frozen? ⟨g, o, none⟩ = false) := (fun o => (hF5 o).symm.trans (HFF.out o)); have HO5 : Hid (OutB bt (w3.setCell ⟨g, f + i * 4 + 2, none⟩ (.string (mkT (Q + 2)))) w5) := hout5; clear hO5 hout5 hR5 hF5))
        have HOUT : Hid (OutB (g :: b0) w w5) := by
          have o1 : OutB (g :: b0) wr (two wr g (f + i * 4) (.int .i64 Q) (.int .i64 ((Q : Int) + 1))) := ((OutB.refl (g :: b0) wr).set (by simp) _ _).set (by simp) _ _
          exact HO.out.trans (o1.trans ((((OutB.below HB3.out).set (by simp) _ _)).trans (HO5.out.wide HBT.out.2)))
        go_roundw
        case rel => exact ⟨i + 1, by omega, by go_num, by rw [HQN.out]; exact congrArg (Value.int .i64) (by omega), HR5.out, HF5.out, HOUT.out⟩
        case measure => simp [intOf]; omega
      · have hil : i = l.length := by omega
        have HE : Hid (OsR wr (mrL l K) b0 g f) := by
          show OsR ..
          rw [hil] at hr
          simpa using hr
        have HEQ : Hid (K + cL (l.take i) = K + cL l) := by show _ = _; rw [hil]; simp
        have HF : Hid (∀ o, wr.frozen? ⟨g, o, none⟩ = false) := hf
        have HO : Hid (OutB (g :: b0) w wr) := ho
        have HNE : Hid (mrL l K ≠ []) := by
          intro e
          have := mrL_len l K
          rw [e] at this
          exact HL.out (List.eq_nil_of_length_eq_zero this.symm)
        clear hr hf ho hil
        go_wp2_with fail
        go_ret
        exact ⟨ret_int (by have := HEQ.out; omega), (OsL.iff HNE.out).2 ⟨g, f, b0, rfl, rfl, HF.out, HE.out⟩, HO.out⟩
theorem mkBT_all : ∀ t : Tm, ∀ k n s L, t = .mk k n s L → MkB L := Tm.ind fun k n s l ih k' n' s' L' e => by
  simp only [Tm.mk.injEq] at e
  obtain ⟨_, _, _, rfl⟩ := e
  exact mkB_of l ih
theorem mkB_all (l : List Tm) : MkB l := mkBT_all (.mk 0 0 ByteArray.empty l) _ _ _ _ rfl
end Go.Proofs.Ytabgfaafpgholaa
namespace Go.Proofs.Ytabgfaafpgholaa
open Go.RowKit
set_option linter.unusedVariables false

theorem mrL_get : ∀ (l : List Tm) (K i : Nat) (h : i < (mrL l K).length) (h' : i < l.length), (mrL l K)[i] = mrT l[i] (K + cL (l.take i))
  | [], K, i, h, h' => absurd h' (by simp)
  | t :: r, K, i, h, h' => by
    cases i with
    | zero => simp [mrL, cL]
    | succ j =>
      have hj : j < r.length := by simpa using h'
      have := mrL_get r (K + cT t) j (by rw [mrL_len]; exact hj) hj
      simp only [mrL, List.getElem_cons_succ, this, List.take_succ_cons, cL]
      rw [Nat.add_assoc]
theorem bundrewM {W w3 : World} (hb : Below W.drew.heap.size W.drew w3) : Below W.heap.size W w3 := ⟨hb.os, hb.tape, hb.output, hb.size, hb.block⟩
theorem repL_below {w w' : World} {l : List Tm} {ao : Option Addr} (h : RepL 0 w l ao) (hb : Below w.heap.size w w') : RepL 0 w' l ao := (Keeps.below hb 0).repL _ _ h

end Go.Proofs.Ytabgfaafpgholaa
namespace Go.Proofs.Ytabgfaafpgholaa
open Go.RowKit
set_option linter.unusedVariables false

/-- Texts and lists in it have at most so many. -/
def StS : Tm → Prop
  | .mk _ _ s l => s.size ≤ 1048576 ∧ l.length ≤ 1048576 ∧ ∀ t, t ∈ l → StS t
theorem sz_sts : ∀ (t : Tm) (a : Int), 0 ≤ a → a ≤ 1048576 → 0 ≤ szT t a → StS t := by
  refine Tm.ind ?_
  intro k n s l ih a ha hm h
  rw [szT] at h
  rw [StS]
  split at h
  · omega
  · split at h
    · omega
    · refine ⟨by omega, by omega, ?_⟩
      have go : ∀ (m : List Tm) (c : Int), (∀ t, t ∈ m → t ∈ l) → 0 ≤ c → c ≤ 1048576 → 0 ≤ szGo m c → ∀ t, t ∈ m → StS t := by
        intro m
        induction m with
        | nil => intro c _ _ _ _ t ht; cases ht
        | cons x r ihr =>
          intro c hsub h0 h1 hz t ht
          rw [szGo] at hz
          have hx := szT_le x c h0
          split at hz
          · omega
          · rcases List.mem_cons.1 ht with rfl | ht
            · exact ih t (hsub t (by simp)) c h0 h1 (by omega)
            · exact ihr (szT x c) (fun y hy => hsub y (by simp [hy])) (by omega) (by omega) hz t ht
      exact go l _ (fun t h => h) (by omega) (by omega) h
/-- What is counted. -/
theorem szGo_nt : ∀ (l : List Tm) (a : Int), 0 ≤ a → 0 ≤ szGo l a → szGo l a + (inL l : Int) ≤ a
  | [], a, h0, h => by rw [szGo, inL]; omega
  | .mk k n s l :: r, a, h0, h => by
    rw [szGo] at h ⊢
    have hx := szT_le (.mk k n s l) a h0
    split at h
    · omega
    · rename_i hq
      rw [if_neg hq]
      have h1 := szGo_nt r (szT (.mk k n s l) a) (by omega) h
      have h2 : szT (.mk k n s l) a + (ntL l : Int) ≤ a := by
        rw [szT] at hq ⊢
        split
        · rename_i h3; rw [if_pos h3] at hq; omega
        · rename_i h3
          rw [if_neg h3] at hq
          split
          · rename_i h4; rw [if_pos h4] at hq; omega
          · rename_i h4
            rw [if_neg h4] at hq
            have h5 := szGo_nt l (a - s.size - l.length) (by omega) (by omega)
            have h6 := ntL_eq l
            omega
      rw [inL]
      omega
theorem szT_nt (k n : Int) (s : ByteArray) (l : List Tm) (a : Int) (h0 : 0 ≤ a) (h : 0 ≤ szT (.mk k n s l) a) : (ntL l : Int) ≤ a := by
  rw [szT] at h
  split at h
  · omega
  · split at h
    · omega
    · have h5 := szGo_nt l (a - s.size - l.length) (by omega) h
      have h6 := ntL_eq l
      omega

structure MadeO (w wr : World) (g : Nat) (l : List Tm) (k : Nat) (bs : List Nat) : Prop where
  below : Below w.heap.size w wr
  lt : g < wr.heap.size
  some : ∀ j, j < l.length * 4 → (wr.cell? ⟨g, j, none⟩).isSome = true
  free : ∀ o, wr.frozen? ⟨g, o, none⟩ = false
  row : OsR wr (l.take k) bs g 0
  nd : (g :: bs).Nodup
  lo : ∀ b ∈ bs, w.heap.size ≤ b
theorem MadeO.call {w wr w1 : World} {g : Nat} {l : List Tm} {k : Nat} {bs : List Nat} (h : MadeO w wr g l k bs) (hb : Below wr.heap.size wr w1) : MadeO w w1 g l k bs where
  below := h.below.trans (hb.mono h.below.size)
  lt := Nat.lt_of_lt_of_le h.lt hb.size
  some := fun j hj => by rw [hb.cell (p := ⟨g, j, none⟩) h.lt]; exact h.some j hj
  free := fun o => by rw [hb.frozen (p := ⟨g, o, none⟩) h.lt]; exact h.free o
  row := OsR.keep _ _ _ _ (fun x _ hx => hb.block x hx) (fun o v _ _ hv => by rw [hb.cell (p := ⟨g, o, none⟩) h.lt]; exact hv) h.row
  nd := h.nd
  lo := h.lo
theorem set4_blk {w : World} {g o x : Nat} {a b c d : Value} (h : x ≠ g) : (set4 w g o a b c d).heap[x]? = w.heap[x]? := by
  unfold set4
  rw [Below.heap_setCell _ ⟨g, o + 3, none⟩ _ x h, Below.heap_setCell _ ⟨g, o + 2, none⟩ _ x h, Below.heap_setCell _ ⟨g, o + 1, none⟩ _ x h, Below.heap_setCell _ ⟨g, o, none⟩ _ x h]
theorem MadeO.store {w wr : World} {g : Nat} {l : List Tm} {k B : Nat} {bs bt : List Nat} (h : MadeO w wr g l k bs) (hg : w.heap.size ≤ g) (hk : k < l.length) {a b c d : Value} (hv : OsV wr bt l[k] (.agg #[a, b, c, d])) (hnt : bt.Nodup) (hB : ∀ x ∈ bt, B ≤ x) (hold : ∀ x ∈ bs, x < B) (hgB : g < B) : MadeO w (set4 wr g (k * 4) a b c d) g l (k + 1) (bs ++ (bt ++ [])) := by
  have hin := set4_in (w := wr) (g := g) (o := k * 4) (a := a) (b := b) (c := c) (d := d) (fun j hj => h.some (k * 4 + j) (by omega))
  have hlen : (l.take k).length = k := by simp; omega
  have hwg : ∀ x ∈ bs, x ≠ g := fun x hx e => (List.nodup_cons.1 h.nd).1 (by rw [← e]; exact hx)
  refine ⟨?_, by rw [set4_size]; exact h.lt, ?_, fun o => by rw [set4_frozen]; exact h.free o, ?_, ?_, fun x hx => ?_⟩
  · exact ((((h.below.setCell (p := ⟨g, k * 4, none⟩) hg _).setCell (p := ⟨g, k * 4 + 1, none⟩) hg _).setCell (p := ⟨g, k * 4 + 2, none⟩) hg _).setCell (p := ⟨g, k * 4 + 3, none⟩) hg _)
  · intro j hj
    by_cases hj1 : j < k * 4 ∨ k * 4 + 3 < j
    · rw [set4_far (p := ⟨g, j, none⟩) (Or.inr hj1)]; exact h.some j hj
    · have : j = k * 4 ∨ j = k * 4 + 1 ∨ j = k * 4 + 2 ∨ j = k * 4 + 3 := by omega
      rcases this with rfl | rfl | rfl | rfl
      · rw [hin.1]; rfl
      · rw [hin.2.1]; rfl
      · rw [hin.2.2.1]; rfl
      · rw [hin.2.2.2]; rfl
  · rw [List.take_succ_eq_append_getElem hk]
    revert hv
    generalize l[k] = t
    intro hv
    obtain ⟨k', n', s', l'⟩ := t
    obtain ⟨ao, cap, e, hs, hl, hc, hr⟩ := hv
    simp only [Value.agg.injEq, Array.mk.injEq, List.cons.injEq, and_true] at e
    obtain ⟨rfl, rfl, rfl, rfl⟩ := e
    refine OsR.join (OsR.keep _ _ _ _ (fun x hx _ => set4_blk (hwg x hx)) (fun o v _ ho hv => ?_) h.row) ?_ (by rw [OsR])
    · rw [hlen] at ho
      rw [set4_far (p := ⟨g, o, none⟩) (Or.inr (by show o < k * 4 ∨ _; omega))]; exact hv
    · rw [hlen, Nat.zero_add, OsT]
      exact ⟨hin.1, hin.2.1, hin.2.2.1, hs, ao, cap, hin.2.2.2, hl, hc, OsL.keep _ _ _ (fun x hx _ => set4_blk (by have := hB x hx; omega)) hr⟩
  · rw [List.append_nil, List.nodup_cons]
    obtain ⟨n1, n2⟩ := List.nodup_cons.1 h.nd
    refine ⟨fun hm => ?_, List.nodup_append.2 ⟨n2, hnt, fun x hx y hy e => ?_⟩⟩
    · rcases List.mem_append.1 hm with h1 | h1
      · exact n1 h1
      · have := hB g h1; omega
    · have h1 := hold x hx
      have h2 := hB y hy
      omega
  · rw [List.append_nil] at hx
    rcases List.mem_append.1 hx with h1 | h1
    · exact h.lo x h1
    · have := hB x h1; omega
def ToOT (t : Tm) : Prop := ∀ (B : Nat) (w : World) (v : Value), RepV B w t v →
  Calls Try.prog 12 #[v] w fun e w' => ∃ v' bs, e = .returned v' ∧ Below w.heap.size w w' ∧ OsV w' bs t v' ∧ bs.Nodup ∧ ∀ b ∈ bs, w.heap.size ≤ b
def ToOS (l : List Tm) : Prop := ∀ (B : Nat) (w : World) (ao : Option Addr) (cap : Nat), RepL B w l ao → l.length ≤ cap → cap ≤ maxLen →
  Calls Try.prog 44 #[.slice ao l.length cap] w fun e w' => ∃ ao' bs, e = .returned (.slice ao' l.length l.length) ∧ Below w.heap.size w w' ∧ OsL w' l bs ao' ∧ bs.Nodup ∧ ∀ b ∈ bs, w.heap.size ≤ b

theorem madeO_start (w : World) (l : List Tm) : MadeO w (w.alloc (.cells (zeros l.length) 39)) w.heap.size l 0 [] := by
  have h := made_start w l
  exact ⟨h.below, h.lt, h.some, h.free, by simp [OsR], by simp, fun b hb => by cases hb⟩

set_option maxHeartbeats 400000 in
theorem toOS_of (l : List Tm) (hsm : l.length ≤ 1048576) (ih : ∀ t, t ∈ l → ToOT t) : ToOS l := by
  intro B w ao cap hr hl hc
  have IH : Hid (∀ t, t ∈ l → ToOT t) := ih
  have HR : Hid (RepL B w l ao) := hr
  have HC : Hid (cap ≤ maxLen) := hc
  clear ih hr hc
  have hmk := run_zeros l.length hsm
  go_enter Try.func44, Try.ntmps44
  go_wp2_with fail
  clear hmk
  go_loopw [4] (fun i w' => ∃ (k : Nat) (bs : List Nat), k ≤ l.length ∧ i = .int .i64 k ∧ MadeO w w' w.heap.size l k bs) (fun i _ => l.length - (intOf i).toNat)
  case atStart => exact ⟨0, [], Nat.zero_le _, rfl, madeO_start w l⟩
  case round =>
    obtain ⟨k, bs, hk, rfl, hm⟩ := hrel
    have HM : Hid (MadeO w wr w.heap.size l k bs) := hm
    clear hm
    by_cases hlt : k < l.length
    · obtain ⟨b, off, rfl, hB, ht⟩ := RepL.at l ao ((Keeps.below HM.out.below B).repL _ _ HR.out) k hlt
      obtain ⟨tk, tn, ts, tao, tlen, tcap, c0, c1, c2, c3, hv⟩ := ht.cells
      have HV : Hid (RepV B wr l[k] (.agg #[.int .i64 tk, .int .i64 tn, .string ts, .slice tao tlen tcap])) := hv
      have HT : Hid (ToOT l[k]) := IH.out _ (List.getElem_mem hlt)
      clear hv ht
      go_wp2_with fail
      refine (HT.out B _ _ HV.out).mono ?_
      rintro e w1 ⟨v', bt, rfl, hb1, hv1, hnt, hlo⟩
      have HM1 : Hid (MadeO w w1 w.heap.size l k bs) := HM.out.call hb1
      obtain ⟨va, vb, vc, vd, ve, vf, rfl⟩ := hv1.form
      have HV1 : Hid (OsV w1 bt l[k] (.agg #[.int .i64 va, .int .i64 vb, .string vc, .slice vd ve vf]) ∧ bt.Nodup ∧ ∀ b ∈ bt, wr.heap.size ≤ b) := ⟨hv1, hnt, hlo⟩
      have HOLD : Hid (∀ x ∈ bs, x < wr.heap.size) := OsR.lt _ _ _ _ HM.out.row
      have hf := HM1.out.free
      obtain ⟨x0, hs0⟩ := Option.isSome_iff_exists.1 (HM1.out.some (k * 4) (by omega))
      obtain ⟨x1, hs1⟩ := Option.isSome_iff_exists.1 (HM1.out.some (k * 4 + 1) (by omega))
      obtain ⟨x2, hs2⟩ := Option.isSome_iff_exists.1 (HM1.out.some (k * 4 + 2) (by omega))
      obtain ⟨x3, hs3⟩ := Option.isSome_iff_exists.1 (HM1.out.some (k * 4 + 3) (by omega))
      clear hb1 hv1 hnt hlo c0 c1 c2 c3
      go_wp2_with fail
      have HM2 := HM1.out.store (Nat.le_refl _) hlt HV1.out.1 HV1.out.2.1 HV1.out.2.2 HOLD.out HM.out.lt
      go_roundw
      case rel => exact ⟨k + 1, _, by omega, by go_num, HM2⟩
      case measure => simp [intOf]; omega
    · go_wp2_with fail
      go_ret
      have hkl : k = l.length := by omega
      subst hkl
      have hm := HM.out
      have hrow := hm.row
      rw [List.take_of_length_le (Nat.le_refl _)] at hrow
      by_cases hnil : l = []
      · subst hnil
        exact ⟨_, [], rfl, hm.below, by rw [OsL], by simp, fun b hb => by cases hb⟩
      · exact ⟨_, w.heap.size :: bs, rfl, hm.below, (OsL.iff hnil).2 ⟨w.heap.size, 0, bs, rfl, rfl, hm.free, hrow⟩, hm.nd, fun b hb => by
          rcases List.mem_cons.1 hb with rfl | hb
          · exact Nat.le_refl _
          · exact hm.lo b hb⟩

set_option maxHeartbeats 400000 in
theorem toOT_of (k n : Int) (s : ByteArray) (l : List Tm) (hsz : s.size ≤ 1048576) (h : ToOS l) : ToOT (.mk k n s l) := by
  intro B w v hv
  obtain ⟨ao, cap, rfl, hs, hl, hc, hr⟩ := hv
  have HS : Hid (ToOS l) := h
  have HR : Hid (RepL B w l ao) := hr
  have HC : Hid (s.size ≤ 1048576 ∧ l.length ≤ cap ∧ cap ≤ maxLen) := ⟨hsz, hl, hc⟩
  clear h hr hs hl hc hsz
  go_enter Try.func12, Try.ntmps12
  go_wp2_with fail
  refine (HS.out B _ _ _ ((Keeps.below ?_ B).repL _ _ HR.out) HC.out.2.1 HC.out.2.2).mono ?_
  · exact (((Below.refl _ _).alloc (Nat.le_refl _) _).alloc (by simp) _).alloc (by simp; omega) _
  rintro e w1 ⟨ao', bs, rfl, hb1, hr1, hnd, hlo⟩
  obtain ⟨hz, q2, q3, f2, f3⟩ := three_new hb1
  have HB1 : Hid (Below w.heap.size w w1) := ((((Below.refl _ _).alloc (Nat.le_refl _) _).alloc (by simp) _).alloc (by simp; omega) _).trans (hb1.mono (by simp; omega))
  have HR1 : Hid (OsL w1 l bs ao' ∧ bs.Nodup ∧ ∀ b ∈ bs, w.heap.size + 3 ≤ b) := ⟨hr1, hnd, fun b hb => by have := hlo b hb; simp at this; omega⟩
  clear hb1 hr1 hnd hlo
  go_wp2_with fail
  refine bodyPost_ret (v := .agg #[.int .i64 k, .int .i64 n, .string s, .slice ao' l.length l.length]) (by simp [results, Try.results12, go_sem, q2]) rfl ⟨_, bs, rfl, ?_, ?_, HR1.out.2.1, fun b hb => by have := HR1.out.2.2 b hb; omega⟩
  · exact ((((HB1.out.setCell (by show w.heap.size ≤ w.heap.size + 1 + 1; omega) _).setCell (by show w.heap.size ≤ w.heap.size + 1; omega) _).setCell (by show w.heap.size ≤ w.heap.size + 1; omega) _).setCell (by show w.heap.size ≤ w.heap.size + 1; omega) _).setCell (by show w.heap.size ≤ w.heap.size + 1; omega) _
  · refine ⟨ao', l.length, rfl, HC.out.1, Nat.le_refl _, Nat.le_trans HC.out.2.1 HC.out.2.2, OsL.keep _ _ _ (fun x hx _ => ?_) HR1.out.1⟩
    have hx3 := HR1.out.2.2 x hx
    rw [Below.heap_setCell _ ⟨w.heap.size + 1, 3, none⟩ _ x (by show x ≠ w.heap.size + 1; omega), Below.heap_setCell _ ⟨w.heap.size + 1, 2, none⟩ _ x (by show x ≠ w.heap.size + 1; omega), Below.heap_setCell _ ⟨w.heap.size + 1, 1, none⟩ _ x (by show x ≠ w.heap.size + 1; omega), Below.heap_setCell _ ⟨w.heap.size + 1, 0, none⟩ _ x (by show x ≠ w.heap.size + 1; omega), Below.heap_setCell _ ⟨w.heap.size + 1 + 1, 3, none⟩ _ x (by show x ≠ w.heap.size + 1 + 1; omega)]
theorem toOT_all : ∀ t, StS t → ToOT t := Tm.ind fun k n s l ih h => by
  rw [StS] at h
  exact toOT_of k n s l h.1 (toOS_of l h.2.1 fun t ht => ih t ht (h.2.2 t ht))
end Go.Proofs.Ytabgfaafpgholaa
