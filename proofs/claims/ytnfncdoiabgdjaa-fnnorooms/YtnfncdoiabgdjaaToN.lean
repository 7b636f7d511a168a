/-
  The program's SameTerm and LessTerm, by its comparison.
-/
import Derived.Test.YtnfncdoiabgdjaaToJ
import Derived.Test.YtnfncdoiabgdjaaToK
namespace Go.Proofs.Ytnfncdoiabgdjaa
open Go.RowKit
set_option linter.unusedVariables false

def bnd : Nat → Nat
  | 0 => 1
  | d + 1 => 1 + 3 * bnd d
theorem cntL_le {c : Nat} : ∀ l : List Tm, (∀ t, t ∈ l → cntT t ≤ c) → cntL l ≤ l.length * c
  | [], _ => by rw [cntL]; omega
  | t :: r, h => by
    have h1 := h t (List.mem_cons_self ..)
    have h2 := cntL_le r (fun x hx => h x (List.mem_cons_of_mem _ hx))
    rw [cntL, List.length_cons, Nat.add_mul]; omega
theorem cnt_bnd : ∀ (d : Nat) (t : Tm), RtT d t → cntT t ≤ bnd d
  | 0, .mk k n s l, h => by
    have h2 := h.2
    rw [DpT] at h2
    subst h2
    rw [cntT, cntL]; exact Nat.le_refl _
  | d + 1, .mk k n s l, h => by
    have h1 := h.1
    have h2 := h.2
    rw [DpT] at h2
    rw [WfT] at h1
    have h3 := cntL_le (c := bnd d) l (fun t ht => cnt_bnd d t ⟨h1.2.2 t ht, h2 t ht⟩)
    have h4 : l.length * bnd d ≤ 3 * bnd d := Nat.mul_le_mul_right _ h1.2.1
    rw [cntT, bnd]; omega
theorem cnt_6 {d : Nat} (hd : d ≤ 6) {t : Tm} (h : RtT d t) : cntT t ≤ 1000000000 := by
  have h1 := cnt_bnd d t h
  have h2 : bnd d ≤ 100000 := by
    have : d = 0 ∨ d = 1 ∨ d = 2 ∨ d = 3 ∨ d = 4 ∨ d = 5 ∨ d = 6 := by omega
    rcases this with rfl | rfl | rfl | rfl | rfl | rfl | rfl <;> decide
  omega

set_option maxHeartbeats 4000000 in
theorem sameI_of (k n : Int) (s : ByteArray) (l : List Tm) (ax : Option Addr) (cx : Nat) (k' n' : Int) (s' : ByteArray) (l' : List Tm) (ay : Option Addr) (cy : Nat) (w : World)
    (hv : RepV 0 w (.mk k n s l) (.agg #[.int .i64 k, .int .i64 n, .string s, .slice ax l.length cx])) (hv' : RepV 0 w (.mk k' n' s' l') (.agg #[.int .i64 k', .int .i64 n', .string s', .slice ay l'.length cy]))
    (hp : HpT w (.mk k n s l) ax (.mk k' n' s' l') ay) (hcnt : cntT (.mk k n s l) ≤ 1000000000) (q : Bool) (hq : q = true ↔ cmpT (.mk k n s l) (.mk k' n' s' l') = 0) :
    Calls Try.prog 18 #[.agg #[.int .i64 k, .int .i64 n, .string s, .slice ax l.length cx], .agg #[.int .i64 k', .int .i64 n', .string s', .slice ay l'.length cy]] w fun e w' => e = .returned (.bool q) ∧ Below w.heap.size w w' := by
  have HB2 : Hid (∀ a b, Below w.heap.size w ((w.alloc a).alloc b)) := fun a b => ((Below.refl _ _).alloc (Nat.le_refl _) _).alloc (by simp) _
  obtain ⟨C, hC⟩ : ∃ C, C = cmpT (.mk k n s l) (.mk k' n' s' l') := ⟨_, rfl⟩
  have HT : Hid (∀ W, Below w.heap.size w W → Calls Try.prog 30 #[.agg #[.int .i64 k, .int .i64 n, .string s, .slice ax l.length cx], .agg #[.int .i64 k', .int .i64 n', .string s', .slice ay l'.length cy]] W fun e w' => e = .returned (.int .i64 C) ∧ Below w.heap.size w w') := fun W hb => by
    rw [hC]
    refine (termOrder_any k n s l ax cx k' n' s' l' ay cy W ((Keeps.below hb 0).repV hv) ((Keeps.below hb 0).repV hv') ?_ hcnt).mono fun e w' h => ⟨h.1, hb.trans (h.2.mono hb.size)⟩
    obtain ⟨_, _, e1, _, _, _, r1⟩ := hv
    obtain ⟨_, _, e2, _, _, _, r2⟩ := hv'
    cases e1
    cases e2
    exact HpT.below hb _ _ _ _ (fun k1 n1 s1 l1 k2 n2 s2 l2 e3 e4 => by cases e3; cases e4; exact ⟨r1, r2⟩) hp
  have e1 : (C == 0) = q := by
    rw [← hC] at hq
    cases q
    · rw [beq_eq_false_iff_ne]; exact fun h => absurd (hq.2 h) (by decide)
    · rw [beq_iff_eq]; exact hq.1 rfl
  clear hv hv' hp hcnt hq hC
  go_enter Try.func18, Try.ntmps18
  go_wp2_with (go_at_call 30; refine (HT.out _ ?_).mono ?_; exact HB2.out _ _; rintro e w1 ⟨rfl, hb1⟩)
  go_ret
  exact ⟨rfl, hb1⟩
theorem sameI_nf {t t' : Tm} {S S' : Nat → Prop} {w : World} {v v' : Value} (hS : ∀ b, S b → Nf w b) (hS' : ∀ b, S' b → Nf w b) (h : RpV S w t v) (h' : RpV S' w t' v') (hc : cntT t ≤ 1000000000) (q : Bool) (hq : q = true ↔ cmpT t t' = 0) :
    Calls Try.prog 18 #[v, v'] w fun e w' => e = .returned (.bool q) ∧ Below w.heap.size w w' := by
  obtain ⟨k, n, s, l⟩ := t
  obtain ⟨k', n', s', l'⟩ := t'
  have g := h.rep
  have g' := h'.rep
  obtain ⟨ax, cx, rfl, _, _, _, r1⟩ := h
  obtain ⟨ay, cy, rfl, _, _, _, r2⟩ := h'
  exact sameI_of k n s l ax cx k' n' s' l' ay cy w g g' (hpT_nf hS hS' _ _ _ _ (fun k1 n1 s1 l1 k2 n2 s2 l2 e3 e4 => by cases e3; cases e4; exact ⟨r1, r2⟩)) hc q hq
theorem nf_below {t : Tm} {w w' : World} {v : Value} (h : RpV (Nf w) w t v) (hb : Below w.heap.size w w') : RpV (Nf w') w' t v :=
  Moves.repV (fun b o v hq hc => ⟨hq.blk (hb.block b (World.block_lt_of_cell? w _ hc)), by rw [hb.cell (p := ⟨b, o, none⟩) (World.block_lt_of_cell? w _ hc)]; exact hc⟩) h
end Go.Proofs.Ytnfncdoiabgdjaa
