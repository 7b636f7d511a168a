/-
  What leads to what, as reckoning: the specification's way down from the roots and the program's list of all that is met ask the same.
  What the specification's l6Links answers.
  The program's small words on what a word leads to: leads, ageOf, thingAt, bare, parts.
-/
import Derived.Test.YthdoamdjhpkimaaRdG
import Derived.Test.YthdoamdjhpkimaaSlC
import Derived.Deep.RegionLaw
import Derived.Deep.CutRange
namespace Go.Proofs.Ythdoamdjhpkimaa.Gn
open Go.RowKit
set_option linter.unusedVariables false

def leadsW (x : Int) : Bool := decide (4 ≤ tagW x)
/-- The words of the terms within what x leads to. -/
def prts (H : Hp) (x : Int) : List Int := if tagW x = 5 then [H.w (valW x).toNat 0, H.w (valW x).toNat 1] else if tagW x = 4 then wordsAt H (valW x).toNat 1 (H.w (valW x).toNat 0).toNat else []
/-- What x leads to is there. -/
def Fits (H : Hp) (x : Int) : Prop := (tagW x = 5 ∧ 2 ≤ H.len (valW x).toNat) ∨ (tagW x = 4 ∧ ∃ n, cnt H (valW x) 8 = some n) ∨ (tagW x = 6 ∧ ∃ n, cnt H (valW x) 40 = some n)
/-- All that x leads to is there, within so many steps. -/
def FinW (H : Hp) : Nat → Int → Prop
  | 0, x => 0 ≤ x ∧ leadsW x = false
  | n + 1, x => 0 ≤ x ∧ (leadsW x = true → Fits H x ∧ ∀ y ∈ prts H x, FinW H n y)
theorem FinW.nn {H : Hp} {n : Nat} {x : Int} (h : FinW H n x) : 0 ≤ x := by
  cases n with
  | zero => exact h.1
  | succ n => exact h.1
theorem FinW.leaf {H : Hp} {n : Nat} {x : Int} (h0 : 0 ≤ x) (h : leadsW x = false) : FinW H n x := by
  cases n with
  | zero => exact ⟨h0, h⟩
  | succ n => exact ⟨h0, fun h2 => (by rw [h] at h2; cases h2)⟩
theorem FinW.up {H : Hp} : ∀ {n m : Nat} {x : Int}, FinW H n x → n ≤ m → FinW H m x
  | 0, m, x, h, _ => FinW.leaf h.1 h.2
  | n + 1, 0, x, h, hm => absurd hm (by omega)
  | n + 1, m + 1, x, h, hm => ⟨h.1, fun hl => ⟨(h.2 hl).1, fun y hy => FinW.up ((h.2 hl).2 y hy) (by omega)⟩⟩
theorem leads_no {x : Int} (h : ¬ 4 ≤ tagW x) : leadsW x = false := by simp [leadsW]; omega
theorem tag_nn {x : Int} (h : tagW x ≠ 0) : 0 ≤ x := by
  unfold tagW at h
  split at h
  · exact absurd rfl h
  · omega
theorem isW_nn {x : Int} (h : isW x = true) : 0 ≤ x := by
  unfold isW mkw at h
  simp only [decide_eq_true_eq] at h
  split at h
  · rename_i hc
    rw [Bool.and_eq_true] at hc
    have h1 := inB_yes hc.1
    have h2 := inB_yes hc.2
    omega
  · omega
theorem fin_list {H : Hp} {g : Rd} {m : Nat} (hg : ∀ w left t x, g w left = some (t, x) → FinW H m w) : ∀ (l : List Tm) (w : Int) (left x : Nat), LR H g l w left x → FinW H (m + l.length) w
  | [], w, left, x, h => by
    rw [LR] at h
    rw [h.1]
    exact FinW.leaf (by decide) (by decide)
  | t :: r, w, left, x, h => by
    rw [LR] at h
    obtain ⟨_, hc, y, h1, h2⟩ := h
    have i2 := fin_list hg r _ _ _ h2
    have i1 := hg _ _ _ _ h1
    show FinW H (m + r.length + 1) w
    refine ⟨tag_nn (by have := hc.1; omega), fun _ => ?_⟩
    refine ⟨.inl hc, fun z hz => ?_⟩
    rw [prts, if_pos hc.1] at hz
    simp only [List.mem_cons, List.not_mem_nil, or_false] at hz
    rcases hz with rfl | rfl
    · exact i1.up (by omega)
    · exact i2
theorem fin_tup {H : Hp} {g : Rd} {m : Nat} {u : Nat → Int} (hg : ∀ w left t x, g w left = some (t, x) → FinW H m w) : ∀ (l : List Tm) (p left x : Nat), TR u g l p left x → ∀ j, j < l.length → FinW H m (u (p + j))
  | [], p, left, x, h, j, hj => absurd hj (Nat.not_lt_zero _)
  | t :: r, p, left, x, h, j, hj => by
    rw [TR] at h
    obtain ⟨y, h1, h2⟩ := h
    cases j with
    | zero => exact hg _ _ _ _ h1
    | succ j =>
      have := fin_tup hg r (p + 1) y x h2 j (by simpa using hj)
      rw [show p + (j + 1) = p + 1 + j by omega]
      exact this
def capG (g : Rd) : Rd := fun w left => if left ≤ 100 then g w left else none
theorem TR_cap {u : Nat → Int} {g : Rd} (hl : ∀ w left t x, g w left = some (t, x) → x < left) : ∀ (l : List Tm) (p left x : Nat), left ≤ 100 → TR u g l p left x → TR u (capG g) l p left x
  | [], p, left, x, _, h => by rw [TR] at h ⊢; exact h
  | t :: r, p, left, x, h0, h => by
    rw [TR] at h ⊢
    obtain ⟨y, h1, h2⟩ := h
    have := hl _ _ _ _ h1
    exact ⟨y, by unfold capG; rw [if_pos h0]; exact h1, TR_cap hl r (p + 1) y x (by omega) h2⟩
theorem LR_cap {H : Hp} {g : Rd} (hl : ∀ w left t x, g w left = some (t, x) → x < left) : ∀ (l : List Tm) (w : Int) (left x : Nat), left ≤ 100 → LR H g l w left x → LR H (capG g) l w left x
  | [], w, left, x, _, h => by rw [LR] at h ⊢; exact h
  | t :: r, w, left, x, h0, h => by
    rw [LR] at h ⊢
    obtain ⟨h3, hc, y, h1, h2⟩ := h
    have := hl _ _ _ _ h1
    exact ⟨h3, hc, y, by unfold capG; rw [if_pos h0]; exact h1, LR_cap hl r _ y x (by omega) h2⟩
theorem fin_read {H : Hp} : ∀ (d : Nat) (w : Int) (left : Nat) (t : Tm) (x : Nat), left ≤ 100 → rT true H d w left = some (t, x) → FinW H (102 * d) w
  | 0, w, left, t, x, _, h => by rw [rT] at h; cases h
  | d + 1, w, left, t, x, hle, h => by
    rw [rT] at h
    by_cases hc : (if true = true then isW w else decide (0 ≤ w)) = true ∧ 0 < left
    · rw [if_pos hc] at h
      have ih : ∀ w' left' t' x', capG (rT true H d) w' left' = some (t', x') → FinW H (102 * d) w' := fun w' left' t' x' h' => by
        unfold capG at h'
        split at h'
        · rename_i hl
          exact fin_read d w' left' t' x' hl h'
        · cases h'
      cases hr : raw true H (rT true H d) w (left - 1) with
      | none => rw [hr] at h; simp [held] at h
      | some r =>
        obtain ⟨t1, x1⟩ := r
        clear h
        by_cases h4 : 4 ≤ tagW w
        case neg => exact FinW.leaf (isW_nn hc.1) (leads_no h4)
        case pos =>
          have hm : 102 * (d + 1) = (102 * d + 101) + 1 := by omega
          rw [hm]
          refine ⟨isW_nn hc.1, fun _ => ?_⟩
          unfold raw at hr
          rw [if_neg (by omega), if_neg (by omega), if_neg (by omega)] at hr
          by_cases h44 : tagW w = 4
          · rw [if_pos h44] at hr
            unfold rCnt at hr
            cases hcn : cnt H (valW w) 8 with
            | none => rw [hcn] at hr; cases hr
            | some n =>
              refine ⟨.inr (.inl ⟨h44, n, hcn⟩), fun y hy => ?_⟩
              rw [hcn] at hr
              dsimp only at hr
              cases hts : rTs (H.w (valW w).toNat) (rT true H d) n 1 (left - 1) with
              | none => rw [hts] at hr; simp [tup] at hr
              | some lr =>
                obtain ⟨l, x2⟩ := lr
                obtain ⟨e1, e2⟩ := (rTs_iff _ _ _ _ _ _ _).1 hts
                have e3 : TR (H.w (valW w).toNat) (capG (rT true H d)) l 1 (left - 1) x2 := TR_cap (rT_lt true H d) l 1 (left - 1) x2 (by omega) e2
                rw [prts, if_neg (by omega), if_pos h44] at hy
                unfold wordsAt at hy
                obtain ⟨j, hj, rfl⟩ := List.mem_map.1 hy
                have hn : (H.w (valW w).toNat 0).toNat = n := by
                  unfold cnt at hcn
                  split at hcn
                  · injection hcn
                  · cases hcn
                rw [hn, List.mem_range] at hj
                exact (fin_tup ih l 1 _ _ e3 j (by omega)).up (by omega)
          · rw [if_neg h44] at hr
            by_cases h6 : tagW w = 6
            · rw [if_pos h6] at hr
              unfold rBin at hr
              cases hcn : cnt H (valW w) 40 with
              | none => rw [hcn] at hr; cases hr
              | some n =>
                refine ⟨.inr (.inr ⟨h6, n, hcn⟩), fun y hy => ?_⟩
                rw [prts, if_neg (by omega), if_neg (by omega)] at hy
                cases hy
            · rw [if_neg h6] at hr
              by_cases h7 : tagW w = 7
              · rw [if_pos h7] at hr; cases hr
              · rw [if_neg h7] at hr
                have h5 : tagW w = 5 := by have := (tagW_ge w).2; omega
                simp only [if_true] at hr
                cases hl : rL H (rT true H d) (left - 1) w (left - 1) with
                | none => rw [hl] at hr; simp [tup] at hr
                | some lr =>
                  obtain ⟨l, x2⟩ := lr
                  obtain ⟨e1, e2⟩ := (rL_iff _ _ _ _ _ _ _).1 hl
                  have e3 : LR H (capG (rT true H d)) l w (left - 1) x2 := LR_cap (rT_lt true H d) l w (left - 1) x2 (by omega) e2
                  have e4 := fin_list ih l w _ _ e3
                  have e5 : FinW H (102 * d + 101 + 1) w := e4.up (by omega)
                  exact e5.2 (by simp [leadsW]; omega)
    · rw [if_neg hc] at h; cases h
/-- From x on one comes to y. -/
inductive Rch (H : Hp) : Int → Int → Prop
  | refl (x : Int) : Rch H x x
  | step {x y z : Int} (hl : leadsW x = true) (hy : y ∈ prts H x) (h : Rch H y z) : Rch H x z
theorem Rch.snoc {H : Hp} {x y z : Int} (h : Rch H x y) : leadsW y = true → z ∈ prts H y → Rch H x z := by
  induction h with
  | refl x => exact fun hl hz => .step hl hz (.refl _)
  | step hl hy _ ih => exact fun hl2 hz => .step hl hy (ih hl2 hz)
def agW (mark : Int) (x : Int) : Nat := if valW x < 100000 then 0 else if valW x - 100000 < mark then 1 else 2
def Eok (H : Hp) (mark : Int) (x : Int) : Prop := ∀ y ∈ prts H x, leadsW y = true → agW mark y ≤ agW mark x
def limW (mark : Int) (a : Nat) : Int := if a = 0 then 100000 else if a = 1 then 100000 + mark else 200000
def nxtW (mark : Int) (x fr : Int) : Int := if valW x < 100000 then 100000 else if valW x < 100000 + mark ∧ 100000 + mark < fr then 100000 + mark else fr
/-- What the specification asks on its way down. -/
def lkB (H : Hp) (mark : Int) : Nat → Int → Int → Bool
  | 0, _, _ => true
  | n + 1, x, fr => if leadsW x = false then true else if fr ≤ valW x then false else (prts H x).all (fun y => lkB H mark n y (nxtW mark x fr))
theorem lk_iff {H : Hp} {mark : Int} (h0 : 0 ≤ mark) (h1 : mark ≤ 1000) (hf : ∀ p, H.len p ≠ 0 → p < 200000) : ∀ (n : Nat) (x : Int) (a : Nat), FinW H n x → a ≤ 2 →
    (lkB H mark n x (limW mark a) = true ↔ (leadsW x = true → agW mark x ≤ a) ∧ ∀ y, Rch H x y → leadsW y = true → Eok H mark y)
  | 0, x, a, hF, ha => by
    have hl : leadsW x = false := hF.2
    rw [lkB]
    refine ⟨fun _ => ⟨fun h => (by rw [hl] at h; cases h), fun y hr hy => ?_⟩, fun _ => rfl⟩
    cases hr with
    | refl => rw [hl] at hy; cases hy
    | step h _ _ => rw [hl] at h; cases h
  | n + 1, x, a, hF, ha => by
    rw [lkB]
    cases hl : leadsW x with
    | false =>
      rw [if_pos rfl]
      refine ⟨fun _ => ⟨fun h => (by cases h), fun y hr hy => ?_⟩, fun _ => rfl⟩
      cases hr with
      | refl => rw [hl] at hy; cases hy
      | step h _ _ => rw [hl] at h; cases h
    | true =>
      rw [if_neg (by simp)]
      obtain ⟨hft, hin⟩ := hF.2 hl
      have hv : valW x < 200000 := by
        have hv0 := valW_ge x
        have : H.len (valW x).toNat ≠ 0 := by
          rcases hft with ⟨_, h⟩ | ⟨_, k, h⟩ | ⟨_, k, h⟩
          · omega
          · unfold cnt at h
            split at h
            · omega
            · cases h
          · unfold cnt at h
            split at h
            · omega
            · cases h
        have := hf _ this
        omega
      have hag : agW mark x ≤ 2 := by unfold agW; repeat (first | omega | split)
      by_cases hfr : limW mark a ≤ valW x
      · rw [if_pos hfr]
        refine ⟨fun h => (by cases h), fun h => ?_⟩
        exfalso
        have := h.1 rfl
        unfold limW at hfr
        unfold agW at this
        split at hfr <;> split at this <;> first | omega | (split at hfr <;> split at this <;> omega) | (split at this <;> omega) | (split at hfr <;> omega)
      · rw [if_neg hfr]
        have hle : agW mark x ≤ a := by
          unfold limW at hfr
          unfold agW
          split at hfr <;> split <;> first | omega | (split at hfr <;> split <;> omega) | (split <;> omega) | (split at hfr <;> omega)
        have hnx : nxtW mark x (limW mark a) = limW mark (agW mark x) := by
          have h3 : a = 0 ∨ a = 1 ∨ a = 2 := by omega
          unfold nxtW agW
          by_cases hv1 : valW x < 100000
          · rw [if_pos hv1, if_pos hv1]; rfl
          · rw [if_neg hv1, if_neg hv1]
            by_cases hv2 : valW x - 100000 < mark
            · rw [if_pos hv2]
              have e1 : limW mark 1 = 100000 + mark := rfl
              rcases h3 with rfl | rfl | rfl
              · have e0 : limW mark 0 = 100000 := rfl
                rw [e0] at hfr
                omega
              · rw [e1, if_neg (by omega)]
              · have e2 : limW mark 2 = 200000 := rfl
                rw [e1, e2, if_pos (by omega)]
            · rw [if_neg hv2]
              have e2 : limW mark 2 = 200000 := rfl
              rcases h3 with rfl | rfl | rfl
              · have e0 : limW mark 0 = 100000 := rfl
                rw [e0] at hfr
                omega
              · have e1 : limW mark 1 = 100000 + mark := rfl
                rw [e1] at hfr
                omega
              · rw [if_neg (by omega)]
        rw [hnx, List.all_eq_true]
        constructor
        · intro h
          have hall : ∀ y ∈ prts H x, (leadsW y = true → agW mark y ≤ agW mark x) ∧ ∀ z, Rch H y z → leadsW z = true → Eok H mark z := fun y hy => (lk_iff h0 h1 hf n y _ (hin y hy) hag).1 (h y hy)
          refine ⟨fun _ => hle, fun y hr hy => ?_⟩
          cases hr with
          | refl => exact fun z hz => (hall z hz).1
          | step _ hz hr => exact (hall _ hz).2 y hr hy
        · rintro ⟨_, h⟩ y hy
          exact (lk_iff h0 h1 hf n y _ (hin y hy) hag).2 ⟨h x (.refl x) hl y hy, fun z hr hz => h z (.step hl hy hr) hz⟩
/-- All that the program met. -/
structure Met (H : Hp) (R T : List Int) : Prop where
  roots : ∀ x ∈ R, leadsW x = true → x ∈ T
  shut : ∀ y ∈ T, ∀ z ∈ prts H y, leadsW z = true → z ∈ T
  from' : ∀ y ∈ T, leadsW y = true ∧ ∃ x ∈ R, Rch H x y
theorem Met.iff {H : Hp} {R T : List Int} (m : Met H R T) (mark : Int) : (∀ y ∈ T, Eok H mark y) ↔ ∀ x ∈ R, ∀ y, Rch H x y → leadsW y = true → Eok H mark y := by
  constructor
  · intro h x hx y hr hy
    have key : ∀ a b, Rch H a b → (leadsW a = true → a ∈ T) → leadsW b = true → b ∈ T := fun a b hr => by
      induction hr with
      | refl x => exact fun h1 h2 => h1 h2
      | step hl hy _ ih => exact fun h1 h2 => ih (fun h3 => m.shut _ (h1 hl) _ hy h3) h2
    exact h y (key x y hr (m.roots x hx) hy)
  · intro h y hy
    obtain ⟨hl, x, hx, hr⟩ := m.from' y hy
    exact h x hx y hr hl
end Go.Proofs.Ythdoamdjhpkimaa.Gn

namespace Go.Proofs.Ythdoamdjhpkimaa.Gn
open Go.RowKit
set_option linter.unusedVariables false

theorem ret_bool6 {x y : Bool} (h : x = y) : Ending.returned (.bool x) = .returned (.bool y) := by rw [h]
theorem sz_leaf {G : GE} {x : Int} (h : leadsW x = false) : sz G x = 0 := by
  have h4 : ¬ 4 ≤ tagW x := by simpa [leadsW] using h
  unfold sz
  rw [if_neg (by omega), if_neg (by omega)]
theorem lk_leaf {H : Hp} {mark : Int} {n : Nat} {x fr : Int} (h : leadsW x = false) : lkB H mark n x fr = true := by
  cases n with
  | zero => rfl
  | succ n => rw [lkB, if_pos h]
/-- How many words stand where x leads, which of them are parts, and that they are there. -/
structure Kin (G : GE) (x : Int) (p K f0 : Nat) : Prop where
  val : valW x = p
  sz : sz G x = K
  len : K ≤ G.len p
  le : f0 ≤ K
  k1 : 1 ≤ K
  k9 : K ≤ 41
  tag : (tagW x = 5 ∧ f0 = 0) ∨ (tagW x = 4 ∧ f0 = 1) ∨ (tagW x = 6 ∧ f0 = 1)
  prt : tagW x ≠ 6 → prts G.H x = (List.range (K - f0)).map (fun j => G.w p (f0 + j))
  prb : tagW x = 6 → prts G.H x = []
  cw : tagW x ≠ 5 → G.w p 0 = (K : Int) - 1
theorem kin_of {G : GE} {x : Int} (h : Fits G.H x) : ∃ p K f0, Kin G x p K f0 := by
  have hv := valW_ge x
  have e : valW x = ((valW x).toNat : Int) := by omega
  have one : ∀ {m : Int} {n : Nat}, m ≤ 40 → cnt G.H (valW x) m = some n → sz G x = cn G (valW x).toNat → cn G (valW x).toNat = (n : Int) + 1 ∧ n + 1 ≤ G.len (valW x).toNat ∧ (n : Int) ≤ m ∧ (G.H.w (valW x).toNat 0).toNat = n ∧ G.H.w (valW x).toNat 0 = n := fun {m n} hm hc hs => by
    have hc2 : cnt G.H ((valW x).toNat : Int) m = some n := by rw [← e]; exact hc
    obtain ⟨k1, k2, k3⟩ := cn_some (by omega) hc2
    unfold cnt at hc
    split at hc
    · rename_i hcc
      injection hc with hc
      exact ⟨k1, k2, k3, hc, by omega⟩
    · cases hc
  rcases h with ⟨h5, hl⟩ | ⟨h4, n, hc⟩ | ⟨h6, n, hc⟩
  · refine ⟨(valW x).toNat, 2, 0, e, by unfold sz; rw [if_pos h5]; rfl, hl, by omega, by omega, by omega, .inl ⟨h5, rfl⟩, fun _ => ?_, fun h => (by omega), fun h => absurd h5 h⟩
    rw [prts, if_pos h5]
    rfl
  · have hs : sz G x = cn G (valW x).toNat := by unfold sz; rw [if_neg (by omega), if_pos (.inl h4)]
    obtain ⟨k1, k2, k3, k4, k5⟩ := one (by omega) hc hs
    refine ⟨(valW x).toNat, n + 1, 1, e, by rw [hs, k1]; rfl, k2, by omega, by omega, by omega, .inr (.inl ⟨h4, rfl⟩), fun _ => ?_, fun h => (by omega), fun _ => (by have : G.w (valW x).toNat 0 = n := k5; omega)⟩
    rw [prts, if_neg (by omega), if_pos h4, wordsAt, k4]
    rfl
  · have hs : sz G x = cn G (valW x).toNat := by unfold sz; rw [if_neg (by omega), if_pos (.inr h6)]
    obtain ⟨k1, k2, k3, k4, k5⟩ := one (by omega) hc hs
    refine ⟨(valW x).toNat, n + 1, 1, e, by rw [hs, k1]; rfl, k2, by omega, by omega, by omega, .inr (.inr ⟨h6, rfl⟩), fun h => absurd h6 h, fun _ => ?_, fun _ => (by have : G.w (valW x).toNat 0 = n := k5; omega)⟩
    rw [prts, if_neg (by omega), if_neg (by omega)]
theorem keep3a {w w' W : World} {x y z : Value} (hc : ∀ o, w.cell? ⟨W.heap.size, o, none⟩ = (#[x, y, z] : Array Value)[o]?) (h : Below w.heap.size w w') : ∀ o, w'.cell? ⟨W.heap.size, o, none⟩ = (#[x, y, z] : Array Value)[o]? := fun o => by
  have h0 : w.cell? ⟨W.heap.size, 0, none⟩ = some x := hc 0
  rw [h.cell (p := ⟨W.heap.size, o, none⟩) (by have := World.block_lt_of_cell? _ _ h0; exact this)]; exact hc o
theorem keep3b {w w' W : World} {x y z : Value} (hc : ∀ o, w.cell? ⟨W.heap.size, o, none⟩ = (#[x, y, z] : Array Value)[o]?) (h : Below w.drew.heap.size w.drew w') : ∀ o, w'.cell? ⟨W.heap.size, o, none⟩ = (#[x, y, z] : Array Value)[o]? := keep3a hc ⟨h.os, h.tape, h.output, h.size, h.block⟩
def LkT (G : GE) (n : Nat) : Prop := ∀ (x fr : Int) (w : World), FinW G.H n x → x ≤ 9223372036854775807 → GSrc G w →
  Calls Try.prog 59 #[G.v, .int .i64 x, .int .i64 fr] w fun e w' => e = .returned (.bool (lkB G.H G.mark n x fr)) ∧ Below w.heap.size w w'
set_option maxHeartbeats 8000000 in
set_option maxRecDepth 100000 in
theorem lkT_of (G : GE) (hm0 : 0 ≤ G.mark) (hm1 : G.mark ≤ 1000) (n : Nat) (ih : ∀ m, n = m + 1 → LkT G m) : LkT G n := by
  intro x fr w hF hx hs
  have HS1 : Hid (GSrc G (w.alloc (.cells #[.slice G.wv G.N G.cap, .slice G.yv G.M G.ycap, .int .i64 G.mark] 57))) := hs.below ((Below.refl _ _).alloc (Nat.le_refl _) _)
  have HB1 : Hid (Below w.heap.size w (w.alloc (.cells #[.slice G.wv G.N G.cap, .slice G.yv G.M G.ycap, .int .i64 G.mark] 57))) := (Below.refl _ _).alloc (Nat.le_refl _) _
  have HX : Hid (x ≤ 9223372036854775807) := hx
  have q1 : ∀ o, (w.alloc (.cells #[.slice G.wv G.N G.cap, .slice G.yv G.M G.ycap, .int .i64 G.mark] 57)).cell? ⟨w.heap.size, o, none⟩ = (#[.slice G.wv G.N G.cap, .slice G.yv G.M G.ycap, .int .i64 G.mark] : Array Value)[o]? := fun o => World.cell?_alloc_new w _ _ o
  have HQ1 : Hid (∀ o, (w.alloc (.cells #[.slice G.wv G.N G.cap, .slice G.yv G.M G.ycap, .int .i64 G.mark] 57)).cell? ⟨w.heap.size, o, none⟩ = (#[.slice G.wv G.N G.cap, .slice G.yv G.M G.ycap, .int .i64 G.mark] : Array Value)[o]?) := q1
  clear q1 hs hx
  have HSZ : Hid (∀ w', GSrc G w' → Calls Try.prog 84 #[.agg #[.slice G.wv G.N G.cap, .slice G.yv G.M G.ycap, .int .i64 G.mark], .int .i64 x] w' fun e w'' => e = .returned (.int .i64 (sz G x)) ∧ Below w'.heap.size w' w'') := fun w' h => l6Size_any h x HX.out
  unfold GE.v
  cases hl : leadsW x with
  | false =>
    have HE : Hid (sz G x = 0) := sz_leaf hl
    have HL : Hid (lkB G.H G.mark n x fr = true) := lk_leaf hl
    clear hl hF ih
    go_enter Try.func59, Try.ntmps59
    go_wp2_with (go_at_call 84; refine (HSZ.out _ HS1.out).mono ?_; rintro e w2 ⟨rfl, hb2⟩; rw [HE.out]; have HB2 : Hid (Below w.heap.size w w2) := HB1.out.trans (hb2.mono HB1.out.size); clear hb2)
    go_ret
    exact ⟨ret_bool6 HL.out.symm, HB2.out⟩
  | true =>
    cases n with
    | zero =>
      have : leadsW x = false := hF.2
      rw [hl] at this
      cases this
    | succ n =>
      obtain ⟨hft, hin⟩ := hF.2 hl
      obtain ⟨p, K, f0, hk⟩ := kin_of hft
      have IH : Hid (LkT G n) := ih n rfl
      have HK : Hid (Kin G x p K f0) := hk
      have HIN : Hid (∀ y ∈ prts G.H x, FinW G.H n y) := hin
      have HLK : Hid (lkB G.H G.mark (n + 1) x fr = if fr ≤ valW x then false else (prts G.H x).all (fun y => lkB G.H G.mark n y (nxtW G.mark x fr))) := by
        show _ = _
        rw [lkB, if_neg (by rw [hl]; simp)]
      have hK0 : ¬ (K : Int) = 0 := by have := hk.k1; omega
      have hK1 : ((K : Int) == 0) = false := by simp; omega
      have HSZK : Hid (sz G x = K) := hk.sz
      obtain ⟨V, hV⟩ : ∃ V : Int, V = (p : Int) := ⟨_, rfl⟩
      have HVP : Hid (V = (p : Int)) := hV
      have HVAL : Hid (valW x = V) := by show _ = _; rw [hk.val, hV]
      have hmk : IntKind.i64.wrap (100000 + G.mark) = 100000 + G.mark := by rw [IntKind.wrap_i64]; omega
      have HNX : Hid (nxtW G.mark x fr = if V < 100000 then 100000 else if V < 100000 + G.mark ∧ 100000 + G.mark < fr then 100000 + G.mark else fr) := by show _ = _; unfold nxtW; rw [HVAL.out]
      rw [HVAL.out] at HLK
      clear hF hft hin ih hk hl hV
      obtain ⟨w1, hw1⟩ : ∃ w1, w1 = w.alloc (.cells #[.slice G.wv G.N G.cap, .slice G.yv G.M G.ycap, .int .i64 G.mark] 57) := ⟨_, rfl⟩
      go_enter Try.func59, Try.ntmps59
      go_wp2_with fail
      rw [← hw1] at HS1 HB1 HQ1 ⊢
      refine (HSZ.out _ HS1.out).mono ?_
      rintro e w2 ⟨rfl, hb2⟩
      rw [HSZK.out]
      have hq0 : w1.cell? ⟨w.heap.size, 0, none⟩ = some (.slice G.wv G.N G.cap) := HQ1.out 0
      have HS2 : Hid (GSrc G w2) := HS1.out.below hb2
      have HB2 : Hid (Below w.heap.size w w2) := HB1.out.trans (hb2.mono HB1.out.size)
      have q2 : ∀ o, w2.cell? ⟨w.heap.size, o, none⟩ = (#[.slice G.wv G.N G.cap, .slice G.yv G.M G.ycap, .int .i64 G.mark] : Array Value)[o]? := fun o => by rw [hb2.cell (p := ⟨w.heap.size, o, none⟩) (by have := World.block_lt_of_cell? _ _ hq0; exact this)]; exact HQ1.out o
      clear hb2 hq0 HS1 HB1 HQ1 hw1 HSZ HSZK
      by_cases hfr : fr ≤ V
      · have HE : Hid (lkB G.H G.mark (n + 1) x fr = false) := by show _ = _; rw [HLK.out, if_pos hfr]
        go_wp2_with (go_at_call 80; refine (specVal_any x HX.out _).mono ?_; rintro e w' ⟨rfl, hw'⟩; obtain rfl := hw'.symm; rw [HVAL.out])
        go_ret
        exact ⟨ret_bool6 HE.out.symm, HB2.out⟩
      · have HE : Hid (lkB G.H G.mark (n + 1) x fr = (prts G.H x).all (fun y => lkB G.H G.mark n y (nxtW G.mark x fr))) := by show _ = _; rw [HLK.out, if_neg hfr]
        obtain ⟨fr', hfr'⟩ : ∃ fr', nxtW G.mark x fr = fr' := ⟨_, rfl⟩
        rw [hfr'] at HE HNX
        clear hfr' HLK
        go_upto_if 24 with (go_at_call 80; refine (specVal_any x HX.out _).mono ?_; rintro e w' ⟨rfl, hw'⟩; obtain rfl := hw'.symm; rw [HVAL.out])
        go_cut [2] from 23 to 39 (fun v2 wx => v2 = .int .i64 fr' ∧ wx = w2)
        case first =>
          by_cases h1 : V < 100000
          · have HF : Hid (fr' = 100000) := by show _ = _; rw [HNX.out, if_pos h1]
            go_wp2_with fail
            go_meet
            case rel => exact ⟨by rw [HF.out], rfl⟩
          · by_cases h2 : V < 100000 + G.mark
            · by_cases h3 : 100000 + G.mark < fr
              · have HF : Hid (fr' = 100000 + G.mark) := by show _ = _; rw [HNX.out, if_neg h1, if_pos ⟨h2, h3⟩]
                go_wp2_with fail
                go_meet
                case rel => exact ⟨by rw [HF.out], rfl⟩
              · have HF : Hid (fr' = fr) := by show _ = _; rw [HNX.out, if_neg h1, if_neg (fun h => h3 h.2)]
                go_wp2_with fail
                go_meet
                case rel => exact ⟨by rw [HF.out], rfl⟩
            · have HF : Hid (fr' = fr) := by show _ = _; rw [HNX.out, if_neg h1, if_neg (fun h => h2 h.1)]
              go_wp2_with fail
              go_meet
              case rel => exact ⟨by rw [HF.out], rfl⟩
        case rest =>
          obtain ⟨rfl, hwc⟩ := hcut
          obtain rfl := hwc.symm
          have HWD : Hid (Calls Try.prog 85 #[.agg #[.slice G.wv G.N G.cap, .slice G.yv G.M G.ycap, .int .i64 G.mark], .int .i64 V, .int .i64 K] w2 fun e w' => ∃ c, e = .returned (.tuple #[.slice (some ⟨G.sb p, G.so p, none⟩) K c, .bool true]) ∧ Below w2.heap.size w2 w') := by
            rw [HVP.out]
            exact l6Words_yes HS2.out p K HK.out.len (by have := HK.out.k1; omega)
          go_wp2_with fail
          refine HWD.out.mono ?_
          rintro e w4 ⟨c, rfl, hb4⟩
          have HS4 : Hid (GSrc G w4) := HS2.out.below hb4
          have HB4 : Hid (Below w.heap.size w w4) := HB2.out.trans (hb4.mono HB2.out.size)
          have q4 := keep3a q2 hb4
          have HQ4 : Hid (∀ o, w4.cell? ⟨w.heap.size, o, none⟩ = (#[.slice G.wv G.N G.cap, .slice G.yv G.M G.ycap, .int .i64 G.mark] : Array Value)[o]?) := q4
          clear hb4 q2 HS2 HB2 HWD hK0 hK1 hfr hmk
          rcases HK.out.tag with ⟨ht, hfz⟩ | ⟨ht, hfz⟩ | ⟨ht, hfz⟩
          · have HT : Hid (tagW x = 5) := ht
            have HFR : Hid (∀ j, f0 + j < K → FinW G.H n (G.w p (f0 + j))) := fun j hj => by
              refine HIN.out _ ?_
              rw [HK.out.prt (by omega)]
              exact List.mem_map.2 ⟨j, List.mem_range.2 (by omega), rfl⟩
            have HALL : Hid ((∀ j, f0 + j < K → lkB G.H G.mark n (G.w p (f0 + j)) fr' = true) → (prts G.H x).all (fun y => lkB G.H G.mark n y fr') = true) := fun h => by
              rw [HK.out.prt (by omega), List.all_eq_true]
              intro y hy
              obtain ⟨j, hj, rfl⟩ := List.mem_map.1 hy
              rw [List.mem_range] at hj
              exact h j (by omega)
            have HONE : Hid (∀ j, f0 + j < K → lkB G.H G.mark n (G.w p (f0 + j)) fr' = false → (prts G.H x).all (fun y => lkB G.H G.mark n y fr') = false) := fun j hj h => by
              rw [HK.out.prt (by omega), List.all_eq_false]
              exact ⟨_, List.mem_map.2 ⟨j, List.mem_range.2 (by omega), rfl⟩, by rw [h]; simp⟩
            have hf0 : f0 ≤ 1 := by omega
            have hKle : K ≤ 41 := HK.out.k9
            have HKL : Hid (K ≤ G.len p) := HK.out.len
            have HFK : Hid (f0 ≤ K) := HK.out.le
            have HF0 : Hid (f0 = 0) := hfz
            subst hfz
            go_wp2_with (go_at_call 77; refine (specTag_any x _).mono ?_; rintro e w' ⟨rfl, hw'⟩; obtain rfl := hw'.symm; rw [HT.out])
            go_loopw [12] (fun i wr => ∃ k : Nat, i = .int .i64 ((0 + k : Nat) : Int) ∧ 0 + k ≤ K ∧ GSrc G wr ∧ Below w.heap.size w wr ∧ (∀ o, wr.cell? ⟨w.heap.size, o, none⟩ = (#[.slice G.wv G.N G.cap, .slice G.yv G.M G.ycap, .int .i64 G.mark] : Array Value)[o]?) ∧ ∀ j, j < k → lkB G.H G.mark n (G.w p (0 + j)) fr' = true) (fun i _ => K - (intOf i).toNat)
            case atStart => exact ⟨0, rfl, HFK.out, HS4.out, HB4.out, q4, fun j hj => absurd hj (Nat.not_lt_zero _)⟩
            case round =>
              obtain ⟨k, rfl, hkK, hsr, hbr, qr, hall⟩ := hrel
              have HSR : Hid (GSrc G wr) := hsr
              have HBR : Hid (Below w.heap.size w wr) := hbr
              have HAL : Hid (∀ j, j < k → lkB G.H G.mark n (G.w p (0 + j)) fr' = true) := hall
              have HQR : Hid (∀ o, wr.cell? ⟨w.heap.size, o, none⟩ = (#[.slice G.wv G.N G.cap, .slice G.yv G.M G.ycap, .int .i64 G.mark] : Array Value)[o]?) := qr
              obtain ⟨I, hI⟩ : ∃ I : Nat, 0 + k = I := ⟨_, rfl⟩
              have HI : Hid (0 + k = I) := hI
              rw [hI] at hkK ⊢
              clear hsr hbr hall hI
              by_cases hlt : I < K
              · have hlti : (I : Int) < (K : Int) := by omega
                have hcell := HSR.out.at p I (by have := HKL.out; omega)
                have hbig := GE.bigw HSR.out p I
                have hfin : FinW G.H n (G.w p I) := by have := HFR.out k (by have := HI.out; omega); rw [HI.out] at this; exact this
                have HLT : Hid (I < K) := hlt
                obtain ⟨y, hy⟩ : ∃ y, G.w p I = y := ⟨_, rfl⟩
                have HY : Hid (G.w p I = y) := hy
                rw [hy] at hcell hbig hfin
                have HCL : Hid (∀ w', GSrc G w' → Calls Try.prog 59 #[.agg #[.slice G.wv G.N G.cap, .slice G.yv G.M G.ycap, .int .i64 G.mark], .int .i64 y, .int .i64 fr'] w' fun e w'' => e = .returned (.bool (lkB G.H G.mark n y fr')) ∧ Below w'.heap.size w' w'') := fun w' h => IH.out y fr' w' hfin hbig h
                obtain ⟨b, hb⟩ : ∃ b, lkB G.H G.mark n y fr' = b := ⟨_, rfl⟩
                rw [hb] at HCL
                have HBB : Hid (lkB G.H G.mark n (G.w p I) fr' = b) := by show _ = _; rw [HY.out]; exact hb
                clear hy hb hbig hfin
                cases b with
                | true =>
                  go_wp2_with (go_at_call 77; refine (specTag_any x _).mono ?_; rintro e w' ⟨rfl, hw'⟩; obtain rfl := hw'.symm; rw [HT.out])
                  go_region_law (go_simp; go_wp2_with (go_at_call 59; refine (HCL.out _ HSR.out.drew).mono ?_; rintro e w5 ⟨rfl, hb5⟩; have H5 : Hid (GSrc G w5 ∧ Below w.heap.size w w5) := ⟨HSR.out.drew.below hb5, HBR.out.drew.trans (hb5.mono HBR.out.drew.size)⟩; have q5 := keep3b HQR.out hb5; clear hb5))
                  all_goals
                    have V1 : IntKind.i64.wrap ((I : Int) + 1) = ((I + 1 : Nat) : Int) := by rw [IntKind.wrap_i64]; omega
                    go_wp2_with fail
                    go_roundw
                    case rel => exact ⟨k + 1, by have := HI.out; congr 1; omega, by have := HI.out; have := HLT.out; omega, H5.out.1, H5.out.2, q5, fun j hj => by
                      by_cases hjk : j < k
                      · exact HAL.out j hjk
                      · have : j = k := by omega
                        subst this
                        rw [HI.out]
                        exact HBB.out⟩
                    case measure => simp [intOf]; have := HLT.out; omega
                | false =>
                  have HEF : Hid (lkB G.H G.mark (n + 1) x fr = false) := by show _ = _; rw [HE.out]; exact HONE.out k (by have := HI.out; omega) (by rw [HI.out]; exact HBB.out)
                  go_wp2_with (go_at_call 77; refine (specTag_any x _).mono ?_; rintro e w' ⟨rfl, hw'⟩; obtain rfl := hw'.symm; rw [HT.out])
                  go_region_law (go_simp; go_wp2_with (go_at_call 59; refine (HCL.out _ HSR.out.drew).mono ?_; rintro e w5 ⟨rfl, hb5⟩; have H5 : Hid (Below w.heap.size w w5) := HBR.out.drew.trans (hb5.mono HBR.out.drew.size); clear hb5))
                  all_goals
                    go_wp2_with fail
                    go_ret
                    exact ⟨ret_bool6 HEF.out.symm, H5.out⟩
              · have hlti : ¬ (I : Int) < (K : Int) := by omega
                have HET : Hid (lkB G.H G.mark (n + 1) x fr = true) := by show _ = _; rw [HE.out]; exact HALL.out (fun j hj => HAL.out j (by have := HI.out; omega))
                go_wp2_with fail
                go_ret
                exact ⟨ret_bool6 HET.out.symm, HBR.out⟩
          · have HT : Hid (tagW x = 4) := ht
            have HFR : Hid (∀ j, f0 + j < K → FinW G.H n (G.w p (f0 + j))) := fun j hj => by
              refine HIN.out _ ?_
              rw [HK.out.prt (by omega)]
              exact List.mem_map.2 ⟨j, List.mem_range.2 (by omega), rfl⟩
            have HALL : Hid ((∀ j, f0 + j < K → lkB G.H G.mark n (G.w p (f0 + j)) fr' = true) → (prts G.H x).all (fun y => lkB G.H G.mark n y fr') = true) := fun h => by
              rw [HK.out.prt (by omega), List.all_eq_true]
              intro y hy
              obtain ⟨j, hj, rfl⟩ := List.mem_map.1 hy
              rw [List.mem_range] at hj
              exact h j (by omega)
            have HONE : Hid (∀ j, f0 + j < K → lkB G.H G.mark n (G.w p (f0 + j)) fr' = false → (prts G.H x).all (fun y => lkB G.H G.mark n y fr') = false) := fun j hj h => by
              rw [HK.out.prt (by omega), List.all_eq_false]
              exact ⟨_, List.mem_map.2 ⟨j, List.mem_range.2 (by omega), rfl⟩, by rw [h]; simp⟩
            have hf0 : f0 ≤ 1 := by omega
            have hKle : K ≤ 41 := HK.out.k9
            have HKL : Hid (K ≤ G.len p) := HK.out.len
            have HFK : Hid (f0 ≤ K) := HK.out.le
            have HF0 : Hid (f0 = 1) := hfz
            subst hfz
            go_wp2_with (go_at_call 77; refine (specTag_any x _).mono ?_; rintro e w' ⟨rfl, hw'⟩; obtain rfl := hw'.symm; rw [HT.out])
            go_loopw [12] (fun i wr => ∃ k : Nat, i = .int .i64 ((1 + k : Nat) : Int) ∧ 1 + k ≤ K ∧ GSrc G wr ∧ Below w.heap.size w wr ∧ (∀ o, wr.cell? ⟨w.heap.size, o, none⟩ = (#[.slice G.wv G.N G.cap, .slice G.yv G.M G.ycap, .int .i64 G.mark] : Array Value)[o]?) ∧ ∀ j, j < k → lkB G.H G.mark n (G.w p (1 + j)) fr' = true) (fun i _ => K - (intOf i).toNat)
            case atStart => exact ⟨0, rfl, HFK.out, HS4.out, HB4.out, q4, fun j hj => absurd hj (Nat.not_lt_zero _)⟩
            case round =>
              obtain ⟨k, rfl, hkK, hsr, hbr, qr, hall⟩ := hrel
              have HSR : Hid (GSrc G wr) := hsr
              have HBR : Hid (Below w.heap.size w wr) := hbr
              have HAL : Hid (∀ j, j < k → lkB G.H G.mark n (G.w p (1 + j)) fr' = true) := hall
              have HQR : Hid (∀ o, wr.cell? ⟨w.heap.size, o, none⟩ = (#[.slice G.wv G.N G.cap, .slice G.yv G.M G.ycap, .int .i64 G.mark] : Array Value)[o]?) := qr
              obtain ⟨I, hI⟩ : ∃ I : Nat, 1 + k = I := ⟨_, rfl⟩
              have HI : Hid (1 + k = I) := hI
              rw [hI] at hkK ⊢
              clear hsr hbr hall hI
              by_cases hlt : I < K
              · have hlti : (I : Int) < (K : Int) := by omega
                have hcell := HSR.out.at p I (by have := HKL.out; omega)
                have hbig := GE.bigw HSR.out p I
                have hfin : FinW G.H n (G.w p I) := by have := HFR.out k (by have := HI.out; omega); rw [HI.out] at this; exact this
                have HLT : Hid (I < K) := hlt
                obtain ⟨y, hy⟩ : ∃ y, G.w p I = y := ⟨_, rfl⟩
                have HY : Hid (G.w p I = y) := hy
                rw [hy] at hcell hbig hfin
                have HCL : Hid (∀ w', GSrc G w' → Calls Try.prog 59 #[.agg #[.slice G.wv G.N G.cap, .slice G.yv G.M G.ycap, .int .i64 G.mark], .int .i64 y, .int .i64 fr'] w' fun e w'' => e = .returned (.bool (lkB G.H G.mark n y fr')) ∧ Below w'.heap.size w' w'') := fun w' h => IH.out y fr' w' hfin hbig h
                obtain ⟨b, hb⟩ : ∃ b, lkB G.H G.mark n y fr' = b := ⟨_, rfl⟩
                rw [hb] at HCL
                have HBB : Hid (lkB G.H G.mark n (G.w p I) fr' = b) := by show _ = _; rw [HY.out]; exact hb
                clear hy hb hbig hfin
                cases b with
                | true =>
                  go_wp2_with (go_at_call 77; refine (specTag_any x _).mono ?_; rintro e w' ⟨rfl, hw'⟩; obtain rfl := hw'.symm; rw [HT.out])
                  go_region_law (go_simp; go_wp2_with (go_at_call 59; refine (HCL.out _ HSR.out.drew).mono ?_; rintro e w5 ⟨rfl, hb5⟩; have H5 : Hid (GSrc G w5 ∧ Below w.heap.size w w5) := ⟨HSR.out.drew.below hb5, HBR.out.drew.trans (hb5.mono HBR.out.drew.size)⟩; have q5 := keep3b HQR.out hb5; clear hb5))
                  all_goals
                    have V1 : IntKind.i64.wrap ((I : Int) + 1) = ((I + 1 : Nat) : Int) := by rw [IntKind.wrap_i64]; omega
                    go_wp2_with fail
                    go_roundw
                    case rel => exact ⟨k + 1, by have := HI.out; congr 1; omega, by have := HI.out; have := HLT.out; omega, H5.out.1, H5.out.2, q5, fun j hj => by
                      by_cases hjk : j < k
                      · exact HAL.out j hjk
                      · have : j = k := by omega
                        subst this
                        rw [HI.out]
                        exact HBB.out⟩
                    case measure => simp [intOf]; have := HLT.out; omega
                | false =>
                  have HEF : Hid (lkB G.H G.mark (n + 1) x fr = false) := by show _ = _; rw [HE.out]; exact HONE.out k (by have := HI.out; omega) (by rw [HI.out]; exact HBB.out)
                  go_wp2_with (go_at_call 77; refine (specTag_any x _).mono ?_; rintro e w' ⟨rfl, hw'⟩; obtain rfl := hw'.symm; rw [HT.out])
                  go_region_law (go_simp; go_wp2_with (go_at_call 59; refine (HCL.out _ HSR.out.drew).mono ?_; rintro e w5 ⟨rfl, hb5⟩; have H5 : Hid (Below w.heap.size w w5) := HBR.out.drew.trans (hb5.mono HBR.out.drew.size); clear hb5))
                  all_goals
                    go_wp2_with fail
                    go_ret
                    exact ⟨ret_bool6 HEF.out.symm, H5.out⟩
              · have hlti : ¬ (I : Int) < (K : Int) := by omega
                have HET : Hid (lkB G.H G.mark (n + 1) x fr = true) := by show _ = _; rw [HE.out]; exact HALL.out (fun j hj => HAL.out j (by have := HI.out; omega))
                go_wp2_with fail
                go_ret
                exact ⟨ret_bool6 HET.out.symm, HBR.out⟩
          · have HT : Hid (tagW x = 6) := ht
            have HET : Hid (lkB G.H G.mark (n + 1) x fr = true) := by show _ = _; rw [HE.out, HK.out.prb ht]; rfl
            have hK1 : 1 ≤ K := HK.out.k1
            clear ht
            go_wp2_with (go_at_call 77; refine (specTag_any x _).mono ?_; rintro e w' ⟨rfl, hw'⟩; obtain rfl := hw'.symm; rw [HT.out])
            go_loopw [12] (fun i wr => i = .int .i64 1 ∧ wr = w4) (fun _ _ => 0)
            case atStart => exact ⟨rfl, rfl⟩
            case round =>
              obtain ⟨rfl, rfl⟩ := hrel
              by_cases hlt : (1 : Int) < (K : Int)
              · go_wp2_with (go_at_call 77; refine (specTag_any x _).mono ?_; rintro e w' ⟨rfl, hw'⟩; obtain rfl := hw'.symm; rw [HT.out])
                go_ret
                exact ⟨ret_bool6 HET.out.symm, HB4.out⟩
              · go_wp2_with fail
                go_ret
                exact ⟨ret_bool6 HET.out.symm, HB4.out⟩
theorem lkT_all (G : GE) (hm0 : 0 ≤ G.mark) (hm1 : G.mark ≤ 1000) : ∀ n, LkT G n
  | 0 => lkT_of G hm0 hm1 0 (fun m e => by omega)
  | n + 1 => lkT_of G hm0 hm1 (n + 1) (fun m e => by
      have : m = n := by omega
      subst this
      exact lkT_all G hm0 hm1 m)
end Go.Proofs.Ythdoamdjhpkimaa.Gn

namespace Go.Proofs.Ythdoamdjhpkimaa.Gn
open Go.RowKit
set_option linter.unusedVariables false

theorem implLeads_any (x : Int) (hx : x ≤ 9223372036854775807) (w : World) : Calls Try.prog 88 #[.int .i64 x] w fun e w' => e = .returned (.bool (leadsW x)) ∧ w' = w := by
  have HX : Hid (x ≤ 9223372036854775807) := hx
  clear hx
  go_enter Try.func88, Try.ntmps88
  go_wp2_with (go_at_call 105; refine (implTag_any x HX.out _).mono ?_; rintro e w' ⟨rfl, rfl⟩)
  go_ret
  exact ⟨ret_bool6 (by simp [leadsW]), rfl⟩
set_option maxRecDepth 100000 in
theorem implAge_any (G : GE) (x : Int) (hx : x ≤ 9223372036854775807) (w : World) : Calls Try.prog 89 #[.agg #[.slice G.wv G.N G.cap, .slice G.yv G.M G.ycap, .int .i64 G.mark], .int .i64 x] w fun e w' => e = .returned (.int .i64 (agW G.mark x : Nat)) ∧ Below w.heap.size w w' := by
  have HX : Hid (x ≤ 9223372036854775807) := hx
  have hv := valW_ge x
  have hv1 : valW x ≤ 9223372036854775000 := by unfold valW; split <;> omega
  have HB1 : Hid (∀ o, Below w.heap.size w (w.alloc o)) := fun o => (Below.refl _ _).alloc (Nat.le_refl _) o
  obtain ⟨v, hvv⟩ : ∃ v, valW x = v := ⟨_, rfl⟩
  have HV : Hid (valW x = v) := hvv
  have HA : Hid (agW G.mark x = if v < 100000 then 0 else if v - 100000 < G.mark then 1 else 2) := by show _ = _; unfold agW; rw [hvv]
  rw [hvv] at hv hv1
  clear hx hvv
  have V1 : IntKind.i64.wrap (v - 100000) = v - 100000 := by rw [IntKind.wrap_i64]; omega
  by_cases h1 : v < 100000
  · have HE : Hid (agW G.mark x = 0) := by show _ = _; rw [HA.out, if_pos h1]
    go_enter Try.func89, Try.ntmps89
    go_wp2_with (go_at_call 106; refine (implVal_any x HX.out _).mono ?_; rintro e w' ⟨rfl, rfl⟩; rw [HV.out])
    go_ret
    exact ⟨by rw [HE.out]; rfl, HB1.out _⟩
  · by_cases h2 : v - 100000 < G.mark
    · have HE : Hid (agW G.mark x = 1) := by show _ = _; rw [HA.out, if_neg h1, if_pos h2]
      go_enter Try.func89, Try.ntmps89
      go_wp2_with (go_at_call 106; refine (implVal_any x HX.out _).mono ?_; rintro e w' ⟨rfl, rfl⟩; rw [HV.out])
      go_ret
      exact ⟨by rw [HE.out]; rfl, HB1.out _⟩
    · have HE : Hid (agW G.mark x = 2) := by show _ = _; rw [HA.out, if_neg h1, if_neg h2]
      go_enter Try.func89, Try.ntmps89
      go_wp2_with (go_at_call 106; refine (implVal_any x HX.out _).mono ?_; rintro e w' ⟨rfl, rfl⟩; rw [HV.out])
      go_ret
      exact ⟨by rw [HE.out]; rfl, HB1.out _⟩
set_option maxRecDepth 100000 in
theorem bare_any (x : Int) (a : Option Addr) (K c : Nat) (hx : x ≤ 9223372036854775807) (w : World) : Calls Try.prog 104 #[.agg #[.int .i64 x, .slice a K c]] w fun e w' => e = .returned (.int .i64 (if tagW x = 4 then 1 else if tagW x = 5 then 0 else (K : Int))) ∧ Below w.heap.size w w' := by
  have HX : Hid (x ≤ 9223372036854775807) := hx
  have HB1 : Hid (∀ o, Below w.heap.size w (w.alloc o)) := fun o => (Below.refl _ _).alloc (Nat.le_refl _) o
  clear hx
  obtain ⟨t, ht⟩ : ∃ t, tagW x = t := ⟨_, rfl⟩
  have HT : Hid (tagW x = t) := ht
  rw [ht]
  clear ht
  by_cases h4 : t = 4
  · subst h4
    go_enter Try.func104, Try.ntmps104
    go_wp2_with (go_at_call 105; refine (implTag_any x HX.out _).mono ?_; rintro e w' ⟨rfl, rfl⟩; rw [HT.out])
    go_ret
    exact ⟨rfl, HB1.out _⟩
  · by_cases h5 : t = 5
    · subst h5
      go_enter Try.func104, Try.ntmps104
      go_wp2_with (go_at_call 105; refine (implTag_any x HX.out _).mono ?_; rintro e w' ⟨rfl, rfl⟩; rw [HT.out])
      go_ret
      exact ⟨rfl, HB1.out _⟩
    · have k4 : (t == 4) = false := by simpa using h4
      have k5 : (t == 5) = false := by simpa using h5
      go_enter Try.func104, Try.ntmps104
      go_wp2_with (go_at_call 105; refine (implTag_any x HX.out _).mono ?_; rintro e w' ⟨rfl, rfl⟩; rw [HT.out])
      go_ret
      exact ⟨rfl, HB1.out _⟩
theorem two_set0 {w3 : World} {X : Nat} {u0 u1 : Value} (r3 : ∀ o, w3.cell? ⟨X, o, none⟩ = (#[u0, u1] : Array Value)[o]?) {a b : Value} : ((w3.setCell ⟨X, 0, none⟩ a).setCell ⟨X, 1, none⟩ b).cell? ⟨X, 0, none⟩ = some a := by
  rw [World.cell?_setCell_other (h := fun q => by simp at q)]
  exact World.cell?_setCell_same _ _ _ (r3 0)
theorem two_set1 {w3 : World} {X : Nat} {u0 u1 : Value} (r3 : ∀ o, w3.cell? ⟨X, o, none⟩ = (#[u0, u1] : Array Value)[o]?) {a b : Value} : ((w3.setCell ⟨X, 0, none⟩ a).setCell ⟨X, 1, none⟩ b).cell? ⟨X, 1, none⟩ = some b := by
  have h1 : (w3.setCell ⟨X, 0, none⟩ a).cell? ⟨X, 1, none⟩ = some u1 := by
    rw [World.cell?_setCell_other (h := fun q => by simp at q)]
    exact r3 1
  exact World.cell?_setCell_same _ _ _ h1
theorem keep2n {wr w5 : World} {a b : Value} {t : TypeId} (hb : Below (wr.alloc (.cells #[a, b] t)).drew.heap.size (wr.alloc (.cells #[a, b] t)).drew w5) : ∀ o, w5.cell? ⟨wr.heap.size, o, none⟩ = (#[a, b] : Array Value)[o]? := fun o => by
  have hs : (wr.alloc (.cells #[a, b] t)).drew.heap.size = wr.heap.size + 1 := World.size_alloc _ _
  rw [hb.cell (p := ⟨wr.heap.size, o, none⟩) (by show wr.heap.size < _; omega)]
  exact World.cell?_alloc_new wr _ _ o
theorem ret_agg {x : Int} {a : Option Addr} {n n' c : Nat} (h : n = n') : Ending.returned (.agg #[.int .i64 x, .slice a n c]) = .returned (.agg #[.int .i64 x, .slice a n' c]) := by rw [h]
set_option maxHeartbeats 4000000 in
set_option maxRecDepth 100000 in
theorem thing_any {G : GE} {x : Int} {p K f0 : Nat} (hk : Kin G x p K f0) (hx : x ≤ 9223372036854775807) (w : World) (hs : GSrc G w) :
    Calls Try.prog 91 #[.agg #[.slice G.wv G.N G.cap, .slice G.yv G.M G.ycap, .int .i64 G.mark], .int .i64 x] w fun e w' => ∃ c, e = .returned (.agg #[.int .i64 x, .slice (some ⟨G.sb p, G.so p, none⟩) K c]) ∧ K ≤ c ∧ Below w.heap.size w w' := by
  have HX : Hid (x ≤ 9223372036854775807) := hx
  have HK : Hid (Kin G x p K f0) := hk
  have HS : Hid (GSrc G w) := hs
  have hN := hs.n
  have hM := hs.m
  have hlen := hk.len
  have hK1 := hk.k1
  have hp4 : p ≤ 4000001 := by unfold GE.len at hlen; split at hlen <;> omega
  have HP : Hid (p ≤ 4000001) := hp4
  obtain ⟨V, hV⟩ : ∃ V : Int, V = (p : Int) := ⟨_, rfl⟩
  have HVP : Hid (V = (p : Int)) := hV
  have HVAL : Hid (valW x = V) := by show _ = _; rw [hk.val, hV]
  obtain ⟨L, hL⟩ : ∃ L, G.len p = L := ⟨_, rfl⟩
  have HLL : Hid (K ≤ L ∧ L ≤ 1048576) := by
    refine ⟨by omega, ?_⟩
    rw [← hL]; unfold GE.len; split <;> omega
  have HGT : Hid (∀ (gb : Nat) (w' : World), (∀ o, w'.cell? ⟨gb, o, none⟩ = (#[.slice G.wv G.N G.cap, .slice G.yv G.M G.ycap, .int .i64 G.mark] : Array Value)[o]?) → Calls Try.prog 83 #[.int .i64 V, .pointer (some ⟨gb, 0, none⟩)] w' fun e w'' => ∃ c, e = .returned (.slice (some ⟨G.sb p, G.so p, none⟩) L c) ∧ L ≤ c ∧ w'' = w') := fun gb w' hq => by
    rw [HVP.out]
    refine (gensTells G.wv G.b G.o G.N G.cap G.yv G.yb G.yo G.M G.ycap p gb HS.out.ol HS.out.yl HS.out.n HS.out.m HP.out w' (hq 0) (hq 1)).mono ?_
    rintro e w'' ⟨a, c, rfl, ha, hc, rfl⟩
    have e1 : (if p < 100000 then G.N - p else G.M - (p - 100000)) = L := hL
    rw [e1] at ha hc ⊢
    rw [ha (by have := HLL.out; omega)]
    exact ⟨c, rfl, hc, rfl⟩
  have hbw : Below w.heap.size w ((w.alloc (.cells #[.slice G.wv G.N G.cap, .slice G.yv G.M G.ycap, .int .i64 G.mark] 57)).alloc (.cells #[.int .i64 0, .slice none 0 0] 112)) := ((Below.refl _ _).alloc (Nat.le_refl _) _).alloc (by rw [World.size_alloc]; omega) _
  have HBW : Hid (Below w.heap.size w ((w.alloc (.cells #[.slice G.wv G.N G.cap, .slice G.yv G.M G.ycap, .int .i64 G.mark] 57)).alloc (.cells #[.int .i64 0, .slice none 0 0] 112))) := hbw
  clear hx hk hs hN hM hlen hK1 hp4 hV hL hbw
  go_enter Try.func91, Try.ntmps91
  go_wp2_with fail
  generalize hW2 : (w.alloc (.cells #[.slice G.wv G.N G.cap, .slice G.yv G.M G.ycap, .int .i64 G.mark] 57)).alloc (.cells #[.int .i64 0, .slice none 0 0] 112) = W2
  have hz2 : W2.heap.size = w.heap.size + 1 + 1 := by rw [← hW2]; simp
  have r2 : ∀ o, W2.cell? ⟨w.heap.size + 1, o, none⟩ = (#[.int .i64 0, .slice none 0 0] : Array Value)[o]? := fun o => by
    rw [← hW2]
    have h := World.cell?_alloc_new (w.alloc (.cells #[.slice G.wv G.N G.cap, .slice G.yv G.M G.ycap, .int .i64 G.mark] 57)) #[.int .i64 0, .slice none 0 0] 112 o
    rw [World.size_alloc] at h
    exact h
  have f2 : ∀ o, W2.frozen? ⟨w.heap.size + 1, o, none⟩ = false := fun o => by
    rw [← hW2]
    have h := World.frozen?_alloc_new (w.alloc (.cells #[.slice G.wv G.N G.cap, .slice G.yv G.M G.ycap, .int .i64 G.mark] 57)) #[.int .i64 0, .slice none 0 0] 112 o
    rw [World.size_alloc] at h
    exact h
  rw [hW2] at HBW
  clear hW2
  refine (gensFrom_any _ _ _ _ _ _ _ _).mono ?_
  rintro e w3 ⟨rfl, hw3⟩
  have q3 : ∀ o, w3.cell? ⟨W2.heap.size, o, none⟩ = (#[.slice G.wv G.N G.cap, .slice G.yv G.M G.ycap, .int .i64 G.mark] : Array Value)[o]? := fun o => by rw [hw3]; exact World.cell?_alloc_new W2 _ _ o
  have r3 : ∀ o, w3.cell? ⟨w.heap.size + 1, o, none⟩ = (#[.int .i64 0, .slice none 0 0] : Array Value)[o]? := fun o => by rw [hw3, World.cell?_alloc_lt (h := by show w.heap.size + 1 < _; omega)]; exact r2 o
  have f3 : ∀ o, w3.frozen? ⟨w.heap.size + 1, o, none⟩ = false := fun o => by rw [hw3, World.frozen?_alloc_old (h := by show w.heap.size + 1 ≠ _; omega)]; exact f2 o
  have hb3 : Below w.heap.size w w3 := by rw [hw3]; exact HBW.out.alloc HBW.out.size _
  have HB3 : Hid (Below w.heap.size w w3) := hb3
  have HQ3 : Hid (∀ o, w3.cell? ⟨W2.heap.size, o, none⟩ = (#[.slice G.wv G.N G.cap, .slice G.yv G.M G.ycap, .int .i64 G.mark] : Array Value)[o]?) := q3
  have HS3 : Hid (GSrc G w3) := HS.out.below hb3
  clear hw3 r2 f2 hb3 HBW hz2 q3
  go_wp2_with (first
    | (go_at_call 106; refine (implVal_any x HX.out _).mono ?_; rintro e w' ⟨rfl, hw'⟩; obtain rfl := hw'.symm; rw [HVAL.out])
    | (go_at_call 83; refine (HGT.out _ _ HQ3.out).mono ?_; rintro e w' ⟨c, rfl, hc, hw'⟩; obtain rfl := hw'.symm; have HC : Hid (L ≤ c) := hc; clear hc)
    | fail)
  rcases HK.out.tag with ⟨ht, _⟩ | ⟨ht, _⟩ | ⟨ht, _⟩
  · have hK2 : K = 2 := by
      have h1 := HK.out.sz
      unfold sz at h1
      rw [if_pos ht] at h1
      omega
    have HT : Hid (tagW x = 5) := ht
    have hkc : 2 ≤ c := by have := HLL.out; have := HC.out; omega
    have hkci : (2 : Int) ≤ (c : Int) := by omega
    have HKC : Hid (2 ≤ c) := hkc
    subst hK2
    clear ht
    go_wp2_with (go_at_call 105; refine (implTag_any x HX.out _).mono ?_; rintro e w' ⟨rfl, hw'⟩; obtain rfl := hw'.symm; rw [HT.out])
    have hfin : ∃ c', Ending.returned (.agg #[.int .i64 x, .slice (some ⟨G.sb p, G.so p, none⟩) 2 c]) = .returned (.agg #[.int .i64 x, .slice (some ⟨G.sb p, G.so p, none⟩) 2 c']) ∧ 2 ≤ c' ∧ Below w.heap.size w ((w3.setCell ⟨w.heap.size + 1, 0, none⟩ (.int .i64 x)).setCell ⟨w.heap.size + 1, 1, none⟩ (.slice (some ⟨G.sb p, G.so p, none⟩) 2 c)) := ⟨c, rfl, HKC.out, (HB3.out.setCell (p := ⟨w.heap.size + 1, 0, none⟩) (by show _ ≤ w.heap.size + 1; omega) _).setCell (p := ⟨w.heap.size + 1, 1, none⟩) (by show _ ≤ w.heap.size + 1; omega) _⟩
    exact bodyPost_ret (v := .agg #[.int .i64 x, .slice (some ⟨G.sb p, G.so p, none⟩) 2 c]) (by simp [results, Try.results91, go_sem, two_set0 r3, two_set1 r3]) rfl hfin
  · have hcell := HS3.out.at p 0 (by have := HK.out.len; have := HK.out.k1; omega)
    rw [HK.out.cw (by rw [ht]; decide), Nat.add_zero] at hcell
    have HT : Hid (tagW x = 4) := ht
    have hK41 := HK.out.k9
    have hK1 := HK.out.k1
    have V1 : IntKind.i64.wrap (1 + ((K : Int) - 1)) = (K : Int) := by rw [IntKind.wrap_i64]; omega
    have hkc : K ≤ c := by have := HLL.out; have := HC.out; omega
    have hkci : (K : Int) ≤ (c : Int) := by omega
    have hL0 : (0 : Int) < (L : Int) := by have := HLL.out; omega
    have HKC : Hid (K ≤ c) := hkc
    obtain ⟨y, hy⟩ : ∃ y : Int, (K : Int) - 1 = y := ⟨_, rfl⟩
    rw [hy] at hcell V1
    clear ht hy
    go_wp2_with (go_at_call 105; refine (implTag_any x HX.out _).mono ?_; rintro e w' ⟨rfl, hw'⟩; obtain rfl := hw'.symm; rw [HT.out])
    have hfin : ∃ c', Ending.returned (.agg #[.int .i64 x, .slice (some ⟨G.sb p, G.so p, none⟩) K c]) = .returned (.agg #[.int .i64 x, .slice (some ⟨G.sb p, G.so p, none⟩) K c']) ∧ K ≤ c' ∧ Below w.heap.size w ((w3.setCell ⟨w.heap.size + 1, 0, none⟩ (.int .i64 x)).setCell ⟨w.heap.size + 1, 1, none⟩ (.slice (some ⟨G.sb p, G.so p, none⟩) K c)) := ⟨c, rfl, HKC.out, (HB3.out.setCell (p := ⟨w.heap.size + 1, 0, none⟩) (by show _ ≤ w.heap.size + 1; omega) _).setCell (p := ⟨w.heap.size + 1, 1, none⟩) (by show _ ≤ w.heap.size + 1; omega) _⟩
    exact bodyPost_ret (v := .agg #[.int .i64 x, .slice (some ⟨G.sb p, G.so p, none⟩) K c]) (by simp [results, Try.results91, go_sem, two_set0 r3, two_set1 r3]) rfl hfin
  · have hcell := HS3.out.at p 0 (by have := HK.out.len; have := HK.out.k1; omega)
    rw [HK.out.cw (by rw [ht]; decide), Nat.add_zero] at hcell
    have HT : Hid (tagW x = 6) := ht
    have hK41 := HK.out.k9
    have hK1 := HK.out.k1
    have V1 : IntKind.i64.wrap (1 + ((K : Int) - 1)) = (K : Int) := by rw [IntKind.wrap_i64]; omega
    have hkc : K ≤ c := by have := HLL.out; have := HC.out; omega
    have hkci : (K : Int) ≤ (c : Int) := by omega
    have hL0 : (0 : Int) < (L : Int) := by have := HLL.out; omega
    have HKC : Hid (K ≤ c) := hkc
    obtain ⟨y, hy⟩ : ∃ y : Int, (K : Int) - 1 = y := ⟨_, rfl⟩
    rw [hy] at hcell V1
    clear ht hy
    go_wp2_with (go_at_call 105; refine (implTag_any x HX.out _).mono ?_; rintro e w' ⟨rfl, hw'⟩; obtain rfl := hw'.symm; rw [HT.out])
    have hfin : ∃ c', Ending.returned (.agg #[.int .i64 x, .slice (some ⟨G.sb p, G.so p, none⟩) K c]) = .returned (.agg #[.int .i64 x, .slice (some ⟨G.sb p, G.so p, none⟩) K c']) ∧ K ≤ c' ∧ Below w.heap.size w ((w3.setCell ⟨w.heap.size + 1, 0, none⟩ (.int .i64 x)).setCell ⟨w.heap.size + 1, 1, none⟩ (.slice (some ⟨G.sb p, G.so p, none⟩) K c)) := ⟨c, rfl, HKC.out, (HB3.out.setCell (p := ⟨w.heap.size + 1, 0, none⟩) (by show _ ≤ w.heap.size + 1; omega) _).setCell (p := ⟨w.heap.size + 1, 1, none⟩) (by show _ ≤ w.heap.size + 1; omega) _⟩
    exact bodyPost_ret (v := .agg #[.int .i64 x, .slice (some ⟨G.sb p, G.so p, none⟩) K c]) (by simp [results, Try.results91, go_sem, two_set0 r3, two_set1 r3]) rfl hfin
/-- Its parts: how many, and from where on. -/
def npr (x : Int) (K : Nat) : Nat := if tagW x = 4 then K - 1 else if tagW x = 5 then K else 0
def PtsP (x : Int) (b o K : Nat) (w : World) (e : Ending) (w' : World) : Prop := ∃ a c', e = .returned (.slice a (npr x K) c') ∧ (npr x K ≠ 0 → a = some ⟨b, o + (if tagW x = 4 then 1 else 0), none⟩) ∧ Below w.heap.size w w'
set_option maxHeartbeats 4000000 in
set_option maxRecDepth 100000 in
theorem parts_any (x : Int) (b o K c : Nat) (hx : x ≤ 9223372036854775807) (hK : 1 ≤ K) (hK2 : K ≤ 41) (hc : K ≤ c) (w : World) :
    Calls Try.prog 87 #[.agg #[.int .i64 x, .slice (some ⟨b, o, none⟩) K c]] w (PtsP x b o K w) := by
  have HX : Hid (x ≤ 9223372036854775807) := hx
  have HB1 : Hid (Below w.heap.size w (w.alloc (.cells #[.int .i64 x, .slice (some ⟨b, o, none⟩) K c] 112))) := (Below.refl _ _).alloc (Nat.le_refl _) _
  have hci : (K : Int) ≤ (c : Int) := by omega
  clear hx
  by_cases h4 : tagW x = 4
  · have HN : Hid (npr x K = K - 1 ∧ tagW x = 4) := by unfold npr; rw [if_pos h4]; exact ⟨rfl, h4⟩
    have HBA : Hid (∀ w', Calls Try.prog 104 #[.agg #[.int .i64 x, .slice (some ⟨b, o, none⟩) K c]] w' fun e w'' => e = .returned (.int .i64 1) ∧ Below w'.heap.size w' w'') := fun w' => by
      have := bare_any x (some ⟨b, o, none⟩) K c HX.out w'
      rw [if_pos h4] at this
      exact this
    clear h4
    by_cases hc1 : c = 1
    · have hK1 : K = 1 := by omega
      subst hK1
      subst hc1
      go_enter Try.func87, Try.ntmps87
      go_wp2_with fail
      go_region_law (go_simp; go_wp2_with (go_at_call 104; refine (HBA.out _).mono ?_; rintro e w5 ⟨rfl, hb5⟩; have HB5 : Hid (Below w.heap.size w w5) := HB1.out.drew.trans (hb5.mono HB1.out.drew.size); have t5 := keep2n hb5; clear hb5))
      all_goals
        go_wp2_with fail
        go_ret
        exact ⟨_, _, ret_sl (by rw [HN.out.1]) rfl, fun h => absurd HN.out.1 h, HB5.out⟩
    · have hK1i : (1 : Int) ≤ (K : Int) := by omega
      go_enter Try.func87, Try.ntmps87
      go_wp2_with fail
      go_region_law (go_simp; go_wp2_with (go_at_call 104; refine (HBA.out _).mono ?_; rintro e w5 ⟨rfl, hb5⟩; have HB5 : Hid (Below w.heap.size w w5) := HB1.out.drew.trans (hb5.mono HB1.out.drew.size); have t5 := keep2n hb5; clear hb5))
      all_goals
        go_wp2_with fail
        go_ret
        exact ⟨_, _, ret_sl (by rw [HN.out.1]) rfl, fun _ => (by rw [if_pos HN.out.2]), HB5.out⟩
  · by_cases h5 : tagW x = 5
    · have HN : Hid (npr x K = K ∧ tagW x ≠ 4) := by unfold npr; rw [if_neg h4, if_pos h5]; exact ⟨rfl, h4⟩
      have HBA : Hid (∀ w', Calls Try.prog 104 #[.agg #[.int .i64 x, .slice (some ⟨b, o, none⟩) K c]] w' fun e w'' => e = .returned (.int .i64 0) ∧ Below w'.heap.size w' w'') := fun w' => by
        have := bare_any x (some ⟨b, o, none⟩) K c HX.out w'
        rw [if_neg h4, if_pos h5] at this
        exact this
      have hc0 : ¬ c = 0 := by omega
      clear h4 h5
      go_enter Try.func87, Try.ntmps87
      go_wp2_with fail
      go_region_law (go_simp; go_wp2_with (go_at_call 104; refine (HBA.out _).mono ?_; rintro e w5 ⟨rfl, hb5⟩; have HB5 : Hid (Below w.heap.size w w5) := HB1.out.drew.trans (hb5.mono HB1.out.drew.size); have t5 := keep2n hb5; clear hb5))
      all_goals
        go_wp2_with fail
        go_ret
        exact ⟨_, _, ret_sl (by rw [HN.out.1]) rfl, fun _ => (by rw [if_neg HN.out.2]; rfl), HB5.out⟩
    · have HN : Hid (npr x K = 0) := by unfold npr; rw [if_neg h4, if_neg h5]; rfl
      have HBA : Hid (∀ w', Calls Try.prog 104 #[.agg #[.int .i64 x, .slice (some ⟨b, o, none⟩) K c]] w' fun e w'' => e = .returned (.int .i64 K) ∧ Below w'.heap.size w' w'') := fun w' => by
        have := bare_any x (some ⟨b, o, none⟩) K c HX.out w'
        rw [if_neg h4, if_neg h5] at this
        exact this
      clear h4 h5
      by_cases hcK : c = K
      · subst hcK
        go_enter Try.func87, Try.ntmps87
        go_wp2_with fail
        go_region_law (go_simp; go_wp2_with (go_at_call 104; refine (HBA.out _).mono ?_; rintro e w5 ⟨rfl, hb5⟩; have HB5 : Hid (Below w.heap.size w w5) := HB1.out.drew.trans (hb5.mono HB1.out.drew.size); have t5 := keep2n hb5; clear hb5))
        all_goals
          go_wp2_with fail
          go_ret
          exact ⟨_, _, ret_sl (by rw [HN.out]) rfl, fun h => absurd HN.out h, HB5.out⟩
      · have hcK2 : ¬ K = c := fun e => hcK e.symm
        go_enter Try.func87, Try.ntmps87
        go_wp2_with fail
        go_region_law (go_simp; go_wp2_with (go_at_call 104; refine (HBA.out _).mono ?_; rintro e w5 ⟨rfl, hb5⟩; have HB5 : Hid (Below w.heap.size w w5) := HB1.out.drew.trans (hb5.mono HB1.out.drew.size); have t5 := keep2n hb5; clear hb5))
        all_goals
          go_wp2_with fail
          go_ret
          exact ⟨_, _, ret_sl (by rw [HN.out]) rfl, fun h => absurd HN.out h, HB5.out⟩
end Go.Proofs.Ythdoamdjhpkimaa.Gn
