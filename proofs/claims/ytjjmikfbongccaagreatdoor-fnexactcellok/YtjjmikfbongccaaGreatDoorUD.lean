/-
  What thingsOf has in hand.
  The closure of thingsOf: all that words lead to is met, each once.
  The closure of thingsOf, walked.
  thingsOf: all that the roots lead to, each once.
  (Ahead of it, in this text: What leads to what, as reckoning: the specification's way down from the roots and the program's list of all that is met ask the same.
  What the specification's l6Links answers.
  The program's small words on what a word leads to: leads, ageOf, thingAt, bare, parts.)
-/
import Derived.Test.YtjjmikfbongccaaGreatDoorUR
import Derived.Test.YtjjmikfbongccaaGreatDoorUC
import Derived.Deep.RegionLaw
import Derived.Deep.CutRange
import Derived.Maps.OwnSet
import Derived.Maps.AppendAt
namespace Go.Proofs.YtjjmikfbongccaaGreatDoor.Gn
open Go.RowKit
set_option linter.unusedVariables false

def leadsW (x : Int) : Bool := decide (4 ≤ tagW x)
/-- The words of the terms within what x leads to. -/
def prts (H : Hp) (x : Int) : List Int := if tagW x = 5 then [H.w (valW x).toNat 0, H.w (valW x).toNat 1] else if tagW x = 4 then wordsAt H (valW x).toNat 1 (H.w (valW x).toNat 0).toNat else []
/-- What x leads to is there. -/
def Fits (H : Hp) (x : Int) : Prop := (tagW x = 5 ∧ 2 ≤ H.len (valW x).toNat) ∨ (tagW x = 4 ∧ ∃ n, cnt H (valW x) 8 = some n) ∨ (tagW x = 6 ∧ ∃ n, cnt H (valW x) 40 = some n)
/-- All that x leads to is there, within so many steps. -/
def FinW (H : Hp) : Nat → Int → Prop
  | 0, x => 0 ≤ x ∧ leadsW x = false
  | n + 1, x => 0 ≤ x ∧ (leadsW x = true → Fits H x ∧ ∀ y ∈ prts H x, FinW H n y)
theorem FinW.nn {H : Hp} {n : Nat} {x : Int} (h : FinW H n x) : 0 ≤ x := by
  cases n with
  | zero => exact h.1
  | succ n => exact h.1
theorem FinW.leaf {H : Hp} {n : Nat} {x : Int} (h0 : 0 ≤ x) (h : leadsW x = false) : FinW H n x := by
  cases n with
  | zero => exact ⟨h0, h⟩
  | succ n => exact ⟨h0, fun h2 => (by rw [h] at h2; cases h2)⟩
theorem FinW.up {H : Hp} : ∀ {n m : Nat} {x : Int}, FinW H n x → n ≤ m → FinW H m x
  | 0, m, x, h, _ => FinW.leaf h.1 h.2
  | n + 1, 0, x, h, hm => absurd hm (by omega)
  | n + 1, m + 1, x, h, hm => ⟨h.1, fun hl => ⟨(h.2 hl).1, fun y hy => FinW.up ((h.2 hl).2 y hy) (by omega)⟩⟩
theorem leads_no {x : Int} (h : ¬ 4 ≤ tagW x) : leadsW x = false := by simp [leadsW]; omega
theorem tag_nn {x : Int} (h : tagW x ≠ 0) : 0 ≤ x := by
  unfold tagW at h
  split at h
  · exact absurd rfl h
  · omega
theorem isW_nn {x : Int} (h : isW x = true) : 0 ≤ x := by
  unfold isW mkw at h
  simp only [decide_eq_true_eq] at h
  split at h
  · rename_i hc
    rw [Bool.and_eq_true] at hc
    have h1 := inB_yes hc.1
    have h2 := inB_yes hc.2
    omega
  · omega
theorem fin_list {H : Hp} {g : Rd} {m : Nat} (hg : ∀ w left t x, g w left = some (t, x) → FinW H m w) : ∀ (l : List Tm) (w : Int) (left x : Nat), LR H g l w left x → FinW H (m + l.length) w
  | [], w, left, x, h => by
    rw [LR] at h
    rw [h.1]
    exact FinW.leaf (by decide) (by decide)
  | t :: r, w, left, x, h => by
    rw [LR] at h
    obtain ⟨_, hc, y, h1, h2⟩ := h
    have i2 := fin_list hg r _ _ _ h2
    have i1 := hg _ _ _ _ h1
    show FinW H (m + r.length + 1) w
    refine ⟨tag_nn (by have := hc.1; omega), fun _ => ?_⟩
    refine ⟨.inl hc, fun z hz => ?_⟩
    rw [prts, if_pos hc.1] at hz
    simp only [List.mem_cons, List.not_mem_nil, or_false] at hz
    rcases hz with rfl | rfl
    · exact i1.up (by omega)
    · exact i2
theorem fin_tup {H : Hp} {g : Rd} {m : Nat} {u : Nat → Int} (hg : ∀ w left t x, g w left = some (t, x) → FinW H m w) : ∀ (l : List Tm) (p left x : Nat), TR u g l p left x → ∀ j, j < l.length → FinW H m (u (p + j))
  | [], p, left, x, h, j, hj => absurd hj (Nat.not_lt_zero _)
  | t :: r, p, left, x, h, j, hj => by
    rw [TR] at h
    obtain ⟨y, h1, h2⟩ := h
    cases j with
    | zero => exact hg _ _ _ _ h1
    | succ j =>
      have := fin_tup hg r (p + 1) y x h2 j (by simpa using hj)
      rw [show p + (j + 1) = p + 1 + j by omega]
      exact this
def capG (g : Rd) : Rd := fun w left => if left ≤ 100 then g w left else none
theorem TR_cap {u : Nat → Int} {g : Rd} (hl : ∀ w left t x, g w left = some (t, x) → x < left) : ∀ (l : List Tm) (p left x : Nat), left ≤ 100 → TR u g l p left x → TR u (capG g) l p left x
  | [], p, left, x, _, h => by rw [TR] at h ⊢; exact h
  | t :: r, p, left, x, h0, h => by
    rw [TR] at h ⊢
    obtain ⟨y, h1, h2⟩ := h
    have := hl _ _ _ _ h1
    exact ⟨y, by unfold capG; rw [if_pos h0]; exact h1, TR_cap hl r (p + 1) y x (by omega) h2⟩
theorem LR_cap {H : Hp} {g : Rd} (hl : ∀ w left t x, g w left = some (t, x) → x < left) : ∀ (l : List Tm) (w : Int) (left x : Nat), left ≤ 100 → LR H g l w left x → LR H (capG g) l w left x
  | [], w, left, x, _, h => by rw [LR] at h ⊢; exact h
  | t :: r, w, left, x, h0, h => by
    rw [LR] at h ⊢
    obtain ⟨h3, hc, y, h1, h2⟩ := h
    have := hl _ _ _ _ h1
    exact ⟨h3, hc, y, by unfold capG; rw [if_pos h0]; exact h1, LR_cap hl r _ y x (by omega) h2⟩
theorem fin_read {H : Hp} : ∀ (d : Nat) (w : Int) (left : Nat) (t : Tm) (x : Nat), left ≤ 100 → rT true H d w left = some (t, x) → FinW H (102 * d) w
  | 0, w, left, t, x, _, h => by rw [rT] at h; cases h
  | d + 1, w, left, t, x, hle, h => by
    rw [rT] at h
    by_cases hc : (if true = true then isW w else decide (0 ≤ w)) = true ∧ 0 < left
    · rw [if_pos hc] at h
      have ih : ∀ w' left' t' x', capG (rT true H d) w' left' = some (t', x') → FinW H (102 * d) w' := fun w' left' t' x' h' => by
        unfold capG at h'
        split at h'
        · rename_i hl
          exact fin_read d w' left' t' x' hl h'
        · cases h'
      cases hr : raw true H (rT true H d) w (left - 1) with
      | none => rw [hr] at h; simp [held] at h
      | some r =>
        obtain ⟨t1, x1⟩ := r
        clear h
        by_cases h4 : 4 ≤ tagW w
        case neg => exact FinW.leaf (isW_nn hc.1) (leads_no h4)
        case pos =>
          have hm : 102 * (d + 1) = (102 * d + 101) + 1 := by omega
          rw [hm]
          refine ⟨isW_nn hc.1, fun _ => ?_⟩
          unfold raw at hr
          rw [if_neg (by omega), if_neg (by omega), if_neg (by omega)] at hr
          by_cases h44 : tagW w = 4
          · rw [if_pos h44] at hr
            unfold rCnt at hr
            cases hcn : cnt H (valW w) 8 with
            | none => rw [hcn] at hr; cases hr
            | some n =>
              refine ⟨.inr (.inl ⟨h44, n, hcn⟩), fun y hy => ?_⟩
              rw [hcn] at hr
              dsimp only at hr
              cases hts : rTs (H.w (valW w).toNat) (rT true H d) n 1 (left - 1) with
              | none => rw [hts] at hr; simp [tup] at hr
              | some lr =>
                obtain ⟨l, x2⟩ := lr
                obtain ⟨e1, e2⟩ := (rTs_iff _ _ _ _ _ _ _).1 hts
                have e3 : TR (H.w (valW w).toNat) (capG (rT true H d)) l 1 (left - 1) x2 := TR_cap (rT_lt true H d) l 1 (left - 1) x2 (by omega) e2
                rw [prts, if_neg (by omega), if_pos h44] at hy
                unfold wordsAt at hy
                obtain ⟨j, hj, rfl⟩ := List.mem_map.1 hy
                have hn : (H.w (valW w).toNat 0).toNat = n := by
                  unfold cnt at hcn
                  split at hcn
                  · injection hcn
                  · cases hcn
                rw [hn, List.mem_range] at hj
                exact (fin_tup ih l 1 _ _ e3 j (by omega)).up (by omega)
          · rw [if_neg h44] at hr
            by_cases h6 : tagW w = 6
            · rw [if_pos h6] at hr
              unfold rBin at hr
              cases hcn : cnt H (valW w) 40 with
              | none => rw [hcn] at hr; cases hr
              | some n =>
                refine ⟨.inr (.inr ⟨h6, n, hcn⟩), fun y hy => ?_⟩
                rw [prts, if_neg (by omega), if_neg (by omega)] at hy
                cases hy
            · rw [if_neg h6] at hr
              by_cases h7 : tagW w = 7
              · rw [if_pos h7] at hr; cases hr
              · rw [if_neg h7] at hr
                have h5 : tagW w = 5 := by have := (tagW_ge w).2; omega
                simp only [if_true] at hr
                cases hl : rL H (rT true H d) (left - 1) w (left - 1) with
                | none => rw [hl] at hr; simp [tup] at hr
                | some lr =>
                  obtain ⟨l, x2⟩ := lr
                  obtain ⟨e1, e2⟩ := (rL_iff _ _ _ _ _ _ _).1 hl
                  have e3 : LR H (capG (rT true H d)) l w (left - 1) x2 := LR_cap (rT_lt true H d) l w (left - 1) x2 (by omega) e2
                  have e4 := fin_list ih l w _ _ e3
                  have e5 : FinW H (102 * d + 101 + 1) w := e4.up (by omega)
                  exact e5.2 (by simp [leadsW]; omega)
    · rw [if_neg hc] at h; cases h
/-- From x on one comes to y. -/
inductive Rch (H : Hp) : Int → Int → Prop
  | refl (x : Int) : Rch H x x
  | step {x y z : Int} (hl : leadsW x = true) (hy : y ∈ prts H x) (h : Rch H y z) : Rch H x z
theorem Rch.snoc {H : Hp} {x y z : Int} (h : Rch H x y) : leadsW y = true → z ∈ prts H y → Rch H x z := by
  induction h with
  | refl x => exact fun hl hz => .step hl hz (.refl _)
  | step hl hy _ ih => exact fun hl2 hz => .step hl hy (ih hl2 hz)
def agW (mark : Int) (x : Int) : Nat := if valW x < 100000 then 0 else if valW x - 100000 < mark then 1 else 2
def Eok (H : Hp) (mark : Int) (x : Int) : Prop := ∀ y ∈ prts H x, leadsW y = true → agW mark y ≤ agW mark x
def limW (mark : Int) (a : Nat) : Int := if a = 0 then 100000 else if a = 1 then 100000 + mark else 200000
def nxtW (mark : Int) (x fr : Int) : Int := if valW x < 100000 then 100000 else if valW x < 100000 + mark ∧ 100000 + mark < fr then 100000 + mark else fr
/-- What the specification asks on its way down. -/
def lkB (H : Hp) (mark : Int) : Nat → Int → Int → Bool
  | 0, _, _ => true
  | n + 1, x, fr => if leadsW x = false then true else if fr ≤ valW x then false else (prts H x).all (fun y => lkB H mark n y (nxtW mark x fr))
theorem lk_iff {H : Hp} {mark : Int} (h0 : 0 ≤ mark) (h1 : mark ≤ 1000) (hf : ∀ p, H.len p ≠ 0 → p < 200000) : ∀ (n : Nat) (x : Int) (a : Nat), FinW H n x → a ≤ 2 →
    (lkB H mark n x (limW mark a) = true ↔ (leadsW x = true → agW mark x ≤ a) ∧ ∀ y, Rch H x y → leadsW y = true → Eok H mark y)
  | 0, x, a, hF, ha => by
    have hl : leadsW x = false := hF.2
    rw [lkB]
    refine ⟨fun _ => ⟨fun h => (by rw [hl] at h; cases h), fun y hr hy => ?_⟩, fun _ => rfl⟩
    cases hr with
    | refl => rw [hl] at hy; cases hy
    | step h _ _ => rw [hl] at h; cases h
  | n + 1, x, a, hF, ha => by
    rw [lkB]
    cases hl : leadsW x with
    | false =>
      rw [if_pos rfl]
      refine ⟨fun _ => ⟨fun h => (by cases h), fun y hr hy => ?_⟩, fun _ => rfl⟩
      cases hr with
      | refl => rw [hl] at hy; cases hy
      | step h _ _ => rw [hl] at h; cases h
    | true =>
      rw [if_neg (by simp)]
      obtain ⟨hft, hin⟩ := hF.2 hl
      have hv : valW x < 200000 := by
        have hv0 := valW_ge x
        have : H.len (valW x).toNat ≠ 0 := by
          rcases hft with ⟨_, h⟩ | ⟨_, k, h⟩ | ⟨_, k, h⟩
          · omega
          · unfold cnt at h
            split at h
            · omega
            · cases h
          · unfold cnt at h
            split at h
            · omega
            · cases h
        have := hf _ this
        omega
      have hag : agW mark x ≤ 2 := by unfold agW; repeat (first | omega | split)
      by_cases hfr : limW mark a ≤ valW x
      · rw [if_pos hfr]
        refine ⟨fun h => (by cases h), fun h => ?_⟩
        exfalso
        have := h.1 rfl
        unfold limW at hfr
        unfold agW at this
        split at hfr <;> split at this <;> first | omega | (split at hfr <;> split at this <;> omega) | (split at this <;> omega) | (split at hfr <;> omega)
      · rw [if_neg hfr]
        have hle : agW mark x ≤ a := by
          unfold limW at hfr
          unfold agW
          split at hfr <;> split <;> first | omega | (split at hfr <;> split <;> omega) | (split <;> omega) | (split at hfr <;> omega)
        have hnx : nxtW mark x (limW mark a) = limW mark (agW mark x) := by
          have h3 : a = 0 ∨ a = 1 ∨ a = 2 := by omega
          unfold nxtW agW
          by_cases hv1 : valW x < 100000
          · rw [if_pos hv1, if_pos hv1]; rfl
          · rw [if_neg hv1, if_neg hv1]
            by_cases hv2 : valW x - 100000 < mark
            · rw [if_pos hv2]
              have e1 : limW mark 1 = 100000 + mark := rfl
              rcases h3 with rfl | rfl | rfl
              · have e0 : limW mark 0 = 100000 := rfl
                rw [e0] at hfr
                omega
              · rw [e1, if_neg (by omega)]
              · have e2 : limW mark 2 = 200000 := rfl
                rw [e1, e2, if_pos (by omega)]
            · rw [if_neg hv2]
              have e2 : limW mark 2 = 200000 := rfl
              rcases h3 with rfl | rfl | rfl
              · have e0 : limW mark 0 = 100000 := rfl
                rw [e0] at hfr
                omega
              · have e1 : limW mark 1 = 100000 + mark := rfl
                rw [e1] at hfr
                omega
              · rw [if_neg (by omega)]
        rw [hnx, List.all_eq_true]
        constructor
        · intro h
          have hall : ∀ y ∈ prts H x, (leadsW y = true → agW mark y ≤ agW mark x) ∧ ∀ z, Rch H y z → leadsW z = true → Eok H mark z := fun y hy => (lk_iff h0 h1 hf n y _ (hin y hy) hag).1 (h y hy)
          refine ⟨fun _ => hle, fun y hr hy => ?_⟩
          cases hr with
          | refl => exact fun z hz => (hall z hz).1
          | step _ hz hr => exact (hall _ hz).2 y hr hy
        · rintro ⟨_, h⟩ y hy
          exact (lk_iff h0 h1 hf n y _ (hin y hy) hag).2 ⟨h x (.refl x) hl y hy, fun z hr hz => h z (.step hl hy hr) hz⟩
/-- All that the program met. -/
structure Met (H : Hp) (R T : List Int) : Prop where
  roots : ∀ x ∈ R, leadsW x = true → x ∈ T
  shut : ∀ y ∈ T, ∀ z ∈ prts H y, leadsW z = true → z ∈ T
  from' : ∀ y ∈ T, leadsW y = true ∧ ∃ x ∈ R, Rch H x y
theorem Met.iff {H : Hp} {R T : List Int} (m : Met H R T) (mark : Int) : (∀ y ∈ T, Eok H mark y) ↔ ∀ x ∈ R, ∀ y, Rch H x y → leadsW y = true → Eok H mark y := by
  constructor
  · intro h x hx y hr hy
    have key : ∀ a b, Rch H a b → (leadsW a = true → a ∈ T) → leadsW b = true → b ∈ T := fun a b hr => by
      induction hr with
      | refl x => exact fun h1 h2 => h1 h2
      | step hl hy _ ih => exact fun h1 h2 => ih (fun h3 => m.shut _ (h1 hl) _ hy h3) h2
    exact h y (key x y hr (m.roots x hx) hy)
  · intro h y hy
    obtain ⟨hl, x, hx, hr⟩ := m.from' y hy
    exact h x hx y hr hl
end Go.Proofs.YtjjmikfbongccaaGreatDoor.Gn

namespace Go.Proofs.YtjjmikfbongccaaGreatDoor.Gn
open Go.RowKit
set_option linter.unusedVariables false

theorem ret_bool6 {x y : Bool} (h : x = y) : Ending.returned (.bool x) = .returned (.bool y) := by rw [h]
theorem sz_leaf {G : GE} {x : Int} (h : leadsW x = false) : sz G x = 0 := by
  have h4 : ¬ 4 ≤ tagW x := by simpa [leadsW] using h
  unfold sz
  rw [if_neg (by omega), if_neg (by omega)]
theorem lk_leaf {H : Hp} {mark : Int} {n : Nat} {x fr : Int} (h : leadsW x = false) : lkB H mark n x fr = true := by
  cases n with
  | zero => rfl
  | succ n => rw [lkB, if_pos h]
/-- How many words stand where x leads, which of them are parts, and that they are there. -/
structure Kin (G : GE) (x : Int) (p K f0 : Nat) : Prop where
  val : valW x = p
  sz : sz G x = K
  len : K ≤ G.len p
  le : f0 ≤ K
  k1 : 1 ≤ K
  k9 : K ≤ 41
  tag : (tagW x = 5 ∧ f0 = 0) ∨ (tagW x = 4 ∧ f0 = 1) ∨ (tagW x = 6 ∧ f0 = 1)
  prt : tagW x ≠ 6 → prts G.H x = (List.range (K - f0)).map (fun j => G.w p (f0 + j))
  prb : tagW x = 6 → prts G.H x = []
  cw : tagW x ≠ 5 → G.w p 0 = (K : Int) - 1
theorem kin_of {G : GE} {x : Int} (h : Fits G.H x) : ∃ p K f0, Kin G x p K f0 := by
  have hv := valW_ge x
  have e : valW x = ((valW x).toNat : Int) := by omega
  have one : ∀ {m : Int} {n : Nat}, m ≤ 40 → cnt G.H (valW x) m = some n → sz G x = cn G (valW x).toNat → cn G (valW x).toNat = (n : Int) + 1 ∧ n + 1 ≤ G.len (valW x).toNat ∧ (n : Int) ≤ m ∧ (G.H.w (valW x).toNat 0).toNat = n ∧ G.H.w (valW x).toNat 0 = n := fun {m n} hm hc hs => by
    have hc2 : cnt G.H ((valW x).toNat : Int) m = some n := by rw [← e]; exact hc
    obtain ⟨k1, k2, k3⟩ := cn_some (by omega) hc2
    unfold cnt at hc
    split at hc
    · rename_i hcc
      injection hc with hc
      exact ⟨k1, k2, k3, hc, by omega⟩
    · cases hc
  rcases h with ⟨h5, hl⟩ | ⟨h4, n, hc⟩ | ⟨h6, n, hc⟩
  · refine ⟨(valW x).toNat, 2, 0, e, by unfold sz; rw [if_pos h5]; rfl, hl, by omega, by omega, by omega, .inl ⟨h5, rfl⟩, fun _ => ?_, fun h => (by omega), fun h => absurd h5 h⟩
    rw [prts, if_pos h5]
    rfl
  · have hs : sz G x = cn G (valW x).toNat := by unfold sz; rw [if_neg (by omega), if_pos (.inl h4)]
    obtain ⟨k1, k2, k3, k4, k5⟩ := one (by omega) hc hs
    refine ⟨(valW x).toNat, n + 1, 1, e, by rw [hs, k1]; rfl, k2, by omega, by omega, by omega, .inr (.inl ⟨h4, rfl⟩), fun _ => ?_, fun h => (by omega), fun _ => (by have : G.w (valW x).toNat 0 = n := k5; omega)⟩
    rw [prts, if_neg (by omega), if_pos h4, wordsAt, k4]
    rfl
  · have hs : sz G x = cn G (valW x).toNat := by unfold sz; rw [if_neg (by omega), if_pos (.inr h6)]
    obtain ⟨k1, k2, k3, k4, k5⟩ := one (by omega) hc hs
    refine ⟨(valW x).toNat, n + 1, 1, e, by rw [hs, k1]; rfl, k2, by omega, by omega, by omega, .inr (.inr ⟨h6, rfl⟩), fun h => absurd h6 h, fun _ => ?_, fun _ => (by have : G.w (valW x).toNat 0 = n := k5; omega)⟩
    rw [prts, if_neg (by omega), if_neg (by omega)]
theorem keep3a {w w' W : World} {x y z : Value} (hc : ∀ o, w.cell? ⟨W.heap.size, o, none⟩ = (#[x, y, z] : Array Value)[o]?) (h : Below w.heap.size w w') : ∀ o, w'.cell? ⟨W.heap.size, o, none⟩ = (#[x, y, z] : Array Value)[o]? := fun o => by
  have h0 : w.cell? ⟨W.heap.size, 0, none⟩ = some x := hc 0
  rw [h.cell (p := ⟨W.heap.size, o, none⟩) (by have := World.block_lt_of_cell? _ _ h0; exact this)]; exact hc o
theorem keep3b {w w' W : World} {x y z : Value} (hc : ∀ o, w.cell? ⟨W.heap.size, o, none⟩ = (#[x, y, z] : Array Value)[o]?) (h : Below w.drew.heap.size w.drew w') : ∀ o, w'.cell? ⟨W.heap.size, o, none⟩ = (#[x, y, z] : Array Value)[o]? := keep3a hc ⟨h.os, h.tape, h.output, h.size, h.block⟩
def LkT (G : GE) (n : Nat) : Prop := ∀ (x fr : Int) (w : World), FinW G.H n x → x ≤ 9223372036854775807 → GSrc G w →
  Calls Tryz.prog 34 #[G.v, .int .i64 x, .int .i64 fr] w fun e w' => e = .returned (.bool (lkB G.H G.mark n x fr)) ∧ Below w.heap.size w w'
set_option maxHeartbeats 8000000 in
set_option maxRecDepth 100000 in
theorem lkT_of (G : GE) (hm0 : 0 ≤ G.mark) (hm1 : G.mark ≤ 1000) (n : Nat) (ih : ∀ m, n = m + 1 → LkT G m) : LkT G n := by
  intro x fr w hF hx hs
  have HS1 : Hid (GSrc G (w.alloc (.cells #[.slice G.wv G.N G.cap, .slice G.yv G.M G.ycap, .int .i64 G.mark] 38))) := hs.below ((Below.refl _ _).alloc (Nat.le_refl _) _)
  have HB1 : Hid (Below w.heap.size w (w.alloc (.cells #[.slice G.wv G.N G.cap, .slice G.yv G.M G.ycap, .int .i64 G.mark] 38))) := (Below.refl _ _).alloc (Nat.le_refl _) _
  have HX : Hid (x ≤ 9223372036854775807) := hx
  have q1 : ∀ o, (w.alloc (.cells #[.slice G.wv G.N G.cap, .slice G.yv G.M G.ycap, .int .i64 G.mark] 38)).cell? ⟨w.heap.size, o, none⟩ = (#[.slice G.wv G.N G.cap, .slice G.yv G.M G.ycap, .int .i64 G.mark] : Array Value)[o]? := fun o => World.cell?_alloc_new w _ _ o
  have HQ1 : Hid (∀ o, (w.alloc (.cells #[.slice G.wv G.N G.cap, .slice G.yv G.M G.ycap, .int .i64 G.mark] 38)).cell? ⟨w.heap.size, o, none⟩ = (#[.slice G.wv G.N G.cap, .slice G.yv G.M G.ycap, .int .i64 G.mark] : Array Value)[o]?) := q1
  clear q1 hs hx
  have HSZ : Hid (∀ w', GSrc G w' → Calls Tryz.prog 46 #[.agg #[.slice G.wv G.N G.cap, .slice G.yv G.M G.ycap, .int .i64 G.mark], .int .i64 x] w' fun e w'' => e = .returned (.int .i64 (sz G x)) ∧ Below w'.heap.size w' w'') := fun w' h => l6Size_any h x HX.out
  unfold GE.v
  cases hl : leadsW x with
  | false =>
    have HE : Hid (sz G x = 0) := sz_leaf hl
    have HL : Hid (lkB G.H G.mark n x fr = true) := lk_leaf hl
    clear hl hF ih
    go_enter Tryz.func34, Tryz.ntmps34
    go_wp2_with (go_at_call 46; refine (HSZ.out _ HS1.out).mono ?_; rintro e w2 ⟨rfl, hb2⟩; rw [HE.out]; have HB2 : Hid (Below w.heap.size w w2) := HB1.out.trans (hb2.mono HB1.out.size); clear hb2)
    go_ret
    exact ⟨ret_bool6 HL.out.symm, HB2.out⟩
  | true =>
    cases n with
    | zero =>
      have : leadsW x = false := hF.2
      rw [hl] at this
      cases this
    | succ n =>
      obtain ⟨hft, hin⟩ := hF.2 hl
      obtain ⟨p, K, f0, hk⟩ := kin_of hft
      have IH : Hid (LkT G n) := ih n rfl
      have HK : Hid (Kin G x p K f0) := hk
      have HIN : Hid (∀ y ∈ prts G.H x, FinW G.H n y) := hin
      have HLK : Hid (lkB G.H G.mark (n + 1) x fr = if fr ≤ valW x then false else (prts G.H x).all (fun y => lkB G.H G.mark n y (nxtW G.mark x fr))) := by
        show _ = _
        rw [lkB, if_neg (by rw [hl]; simp)]
      have hK0 : ¬ (K : Int) = 0 := by have := hk.k1; omega
      have hK1 : ((K : Int) == 0) = false := by simp; omega
      have HSZK : Hid (sz G x = K) := hk.sz
      obtain ⟨V, hV⟩ : ∃ V : Int, V = (p : Int) := ⟨_, rfl⟩
      have HVP : Hid (V = (p : Int)) := hV
      have HVAL : Hid (valW x = V) := by show _ = _; rw [hk.val, hV]
      have hmk : IntKind.i64.wrap (100000 + G.mark) = 100000 + G.mark := by rw [IntKind.wrap_i64]; omega
      have HNX : Hid (nxtW G.mark x fr = if V < 100000 then 100000 else if V < 100000 + G.mark ∧ 100000 + G.mark < fr then 100000 + G.mark else fr) := by show _ = _; unfold nxtW; rw [HVAL.out]
      rw [HVAL.out] at HLK
      clear hF hft hin ih hk hl hV
      obtain ⟨w1, hw1⟩ : ∃ w1, w1 = w.alloc (.cells #[.slice G.wv G.N G.cap, .slice G.yv G.M G.ycap, .int .i64 G.mark] 38) := ⟨_, rfl⟩
      go_enter Tryz.func34, Tryz.ntmps34
      go_wp2_with fail
      rw [← hw1] at HS1 HB1 HQ1 ⊢
      refine (HSZ.out _ HS1.out).mono ?_
      rintro e w2 ⟨rfl, hb2⟩
      rw [HSZK.out]
      have hq0 : w1.cell? ⟨w.heap.size, 0, none⟩ = some (.slice G.wv G.N G.cap) := HQ1.out 0
      have HS2 : Hid (GSrc G w2) := HS1.out.below hb2
      have HB2 : Hid (Below w.heap.size w w2) := HB1.out.trans (hb2.mono HB1.out.size)
      have q2 : ∀ o, w2.cell? ⟨w.heap.size, o, none⟩ = (#[.slice G.wv G.N G.cap, .slice G.yv G.M G.ycap, .int .i64 G.mark] : Array Value)[o]? := fun o => by rw [hb2.cell (p := ⟨w.heap.size, o, none⟩) (by have := World.block_lt_of_cell? _ _ hq0; exact this)]; exact HQ1.out o
      clear hb2 hq0 HS1 HB1 HQ1 hw1 HSZ HSZK
      by_cases hfr : fr ≤ V
      · have HE : Hid (lkB G.H G.mark (n + 1) x fr = false) := by show _ = _; rw [HLK.out, if_pos hfr]
        go_wp2_with (go_at_call 47; refine (specVal_any x HX.out _).mono ?_; rintro e w' ⟨rfl, hw'⟩; obtain rfl := hw'.symm; rw [HVAL.out])
        go_ret
        exact ⟨ret_bool6 HE.out.symm, HB2.out⟩
      · have HE : Hid (lkB G.H G.mark (n + 1) x fr = (prts G.H x).all (fun y => lkB G.H G.mark n y (nxtW G.mark x fr))) := by show _ = _; rw [HLK.out, if_neg hfr]
        obtain ⟨fr', hfr'⟩ : ∃ fr', nxtW G.mark x fr = fr' := ⟨_, rfl⟩
        rw [hfr'] at HE HNX
        clear hfr' HLK
        go_upto_if 24 with (go_at_call 47; refine (specVal_any x HX.out _).mono ?_; rintro e w' ⟨rfl, hw'⟩; obtain rfl := hw'.symm; rw [HVAL.out])
        go_cut [2] from 23 to 39 (fun v2 wx => v2 = .int .i64 fr' ∧ wx = w2)
        case first =>
          by_cases h1 : V < 100000
          · have HF : Hid (fr' = 100000) := by show _ = _; rw [HNX.out, if_pos h1]
            go_wp2_with fail
            go_meet
            case rel => exact ⟨by rw [HF.out], rfl⟩
          · by_cases h2 : V < 100000 + G.mark
            · by_cases h3 : 100000 + G.mark < fr
              · have HF : Hid (fr' = 100000 + G.mark) := by show _ = _; rw [HNX.out, if_neg h1, if_pos ⟨h2, h3⟩]
                go_wp2_with fail
                go_meet
                case rel => exact ⟨by rw [HF.out], rfl⟩
              · have HF : Hid (fr' = fr) := by show _ = _; rw [HNX.out, if_neg h1, if_neg (fun h => h3 h.2)]
                go_wp2_with fail
                go_meet
                case rel => exact ⟨by rw [HF.out], rfl⟩
            · have HF : Hid (fr' = fr) := by show _ = _; rw [HNX.out, if_neg h1, if_neg (fun h => h2 h.1)]
              go_wp2_with fail
              go_meet
              case rel => exact ⟨by rw [HF.out], rfl⟩
        case rest =>
          obtain ⟨rfl, hwc⟩ := hcut
          obtain rfl := hwc.symm
          have HWD : Hid (Calls Tryz.prog 48 #[.agg #[.slice G.wv G.N G.cap, .slice G.yv G.M G.ycap, .int .i64 G.mark], .int .i64 V, .int .i64 K] w2 fun e w' => ∃ c, e = .returned (.tuple #[.slice (some ⟨G.sb p, G.so p, none⟩) K c, .bool true]) ∧ Below w2.heap.size w2 w') := by
            rw [HVP.out]
            exact l6Words_yes HS2.out p K HK.out.len (by have := HK.out.k1; omega)
          go_wp2_with fail
          refine HWD.out.mono ?_
          rintro e w4 ⟨c, rfl, hb4⟩
          have HS4 : Hid (GSrc G w4) := HS2.out.below hb4
          have HB4 : Hid (Below w.heap.size w w4) := HB2.out.trans (hb4.mono HB2.out.size)
          have q4 := keep3a q2 hb4
          have HQ4 : Hid (∀ o, w4.cell? ⟨w.heap.size, o, none⟩ = (#[.slice G.wv G.N G.cap, .slice G.yv G.M G.ycap, .int .i64 G.mark] : Array Value)[o]?) := q4
          clear hb4 q2 HS2 HB2 HWD hK0 hK1 hfr hmk
          rcases HK.out.tag with ⟨ht, hfz⟩ | ⟨ht, hfz⟩ | ⟨ht, hfz⟩
          · have HT : Hid (tagW x = 5) := ht
            have HFR : Hid (∀ j, f0 + j < K → FinW G.H n (G.w p (f0 + j))) := fun j hj => by
              refine HIN.out _ ?_
              rw [HK.out.prt (by omega)]
              exact List.mem_map.2 ⟨j, List.mem_range.2 (by omega), rfl⟩
            have HALL : Hid ((∀ j, f0 + j < K → lkB G.H G.mark n (G.w p (f0 + j)) fr' = true) → (prts G.H x).all (fun y => lkB G.H G.mark n y fr') = true) := fun h => by
              rw [HK.out.prt (by omega), List.all_eq_true]
              intro y hy
              obtain ⟨j, hj, rfl⟩ := List.mem_map.1 hy
              rw [List.mem_range] at hj
              exact h j (by omega)
            have HONE : Hid (∀ j, f0 + j < K → lkB G.H G.mark n (G.w p (f0 + j)) fr' = false → (prts G.H x).all (fun y => lkB G.H G.mark n y fr') = false) := fun j hj h => by
              rw [HK.out.prt (by omega), List.all_eq_false]
              exact ⟨_, List.mem_map.2 ⟨j, List.mem_range.2 (by omega), rfl⟩, by rw [h]; simp⟩
            have hf0 : f0 ≤ 1 := by omega
            have hKle : K ≤ 41 := HK.out.k9
            have HKL : Hid (K ≤ G.len p) := HK.out.len
            have HFK : Hid (f0 ≤ K) := HK.out.le
            have HF0 : Hid (f0 = 0) := hfz
            subst hfz
            go_wp2_with (go_at_call 49; refine (specTag_any x _).mono ?_; rintro e w' ⟨rfl, hw'⟩; obtain rfl := hw'.symm; rw [HT.out])
            go_loopw [12] (fun i wr => ∃ k : Nat, i = .int .i64 ((0 + k : Nat) : Int) ∧ 0 + k ≤ K ∧ GSrc G wr ∧ Below w.heap.size w wr ∧ (∀ o, wr.cell? ⟨w.heap.size, o, none⟩ = (#[.slice G.wv G.N G.cap, .slice G.yv G.M G.ycap, .int .i64 G.mark] : Array Value)[o]?) ∧ ∀ j, j < k → lkB G.H G.mark n (G.w p (0 + j)) fr' = true) (fun i _ => K - (intOf i).toNat)
            case atStart => exact ⟨0, rfl, HFK.out, HS4.out, HB4.out, q4, fun j hj => absurd hj (Nat.not_lt_zero _)⟩
            case round =>
              obtain ⟨k, rfl, hkK, hsr, hbr, qr, hall⟩ := hrel
              have HSR : Hid (GSrc G wr) := hsr
              have HBR : Hid (Below w.heap.size w wr) := hbr
              have HAL : Hid (∀ j, j < k → lkB G.H G.mark n (G.w p (0 + j)) fr' = true) := hall
              have HQR : Hid (∀ o, wr.cell? ⟨w.heap.size, o, none⟩ = (#[.slice G.wv G.N G.cap, .slice G.yv G.M G.ycap, .int .i64 G.mark] : Array Value)[o]?) := qr
              obtain ⟨I, hI⟩ : ∃ I : Nat, 0 + k = I := ⟨_, rfl⟩
              have HI : Hid (0 + k = I) := hI
              rw [hI] at hkK ⊢
              clear hsr hbr hall hI
              by_cases hlt : I < K
              · have hlti : (I : Int) < (K : Int) := by omega
                have hcell := HSR.out.at p I (by have := HKL.out; omega)
                have hbig := GE.bigw HSR.out p I
                have hfin : FinW G.H n (G.w p I) := by have := HFR.out k (by have := HI.out; omega); rw [HI.out] at this; exact this
                have HLT : Hid (I < K) := hlt
                obtain ⟨y, hy⟩ : ∃ y, G.w p I = y := ⟨_, rfl⟩
                have HY : Hid (G.w p I = y) := hy
                rw [hy] at hcell hbig hfin
                have HCL : Hid (∀ w', GSrc G w' → Calls Tryz.prog 34 #[.agg #[.slice G.wv G.N G.cap, .slice G.yv G.M G.ycap, .int .i64 G.mark], .int .i64 y, .int .i64 fr'] w' fun e w'' => e = .returned (.bool (lkB G.H G.mark n y fr')) ∧ Below w'.heap.size w' w'') := fun w' h => IH.out y fr' w' hfin hbig h
                obtain ⟨b, hb⟩ : ∃ b, lkB G.H G.mark n y fr' = b := ⟨_, rfl⟩
                rw [hb] at HCL
                have HBB : Hid (lkB G.H G.mark n (G.w p I) fr' = b) := by show _ = _; rw [HY.out]; exact hb
                clear hy hb hbig hfin
                cases b with
                | true =>
                  go_wp2_with (go_at_call 49; refine (specTag_any x _).mono ?_; rintro e w' ⟨rfl, hw'⟩; obtain rfl := hw'.symm; rw [HT.out])
                  go_region_law (go_simp; go_wp2_with (go_at_call 34; refine (HCL.out _ HSR.out.drew).mono ?_; rintro e w5 ⟨rfl, hb5⟩; have H5 : Hid (GSrc G w5 ∧ Below w.heap.size w w5) := ⟨HSR.out.drew.below hb5, HBR.out.drew.trans (hb5.mono HBR.out.drew.size)⟩; have q5 := keep3b HQR.out hb5; clear hb5))
                  all_goals
                    have V1 : IntKind.i64.wrap ((I : Int) + 1) = ((I + 1 : Nat) : Int) := by rw [IntKind.wrap_i64]; omega
                    go_wp2_with fail
                    go_roundw
                    case rel => exact ⟨k + 1, by have := HI.out; congr 1; omega, by have := HI.out; have := HLT.out; omega, H5.out.1, H5.out.2, q5, fun j hj => by
                      by_cases hjk : j < k
                      · exact HAL.out j hjk
                      · have : j = k := by omega
                        subst this
                        rw [HI.out]
                        exact HBB.out⟩
                    case measure => simp [intOf]; have := HLT.out; omega
                | false =>
                  have HEF : Hid (lkB G.H G.mark (n + 1) x fr = false) := by show _ = _; rw [HE.out]; exact HONE.out k (by have := HI.out; omega) (by rw [HI.out]; exact HBB.out)
                  go_wp2_with (go_at_call 49; refine (specTag_any x _).mono ?_; rintro e w' ⟨rfl, hw'⟩; obtain rfl := hw'.symm; rw [HT.out])
                  go_region_law (go_simp; go_wp2_with (go_at_call 34; refine (HCL.out _ HSR.out.drew).mono ?_; rintro e w5 ⟨rfl, hb5⟩; have H5 : Hid (Below w.heap.size w w5) := HBR.out.drew.trans (hb5.mono HBR.out.drew.size); clear hb5))
                  all_goals
                    go_wp2_with fail
                    go_ret
                    exact ⟨ret_bool6 HEF.out.symm, H5.out⟩
              · have hlti : ¬ (I : Int) < (K : Int) := by omega
                have HET : Hid (lkB G.H G.mark (n + 1) x fr = true) := by show _ = _; rw [HE.out]; exact HALL.out (fun j hj => HAL.out j (by have := HI.out; omega))
                go_wp2_with fail
                go_ret
                exact ⟨ret_bool6 HET.out.symm, HBR.out⟩
          · have HT : Hid (tagW x = 4) := ht
            have HFR : Hid (∀ j, f0 + j < K → FinW G.H n (G.w p (f0 + j))) := fun j hj => by
              refine HIN.out _ ?_
              rw [HK.out.prt (by omega)]
              exact List.mem_map.2 ⟨j, List.mem_range.2 (by omega), rfl⟩
            have HALL : Hid ((∀ j, f0 + j < K → lkB G.H G.mark n (G.w p (f0 + j)) fr' = true) → (prts G.H x).all (fun y => lkB G.H G.mark n y fr') = true) := fun h => by
              rw [HK.out.prt (by omega), List.all_eq_true]
              intro y hy
              obtain ⟨j, hj, rfl⟩ := List.mem_map.1 hy
              rw [List.mem_range] at hj
              exact h j (by omega)
            have HONE : Hid (∀ j, f0 + j < K → lkB G.H G.mark n (G.w p (f0 + j)) fr' = false → (prts G.H x).all (fun y => lkB G.H G.mark n y fr') = false) := fun j hj h => by
              rw [HK.out.prt (by omega), List.all_eq_false]
              exact ⟨_, List.mem_map.2 ⟨j, List.mem_range.2 (by omega), rfl⟩, by rw [h]; simp⟩
            have hf0 : f0 ≤ 1 := by omega
            have hKle : K ≤ 41 := HK.out.k9
            have HKL : Hid (K ≤ G.len p) := HK.out.len
            have HFK : Hid (f0 ≤ K) := HK.out.le
            have HF0 : Hid (f0 = 1) := hfz
            subst hfz
            go_wp2_with (go_at_call 49; refine (specTag_any x _).mono ?_; rintro e w' ⟨rfl, hw'⟩; obtain rfl := hw'.symm; rw [HT.out])
            go_loopw [12] (fun i wr => ∃ k : Nat, i = .int .i64 ((1 + k : Nat) : Int) ∧ 1 + k ≤ K ∧ GSrc G wr ∧ Below w.heap.size w wr ∧ (∀ o, wr.cell? ⟨w.heap.size, o, none⟩ = (#[.slice G.wv G.N G.cap, .slice G.yv G.M G.ycap, .int .i64 G.mark] : Array Value)[o]?) ∧ ∀ j, j < k → lkB G.H G.mark n (G.w p (1 + j)) fr' = true) (fun i _ => K - (intOf i).toNat)
            case atStart => exact ⟨0, rfl, HFK.out, HS4.out, HB4.out, q4, fun j hj => absurd hj (Nat.not_lt_zero _)⟩
            case round =>
              obtain ⟨k, rfl, hkK, hsr, hbr, qr, hall⟩ := hrel
              have HSR : Hid (GSrc G wr) := hsr
              have HBR : Hid (Below w.heap.size w wr) := hbr
              have HAL : Hid (∀ j, j < k → lkB G.H G.mark n (G.w p (1 + j)) fr' = true) := hall
              have HQR : Hid (∀ o, wr.cell? ⟨w.heap.size, o, none⟩ = (#[.slice G.wv G.N G.cap, .slice G.yv G.M G.ycap, .int .i64 G.mark] : Array Value)[o]?) := qr
              obtain ⟨I, hI⟩ : ∃ I : Nat, 1 + k = I := ⟨_, rfl⟩
              have HI : Hid (1 + k = I) := hI
              rw [hI] at hkK ⊢
              clear hsr hbr hall hI
              by_cases hlt : I < K
              · have hlti : (I : Int) < (K : Int) := by omega
                have hcell := HSR.out.at p I (by have := HKL.out; omega)
                have hbig := GE.bigw HSR.out p I
                have hfin : FinW G.H n (G.w p I) := by have := HFR.out k (by have := HI.out; omega); rw [HI.out] at this; exact this
                have HLT : Hid (I < K) := hlt
                obtain ⟨y, hy⟩ : ∃ y, G.w p I = y := ⟨_, rfl⟩
                have HY : Hid (G.w p I = y) := hy
                rw [hy] at hcell hbig hfin
                have HCL : Hid (∀ w', GSrc G w' → Calls Tryz.prog 34 #[.agg #[.slice G.wv G.N G.cap, .slice G.yv G.M G.ycap, .int .i64 G.mark], .int .i64 y, .int .i64 fr'] w' fun e w'' => e = .returned (.bool (lkB G.H G.mark n y fr')) ∧ Below w'.heap.size w' w'') := fun w' h => IH.out y fr' w' hfin hbig h
                obtain ⟨b, hb⟩ : ∃ b, lkB G.H G.mark n y fr' = b := ⟨_, rfl⟩
                rw [hb] at HCL
                have HBB : Hid (lkB G.H G.mark n (G.w p I) fr' = b) := by show _ = _; rw [HY.out]; exact hb
                clear hy hb hbig hfin
                cases b with
                | true =>
                  go_wp2_with (go_at_call 49; refine (specTag_any x _).mono ?_; rintro e w' ⟨rfl, hw'⟩; obtain rfl := hw'.symm; rw [HT.out])
                  go_region_law (go_simp; go_wp2_with (go_at_call 34; refine (HCL.out _ HSR.out.drew).mono ?_; rintro e w5 ⟨rfl, hb5⟩; have H5 : Hid (GSrc G w5 ∧ Below w.heap.size w w5) := ⟨HSR.out.drew.below hb5, HBR.out.drew.trans (hb5.mono HBR.out.drew.size)⟩; have q5 := keep3b HQR.out hb5; clear hb5))
                  all_goals
                    have V1 : IntKind.i64.wrap ((I : Int) + 1) = ((I + 1 : Nat) : Int) := by rw [IntKind.wrap_i64]; omega
                    go_wp2_with fail
                    go_roundw
                    case rel => exact ⟨k + 1, by have := HI.out; congr 1; omega, by have := HI.out; have := HLT.out; omega, H5.out.1, H5.out.2, q5, fun j hj => by
                      by_cases hjk : j < k
                      · exact HAL.out j hjk
                      · have : j = k := by omega
                        subst this
                        rw [HI.out]
                        exact HBB.out⟩
                    case measure => simp [intOf]; have := HLT.out; omega
                | false =>
                  have HEF : Hid (lkB G.H G.mark (n + 1) x fr = false) := by show _ = _; rw [HE.out]; exact HONE.out k (by have := HI.out; omega) (by rw [HI.out]; exact HBB.out)
                  go_wp2_with (go_at_call 49; refine (specTag_any x _).mono ?_; rintro e w' ⟨rfl, hw'⟩; obtain rfl := hw'.symm; rw [HT.out])
                  go_region_law (go_simp; go_wp2_with (go_at_call 34; refine (HCL.out _ HSR.out.drew).mono ?_; rintro e w5 ⟨rfl, hb5⟩; have H5 : Hid (Below w.heap.size w w5) := HBR.out.drew.trans (hb5.mono HBR.out.drew.size); clear hb5))
                  all_goals
                    go_wp2_with fail
                    go_ret
                    exact ⟨ret_bool6 HEF.out.symm, H5.out⟩
              · have hlti : ¬ (I : Int) < (K : Int) := by omega
                have HET : Hid (lkB G.H G.mark (n + 1) x fr = true) := by show _ = _; rw [HE.out]; exact HALL.out (fun j hj => HAL.out j (by have := HI.out; omega))
                go_wp2_with fail
                go_ret
                exact ⟨ret_bool6 HET.out.symm, HBR.out⟩
          · have HT : Hid (tagW x = 6) := ht
            have HET : Hid (lkB G.H G.mark (n + 1) x fr = true) := by show _ = _; rw [HE.out, HK.out.prb ht]; rfl
            have hK1 : 1 ≤ K := HK.out.k1
            clear ht
            go_wp2_with (go_at_call 49; refine (specTag_any x _).mono ?_; rintro e w' ⟨rfl, hw'⟩; obtain rfl := hw'.symm; rw [HT.out])
            go_loopw [12] (fun i wr => i = .int .i64 1 ∧ wr = w4) (fun _ _ => 0)
            case atStart => exact ⟨rfl, rfl⟩
            case round =>
              obtain ⟨rfl, rfl⟩ := hrel
              by_cases hlt : (1 : Int) < (K : Int)
              · go_wp2_with (go_at_call 49; refine (specTag_any x _).mono ?_; rintro e w' ⟨rfl, hw'⟩; obtain rfl := hw'.symm; rw [HT.out])
                go_ret
                exact ⟨ret_bool6 HET.out.symm, HB4.out⟩
              · go_wp2_with fail
                go_ret
                exact ⟨ret_bool6 HET.out.symm, HB4.out⟩
theorem lkT_all (G : GE) (hm0 : 0 ≤ G.mark) (hm1 : G.mark ≤ 1000) : ∀ n, LkT G n
  | 0 => lkT_of G hm0 hm1 0 (fun m e => by omega)
  | n + 1 => lkT_of G hm0 hm1 (n + 1) (fun m e => by
      have : m = n := by omega
      subst this
      exact lkT_all G hm0 hm1 m)
end Go.Proofs.YtjjmikfbongccaaGreatDoor.Gn

namespace Go.Proofs.YtjjmikfbongccaaGreatDoor.Gn
open Go.RowKit
set_option linter.unusedVariables false

theorem implLeads_any (x : Int) (hx : x ≤ 9223372036854775807) (w : World) : Calls Tryz.prog 75 #[.int .i64 x] w fun e w' => e = .returned (.bool (leadsW x)) ∧ w' = w := by
  have HX : Hid (x ≤ 9223372036854775807) := hx
  clear hx
  go_enter Tryz.func75, Tryz.ntmps75
  go_wp2_with (go_at_call 92; refine (implTag_any x HX.out _).mono ?_; rintro e w' ⟨rfl, rfl⟩)
  go_ret
  exact ⟨ret_bool6 (by simp [leadsW]), rfl⟩
set_option maxRecDepth 100000 in
theorem implAge_any (G : GE) (x : Int) (hx : x ≤ 9223372036854775807) (w : World) : Calls Tryz.prog 76 #[.agg #[.slice G.wv G.N G.cap, .slice G.yv G.M G.ycap, .int .i64 G.mark], .int .i64 x] w fun e w' => e = .returned (.int .i64 (agW G.mark x : Nat)) ∧ Below w.heap.size w w' := by
  have HX : Hid (x ≤ 9223372036854775807) := hx
  have hv := valW_ge x
  have hv1 : valW x ≤ 9223372036854775000 := by unfold valW; split <;> omega
  have HB1 : Hid (∀ o, Below w.heap.size w (w.alloc o)) := fun o => (Below.refl _ _).alloc (Nat.le_refl _) o
  obtain ⟨v, hvv⟩ : ∃ v, valW x = v := ⟨_, rfl⟩
  have HV : Hid (valW x = v) := hvv
  have HA : Hid (agW G.mark x = if v < 100000 then 0 else if v - 100000 < G.mark then 1 else 2) := by show _ = _; unfold agW; rw [hvv]
  rw [hvv] at hv hv1
  clear hx hvv
  have V1 : IntKind.i64.wrap (v - 100000) = v - 100000 := by rw [IntKind.wrap_i64]; omega
  by_cases h1 : v < 100000
  · have HE : Hid (agW G.mark x = 0) := by show _ = _; rw [HA.out, if_pos h1]
    go_enter Tryz.func76, Tryz.ntmps76
    go_wp2_with (go_at_call 93; refine (implVal_any x HX.out _).mono ?_; rintro e w' ⟨rfl, rfl⟩; rw [HV.out])
    go_ret
    exact ⟨by rw [HE.out]; rfl, HB1.out _⟩
  · by_cases h2 : v - 100000 < G.mark
    · have HE : Hid (agW G.mark x = 1) := by show _ = _; rw [HA.out, if_neg h1, if_pos h2]
      go_enter Tryz.func76, Tryz.ntmps76
      go_wp2_with (go_at_call 93; refine (implVal_any x HX.out _).mono ?_; rintro e w' ⟨rfl, rfl⟩; rw [HV.out])
      go_ret
      exact ⟨by rw [HE.out]; rfl, HB1.out _⟩
    · have HE : Hid (agW G.mark x = 2) := by show _ = _; rw [HA.out, if_neg h1, if_neg h2]
      go_enter Tryz.func76, Tryz.ntmps76
      go_wp2_with (go_at_call 93; refine (implVal_any x HX.out _).mono ?_; rintro e w' ⟨rfl, rfl⟩; rw [HV.out])
      go_ret
      exact ⟨by rw [HE.out]; rfl, HB1.out _⟩
set_option maxRecDepth 100000 in
theorem bare_any (x : Int) (a : Option Addr) (K c : Nat) (hx : x ≤ 9223372036854775807) (w : World) : Calls Tryz.prog 91 #[.agg #[.int .i64 x, .slice a K c]] w fun e w' => e = .returned (.int .i64 (if tagW x = 4 then 1 else if tagW x = 5 then 0 else (K : Int))) ∧ Below w.heap.size w w' := by
  have HX : Hid (x ≤ 9223372036854775807) := hx
  have HB1 : Hid (∀ o, Below w.heap.size w (w.alloc o)) := fun o => (Below.refl _ _).alloc (Nat.le_refl _) o
  clear hx
  obtain ⟨t, ht⟩ : ∃ t, tagW x = t := ⟨_, rfl⟩
  have HT : Hid (tagW x = t) := ht
  rw [ht]
  clear ht
  by_cases h4 : t = 4
  · subst h4
    go_enter Tryz.func91, Tryz.ntmps91
    go_wp2_with (go_at_call 92; refine (implTag_any x HX.out _).mono ?_; rintro e w' ⟨rfl, rfl⟩; rw [HT.out])
    go_ret
    exact ⟨rfl, HB1.out _⟩
  · by_cases h5 : t = 5
    · subst h5
      go_enter Tryz.func91, Tryz.ntmps91
      go_wp2_with (go_at_call 92; refine (implTag_any x HX.out _).mono ?_; rintro e w' ⟨rfl, rfl⟩; rw [HT.out])
      go_ret
      exact ⟨rfl, HB1.out _⟩
    · have k4 : (t == 4) = false := by simpa using h4
      have k5 : (t == 5) = false := by simpa using h5
      go_enter Tryz.func91, Tryz.ntmps91
      go_wp2_with (go_at_call 92; refine (implTag_any x HX.out _).mono ?_; rintro e w' ⟨rfl, rfl⟩; rw [HT.out])
      go_ret
      exact ⟨rfl, HB1.out _⟩
theorem two_set0 {w3 : World} {X : Nat} {u0 u1 : Value} (r3 : ∀ o, w3.cell? ⟨X, o, none⟩ = (#[u0, u1] : Array Value)[o]?) {a b : Value} : ((w3.setCell ⟨X, 0, none⟩ a).setCell ⟨X, 1, none⟩ b).cell? ⟨X, 0, none⟩ = some a := by
  rw [World.cell?_setCell_other (h := fun q => by simp at q)]
  exact World.cell?_setCell_same _ _ _ (r3 0)
theorem two_set1 {w3 : World} {X : Nat} {u0 u1 : Value} (r3 : ∀ o, w3.cell? ⟨X, o, none⟩ = (#[u0, u1] : Array Value)[o]?) {a b : Value} : ((w3.setCell ⟨X, 0, none⟩ a).setCell ⟨X, 1, none⟩ b).cell? ⟨X, 1, none⟩ = some b := by
  have h1 : (w3.setCell ⟨X, 0, none⟩ a).cell? ⟨X, 1, none⟩ = some u1 := by
    rw [World.cell?_setCell_other (h := fun q => by simp at q)]
    exact r3 1
  exact World.cell?_setCell_same _ _ _ h1
theorem keep2n {wr w5 : World} {a b : Value} {t : TypeId} (hb : Below (wr.alloc (.cells #[a, b] t)).drew.heap.size (wr.alloc (.cells #[a, b] t)).drew w5) : ∀ o, w5.cell? ⟨wr.heap.size, o, none⟩ = (#[a, b] : Array Value)[o]? := fun o => by
  have hs : (wr.alloc (.cells #[a, b] t)).drew.heap.size = wr.heap.size + 1 := World.size_alloc _ _
  rw [hb.cell (p := ⟨wr.heap.size, o, none⟩) (by show wr.heap.size < _; omega)]
  exact World.cell?_alloc_new wr _ _ o
theorem ret_agg {x : Int} {a : Option Addr} {n n' c : Nat} (h : n = n') : Ending.returned (.agg #[.int .i64 x, .slice a n c]) = .returned (.agg #[.int .i64 x, .slice a n' c]) := by rw [h]
set_option maxHeartbeats 4000000 in
set_option maxRecDepth 100000 in
theorem thing_any {G : GE} {x : Int} {p K f0 : Nat} (hk : Kin G x p K f0) (hx : x ≤ 9223372036854775807) (w : World) (hs : GSrc G w) :
    Calls Tryz.prog 78 #[.agg #[.slice G.wv G.N G.cap, .slice G.yv G.M G.ycap, .int .i64 G.mark], .int .i64 x] w fun e w' => ∃ c, e = .returned (.agg #[.int .i64 x, .slice (some ⟨G.sb p, G.so p, none⟩) K c]) ∧ K ≤ c ∧ Below w.heap.size w w' := by
  have HX : Hid (x ≤ 9223372036854775807) := hx
  have HK : Hid (Kin G x p K f0) := hk
  have HS : Hid (GSrc G w) := hs
  have hN := hs.n
  have hM := hs.m
  have hlen := hk.len
  have hK1 := hk.k1
  have hp4 : p ≤ 4000001 := by unfold GE.len at hlen; split at hlen <;> omega
  have HP : Hid (p ≤ 4000001) := hp4
  obtain ⟨V, hV⟩ : ∃ V : Int, V = (p : Int) := ⟨_, rfl⟩
  have HVP : Hid (V = (p : Int)) := hV
  have HVAL : Hid (valW x = V) := by show _ = _; rw [hk.val, hV]
  obtain ⟨L, hL⟩ : ∃ L, G.len p = L := ⟨_, rfl⟩
  have HLL : Hid (K ≤ L ∧ L ≤ 1048576) := by
    refine ⟨by omega, ?_⟩
    rw [← hL]; unfold GE.len; split <;> omega
  have HGT : Hid (∀ (gb : Nat) (w' : World), (∀ o, w'.cell? ⟨gb, o, none⟩ = (#[.slice G.wv G.N G.cap, .slice G.yv G.M G.ycap, .int .i64 G.mark] : Array Value)[o]?) → Calls Tryz.prog 72 #[.int .i64 V, .pointer (some ⟨gb, 0, none⟩)] w' fun e w'' => ∃ c, e = .returned (.slice (some ⟨G.sb p, G.so p, none⟩) L c) ∧ L ≤ c ∧ w'' = w') := fun gb w' hq => by
    rw [HVP.out]
    refine (gensTells G.wv G.b G.o G.N G.cap G.yv G.yb G.yo G.M G.ycap p gb HS.out.ol HS.out.yl HS.out.n HS.out.m HP.out w' (hq 0) (hq 1)).mono ?_
    rintro e w'' ⟨a, c, rfl, ha, hc, rfl⟩
    have e1 : (if p < 100000 then G.N - p else G.M - (p - 100000)) = L := hL
    rw [e1] at ha hc ⊢
    rw [ha (by have := HLL.out; omega)]
    exact ⟨c, rfl, hc, rfl⟩
  have hbw : Below w.heap.size w ((w.alloc (.cells #[.slice G.wv G.N G.cap, .slice G.yv G.M G.ycap, .int .i64 G.mark] 38)).alloc (.cells #[.int .i64 0, .slice none 0 0] 112)) := ((Below.refl _ _).alloc (Nat.le_refl _) _).alloc (by rw [World.size_alloc]; omega) _
  have HBW : Hid (Below w.heap.size w ((w.alloc (.cells #[.slice G.wv G.N G.cap, .slice G.yv G.M G.ycap, .int .i64 G.mark] 38)).alloc (.cells #[.int .i64 0, .slice none 0 0] 112))) := hbw
  clear hx hk hs hN hM hlen hK1 hp4 hV hL hbw
  go_enter Tryz.func78, Tryz.ntmps78
  go_wp2_with fail
  generalize hW2 : (w.alloc (.cells #[.slice G.wv G.N G.cap, .slice G.yv G.M G.ycap, .int .i64 G.mark] 38)).alloc (.cells #[.int .i64 0, .slice none 0 0] 112) = W2
  have hz2 : W2.heap.size = w.heap.size + 1 + 1 := by rw [← hW2]; simp
  have r2 : ∀ o, W2.cell? ⟨w.heap.size + 1, o, none⟩ = (#[.int .i64 0, .slice none 0 0] : Array Value)[o]? := fun o => by
    rw [← hW2]
    have h := World.cell?_alloc_new (w.alloc (.cells #[.slice G.wv G.N G.cap, .slice G.yv G.M G.ycap, .int .i64 G.mark] 38)) #[.int .i64 0, .slice none 0 0] 112 o
    rw [World.size_alloc] at h
    exact h
  have f2 : ∀ o, W2.frozen? ⟨w.heap.size + 1, o, none⟩ = false := fun o => by
    rw [← hW2]
    have h := World.frozen?_alloc_new (w.alloc (.cells #[.slice G.wv G.N G.cap, .slice G.yv G.M G.ycap, .int .i64 G.mark] 38)) #[.int .i64 0, .slice none 0 0] 112 o
    rw [World.size_alloc] at h
    exact h
  rw [hW2] at HBW
  clear hW2
  refine (gensFrom_any _ _ _ _ _ _ _ _).mono ?_
  rintro e w3 ⟨rfl, hw3⟩
  have q3 : ∀ o, w3.cell? ⟨W2.heap.size, o, none⟩ = (#[.slice G.wv G.N G.cap, .slice G.yv G.M G.ycap, .int .i64 G.mark] : Array Value)[o]? := fun o => by rw [hw3]; exact World.cell?_alloc_new W2 _ _ o
  have r3 : ∀ o, w3.cell? ⟨w.heap.size + 1, o, none⟩ = (#[.int .i64 0, .slice none 0 0] : Array Value)[o]? := fun o => by rw [hw3, World.cell?_alloc_lt (h := by show w.heap.size + 1 < _; omega)]; exact r2 o
  have f3 : ∀ o, w3.frozen? ⟨w.heap.size + 1, o, none⟩ = false := fun o => by rw [hw3, World.frozen?_alloc_old (h := by show w.heap.size + 1 ≠ _; omega)]; exact f2 o
  have hb3 : Below w.heap.size w w3 := by rw [hw3]; exact HBW.out.alloc HBW.out.size _
  have HB3 : Hid (Below w.heap.size w w3) := hb3
  have HQ3 : Hid (∀ o, w3.cell? ⟨W2.heap.size, o, none⟩ = (#[.slice G.wv G.N G.cap, .slice G.yv G.M G.ycap, .int .i64 G.mark] : Array Value)[o]?) := q3
  have HS3 : Hid (GSrc G w3) := HS.out.below hb3
  clear hw3 r2 f2 hb3 HBW hz2 q3
  go_wp2_with (first
    | (go_at_call 93; refine (implVal_any x HX.out _).mono ?_; rintro e w' ⟨rfl, hw'⟩; obtain rfl := hw'.symm; rw [HVAL.out])
    | (go_at_call 72; refine (HGT.out _ _ HQ3.out).mono ?_; rintro e w' ⟨c, rfl, hc, hw'⟩; obtain rfl := hw'.symm; have HC : Hid (L ≤ c) := hc; clear hc)
    | fail)
  rcases HK.out.tag with ⟨ht, _⟩ | ⟨ht, _⟩ | ⟨ht, _⟩
  · have hK2 : K = 2 := by
      have h1 := HK.out.sz
      unfold sz at h1
      rw [if_pos ht] at h1
      omega
    have HT : Hid (tagW x = 5) := ht
    have hkc : 2 ≤ c := by have := HLL.out; have := HC.out; omega
    have hkci : (2 : Int) ≤ (c : Int) := by omega
    have HKC : Hid (2 ≤ c) := hkc
    subst hK2
    clear ht
    go_wp2_with (go_at_call 92; refine (implTag_any x HX.out _).mono ?_; rintro e w' ⟨rfl, hw'⟩; obtain rfl := hw'.symm; rw [HT.out])
    have hfin : ∃ c', Ending.returned (.agg #[.int .i64 x, .slice (some ⟨G.sb p, G.so p, none⟩) 2 c]) = .returned (.agg #[.int .i64 x, .slice (some ⟨G.sb p, G.so p, none⟩) 2 c']) ∧ 2 ≤ c' ∧ Below w.heap.size w ((w3.setCell ⟨w.heap.size + 1, 0, none⟩ (.int .i64 x)).setCell ⟨w.heap.size + 1, 1, none⟩ (.slice (some ⟨G.sb p, G.so p, none⟩) 2 c)) := ⟨c, rfl, HKC.out, (HB3.out.setCell (p := ⟨w.heap.size + 1, 0, none⟩) (by show _ ≤ w.heap.size + 1; omega) _).setCell (p := ⟨w.heap.size + 1, 1, none⟩) (by show _ ≤ w.heap.size + 1; omega) _⟩
    exact bodyPost_ret (v := .agg #[.int .i64 x, .slice (some ⟨G.sb p, G.so p, none⟩) 2 c]) (by simp [results, Tryz.results78, go_sem, two_set0 r3, two_set1 r3]) rfl hfin
  · have hcell := HS3.out.at p 0 (by have := HK.out.len; have := HK.out.k1; omega)
    rw [HK.out.cw (by rw [ht]; decide), Nat.add_zero] at hcell
    have HT : Hid (tagW x = 4) := ht
    have hK41 := HK.out.k9
    have hK1 := HK.out.k1
    have V1 : IntKind.i64.wrap (1 + ((K : Int) - 1)) = (K : Int) := by rw [IntKind.wrap_i64]; omega
    have hkc : K ≤ c := by have := HLL.out; have := HC.out; omega
    have hkci : (K : Int) ≤ (c : Int) := by omega
    have hL0 : (0 : Int) < (L : Int) := by have := HLL.out; omega
    have HKC : Hid (K ≤ c) := hkc
    obtain ⟨y, hy⟩ : ∃ y : Int, (K : Int) - 1 = y := ⟨_, rfl⟩
    rw [hy] at hcell V1
    clear ht hy
    go_wp2_with (go_at_call 92; refine (implTag_any x HX.out _).mono ?_; rintro e w' ⟨rfl, hw'⟩; obtain rfl := hw'.symm; rw [HT.out])
    have hfin : ∃ c', Ending.returned (.agg #[.int .i64 x, .slice (some ⟨G.sb p, G.so p, none⟩) K c]) = .returned (.agg #[.int .i64 x, .slice (some ⟨G.sb p, G.so p, none⟩) K c']) ∧ K ≤ c' ∧ Below w.heap.size w ((w3.setCell ⟨w.heap.size + 1, 0, none⟩ (.int .i64 x)).setCell ⟨w.heap.size + 1, 1, none⟩ (.slice (some ⟨G.sb p, G.so p, none⟩) K c)) := ⟨c, rfl, HKC.out, (HB3.out.setCell (p := ⟨w.heap.size + 1, 0, none⟩) (by show _ ≤ w.heap.size + 1; omega) _).setCell (p := ⟨w.heap.size + 1, 1, none⟩) (by show _ ≤ w.heap.size + 1; omega) _⟩
    exact bodyPost_ret (v := .agg #[.int .i64 x, .slice (some ⟨G.sb p, G.so p, none⟩) K c]) (by simp [results, Tryz.results78, go_sem, two_set0 r3, two_set1 r3]) rfl hfin
  · have hcell := HS3.out.at p 0 (by have := HK.out.len; have := HK.out.k1; omega)
    rw [HK.out.cw (by rw [ht]; decide), Nat.add_zero] at hcell
    have HT : Hid (tagW x = 6) := ht
    have hK41 := HK.out.k9
    have hK1 := HK.out.k1
    have V1 : IntKind.i64.wrap (1 + ((K : Int) - 1)) = (K : Int) := by rw [IntKind.wrap_i64]; omega
    have hkc : K ≤ c := by have := HLL.out; have := HC.out; omega
    have hkci : (K : Int) ≤ (c : Int) := by omega
    have hL0 : (0 : Int) < (L : Int) := by have := HLL.out; omega
    have HKC : Hid (K ≤ c) := hkc
    obtain ⟨y, hy⟩ : ∃ y : Int, (K : Int) - 1 = y := ⟨_, rfl⟩
    rw [hy] at hcell V1
    clear ht hy
    go_wp2_with (go_at_call 92; refine (implTag_any x HX.out _).mono ?_; rintro e w' ⟨rfl, hw'⟩; obtain rfl := hw'.symm; rw [HT.out])
    have hfin : ∃ c', Ending.returned (.agg #[.int .i64 x, .slice (some ⟨G.sb p, G.so p, none⟩) K c]) = .returned (.agg #[.int .i64 x, .slice (some ⟨G.sb p, G.so p, none⟩) K c']) ∧ K ≤ c' ∧ Below w.heap.size w ((w3.setCell ⟨w.heap.size + 1, 0, none⟩ (.int .i64 x)).setCell ⟨w.heap.size + 1, 1, none⟩ (.slice (some ⟨G.sb p, G.so p, none⟩) K c)) := ⟨c, rfl, HKC.out, (HB3.out.setCell (p := ⟨w.heap.size + 1, 0, none⟩) (by show _ ≤ w.heap.size + 1; omega) _).setCell (p := ⟨w.heap.size + 1, 1, none⟩) (by show _ ≤ w.heap.size + 1; omega) _⟩
    exact bodyPost_ret (v := .agg #[.int .i64 x, .slice (some ⟨G.sb p, G.so p, none⟩) K c]) (by simp [results, Tryz.results78, go_sem, two_set0 r3, two_set1 r3]) rfl hfin
/-- Its parts: how many, and from where on. -/
def npr (x : Int) (K : Nat) : Nat := if tagW x = 4 then K - 1 else if tagW x = 5 then K else 0
def PtsP (x : Int) (b o K : Nat) (w : World) (e : Ending) (w' : World) : Prop := ∃ a c', e = .returned (.slice a (npr x K) c') ∧ (npr x K ≠ 0 → a = some ⟨b, o + (if tagW x = 4 then 1 else 0), none⟩) ∧ Below w.heap.size w w'
set_option maxHeartbeats 4000000 in
set_option maxRecDepth 100000 in
theorem parts_any (x : Int) (b o K c : Nat) (hx : x ≤ 9223372036854775807) (hK : 1 ≤ K) (hK2 : K ≤ 41) (hc : K ≤ c) (w : World) :
    Calls Tryz.prog 74 #[.agg #[.int .i64 x, .slice (some ⟨b, o, none⟩) K c]] w (PtsP x b o K w) := by
  have HX : Hid (x ≤ 9223372036854775807) := hx
  have HB1 : Hid (Below w.heap.size w (w.alloc (.cells #[.int .i64 x, .slice (some ⟨b, o, none⟩) K c] 112))) := (Below.refl _ _).alloc (Nat.le_refl _) _
  have hci : (K : Int) ≤ (c : Int) := by omega
  clear hx
  by_cases h4 : tagW x = 4
  · have HN : Hid (npr x K = K - 1 ∧ tagW x = 4) := by unfold npr; rw [if_pos h4]; exact ⟨rfl, h4⟩
    have HBA : Hid (∀ w', Calls Tryz.prog 91 #[.agg #[.int .i64 x, .slice (some ⟨b, o, none⟩) K c]] w' fun e w'' => e = .returned (.int .i64 1) ∧ Below w'.heap.size w' w'') := fun w' => by
      have := bare_any x (some ⟨b, o, none⟩) K c HX.out w'
      rw [if_pos h4] at this
      exact this
    clear h4
    by_cases hc1 : c = 1
    · have hK1 : K = 1 := by omega
      subst hK1
      subst hc1
      go_enter Tryz.func74, Tryz.ntmps74
      go_wp2_with fail
      go_region_law (go_simp; go_wp2_with (go_at_call 91; refine (HBA.out _).mono ?_; rintro e w5 ⟨rfl, hb5⟩; have HB5 : Hid (Below w.heap.size w w5) := HB1.out.drew.trans (hb5.mono HB1.out.drew.size); have t5 := keep2n hb5; clear hb5))
      all_goals
        go_wp2_with fail
        go_ret
        exact ⟨_, _, ret_sl (by rw [HN.out.1]) rfl, fun h => absurd HN.out.1 h, HB5.out⟩
    · have hK1i : (1 : Int) ≤ (K : Int) := by omega
      go_enter Tryz.func74, Tryz.ntmps74
      go_wp2_with fail
      go_region_law (go_simp; go_wp2_with (go_at_call 91; refine (HBA.out _).mono ?_; rintro e w5 ⟨rfl, hb5⟩; have HB5 : Hid (Below w.heap.size w w5) := HB1.out.drew.trans (hb5.mono HB1.out.drew.size); have t5 := keep2n hb5; clear hb5))
      all_goals
        go_wp2_with fail
        go_ret
        exact ⟨_, _, ret_sl (by rw [HN.out.1]) rfl, fun _ => (by rw [if_pos HN.out.2]), HB5.out⟩
  · by_cases h5 : tagW x = 5
    · have HN : Hid (npr x K = K ∧ tagW x ≠ 4) := by unfold npr; rw [if_neg h4, if_pos h5]; exact ⟨rfl, h4⟩
      have HBA : Hid (∀ w', Calls Tryz.prog 91 #[.agg #[.int .i64 x, .slice (some ⟨b, o, none⟩) K c]] w' fun e w'' => e = .returned (.int .i64 0) ∧ Below w'.heap.size w' w'') := fun w' => by
        have := bare_any x (some ⟨b, o, none⟩) K c HX.out w'
        rw [if_neg h4, if_pos h5] at this
        exact this
      have hc0 : ¬ c = 0 := by omega
      clear h4 h5
      go_enter Tryz.func74, Tryz.ntmps74
      go_wp2_with fail
      go_region_law (go_simp; go_wp2_with (go_at_call 91; refine (HBA.out _).mono ?_; rintro e w5 ⟨rfl, hb5⟩; have HB5 : Hid (Below w.heap.size w w5) := HB1.out.drew.trans (hb5.mono HB1.out.drew.size); have t5 := keep2n hb5; clear hb5))
      all_goals
        go_wp2_with fail
        go_ret
        exact ⟨_, _, ret_sl (by rw [HN.out.1]) rfl, fun _ => (by rw [if_neg HN.out.2]; rfl), HB5.out⟩
    · have HN : Hid (npr x K = 0) := by unfold npr; rw [if_neg h4, if_neg h5]; rfl
      have HBA : Hid (∀ w', Calls Tryz.prog 91 #[.agg #[.int .i64 x, .slice (some ⟨b, o, none⟩) K c]] w' fun e w'' => e = .returned (.int .i64 K) ∧ Below w'.heap.size w' w'') := fun w' => by
        have := bare_any x (some ⟨b, o, none⟩) K c HX.out w'
        rw [if_neg h4, if_neg h5] at this
        exact this
      clear h4 h5
      by_cases hcK : c = K
      · subst hcK
        go_enter Tryz.func74, Tryz.ntmps74
        go_wp2_with fail
        go_region_law (go_simp; go_wp2_with (go_at_call 91; refine (HBA.out _).mono ?_; rintro e w5 ⟨rfl, hb5⟩; have HB5 : Hid (Below w.heap.size w w5) := HB1.out.drew.trans (hb5.mono HB1.out.drew.size); have t5 := keep2n hb5; clear hb5))
        all_goals
          go_wp2_with fail
          go_ret
          exact ⟨_, _, ret_sl (by rw [HN.out]) rfl, fun h => absurd HN.out h, HB5.out⟩
      · have hcK2 : ¬ K = c := fun e => hcK e.symm
        go_enter Tryz.func74, Tryz.ntmps74
        go_wp2_with fail
        go_region_law (go_simp; go_wp2_with (go_at_call 91; refine (HBA.out _).mono ?_; rintro e w5 ⟨rfl, hb5⟩; have HB5 : Hid (Below w.heap.size w w5) := HB1.out.drew.trans (hb5.mono HB1.out.drew.size); have t5 := keep2n hb5; clear hb5))
        all_goals
          go_wp2_with fail
          go_ret
          exact ⟨_, _, ret_sl (by rw [HN.out]) rfl, fun h => absurd HN.out h, HB5.out⟩
end Go.Proofs.YtjjmikfbongccaaGreatDoor.Gn
namespace Go.Proofs.YtjjmikfbongccaaGreatDoor.Gn
open Go.RowKit Go.Maps
set_option linter.unusedVariables false

theorem keyInt : Keyed Tryz.prog 3 := int_keyed Tryz.underlying3
theorem wf_i64 {x : Int} (h0 : 0 ≤ x) (h1 : x ≤ 9223372036854775807) : (Lit.int .i64 x).wf = true := by
  have e1 : IntKind.i64.min = -9223372036854775808 := by decide
  have e2 : IntKind.i64.max = 9223372036854775807 := by decide
  show (decide (IntKind.i64.min ≤ x) && decide (x ≤ IntKind.i64.max)) = true
  rw [e1, e2, Bool.and_eq_true]
  exact ⟨decide_eq_true (by omega), decide_eq_true h1⟩
theorem ownsRow_set_other {w : World} {base : Nat} {e : TypeId} {size n : Nat} {v : Value} {xs : List Value} (h : w.ownsRow base e size v n xs) {b o : Nat} (hb : v.ownBlock ≠ some b) (u : Value) : (w.setCell ⟨b, o, none⟩ u).ownsRow base e size v n xs := by
  obtain ⟨h1, h2⟩ := h
  refine ⟨h1, ?_⟩
  rcases h2 with h2 | ⟨g', cap', cur, hv, hg, hh, r⟩
  · exact Or.inl h2
  · refine Or.inr ⟨g', cap', cur, hv, hg, ?_, r⟩
    rw [Below.heap_setCell _ _ _ _ (by show g' ≠ b; intro q; subst q; exact hb (by rw [hv]; rfl))]
    exact hh
theorem key_of {x : Int} (h0 : 0 ≤ x) (h1 : x ≤ 9223372036854775807) : keyOf Tryz.prog 3 (.int .i64 x) = some (.int .i64 x) := keyOf_int_mk Tryz.underlying3 (wf_i64 h0 h1)
structure Th where
  x : Int
  p : Nat
  K : Nat
  f0 : Nat
  c : Nat
def Th.cells (G : GE) (t : Th) : List Value := [.int .i64 t.x, .slice (some ⟨G.sb t.p, G.so t.p, none⟩) t.K t.c]
def thCells (G : GE) (l : List Th) : List Value := l.flatMap (Th.cells G)
theorem thCells_snoc (G : GE) (l : List Th) (t : Th) : thCells G (l ++ [t]) = thCells G l ++ t.cells G := by simp [thCells]
structure Th.ok (G : GE) (t : Th) : Prop where
  kin : Kin G t.x t.p t.K t.f0
  le : t.K ≤ t.c
  nn : 0 ≤ t.x
  big : t.x ≤ 9223372036854775807
  ld : leadsW t.x = true
structure MB where
  m : Nat
  g : Nat
  l : Nat
  f : Nat
  mb : Nat
/-- What the closure has in hand: S is in the map, ths in the list. -/
structure MS (G : GE) (w0 : World) (b : MB) (w : World) (S : List Int) (ths : List Th) (lv : Value) : Prop where
  be : Below w0.heap.size w0 w
  cm : w.cell? ⟨b.m, 0, none⟩ = some (.map (some b.mb))
  cg : ∀ o, w.cell? ⟨b.g, o, none⟩ = (#[.slice G.wv G.N G.cap, .slice G.yv G.M G.ycap, .int .i64 G.mark] : Array Value)[o]?
  cl : w.cell? ⟨b.l, 0, none⟩ = some lv
  fl : w.frozen? ⟨b.l, 0, none⟩ = false
  cf : w.cell? ⟨b.f, 0, none⟩ = some (.func (.func 77) #[] #[.pointer (some ⟨b.m, 0, none⟩), .pointer (some ⟨b.g, 0, none⟩), .pointer (some ⟨b.l, 0, none⟩), .pointer (some ⟨b.f, 0, none⟩)])
  mp : ∃ D : DataW Unit, w.ownsMap Tryz.prog 3 unitElem b.mb S.length D ∧ ∀ x, 0 ≤ x → x ≤ 9223372036854775807 → Maps.has D (.int .i64 x) = decide (x ∈ S)
  row : w.ownsRow w0.heap.size 112 2 lv ths.length (thCells G ths)
  ok : ∀ t ∈ ths, Th.ok G t
  lom : w0.heap.size ≤ b.m
  log : w0.heap.size ≤ b.g
  lol : w0.heap.size ≤ b.l
  lof : w0.heap.size ≤ b.f
  lob : w0.heap.size ≤ b.mb
  d1 : b.mb ≠ b.m ∧ b.mb ≠ b.g ∧ b.mb ≠ b.l ∧ b.mb ≠ b.f
  d2 : b.l ≠ b.m ∧ b.l ≠ b.g ∧ b.l ≠ b.f
  d3 : ∀ g, lv.ownBlock = some g → g ≠ b.m ∧ g ≠ b.g ∧ g ≠ b.l ∧ g ≠ b.f ∧ g ≠ b.mb
theorem kc {w w' : World} {row : Option Nat} (hg : w.grownBy w' row) {k o : Nat} {v : Value} (hc : w.cell? ⟨k, o, none⟩ = some v) (hn : some k ≠ row) : w'.cell? ⟨k, o, none⟩ = some v := by
  have hl := World.block_lt_of_cell? w _ hc
  rw [World.cell?_of_block (w := w) (hg.block k hl hn)]; exact hc
theorem kc3 {w w' : World} {row : Option Nat} (hg : w.grownBy w' row) {k : Nat} {x y z : Value} (hc : ∀ o, w.cell? ⟨k, o, none⟩ = (#[x, y, z] : Array Value)[o]?) (hn : some k ≠ row) : ∀ o, w'.cell? ⟨k, o, none⟩ = (#[x, y, z] : Array Value)[o]? := fun o => by
  have h0 : w.cell? ⟨k, 0, none⟩ = some x := hc 0
  rw [World.cell?_of_block (w := w) (hg.block k (World.block_lt_of_cell? w _ h0) hn)]; exact hc o
theorem kf {w w' : World} {row : Option Nat} (hg : w.grownBy w' row) {k o : Nat} (hl : k < w.heap.size) (hf : w.frozen? ⟨k, o, none⟩ = false) (hn : some k ≠ row) : w'.frozen? ⟨k, o, none⟩ = false := by
  rw [World.frozen?_of_block (w := w) (hg.block k hl hn)]; exact hf
/-- Whatever makes new memory alone. -/
theorem MS.call {G : GE} {w0 : World} {b : MB} {w w' : World} {S : List Int} {ths : List Th} {lv : Value} (h : MS G w0 b w S ths lv) (hb : Below w.heap.size w w') : MS G w0 b w' S ths lv := by
  have hg : w.grownBy w' none := ⟨hb.os, hb.tape, hb.output, hb.size, fun k hk _ => hb.block k hk⟩
  obtain ⟨D, hD, hS⟩ := h.mp
  exact ⟨h.be.trans (hb.mono h.be.size), kc hg h.cm (by simp), kc3 hg h.cg (by simp), kc hg h.cl (by simp), kf hg (World.block_lt_of_cell? w _ h.cl) h.fl (by simp), kc hg h.cf (by simp), ⟨D, hD.kept hg (by simp), hS⟩, h.row.kept hg (by by_cases e : lv.ownBlock = none; exact Or.inl e; exact Or.inr e), h.ok, h.lom, h.log, h.lol, h.lof, h.lob, h.d1, h.d2, h.d3⟩
/-- One more is in the map. -/
theorem MS.put {G : GE} {w0 : World} {b : MB} {w w' : World} {S : List Int} {ths : List Th} {lv : Value} (h : MS G w0 b w S ths lv) (y : Int) (hy0 : 0 ≤ y) (hy1 : y ≤ 9223372036854775807) {D : DataW Unit} (hD0 : w.ownsMap Tryz.prog 3 unitElem b.mb S.length D) (hS : ∀ x, 0 ≤ x → x ≤ 9223372036854775807 → Maps.has D (.int .i64 x) = decide (x ∈ S))
    (hD : w'.ownsMap Tryz.prog 3 unitElem b.mb (S.length + 1) (D.put (.int .i64 y) (.agg []))) (hg : w.grownBy w' (some b.mb)) : MS G w0 b w' (y :: S) ths lv := by
  have d1 := h.d1
  have lob := h.lob
  refine ⟨h.be.grown hg h.be.size (fun k e => by injection e with e; omega), kc hg h.cm (fun e => d1.1 (by injection e with e; exact e.symm)), kc3 hg h.cg (fun e => d1.2.1 (by injection e with e; exact e.symm)), kc hg h.cl (fun e => d1.2.2.1 (by injection e with e; exact e.symm)), kf hg (World.block_lt_of_cell? w _ h.cl) h.fl (fun e => d1.2.2.1 (by injection e with e; exact e.symm)), kc hg h.cf (fun e => d1.2.2.2 (by injection e with e; exact e.symm)), ⟨_, hD, fun x h0 h1 => ?_⟩, h.row.kept hg (Or.inr ?_), h.ok, h.lom, h.log, h.lol, h.lof, h.lob, h.d1, h.d2, h.d3⟩
  · by_cases e : x = y
    · subst e
      rw [has_put_same hD0.isMap (keyInt.key (key_of hy0 hy1))]
      simp
    · rw [has_put_other (fun q => e (by injection q))]
      rw [hS x h0 h1]
      simp [e]
  · intro e
    exact (h.d3 b.mb e).2.2.2.2 rfl
/-- One more is in the list. -/
theorem MS.add {G : GE} {w0 : World} {b : MB} {w w' : World} {S : List Int} {ths : List Th} {lv lv' : Value} (h : MS G w0 b w S ths lv) (t : Th) (ht : Th.ok G t) (hr : w'.ownsRow w0.heap.size 112 2 lv' (ths.length + 1) (thCells G ths ++ t.cells G)) (hg : w.grownBy w' lv.ownBlock) (hat : lv'.ownBlock = lv.ownBlock ∨ lv'.ownBlock = some w.heap.size) :
    MS G w0 b (w'.setCell ⟨b.l, 0, none⟩ lv') S (ths ++ [t]) lv' := by
  have d1 := h.d1
  have d2 := h.d2
  have lol := h.lol
  have nm : some b.m ≠ lv.ownBlock := fun e => (h.d3 b.m e.symm).1 rfl
  have ng : some b.g ≠ lv.ownBlock := fun e => (h.d3 b.g e.symm).2.1 rfl
  have nl : some b.l ≠ lv.ownBlock := fun e => (h.d3 b.l e.symm).2.2.1 rfl
  have nf : some b.f ≠ lv.ownBlock := fun e => (h.d3 b.f e.symm).2.2.2.1 rfl
  have nb : some b.mb ≠ lv.ownBlock := fun e => (h.d3 b.mb e.symm).2.2.2.2 rfl
  have lm : b.m < w.heap.size := World.block_lt_of_cell? w _ h.cm
  have lg : b.g < w.heap.size := by have : w.cell? ⟨b.g, 0, none⟩ = some (.slice G.wv G.N G.cap) := h.cg 0; exact World.block_lt_of_cell? w _ this
  have ll : b.l < w.heap.size := World.block_lt_of_cell? w _ h.cl
  have lf : b.f < w.heap.size := World.block_lt_of_cell? w _ h.cf
  obtain ⟨D, hD, hS⟩ := h.mp
  have lb := hD.lt
  have o : ∀ k o v, k ≠ b.l → w'.cell? ⟨k, o, none⟩ = some v → (w'.setCell ⟨b.l, 0, none⟩ lv').cell? ⟨k, o, none⟩ = some v := fun k o v hk hc => by
    rw [World.cell?_setCell_other (h := fun e => by simp only [Addr.mk.injEq] at e; omega)]; exact hc
  have be' : Below w0.heap.size w0 w' := h.be.grown hg h.be.size (fun k e => by
    have := h.row.lt k e
    omega)
  have rowb : ∀ g, lv'.ownBlock = some g → g ≠ b.m ∧ g ≠ b.g ∧ g ≠ b.l ∧ g ≠ b.f ∧ g ≠ b.mb := fun g e => by
    rcases hat with e2 | e2
    · exact h.d3 g (by rw [← e2]; exact e)
    · rw [e] at e2
      injection e2 with e2
      exact ⟨by omega, by omega, by omega, by omega, by omega⟩
  refine ⟨be'.setCell (p := ⟨b.l, 0, none⟩) (by show _ ≤ b.l; omega) _, o _ _ _ (fun e => d2.1 e.symm) (kc hg h.cm nm), fun q => ?_, World.cell?_setCell_same _ _ _ (kc hg h.cl nl), by rw [World.frozen?_setCell]; exact kf hg ll h.fl nl, o _ _ _ (fun e => d2.2.2 e.symm) (kc hg h.cf nf), ⟨D, ?_, hS⟩, ?_, fun u hu => ?_, h.lom, h.log, h.lol, h.lof, h.lob, h.d1, h.d2, rowb⟩
  · rw [World.cell?_setCell_other (h := fun e => by simp only [Addr.mk.injEq] at e; exact d2.2.1 e.1)]
    exact kc3 hg h.cg ng q
  · exact (hD.kept hg nb).setCell (by show b.mb ≠ b.l; exact d1.2.2.1) _
  · rw [thCells_snoc, List.length_append]
    exact ownsRow_set_other hr (fun e => (rowb b.l e).2.2.1 rfl) _
  · rcases List.mem_append.1 hu with hu | hu
    · exact h.ok u hu
    · have : u = t := by simpa using hu
      subst this; exact ht
/-- So many unlike numbers below a bound are no more than the bound. -/
theorem nodup_le : ∀ (B : Nat) (l : List Nat), l.Nodup → (∀ x ∈ l, x < B) → l.length ≤ B
  | 0, l, _, h => by
    cases l with
    | nil => simp
    | cons x r => exact absurd (h x List.mem_cons_self) (Nat.not_lt_zero _)
  | B + 1, l, hn, h => by
    have h1 := nodup_le B (l.filter (· ≠ B)) (hn.filter _) (fun x hx => by
      obtain ⟨a, b⟩ := List.mem_filter.1 hx
      have := h x a
      simp at b
      omega)
    have h2 : l.length ≤ (l.filter (· ≠ B)).length + 1 := by
      clear h1 h
      induction l with
      | nil => simp
      | cons x r ih =>
        rw [List.nodup_cons] at hn
        by_cases hx : x = B
        · subst hx
          have : r.filter (· ≠ x) = r := List.filter_eq_self.2 (fun y hy => by simp; intro e; subst e; exact hn.1 hy)
          simp only [List.filter_cons, ne_eq, not_true_eq_false, decide_false, Bool.false_eq_true, if_false, List.length_cons]
          have t : (r.filter (fun y => decide ¬ y = x)) = r := this
          rw [t]
          omega
        · have := ih hn.2
          simp only [List.filter_cons, ne_eq, hx, not_false_eq_true, decide_true, if_true, List.length_cons] at this ⊢
          omega
    omega
end Go.Proofs.YtjjmikfbongccaaGreatDoor.Gn

namespace Go.Proofs.YtjjmikfbongccaaGreatDoor.Gn
open Go.RowKit Go.Maps
set_option linter.unusedVariables false

theorem zeroUnit (w : World) : (zeroValue 116).run Tryz.prog w = .ok (.agg #[]) w := by kernel_rfl
theorem infoThing : (Tryz.prog.info? 112).map (fun i => (i.zero, i.size, i.bytes)) = some (some (.agg #[.int .i64 0, .slice none 0 0]), 2, 32) := by kernel_rfl
theorem undThings : Tryz.prog.underlying 95 = some (.slice 112) := by kernel_rfl
theorem undSet : Tryz.prog.underlying 114 = some (.map 3 116) := by kernel_rfl
/-- The map and the list say the same. -/
structure Same (S : List Int) (ths : List Th) : Prop where
  nd : (ths.map Th.x).Nodup
  len : S.length = ths.length
  iff : ∀ x, x ∈ S ↔ ∃ t ∈ ths, t.x = x
theorem Same.more {S : List Int} {ths : List Th} (h : Same S ths) (t : Th) (hn : t.x ∉ S) : Same (t.x :: S) (ths ++ [t]) := by
  refine ⟨?_, by simp [h.len], fun x => ?_⟩
  · rw [List.map_append, List.map_cons, List.map_nil]
    refine List.nodup_append.2 ⟨h.nd, by simp, fun a ha b hb => ?_⟩
    have hb : b = t.x := by simpa using hb
    subst hb
    intro e
    subst e
    obtain ⟨u, hu, e⟩ := List.mem_map.1 ha
    exact hn ((h.iff _).2 ⟨u, hu, e⟩)
  · rw [List.mem_cons, h.iff]
    constructor
    · rintro (rfl | ⟨u, hu, e⟩)
      · exact ⟨t, by simp, rfl⟩
      · exact ⟨u, by simp [hu], e⟩
    · rintro ⟨u, hu, e⟩
      rcases List.mem_append.1 hu with hu | hu
      · exact .inr ⟨u, hu, e⟩
      · have : u = t := by simpa using hu
        subst this
        exact .inl e.symm
theorem Same.few {G : GE} {S : List Int} {ths : List Th} (h : Same S ths) (hok : ∀ t ∈ ths, Th.ok G t) (hN : G.N ≤ 1000) (hM : G.M ≤ 1000) : ths.length ≤ 1600008 := by
  have h1 := nodup_le 1600008 ((ths.map Th.x).map Int.toNat) ?_ ?_
  · simpa using h1
  · show List.Pairwise (· ≠ ·) _
    rw [List.pairwise_map]
    refine List.Pairwise.imp_of_mem (fun {x y} hx hy hne e => hne ?_) h.nd
    obtain ⟨t, ht, rfl⟩ := List.mem_map.1 hx
    obtain ⟨u, hu, rfl⟩ := List.mem_map.1 hy
    have := (hok t ht).nn
    have := (hok u hu).nn
    omega
  · intro v hv
    obtain ⟨x, hx, rfl⟩ := List.mem_map.1 hv
    obtain ⟨t, ht, rfl⟩ := List.mem_map.1 hx
    have k := (hok t ht).kin
    have h0 := (hok t ht).nn
    have k1 := k.val
    have k2 := k.len
    have k3 := k.k1
    have hp : t.p < 200000 := by unfold GE.len at k2; split at k2 <;> omega
    rw [valW_of h0] at k1
    omega
/-- What is new behind a call. -/
structure Ext (G : GE) (ys : List Int) (ths new : List Th) : Prop where
  roots : ∀ y ∈ ys, leadsW y = true → ∃ t ∈ ths ++ new, t.x = y
  shut : ∀ t ∈ new, ∀ z ∈ prts G.H t.x, leadsW z = true → ∃ u ∈ ths ++ new, u.x = z
  from' : ∀ t ∈ new, ∃ y ∈ ys, Rch G.H y t.x
def MeetP (G : GE) (w0 : World) (b : MB) (ys : List Int) (ths : List Th) (e : Ending) (w' : World) : Prop :=
  ∃ v S' new lv', e = .returned v ∧ MS G w0 b w' S' (ths ++ new) lv' ∧ Same S' (ths ++ new) ∧ Ext G ys ths new
def MeetT (G : GE) (w0 : World) (b : MB) (n : Nat) : Prop := ∀ (ys : List Int) (a : Option Addr) (c : Nat) (w : World) (S : List Int) (ths : List Th) (lv : Value), MS G w0 b w S ths lv → Same S ths → Roots w0 a ys → ys.length ≤ 1048576 → (∀ y ∈ ys, FinW G.H n y) → (∀ y ∈ ys, y ≤ 9223372036854775807) →
  Calls Tryz.prog 77 #[.slice a ys.length c, .pointer (some ⟨b.m, 0, none⟩), .pointer (some ⟨b.g, 0, none⟩), .pointer (some ⟨b.l, 0, none⟩), .pointer (some ⟨b.f, 0, none⟩)] w (MeetP G w0 b ys ths)
theorem Ext.nil (G : GE) (ths : List Th) : Ext G [] ths [] := ⟨by simp, by simp, by simp⟩
/-- A word that leads nowhere, or was met. -/
theorem Ext.pass {G : GE} {ys : List Int} {ths new : List Th} (h : Ext G ys ths new) (y : Int) (hy : leadsW y = true → ∃ t ∈ ths ++ new, t.x = y) : Ext G (ys ++ [y]) ths new := by
  refine ⟨fun z hz hl => ?_, h.shut, fun t ht => ?_⟩
  · rcases List.mem_append.1 hz with hz | hz
    · exact h.roots z hz hl
    · have : z = y := by simpa using hz
      subst this; exact hy hl
  · obtain ⟨z, hz, hr⟩ := h.from' t ht
    exact ⟨z, by simp [hz], hr⟩
/-- A word that is met, and all that it leads to. -/
theorem Ext.meet {G : GE} {ys : List Int} {ths new new2 : List Th} (h : Ext G ys ths new) (t : Th) (hl : leadsW t.x = true) (k : Ext G (prts G.H t.x) (ths ++ new ++ [t]) new2) : Ext G (ys ++ [t.x]) ths (new ++ [t] ++ new2) := by
  have ass : ths ++ new ++ [t] ++ new2 = ths ++ (new ++ [t] ++ new2) := by simp
  have k1 := k.roots
  have k2 := k.shut
  rw [ass] at k1 k2
  refine ⟨fun z hz hz2 => ?_, fun u hu z hz hz2 => ?_, fun u hu => ?_⟩
  · rcases List.mem_append.1 hz with hz | hz
    · obtain ⟨u, hu, e⟩ := h.roots z hz hz2
      exact ⟨u, by rcases List.mem_append.1 hu with hu | hu <;> simp [hu], e⟩
    · have : z = t.x := by simpa using hz
      subst this
      exact ⟨t, by simp, rfl⟩
  · rcases List.mem_append.1 hu with hu | hu
    · rcases List.mem_append.1 hu with hu | hu
      · obtain ⟨v, hv, e⟩ := h.shut u hu z hz hz2
        exact ⟨v, by rcases List.mem_append.1 hv with hv | hv <;> simp [hv], e⟩
      · have : u = t := by simpa using hu
        subst this
        exact k1 z hz hz2
    · exact k2 u hu z hz hz2
  · rcases List.mem_append.1 hu with hu | hu
    · rcases List.mem_append.1 hu with hu | hu
      · obtain ⟨z, hz, hr⟩ := h.from' u hu
        exact ⟨z, by simp [hz], hr⟩
      · have : u = t := by simpa using hu
        subst this
        exact ⟨u.x, by simp, .refl _⟩
    · obtain ⟨z, hz, hr⟩ := k.from' u hu
      exact ⟨t.x, by simp, .step hl hz hr⟩
/-- The parts of a thing, as a row. -/
theorem parts_row {G : GE} {w0 : World} (hs : GSrc G w0) {x : Int} {p K f0 : Nat} (k : Kin G x p K f0) {a : Option Addr} (ha : npr x K ≠ 0 → a = some ⟨G.sb p, G.so p + (if tagW x = 4 then 1 else 0), none⟩) : (prts G.H x).length = npr x K ∧ Roots w0 a (prts G.H x) := by
  have hl : (prts G.H x).length = npr x K := by
    unfold npr
    rcases k.tag with ⟨h, e⟩ | ⟨h, e⟩ | ⟨h, e⟩
    · rw [k.prt (by omega), if_neg (by omega), if_pos h, List.length_map, List.length_range]; omega
    · rw [k.prt (by omega), if_pos h, List.length_map, List.length_range]; omega
    · rw [k.prb h, if_neg (by omega), if_neg (by omega)]; rfl
  refine ⟨hl, fun hn => ?_⟩
  rw [hl] at hn
  refine ⟨_, _, ha hn, fun j hj => ?_⟩
  have h6 : tagW x ≠ 6 := fun e => by rw [k.prb e] at hj; exact absurd hj (Nat.not_lt_zero _)
  have e0 : (if tagW x = 4 then 1 else 0) = f0 := by
    rcases k.tag with ⟨h, e⟩ | ⟨h, e⟩ | ⟨h, e⟩
    · rw [if_neg (by omega), e]
    · rw [if_pos h, e]
    · exact absurd h h6
  rw [e0]
  have hjK : f0 + j < K := by
    rw [k.prt h6, List.length_map, List.length_range] at hj
    omega
  have := hs.at p (f0 + j) (by have := k.len; omega)
  rw [show G.so p + f0 + j = G.so p + (f0 + j) by omega, this]
  congr 2
  simp [k.prt h6]
end Go.Proofs.YtjjmikfbongccaaGreatDoor.Gn

namespace Go.Proofs.YtjjmikfbongccaaGreatDoor.Gn
open Go.RowKit Go.Maps
set_option linter.unusedVariables false

theorem two_news {w : World} {a b : Value} {t : TypeId} : ∀ j u, [a, b][j]? = some u → (w.alloc (.cells #[a, b] t)).cell? ((⟨w.heap.size, 0, none⟩ : Addr).add j) = some u := fun j u hu =>
  World.news_of_block (w := w.alloc (.cells #[a, b] t)) (B := w.heap.size) (cs := #[a, b]) (t := t) (fr := (0, 0)) (by show (w.heap.push _)[w.heap.size]? = _; simp) j u hu
theorem two_news2 {w : World} {a b : Value} {t : TypeId} {o : Obj} : ∀ j u, [a, b][j]? = some u → ((w.alloc o).alloc (.cells #[a, b] t)).cell? ((⟨w.heap.size + 1, 0, none⟩ : Addr).add j) = some u := fun j u hu => by
  have h := two_news (w := w.alloc o) (t := t) j u hu
  rw [World.size_alloc] at h
  exact h
theorem thForm {w : World} {base : Nat} {e : TypeId} {v : Value} {n : Nat} {xs : List Value} (h : w.ownsRow base e 2 v (n + 1) xs) : ∃ g c, v = .slice (some ⟨g, 0, none⟩) (n + 1) c := by
  rcases h.2 with ⟨h0, h1⟩ | ⟨g, cap, cur, h1, _⟩
  · exact absurd h1 (by omega)
  · exact ⟨g, cap, h1⟩
/-- Behind a thing that was laid in a box and appended. -/
theorem MS.lay {G : GE} {w0 : World} {b : MB} {w2 w5 : World} {S : List Int} {ths : List Th} {lv v5 : Value} {T : TypeId} (h : MS G w0 b w2 S ths lv) (t : Th) (ht : Th.ok G t)
    (hr : w5.ownsRow w0.heap.size 112 2 v5 (ths.length + 1) (thCells G ths ++ t.cells G)) (hg : ((w2.alloc (.cells (t.cells G).toArray T)).alloc (.cells (t.cells G).toArray T)).grownBy w5 lv.ownBlock) (hat : v5.ownBlock = lv.ownBlock ∨ v5.ownBlock = some ((w2.alloc (.cells (t.cells G).toArray T)).alloc (.cells (t.cells G).toArray T)).heap.size) :
    w5.cell? ⟨b.l, 0, none⟩ = some lv ∧ w5.frozen? ⟨b.l, 0, none⟩ = false ∧ MS G w0 b (w5.setCell ⟨b.l, 0, none⟩ v5) S (ths ++ [t]) v5 ∧ (∀ o, (w5.setCell ⟨b.l, 0, none⟩ v5).cell? ⟨w2.heap.size, o, none⟩ = (t.cells G).toArray[o]?) := by
  have b3 := (Below.refl w2.heap.size w2).alloc (Nat.le_refl _) (.cells (t.cells G).toArray T)
  have b4 := b3.alloc b3.size (.cells (t.cells G).toArray T)
  have h4 := h.call b4
  have nl : some b.l ≠ lv.ownBlock := fun e => (h.d3 b.l e.symm).2.2.1 rfl
  have ll : b.l < w2.heap.size := World.block_lt_of_cell? w2 _ h.cl
  have ll4 : b.l < ((w2.alloc (.cells (t.cells G).toArray T)).alloc (.cells (t.cells G).toArray T)).heap.size := World.block_lt_of_cell? _ _ h4.cl
  refine ⟨kc hg h4.cl nl, kf hg ll4 h4.fl nl, h4.add t ht hr hg hat, fun o => ?_⟩
  have hz : ((w2.alloc (.cells (t.cells G).toArray T)).alloc (.cells (t.cells G).toArray T)).heap.size = w2.heap.size + 1 + 1 := by simp
  rw [World.cell?_setCell_other (h := fun e => by simp only [Addr.mk.injEq] at e; omega)]
  rw [World.cell?_of_block (w := (w2.alloc (.cells (t.cells G).toArray T)).alloc (.cells (t.cells G).toArray T)) (hg.block w2.heap.size (by omega) (fun e => by
    have := (h.row.lt w2.heap.size e.symm).2
    omega))]
  rw [World.cell?_alloc_lt (h := by show w2.heap.size < _; rw [World.size_alloc]; omega)]
  exact World.cell?_alloc_new w2 _ _ o
theorem keep2x {w w' : World} {X : Nat} {x y : Value} (hc : ∀ o, w.cell? ⟨X, o, none⟩ = (#[x, y] : Array Value)[o]?) (h : Below w.drew.heap.size w.drew w') : ∀ o, w'.cell? ⟨X, o, none⟩ = (#[x, y] : Array Value)[o]? := fun o => by
  have h2 : Below w.heap.size w w' := ⟨h.os, h.tape, h.output, h.size, h.block⟩
  have h0 : w.cell? ⟨X, 0, none⟩ = some x := hc 0
  rw [h2.cell (p := ⟨X, o, none⟩) (by have := World.block_lt_of_cell? _ _ h0; exact this)]; exact hc o
theorem MS.two {G : GE} {w0 : World} {b : MB} {w2 : World} {S : List Int} {ths : List Th} {lv : Value} (h : MS G w0 b w2 S ths lv) : ∀ o1 o2, ((w2.alloc o1).alloc o2).ownsRow w0.heap.size 112 2 lv ths.length (thCells G ths) ∧ w0.heap.size ≤ ((w2.alloc o1).alloc o2).heap.size := fun o1 o2 => by
  have h2 := h.call (((Below.refl _ _).alloc (Nat.le_refl _) o1).alloc (by simp) o2)
  exact ⟨h2.row, h2.be.size⟩
theorem MS.drawn {G : GE} {w0 : World} {b : MB} {w w' : World} {S : List Int} {ths : List Th} {lv : Value} (h : MS G w0 b w S ths lv) (hb : Below w.drew.heap.size w.drew w') : MS G w0 b w' S ths lv := h.call ⟨hb.os, hb.tape, hb.output, hb.size, hb.block⟩
/-- The call that meets what a thing leads to. -/
theorem meet_parts {G : GE} {w0 : World} {b : MB} {w : World} {S : List Int} {ths : List Th} {lv : Value} {m : Nat} {y : Int} {p K f0 : Nat} (hs : GSrc G w0) (ih : MeetT G w0 b m) (hm : MS G w0 b w S ths lv) (hsm : Same S ths) (k : Kin G y p K f0) (hf : ∀ z ∈ prts G.H y, FinW G.H m z) {a : Option Addr} (c : Nat) (ha : npr y K ≠ 0 → a = some ⟨G.sb p, G.so p + (if tagW y = 4 then 1 else 0), none⟩) :
    Calls Tryz.prog 77 #[.slice a (npr y K) c, .pointer (some ⟨b.m, 0, none⟩), .pointer (some ⟨b.g, 0, none⟩), .pointer (some ⟨b.l, 0, none⟩), .pointer (some ⟨b.f, 0, none⟩)] w (MeetP G w0 b (prts G.H y) ths) := by
  obtain ⟨h1, h2⟩ := parts_row hs k ha
  have h9 := k.k9
  have h3 : npr y K ≤ K := by unfold npr; split <;> (try split) <;> omega
  have := ih (prts G.H y) a c w S ths lv hm hsm h2 (by omega) hf (fun z hz => by
    by_cases h6 : tagW y = 6
    · rw [k.prb h6] at hz; exact absurd hz (by simp)
    · rw [k.prt h6] at hz
      obtain ⟨j, _, rfl⟩ := List.mem_map.1 hz
      unfold GE.w
      split
      · exact hs.big _
      · exact hs.bigy _)
  rw [h1] at this
  exact this
theorem oneTh {y : Int} {a : Option Addr} {K c : Nat} : ∀ u ∈ ([.int .i64 y, .slice a K c] : List Value), u.oneCell' = true := by
  intro u hu
  simp only [List.mem_cons, List.not_mem_nil, or_false] at hu
  rcases hu with rfl | rfl <;> rfl
set_option maxHeartbeats 8000000 in
set_option maxRecDepth 100000 in
theorem meet_of (G : GE) (w0 : World) (b : MB) (hs : GSrc G w0) (hN : G.N ≤ 1000) (hM : G.M ≤ 1000) (n : Nat) (ih : ∀ m, n = m + 1 → MeetT G w0 b m) : MeetT G w0 b n := by
  intro ys a c w S ths lv hm hsm hr hl hf hb
  have HS : Hid (GSrc G w0) := hs
  have HNM : Hid (G.N ≤ 1000 ∧ G.M ≤ 1000) := ⟨hN, hM⟩
  have IH : Hid (∀ m, n = m + 1 → MeetT G w0 b m) := ih
  have HM : Hid (MS G w0 b w S ths lv) := hm
  have HSM : Hid (Same S ths) := hsm
  have HR : Hid (Roots w0 a ys) := hr
  have HF : Hid (∀ y ∈ ys, FinW G.H n y) := hf
  have HB : Hid (∀ y ∈ ys, y ≤ 9223372036854775807) := hb
  have HL : Hid (ys.length ≤ 1048576) := hl
  obtain ⟨i0, hi, hz0, hz1, hz2⟩ := infoParts infoThing
  have HI : Hid (Tryz.prog.info? 112 = some i0 ∧ i0.zero = some (.agg #[.int .i64 0, .slice none 0 0]) ∧ i0.size = 2 ∧ i0.bytes = 32) := ⟨hi, hz0, hz1, hz2⟩
  clear hs hN hM ih hm hsm hr hf hb hi hz0 hz1 hz2
  go_enter Tryz.func77, Tryz.ntmps77
  go_wp2_with fail
  go_loopw [13] (fun i wr => ∃ (j : Nat) (S' : List Int) (new : List Th) (lv' : Value), i = .int .i64 j ∧ j ≤ ys.length ∧ MS G w0 b wr S' (ths ++ new) lv' ∧ Same S' (ths ++ new) ∧ Ext G (ys.take j) ths new) (fun i _ => ys.length - (intOf i).toNat)
  case atStart => exact ⟨0, S, [], lv, rfl, Nat.zero_le _, by rw [List.append_nil]; exact HM.out, by rw [List.append_nil]; exact HSM.out, Ext.nil G ths⟩
  case round =>
    obtain ⟨j, S', new, lv', rfl, hj, hms, hsame, hext⟩ := hrel
    by_cases hlt : j < ys.length
    case neg =>
      have hlti : ¬ (j : Int) < (ys.length : Int) := by omega
      have hje : j = ys.length := by omega
      have hfin : MeetP G w0 b ys ths (.returned (.tuple #[])) wr := ⟨_, S', new, lv', rfl, hms, hsame, by rw [hje, List.take_length] at hext; exact hext⟩
      clear hms hsame hext
      go_wp2_with fail
      go_end0
      exact hfin
    case pos =>
      have hlti : (j : Int) < (ys.length : Int) := by omega
      obtain ⟨rb, ro, ha, hc⟩ := HR.out (by omega)
      subst ha
      have hcy := hc j hlt
      have hcw : wr.cell? ⟨rb, ro + j, none⟩ = some (.int .i64 ys[j]) := by rw [hms.be.cell (p := ⟨rb, ro + j, none⟩) (World.block_lt_of_cell? _ _ hcy)]; exact hcy
      have hfy := HF.out ys[j] (List.getElem_mem hlt)
      have hby := HB.out ys[j] (List.getElem_mem hlt)
      have htk : ys.take (j + 1) = ys.take j ++ [ys[j]] := by rw [List.take_add_one, List.getElem?_eq_getElem hlt]; rfl
      obtain ⟨y, hy⟩ : ∃ y, ys[j] = y := ⟨_, rfl⟩
      rw [hy] at hcw hfy hby htk
      have HTK : Hid (ys.take (j + 1) = ys.take j ++ [y]) := htk
      have hy0 := hfy.nn
      have hkey := key_of hy0 hby
      obtain ⟨D, hD, hDS⟩ := hms.mp
      have hhas := hDS y hy0 hby
      have hcm := hms.cm
      have HMS : Hid (MS G w0 b wr S' (ths ++ new) lv') := hms
      have HSA : Hid (Same S' (ths ++ new)) := hsame
      have HEX : Hid (Ext G (ys.take j) ths new) := hext
      have HFY : Hid (FinW G.H n y ∧ 0 ≤ y ∧ y ≤ 9223372036854775807) := ⟨hfy, hy0, hby⟩
      have HOWN : Hid (wr.ownsMap Tryz.prog 3 (unitElem (H := Unit)) b.mb S'.length D) := hD
      have HDS : Hid (∀ x, 0 ≤ x → x ≤ 9223372036854775807 → Maps.has D (.int .i64 x) = decide (x ∈ S')) := hDS
      have HKEY : Hid (keyOf Tryz.prog 3 (.int .i64 y) = some (.int .i64 y)) := hkey
      have V1 : IntKind.i64.wrap ((j : Int) + 1) = ((j + 1 : Nat) : Int) := by rw [IntKind.wrap_i64]; omega
      clear hc hcy htk hfy hy hD hDS hkey hms hsame hext
      by_cases hin : y ∈ S'
      · have HH : Hid (Maps.has D (.int .i64 y) = true) := by show _ = _; rw [hhas]; exact decide_eq_true hin
        have HIN : Hid (y ∈ S') := hin
        clear hhas hin
        go_wp2_with (at_lookup; refine wpList_lookup_own_unit _ rfl _ _ 114 rfl 3 116 keyInt undSet (zeroUnit _) b.mb S'.length D rfl HOWN.out _ _ rfl HKEY.out ?_; rw [HH.out])
        go_roundw
        case rel =>
          refine ⟨j + 1, S', new, lv', by congr 1, by omega, HMS.out.call ((Below.refl _ _).alloc (Nat.le_refl _) _), HSA.out, ?_⟩
          rw [HTK.out]
          exact HEX.out.pass y (fun _ => (HSA.out.iff y).1 HIN.out)
        case measure => simp [intOf]; omega
      · have HH : Hid (Maps.has D (.int .i64 y) = false) := by show _ = _; rw [hhas]; exact decide_eq_false hin
        have HIN : Hid (y ∉ S') := hin
        clear hhas hin
        cases hld : leadsW y with
        | false =>
          have HLD : Hid (leadsW y = false) := hld
          clear hld
          go_wp2_with (first
            | (at_lookup; refine wpList_lookup_own_unit _ rfl _ _ 114 rfl 3 116 keyInt undSet (zeroUnit _) b.mb S'.length D rfl HOWN.out _ _ rfl HKEY.out ?_; rw [HH.out])
            | (go_at_call 75; refine (implLeads_any y HFY.out.2.2 _).mono ?_; rintro e w' ⟨rfl, hw'⟩; obtain rfl := hw'.symm; rw [HLD.out]))
          go_roundw
          case rel =>
            refine ⟨j + 1, S', new, lv', by congr 1, by omega, HMS.out.call ((Below.refl _ _).alloc (Nat.le_refl _) _), HSA.out, ?_⟩
            rw [HTK.out]
            exact HEX.out.pass y (fun h => by rw [HLD.out] at h; cases h)
          case measure => simp [intOf]; omega
        | true =>
          have HLD : Hid (leadsW y = true) := hld
          clear hld
          obtain ⟨m, hnm⟩ : ∃ m, n = m + 1 := by
            cases n with
            | zero => exact absurd HFY.out.1.2 (by rw [HLD.out]; simp)
            | succ m => exact ⟨m, rfl⟩
          have hfm : Fits G.H y ∧ ∀ z ∈ prts G.H y, FinW G.H m z := by
            have h1 := HFY.out.1
            rw [hnm] at h1
            exact h1.2 HLD.out
          obtain ⟨p, K, f0, hkin⟩ := kin_of hfm.1
          have HK : Hid (Kin G y p K f0) := hkin
          have HFM : Hid (∀ z ∈ prts G.H y, FinW G.H m z) := hfm.2
          have IHM : Hid (MeetT G w0 b m) := IH.out m hnm
          have hcm2 : ∀ o, (wr.alloc o).cell? ⟨b.m, 0, none⟩ = some (.map (some b.mb)) := fun o => (HMS.out.call ((Below.refl _ _).alloc (Nat.le_refl _) o)).cm
          have hfew := HSA.out.few HMS.out.ok HNM.out.1 HNM.out.2
          have C3 : Hid ((ths ++ new).length + 1 ≤ maxLen) := by show _ ≤ _; unfold maxLen; omega
          have C4 : Hid (((ths ++ new).length + 1) * 32 ≤ 140737488355328) := by show _ ≤ _; omega
          clear hnm hfm hkin hfew
          go_wp2_with (first
            | (at_lookup; refine wpList_lookup_own_unit _ rfl _ _ 114 rfl 3 116 keyInt undSet (zeroUnit _) b.mb S'.length D rfl HOWN.out _ _ rfl HKEY.out ?_; rw [HH.out])
            | (go_at_call 75; refine (implLeads_any y HFY.out.2.2 _).mono ?_; rintro e w' ⟨rfl, hw'⟩; obtain rfl := hw'.symm; rw [HLD.out])
            | (at_mapUpdate; refine wpList_mapUpdate_own _ rfl _ _ _ 114 rfl 3 116 keyInt undSet (unitElem (H := Unit)) b.mb S'.length D rfl (HOWN.out.alloc _) (by have h1 := HSA.out.few HMS.out.ok HNM.out.1 HNM.out.2; have h2 := HSA.out.len; unfold maxLen; omega) _ _ _ rfl rfl HKEY.out _ [] unitElem_mk ?_; intro w1 hown1 hgrow1; have HM1 : Hid (MS G w0 b w1 (y :: S') (ths ++ new) lv') := MS.put (HMS.out.call ((Below.refl _ _).alloc (Nat.le_refl _) _)) y HFY.out.2.1 HFY.out.2.2 (HOWN.out.alloc _) HDS.out hown1 hgrow1; have cg1 := HM1.out.cg; clear hown1 hgrow1)
            | (go_at_call 78; refine (thing_any HK.out HFY.out.2.2 _ (HS.out.below HM1.out.be)).mono ?_; rintro e w2 ⟨c2, rfl, hKc, hb2⟩; have HM2 : Hid (MS G w0 b w2 (y :: S') (ths ++ new) lv') := HM1.out.call hb2; have cl2 : ∀ o, (w2.alloc o).cell? ⟨b.l, 0, none⟩ = some lv' := fun o => (HM2.out.call ((Below.refl _ _).alloc (Nat.le_refl _) o)).cl; have HROW : Hid (∀ o1 o2, ((w2.alloc o1).alloc o2).ownsRow w0.heap.size 112 2 lv' (ths ++ new).length (thCells G (ths ++ new)) ∧ w0.heap.size ≤ ((w2.alloc o1).alloc o2).heap.size) := HM2.out.two; have HTO : Hid (Th.ok G ⟨y, p, K, f0, c2⟩) := ⟨HK.out, hKc, HFY.out.2.1, HFY.out.2.2, HLD.out⟩; clear hb2)
            | (at_builtin; refine wpList_append_own_at _ rfl _ _ 95 rfl w0.heap.size 112 i0 (.agg #[.int .i64 0, .slice none 0 0]) 2 32 undThings HI.out.1 HI.out.2.1 HI.out.2.2.1 HI.out.2.2.2 rfl (by decide) lv' (ths ++ new).length (thCells G (ths ++ new)) rfl (HROW.out _ _).1 ⟨_, 0, none⟩ 1 1 [.int .i64 y, .slice (some ⟨G.sb p, G.so p, none⟩) K c2] rfl rfl two_news2 oneTh C3.out C4.out (HROW.out _ _).2 ?_; intro v5 w5 hown5 hgr5 hnn5 hat5; obtain ⟨g5, c5, rfl⟩ := thForm hown5; obtain ⟨k1, k2, k3, k4⟩ := MS.lay HM2.out ⟨y, p, K, f0, c2⟩ HTO.out hown5 hgr5 hat5; have HM5 : Hid (MS G w0 b (w5.setCell ⟨b.l, 0, none⟩ (.slice (some ⟨g5, 0, none⟩) ((ths ++ new).length + 1) c5)) (y :: S') (ths ++ new ++ [⟨y, p, K, f0, c2⟩]) (.slice (some ⟨g5, 0, none⟩) ((ths ++ new).length + 1) c5)) := k3; have cf5 := k3.cf; have k5 : ∀ o, (w5.setCell ⟨b.l, 0, none⟩ (.slice (some ⟨g5, 0, none⟩) ((ths ++ new).length + 1) c5)).cell? ⟨w2.heap.size, o, none⟩ = (#[.int .i64 y, .slice (some ⟨G.sb p, G.so p, none⟩) K c2] : Array Value)[o]? := k4; clear hown5 hgr5 hnn5 hat5 k3 k4))
          simp only [List.length_append] at HM5 cf5 k5
          generalize w5.setCell ⟨b.l, 0, none⟩ (.slice (some ⟨g5, 0, none⟩) (ths.length + new.length + 1) c5) = W5 at HM5 cf5 k5 ⊢
          generalize (Value.slice (some ⟨g5, 0, none⟩) (ths.length + new.length + 1) c5) = lv5 at HM5 ⊢
          have HSM5 : Hid (Same (y :: S') (ths ++ new ++ [⟨y, p, K, f0, c2⟩])) := HSA.out.more ⟨y, p, K, f0, c2⟩ HIN.out
          clear hcm hcm2 hcw k1 k2 cl2 cg1 HROW HM2 HM1 HMS HOWN HDS HKEY HH
          go_region_law (go_simp; go_wp2_with (first
            | (go_at_call 74; refine (parts_any y _ _ K c2 HFY.out.2.2 HK.out.k1 HK.out.k9 hKc _).mono ?_; rintro e w6 ⟨a6, c6, rfl, ha6, hb6⟩; have HM6 : Hid (MS G w0 b w6 (y :: S') (ths ++ new ++ [⟨y, p, K, f0, c2⟩]) lv5) := HM5.out.drawn hb6; have cf6 := HM6.out.cf; have HC6 : Hid (Calls Tryz.prog 77 #[.slice a6 (npr y K) c6, .pointer (some ⟨b.m, 0, none⟩), .pointer (some ⟨b.g, 0, none⟩), .pointer (some ⟨b.l, 0, none⟩), .pointer (some ⟨b.f, 0, none⟩)] w6 (MeetP G w0 b (prts G.H y) (ths ++ new ++ [⟨y, p, K, f0, c2⟩]))) := meet_parts HS.out IHM.out HM6.out HSM5.out HK.out HFM.out c6 ha6; clear hb6 ha6)
            | (go_at_call 77; refine HC6.out.mono ?_; rintro e w7 ⟨v7, S7, new7, lv7, rfl, hm7, hs7, hx7⟩; have HM7 : Hid (MS G w0 b w7 S7 (ths ++ new ++ [⟨y, p, K, f0, c2⟩] ++ new7) lv7 ∧ Same S7 (ths ++ new ++ [⟨y, p, K, f0, c2⟩] ++ new7) ∧ Ext G (prts G.H y) (ths ++ new ++ [⟨y, p, K, f0, c2⟩]) new7) := ⟨hm7, hs7, hx7⟩; clear hm7 hs7 hx7)))
          all_goals (
            go_wp2_with fail
            go_roundw
            case rel =>
              have ass : ths ++ new ++ [⟨y, p, K, f0, c2⟩] ++ new7 = ths ++ (new ++ [⟨y, p, K, f0, c2⟩] ++ new7) := by simp
              obtain ⟨q1, q2, q3⟩ := HM7.out
              have q4 := HEX.out.meet ⟨y, p, K, f0, c2⟩ HLD.out q3
              rw [ass] at q1 q2
              refine ⟨j + 1, S7, _, lv7, by congr 1, by omega, q1, q2, ?_⟩
              rw [HTK.out]
              exact q4
            case measure => simp [intOf]; omega)
end Go.Proofs.YtjjmikfbongccaaGreatDoor.Gn

namespace Go.Proofs.YtjjmikfbongccaaGreatDoor.Gn
open Go.RowKit Go.Maps
set_option linter.unusedVariables false

theorem meet_any (G : GE) (w0 : World) (b : MB) (hs : GSrc G w0) (hN : G.N ≤ 1000) (hM : G.M ≤ 1000) : ∀ n, MeetT G w0 b n
  | 0 => meet_of G w0 b hs hN hM 0 (fun m h => absurd h (by omega))
  | n + 1 => meet_of G w0 b hs hN hM (n + 1) (fun m h => by
    have e : m = n := by omega
    rw [e]; exact meet_any G w0 b hs hN hM n)
theorem ms_start (G : GE) (w : World) (t1 t2 t3 t4 : TypeId) :
    MS G w ⟨w.heap.size + 1 + 1 + 1 + 1, w.heap.size, w.heap.size + 1 + 1, w.heap.size + 1 + 1 + 1 + 1 + 1, w.heap.size + 1 + 1 + 1⟩
      ((((((w.alloc (.cells #[.slice G.wv G.N G.cap, .slice G.yv G.M G.ycap, .int .i64 G.mark] t1)).alloc (.cells #[] 112)).alloc (.cells #[.slice (some ⟨w.heap.size + 1, 0, none⟩) 0 0] t2)).alloc (.map #[] 0)).alloc (.cells #[.map (some (w.heap.size + 1 + 1 + 1))] t3)).alloc (.cells #[.func (.func 77) #[] #[.pointer (some ⟨w.heap.size + 1 + 1 + 1 + 1, 0, none⟩), .pointer (some ⟨w.heap.size, 0, none⟩), .pointer (some ⟨w.heap.size + 1 + 1, 0, none⟩), .pointer (some ⟨w.heap.size + 1 + 1 + 1 + 1 + 1, 0, none⟩)]] t4))
      [] [] (.slice (some ⟨w.heap.size + 1, 0, none⟩) 0 0) := by
  have B : Below w.heap.size w w := Below.refl _ _
  have hb := fun o1 o2 o3 o4 o5 o6 => (((((B.alloc (Nat.le_refl _) o1).alloc (by simp) o2).alloc (by simp <;> omega) o3).alloc (by simp <;> omega) o4).alloc (by simp <;> omega) o5).alloc (by simp <;> omega) o6
  refine ⟨hb _ _ _ _ _ _, ?_, fun o => ?_, ?_, ?_, ?_, ⟨.map [], ?_, fun x _ _ => by simp [Maps.has]⟩, ?_, by simp, ?_, ?_, ?_, ?_, ?_, ?_, ?_, ?_⟩
  · rw [World.cell?_alloc_past (hn := by simp), World.cell?_alloc_at (hn := by simp)]; rfl
  · rw [World.cell?_alloc_past (hn := by simp <;> omega), World.cell?_alloc_past (hn := by simp <;> omega), World.cell?_alloc_past (hn := by simp <;> omega), World.cell?_alloc_past (hn := by simp <;> omega), World.cell?_alloc_past (hn := by simp), World.cell?_alloc_at (hn := by simp)]
  · rw [World.cell?_alloc_past (hn := by simp <;> omega), World.cell?_alloc_past (hn := by simp <;> omega), World.cell?_alloc_past (hn := by simp), World.cell?_alloc_at (hn := by simp)]; rfl
  · rw [World.frozen?_alloc_past (hn := by simp <;> omega), World.frozen?_alloc_past (hn := by simp <;> omega), World.frozen?_alloc_past (hn := by simp), World.frozen?_alloc_at (hn := by simp)]
  · rw [World.cell?_alloc_at (hn := by simp)]; rfl
  · have h := World.ownsMap_made (H := Unit) (((w.alloc (.cells #[.slice G.wv G.N G.cap, .slice G.yv G.M G.ycap, .int .i64 G.mark] t1)).alloc (.cells #[] 112)).alloc (.cells #[.slice (some ⟨w.heap.size + 1, 0, none⟩) 0 0] t2)) Tryz.prog 3 unitElem
    rw [World.size_alloc, World.size_alloc, World.size_alloc] at h
    exact (h.alloc _).alloc _
  · have h := World.ownsRow_made (w.alloc (.cells #[.slice G.wv G.N G.cap, .slice G.yv G.M G.ycap, .int .i64 G.mark] t1)) (base := w.heap.size) (e := 112) (size := 2) #[] 0 (by simp) (Nat.zero_le _) rfl
    rw [World.size_alloc] at h
    exact (((h.alloc _).alloc _).alloc _).alloc _
  all_goals (try (show _ ≤ _; simp <;> omega))
  · simp <;> omega
  · simp <;> omega
  · intro g hg
    have e : w.heap.size + 1 = g := by simpa [Value.ownBlock] using hg
    subst e
    simp
structure ThP (G : GE) (w : World) (R : List Int) (ths : List Th) (lv : Value) (w' : World) : Prop where
  row : w'.ownsRow w.heap.size 112 2 lv ths.length (thCells G ths)
  ok : ∀ t ∈ ths, Th.ok G t
  met : Met G.H R (ths.map Th.x)
  be : Below w.heap.size w w'
  few : ths.length ≤ 1600008
theorem ths_end {G : GE} {w w' : World} {b : MB} {S R : List Int} {new : List Th} {lv : Value} (hm : MS G w b w' S ([] ++ new) lv) (hsm : Same S ([] ++ new)) (hx : Ext G R [] new) (hN : G.N ≤ 1000) (hM : G.M ≤ 1000) : ThP G w R new lv w' := by
  rw [List.nil_append] at hm hsm
  have x1 := hx.roots
  have x2 := hx.shut
  rw [List.nil_append] at x1 x2
  refine ⟨hm.row, hm.ok, ⟨fun x h1 h2 => ?_, fun y hy z hz h2 => ?_, fun y hy => ?_⟩, hm.be, hsm.few hm.ok hN hM⟩
  · obtain ⟨t, ht, rfl⟩ := x1 x h1 h2
    exact List.mem_map.2 ⟨t, ht, rfl⟩
  · obtain ⟨t, ht, rfl⟩ := List.mem_map.1 hy
    obtain ⟨u, hu, rfl⟩ := x2 t ht z hz h2
    exact List.mem_map.2 ⟨u, hu, rfl⟩
  · obtain ⟨t, ht, rfl⟩ := List.mem_map.1 hy
    exact ⟨(hm.ok t ht).ld, hx.from' t ht⟩
def ThsP (G : GE) (w : World) (R : List Int) (e : Ending) (w' : World) : Prop := ∃ ths lv, e = .returned lv ∧ ThP G w R ths lv w'
set_option maxHeartbeats 8000000 in
set_option maxRecDepth 100000 in
theorem things_any {G : GE} {w : World} (hs : GSrc G w) (hN : G.N ≤ 1000) (hM : G.M ≤ 1000) (R : List Int) (rv : Option Addr) (c n : Nat) (hr : Roots w rv R) (hl : R.length ≤ 1048576) (hf : ∀ y ∈ R, FinW G.H n y) (hb : ∀ y ∈ R, y ≤ 9223372036854775807) :
    Calls Tryz.prog 58 #[G.v, .slice rv R.length c] w (ThsP G w R) := by
  have hmm := @run_makeMap Tryz.prog
  have HS : Hid (GSrc G w) := hs
  have HM : Hid (∀ b W S ths lv, MS G w b W S ths lv → Same S ths → Calls Tryz.prog 77 #[.slice rv R.length c, .pointer (some ⟨b.m, 0, none⟩), .pointer (some ⟨b.g, 0, none⟩), .pointer (some ⟨b.l, 0, none⟩), .pointer (some ⟨b.f, 0, none⟩)] W (MeetP G w b R ths)) := fun b W S ths lv h1 h2 => meet_any G w b hs hN hM n R rv c W S ths lv h1 h2 hr hl hf hb
  have HNM : Hid (G.N ≤ 1000 ∧ G.M ≤ 1000) := ⟨hN, hM⟩
  clear hs hN hM hr hl hf hb
  go_enter Tryz.func58, Tryz.ntmps58
  have H0 := ms_start G w 38 95 114 115
  have HM0 : Hid (MS G w _ _ [] [] _) := H0
  clear H0
  go_wp2_with (go_at_call 77; refine (HM.out _ _ _ _ _ HM0.out ⟨by simp, rfl, by simp⟩).mono ?_; rintro e w7 ⟨v7, S7, new7, lv7, rfl, hm7, hs7, hx7⟩; have cl7 := hm7.cl; have HM7 : Hid (ThP G w R new7 lv7 w7) := ths_end hm7 hs7 hx7 HNM.out.1 HNM.out.2; clear hm7 hs7 hx7)
  go_ret
  exact ⟨new7, lv7, rfl, HM7.out⟩
end Go.Proofs.YtjjmikfbongccaaGreatDoor.Gn
