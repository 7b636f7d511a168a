/-
  Code read of bytes: what both kinds of GetCode read. Reckoning.
-/
import Derived.Test.YtpjhipekjilejaaDoorCbA
import Derived.Test.YtpjhipekjilejaaDoorByF
namespace Go.Proofs.YtpjhipekjilejaaDoor.Cb
open Go.RowKit
open Go.Proofs.YtpjhipekjilejaaDoor.By
open Go.Proofs.YtpjhipekjilejaaDoor.Code (I codeB specOk RowI SmI Bx6)
set_option linter.unusedVariables false

/-- Numbers read one behind the other, and the place behind. -/
def rdNs (L : List UInt8) : Nat → Int → Option (List Int × Int)
  | 0, a => some ([], a)
  | k + 1, a => match getB L a with
    | none => none
    | some (n, e) => match rdNs L k e with
      | none => none
      | some (ns, e') => some (n :: ns, e')
theorem rdNs_len {L : List UInt8} : ∀ {k : Nat} {a e : Int} {ns : List Int}, rdNs L k a = some (ns, e) → ns.length = k := by
  intro k
  induction k with
  | zero => intro a e ns h; simp [rdNs] at h; rw [h.1]; rfl
  | succ k ih =>
    intro a e ns h
    rw [rdNs] at h
    cases hg : getB L a with
    | none => rw [hg] at h; cases h
    | some p =>
      rw [hg] at h
      simp only at h
      cases hr : rdNs L k p.2 with
      | none => rw [hr] at h; cases h
      | some q =>
        rw [hr] at h
        simp only [Option.some.injEq, Prod.mk.injEq] at h
        rw [← h.1, List.length_cons, ih hr]
/-- The place behind lies within. -/
theorem rdNs_at {L : List UInt8} : ∀ {k : Nat} {a e : Int} {ns : List Int}, rdNs L (k + 1) a = some (ns, e) → 0 ≤ e ∧ e ≤ L.length := by
  intro k
  induction k with
  | zero =>
    intro a e ns h
    rw [rdNs] at h
    cases hg : getB L a with
    | none => rw [hg] at h; cases h
    | some p =>
      rw [hg] at h
      have hb := get_back (y := p.1) (e := p.2) hg
      simp only [rdNs, Option.some.injEq, Prod.mk.injEq] at h
      rw [← h.2]; omega
  | succ k ih =>
    intro a e ns h
    rw [rdNs] at h
    cases hg : getB L a with
    | none => rw [hg] at h; cases h
    | some p =>
      rw [hg] at h
      simp only at h
      cases hr : rdNs L (k + 1) p.2 with
      | none => rw [hr] at h; cases h
      | some q =>
        rw [hr] at h
        simp only [Option.some.injEq, Prod.mk.injEq] at h
        have := ih (e := q.2) (ns := q.1) hr
        rw [← h.2]; exact this
/-- One more number read ahead of the rest. -/
def addNs (ns : List Int) (o : Option (List Int × Int)) : Option (List Int × Int) := o.map fun p => (ns ++ p.1, p.2)
theorem addNs_step (L : List UInt8) (ns : List Int) (k : Nat) (a n e : Int) (h : getB L a = some (n, e)) : addNs ns (rdNs L (k + 1) a) = addNs (ns ++ [n]) (rdNs L k e) := by
  rw [rdNs, h]
  simp only
  cases rdNs L k e with
  | none => rfl
  | some p => simp [addNs]
theorem addNs_none (L : List UInt8) (ns : List Int) (k : Nat) (a : Int) (h : getB L a = none) : addNs ns (rdNs L (k + 1) a) = none := by
  rw [rdNs, h]; rfl
theorem addNs_nil (o : Option (List Int × Int)) : addNs [] o = o := by cases o <;> simp [addNs]

/-- The bytes from a on, as a text. -/
def cutS (L : List UInt8) (a n : Nat) : ByteArray := ⟨((L.drop a).take n).toArray⟩
theorem cutS_size (L : List UInt8) (a n : Nat) (h : a + n ≤ L.length) : (cutS L a n).size = n := by
  show ((L.drop a).take n).toArray.size = n
  simp; omega
/-- An instruction read; m is how long a text may be. -/
def rdI (L : List UInt8) (m : Int) (a : Int) : Option (I × Int) := match rdNs L 6 a with
  | some ([op, xa, xb, xc, xn, sz], e) => if 0 ≤ sz ∧ sz ≤ m ∧ sz ≤ (L.length : Int) - e then some (⟨op, xa, xb, xc, xn, cutS L e.toNat sz.toNat⟩, e + sz) else none
  | _ => none
def rdIs (L : List UInt8) (m : Int) : Nat → Int → Option (List I × Int)
  | 0, a => some ([], a)
  | k + 1, a => match rdI L m a with
    | none => none
    | some (x, e) => match rdIs L m k e with
      | none => none
      | some (l, e') => some (x :: l, e')
def addIs (l : List I) (o : Option (List I × Int)) : Option (List I × Int) := o.map fun p => (l ++ p.1, p.2)
theorem addIs_step (L : List UInt8) (m : Int) (l : List I) (k : Nat) (a e : Int) (x : I) (h : rdI L m a = some (x, e)) : addIs l (rdIs L m (k + 1) a) = addIs (l ++ [x]) (rdIs L m k e) := by
  rw [rdIs, h]
  simp only
  cases rdIs L m k e with
  | none => rfl
  | some p => simp [addIs]
theorem addIs_none (L : List UInt8) (m : Int) (l : List I) (k : Nat) (a : Int) (h : rdI L m a = none) : addIs l (rdIs L m (k + 1) a) = none := by
  rw [rdIs, h]; rfl
theorem addIs_nil (o : Option (List I × Int)) : addIs [] o = o := by cases o <;> simp [addIs]
/-- What is asked of what was read. -/
def okC (L : List UInt8) (o : Option (List I × Int)) : Option (List I) := match o with
  | none => none
  | some (l, e) => if e = (L.length : Int) ∧ codeB l = true then some l else none
/-- Code read. -/
def getCm (L : List UInt8) (m : Int) : Option (List I) := match getB L 0 with
  | none => none
  | some (n, e) => if 1 ≤ n ∧ n ≤ 200 then okC L (rdIs L m n.toNat e) else none
/-- What the specification reads, and the program. -/
def getC (L : List UInt8) : Option (List I) := getCm L 12

theorem rdI_size {L : List UInt8} {m a e : Int} {x : I} (h : rdI L m a = some (x, e)) : ((x.s.size : Nat) : Int) ≤ m := by
  unfold rdI at h
  cases hr : rdNs L 6 a with
  | none => rw [hr] at h; cases h
  | some p =>
    obtain ⟨ns, e6⟩ := p
    rw [hr] at h
    have hl := rdNs_len hr
    have ha := rdNs_at hr
    match ns, hl with
    | [op, xa, xb, xc, xn, sz], _ =>
      simp only at h
      by_cases hc : 0 ≤ sz ∧ sz ≤ m ∧ sz ≤ (L.length : Int) - e6
      · rw [if_pos hc] at h
        simp only [Option.some.injEq, Prod.mk.injEq] at h
        rw [← h.1]
        show (((cutS L e6.toNat sz.toNat).size : Nat) : Int) ≤ m
        rw [cutS_size _ _ _ (by omega)]
        omega
      · rw [if_neg hc] at h; cases h
theorem rdI_more {L : List UInt8} {m a e : Int} {x : I} (hm : m ≤ L.length + 100) (h : rdI L m a = some (x, e)) (m' : Int) (hx : ((x.s.size : Nat) : Int) ≤ m') : rdI L m' a = some (x, e) := by
  unfold rdI at h ⊢
  cases hr : rdNs L 6 a with
  | none => rw [hr] at h; cases h
  | some p =>
    obtain ⟨ns, e6⟩ := p
    rw [hr] at h
    have hl := rdNs_len hr
    have ha := rdNs_at hr
    match ns, hl with
    | [op, xa, xb, xc, xn, sz], _ =>
      simp only at h ⊢
      by_cases hc : 0 ≤ sz ∧ sz ≤ m ∧ sz ≤ (L.length : Int) - e6
      · rw [if_pos hc] at h
        have h2 := h
        simp only [Option.some.injEq, Prod.mk.injEq] at h2
        rw [← h2.1] at hx
        have hx2 : (((cutS L e6.toNat sz.toNat).size : Nat) : Int) ≤ m' := hx
        rw [cutS_size _ _ _ (by omega)] at hx2
        rw [if_pos (by omega)]; exact h
      · rw [if_neg hc] at h; cases h
theorem rdIs_more {L : List UInt8} {m m' : Int} (hm : m ≤ L.length + 100) : ∀ {k : Nat} {a e : Int} {l : List I}, rdIs L m k a = some (l, e) → (∀ x ∈ l, ((x.s.size : Nat) : Int) ≤ m') → rdIs L m' k a = some (l, e) := by
  intro k
  induction k with
  | zero => intro a e l h _; exact h
  | succ k ih =>
    intro a e l h hx
    rw [rdIs] at h ⊢
    cases hg : rdI L m a with
    | none => rw [hg] at h; cases h
    | some p =>
      obtain ⟨x, e1⟩ := p
      rw [hg] at h
      simp only at h
      cases hr : rdIs L m k e1 with
      | none => rw [hr] at h; cases h
      | some q =>
        obtain ⟨l2, e2⟩ := q
        rw [hr] at h
        have h3 := h
        simp only [Option.some.injEq, Prod.mk.injEq] at h3
        have hxx : ∀ y ∈ x :: l2, ((y.s.size : Nat) : Int) ≤ m' := by rw [h3.1]; exact hx
        rw [rdI_more hm hg m' (hxx x (List.mem_cons_self ..))]
        simp only
        rw [ih hr (fun y hy => hxx y (List.mem_cons_of_mem _ hy))]
        exact h
theorem rdIs_small {L : List UInt8} {m : Int} : ∀ {k : Nat} {a e : Int} {l : List I}, rdIs L m k a = some (l, e) → ∀ x ∈ l, ((x.s.size : Nat) : Int) ≤ m := by
  intro k
  induction k with
  | zero => intro a e l h x hx; simp [rdIs] at h; rw [h.1] at hx; cases hx
  | succ k ih =>
    intro a e l h x hx
    rw [rdIs] at h
    cases hg : rdI L m a with
    | none => rw [hg] at h; cases h
    | some p =>
      obtain ⟨y, e1⟩ := p
      rw [hg] at h
      simp only at h
      cases hr : rdIs L m k e1 with
      | none => rw [hr] at h; cases h
      | some q =>
        obtain ⟨l2, e2⟩ := q
        rw [hr] at h
        simp only [Option.some.injEq, Prod.mk.injEq] at h
        rw [← h.1] at hx
        rcases List.mem_cons.1 hx with rfl | hx
        · exact rdI_size hg
        · exact ih hr x hx
theorem okC_some {L : List UInt8} {o : Option (List I × Int)} {l : List I} (h : okC L o = some l) : o = some (l, (L.length : Int)) ∧ codeB l = true := by
  unfold okC at h
  cases o with
  | none => cases h
  | some p =>
    obtain ⟨l2, e⟩ := p
    simp only at h
    by_cases hc : e = (L.length : Int) ∧ codeB l2 = true
    · rw [if_pos hc] at h
      injection h with h
      subst h
      rw [hc.1]; exact ⟨rfl, hc.2⟩
    · rw [if_neg hc] at h; cases h
theorem okC_of {L : List UInt8} {l : List I} (h : codeB l = true) : okC L (some (l, (L.length : Int))) = some l := by
  exact if_pos ⟨rfl, h⟩
/-- However long a text may be for a while: the same is read. -/
theorem get_any (L : List UInt8) (m : Int) (h12 : 12 ≤ m) (hm : m ≤ L.length + 100) : getCm L m = getC L := by
  unfold getC getCm
  cases hg : getB L 0 with
  | none => rfl
  | some p =>
    obtain ⟨n, e⟩ := p
    simp only
    by_cases hn : 1 ≤ n ∧ n ≤ 200
    · rw [if_pos hn, if_pos hn]
      cases h1 : okC L (rdIs L m n.toNat e) with
      | some l =>
        obtain ⟨h2, h3⟩ := okC_some h1
        have hs : ∀ x ∈ l, ((x.s.size : Nat) : Int) ≤ 12 := fun x hx => by have := code_small h3 x hx; omega
        rw [rdIs_more hm h2 hs, okC_of h3]
      | none =>
        cases h2 : okC L (rdIs L 12 n.toNat e) with
        | none => rfl
        | some l =>
          obtain ⟨h3, h4⟩ := okC_some h2
          have hs : ∀ x ∈ l, ((x.s.size : Nat) : Int) ≤ m := fun x hx => by have := rdIs_small h3 x hx; omega
          rw [rdIs_more (by omega) h3 hs, okC_of h4] at h1
          cases h1
    · rw [if_neg hn, if_neg hn]
end Go.Proofs.YtpjhipekjilejaaDoor.Cb
