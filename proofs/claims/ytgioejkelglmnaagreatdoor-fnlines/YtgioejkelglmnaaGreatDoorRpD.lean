/-
  The program's reading of code, as a function, and that it is the specification's.
-/
import Derived.Test.YtgioejkelglmnaaGreatDoorRpC
namespace Go.Proofs.YtgioejkelglmnaaGreatDoor.Code
open Go.RowKit
open Go.Proofs.YtgioejkelglmnaaGreatDoor.Atom
set_option linter.unusedVariables false

/-- At most m lines of a text, as the program reads them. -/
def readQ : Nat → List UInt8 → Option (List I)
  | 0, _ => some []
  | m + 1, t => if t = [] then some [] else match lineQ (Lib.cut t [10]).1 with
    | none => none
    | some x => (readQ m (Lib.cut t [10]).2.1).map fun l => x :: l
/-- What the program's ParseCode takes. -/
def progP (t : List UInt8) : Option (List I) := match readQ 201 t with
  | none => none
  | some l => if codeB l = true ∧ codeT l = t then some l else none
theorem read_code (N : Int) : ∀ (l : List I) (m : Nat), l.length ≤ m → (∀ x ∈ l, specOk x N = true) → readQ m (codeT l) = some l
  | [], 0, _, _ => rfl
  | [], m + 1, _, _ => by rw [readQ, if_pos (show codeT [] = [] from rfl)]
  | x :: l, 0, h, _ => by simp at h
  | x :: l, m + 1, h, ha => by
    have hx := ha x (by simp)
    have e : codeT (x :: l) = textI x ++ 10 :: codeT l := by
      unfold codeT; rw [List.flatMap_cons, List.append_assoc]; rfl
    rw [readQ, if_neg (by rw [e]; simp), e, cut_hit 10 _ _ (text_free (fit_of hx))]
    simp only [line_q hx]
    rw [read_code N l m (by simpa using h) (fun y hy => ha y (List.mem_cons_of_mem _ hy))]
    rfl
theorem prog_eq (t : List UInt8) : progP t = parseP t := by
  cases hp : parseP t with
  | some l =>
    have hb := parse_back hp
    have hl : l.length ≤ 201 := by
      have := hb.2
      unfold codeB at this
      simp only [Bool.and_eq_true] at this
      have := of_decide_eq_true this.1
      omega
    have hr := read_code l.length l 201 hl (codeB_all hb.2)
    rw [hb.1] at hr
    unfold progP
    rw [hr]
    simp only
    rw [if_pos ⟨hb.2, hb.1⟩]
  | none =>
    unfold progP
    cases hr : readQ 201 t with
    | none => rfl
    | some l =>
      simp only
      rw [if_neg]
      rintro ⟨h1, h2⟩
      have := parse_text h1
      rw [h2, hp] at this
      cases this

theorem setN_s (x : I) (k : Nat) (v : Int) : (setN x k v).s = x.s := by unfold setN; split <;> rfl
theorem setSl_small {M : Nat} {x y : I} {k : Nat} {wd : List UInt8} (h : setSl x k wd = some y) (hx : x.s.size ≤ M) (hw : wd.length ≤ M) : y.s.size ≤ M := by
  unfold setSl at h
  split at h
  · simp only [Option.some.injEq] at h
    rw [← h]
    show wd.toArray.size ≤ M
    rw [List.size_toArray]; exact hw
  · rcases hq : Lib.atoiAll wd with v | _ | _
    · rw [hq] at h
      simp only [Option.some.injEq] at h
      rw [← h, setN_s]; exact hx
    · rw [hq] at h; cases h
    · rw [hq] at h; cases h
theorem slotsQ_small {M : Nat} : ∀ (ks : List Nat) (ws : List (List UInt8)) (x y : I), slotsQ x ks ws = some y → x.s.size ≤ M → (∀ p ∈ ws, p.length ≤ M) → y.s.size ≤ M
  | [], ws, x, y, h, hx, _ => by
    cases ws <;> (simp only [slotsQ, Option.some.injEq] at h; rw [← h]; exact hx)
  | k :: ks, [], x, y, h, hx, _ => by
    simp only [slotsQ, Option.some.injEq] at h; rw [← h]; exact hx
  | k :: ks, w :: ws, x, y, h, hx, hw => by
    rw [slotsQ] at h
    cases hs : setSl x k w with
    | none => rw [hs] at h; cases h
    | some z =>
      rw [hs] at h
      exact slotsQ_small ks ws z y h (setSl_small hs hx (hw w (by simp))) (fun p hp => hw p (List.mem_cons_of_mem _ hp))
theorem splitK_small (c : UInt8) : ∀ (k : Nat) (s p : List UInt8), p ∈ Lib.splitK [c] 0 k s → p.length ≤ s.length
  | 0, s, p, h => by
    rw [Lib.splitK, List.mem_singleton] at h
    rw [h]; exact Nat.le_refl _
  | k + 1, s, p, h => by
    rw [Lib.splitK] at h
    split at h
    · rw [List.mem_singleton] at h
      rw [h]; exact Nat.le_refl _
    · rcases List.mem_cons.1 h with rfl | h
      · rw [List.length_take]; omega
      · have := splitK_small c k _ p h
        rw [List.length_drop] at this
        omega
theorem cut_len2 (l : List UInt8) (c : UInt8) : (Lib.cut l [c]).1.length ≤ l.length ∧ (Lib.cut l [c]).2.1.length ≤ l.length := by
  unfold Lib.cut
  split
  · simp; omega
  · simp
theorem cut_less {l : List UInt8} (c : UInt8) (h : l ≠ []) : (Lib.cut l [c]).2.1.length < l.length := by
  unfold Lib.cut
  have : 0 < l.length := List.length_pos_iff.2 h
  split
  · simp; omega
  · simpa using this
theorem lineQ_small {line : List UInt8} {x : I} (h : lineQ line = some x) : x.s.size ≤ line.length := by
  unfold lineQ at h
  split at h
  · cases h
  · split at h
    · refine slotsQ_small _ _ _ _ h (Nat.zero_le _) fun p hp => ?_
      exact Nat.le_trans (splitK_small 32 _ _ p hp) (cut_len2 line 32).2
    · cases h
theorem readQ_small : ∀ (m : Nat) (t : List UInt8) (l : List I), readQ m t = some l → (∀ x ∈ l, x.s.size ≤ t.length) ∧ l.length ≤ m
  | 0, t, l, h => by
    simp only [readQ, Option.some.injEq] at h
    subst h
    exact ⟨fun x hx => (nomatch hx), Nat.le_refl _⟩
  | m + 1, t, l, h => by
    rw [readQ] at h
    split at h
    · simp only [Option.some.injEq] at h
      subst h
      exact ⟨fun x hx => (nomatch hx), Nat.zero_le _⟩
    · cases hl : lineQ (Lib.cut t [10]).1 with
      | none => rw [hl] at h; cases h
      | some x =>
        rw [hl] at h
        obtain ⟨r, hr, rfl⟩ := Option.map_eq_some_iff.1 h
        have ih := readQ_small m _ r hr
        refine ⟨fun y hy => ?_, by simpa using ih.2⟩
        rcases List.mem_cons.1 hy with rfl | hy
        · exact Nat.le_trans (lineQ_small hl) (cut_len2 t 10).1
        · exact Nat.le_trans (ih.1 y hy) (cut_len2 t 10).2
end Go.Proofs.YtgioejkelglmnaaGreatDoor.Code
