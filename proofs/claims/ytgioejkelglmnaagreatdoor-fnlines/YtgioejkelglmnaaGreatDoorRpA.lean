/-
  Texts and what they are read as: numbers, and a text that is split.
-/
import Derived.Test.YtgioejkelglmnaaGreatDoorPaE
import Derived.Test.YtgioejkelglmnaaGreatDoorCkE
namespace Go.Proofs.YtgioejkelglmnaaGreatDoor.Code
open Go.RowKit
open Go.Proofs.YtgioejkelglmnaaGreatDoor.Atom
set_option linter.unusedVariables false

theorem dec_small {u : Nat} (h : u < 10) : Lib.decDigits u = [UInt8.ofNat (48 + u)] := Lib.decDigits_one h
theorem dec_big {u : Nat} (h : ¬ u < 10) : Lib.decDigits u = Lib.decDigits (u / 10) ++ [UInt8.ofNat (48 + u % 10)] := by rw [Lib.decDigits, dif_neg h]
theorem dig_of {j : Nat} (h : j < 10) : (UInt8.ofNat (48 + j)).toNat = 48 + j := by
  rw [UInt8.toNat_ofNat']; omega
theorem dec_val : ∀ u, digV (Lib.decDigits u) = u := by
  intro u
  induction u using Nat.strongRecOn with
  | ind u ih =>
    by_cases h : u < 10
    · rw [dec_small h]; show 0 * 10 + ((UInt8.ofNat (48 + u)).toNat - 48) = u; rw [dig_of h]; omega
    · rw [dec_big h, digV_snoc, ih (u / 10) (by omega), dig_of (Nat.mod_lt _ (by omega))]; omega
theorem dec_dig : ∀ u, ∀ b ∈ Lib.decDigits u, 48 ≤ b.toNat ∧ b.toNat ≤ 57 := by
  intro u
  induction u using Nat.strongRecOn with
  | ind u ih =>
    intro b hb
    by_cases h : u < 10
    · rw [dec_small h, List.mem_singleton] at hb
      rw [hb, dig_of h]; omega
    · rw [dec_big h, List.mem_append, List.mem_singleton] at hb
      rcases hb with hb | hb
      · exact ih (u / 10) (by omega) b hb
      · have := Nat.mod_lt u (show 0 < 10 by omega)
        rw [hb, dig_of this]; omega
theorem dec_ne (u : Nat) : Lib.decDigits u ≠ [] := by
  by_cases h : u < 10
  · rw [dec_small h]; simp
  · rw [dec_big h]; simp
theorem dec_head : ∀ u, 1 ≤ u → (Lib.decDigits u).head? ≠ some 48 := by
  intro u
  induction u using Nat.strongRecOn with
  | ind u ih =>
    intro h1
    by_cases h : u < 10
    · rw [dec_small h]
      intro e
      simp only [List.head?_cons, Option.some.injEq] at e
      have := congrArg UInt8.toNat e
      rw [dig_of h] at this
      have h48 : (48 : UInt8).toNat = 48 := rfl
      omega
    · have hi := ih (u / 10) (by omega) (by omega)
      rw [dec_big h]
      cases e : Lib.decDigits (u / 10) with
      | nil => exact absurd e (dec_ne _)
      | cons a b => rw [e] at hi; exact hi
theorem dec_len : ∀ (k u : Nat), u < 10 ^ (k + 1) → (Lib.decDigits u).length ≤ k + 1
  | 0, u, h => by rw [dec_small (by simpa using h)]; simp
  | k + 1, u, h => by
    by_cases h1 : u < 10
    · rw [dec_small h1]; simp
    · rw [dec_big h1, List.length_append]
      have := dec_len k (u / 10) (by rw [Nat.pow_succ] at h; exact Nat.div_lt_of_lt_mul (by rw [Nat.mul_comm]; exact h))
      simp; omega
theorem num_dec (u : Nat) (h : u ≤ 1000000) : numL (Lib.decDigits u) = (u : Int) := by
  unfold numL
  have h1 : 1 ≤ (Lib.decDigits u).length := by
    cases e : Lib.decDigits u with
    | nil => exact absurd e (dec_ne u)
    | cons a b => simp
  rw [if_pos, dec_val]
  refine ⟨⟨h1, dec_len 6 u (by omega)⟩, fun hh => ?_, List.all_eq_true.2 fun b hb => decide_eq_true (dec_dig u b hb)⟩
  by_cases h0 : u = 0
  · subst h0
    have := hh.1
    rw [dec_small (by omega)] at this
    simp at this
  · exact dec_head u (by omega) hh.2
theorem fold_ge : ∀ (l : List UInt8) (n : Nat), n ≤ l.foldl (fun n b => n * 10 + (b.toNat - 48)) n
  | [], n => Nat.le_refl _
  | b :: l, n => by
    rw [List.foldl_cons]
    exact Nat.le_trans (by omega) (fold_ge l _)
theorem digV_pos {c : UInt8} {r : List UInt8} (h : 49 ≤ c.toNat) : 1 ≤ digV (c :: r) := by
  unfold digV
  rw [List.foldl_cons]
  exact Nat.le_trans (by omega) (fold_ge r _)
theorem ofNat_back (d : UInt8) (h : 48 ≤ d.toNat) : UInt8.ofNat (48 + (d.toNat - 48)) = d := by
  rw [show 48 + (d.toNat - 48) = d.toNat by omega]; exact UInt8.ofNat_toNat
theorem dec_back : ∀ (n : Nat) (l : List UInt8), l.length = n → l ≠ [] → l.all digB = true → ¬ (1 < l.length ∧ l.head? = some 48) → Lib.decDigits (digV l) = l
  | 0, l, hn, h, _, _ => absurd (List.length_eq_zero_iff.1 hn) h
  | n + 1, l, hn, h, hd, hz => by
    obtain ⟨m, d, rfl⟩ : ∃ m d, l = m ++ [d] := ⟨l.dropLast, l.getLast h, (List.dropLast_concat_getLast h).symm⟩
    have hdd : 48 ≤ d.toNat ∧ d.toNat ≤ 57 := of_decide_eq_true (List.all_eq_true.1 hd d (by simp))
    rw [digV_snoc]
    cases m with
    | nil =>
      show Lib.decDigits (0 * 10 + (d.toNat - 48)) = [d]
      rw [show 0 * 10 + (d.toNat - 48) = d.toNat - 48 by omega, dec_small (by omega), ofNat_back d hdd.1]
    | cons c r =>
      have hc : 48 ≤ c.toNat ∧ c.toNat ≤ 57 := of_decide_eq_true (List.all_eq_true.1 hd c (by simp))
      have hc48 : c ≠ 48 := fun e => hz ⟨by simp, by rw [e]; rfl⟩
      have hc49 : 49 ≤ c.toNat := by
        have : c.toNat ≠ 48 := fun e => hc48 (UInt8.toNat_inj.1 e)
        omega
      have hp := digV_pos (r := r) hc49
      have ih := dec_back n (c :: r) (by simp at hn ⊢; omega) (by simp) (List.all_eq_true.2 fun b hb => List.all_eq_true.1 hd b (by simp at hb ⊢; rcases hb with e | e <;> simp [e])) (fun e => hc48 (by simpa using e.2))
      rw [dec_big (by omega), show (digV (c :: r) * 10 + (d.toNat - 48)) / 10 = digV (c :: r) by omega, ih, show (digV (c :: r) * 10 + (d.toNat - 48)) % 10 = d.toNat - 48 by omega, ofNat_back d hdd.1]
theorem num_back {l : List UInt8} (h : 0 ≤ numL l) : Lib.decDigits (numL l).toNat = l ∧ l ≠ [] := by
  unfold numL at h ⊢
  split at h
  · rename_i hc
    rw [if_pos hc]
    have hne : l ≠ [] := fun e => by have := hc.1.1; rw [e] at this; simp at this
    exact ⟨by rw [Int.toNat_natCast]; exact dec_back _ l rfl hne hc.2.2 hc.2.1, hne⟩
  · omega
theorem whole_back {l : List UInt8} (h : wholeB l = true) : Lib.itoa (wholeV l) = l := by
  unfold wholeB at h
  unfold wholeV
  split at h
  · rename_i hc
    rw [if_pos hc]
    have hp := of_decide_eq_true h
    obtain ⟨c, r, rfl⟩ : ∃ c r, l = c :: r := by cases l with | nil => simp at hc | cons c r => exact ⟨c, r, rfl⟩
    have hc2 : c = 45 := by simpa using hc.2
    subst hc2
    unfold Lib.itoa
    rw [if_pos (by show -(numL r) < 0; have : 0 < numL r := hp; omega)]
    have := (num_back (l := r) (Int.le_of_lt hp)).1
    rw [show (-(numL (45 :: r).tail)).natAbs = (numL r).toNat by show (-(numL r)).natAbs = _; have : 0 < numL r := hp; omega, this]
  · rename_i hc
    rw [if_neg hc]
    have hp := of_decide_eq_true h
    unfold Lib.itoa
    rw [if_neg (by omega)]
    exact (num_back hp).1
theorem whole_itoa {v : Int} (h0 : -1000000 ≤ v) (h1 : v ≤ 1000000) : wholeV (Lib.itoa v) = v ∧ wholeB (Lib.itoa v) = true := by
  unfold Lib.itoa wholeV wholeB
  split
  · rename_i hn
    have hc : 1 < (45 :: Lib.decDigits v.natAbs).length ∧ (45 :: Lib.decDigits v.natAbs).head? = some 45 := by
      refine ⟨?_, rfl⟩
      cases e : Lib.decDigits v.natAbs with
      | nil => exact absurd e (dec_ne _)
      | cons a b => simp
    rw [if_pos hc, if_pos hc]
    show -(numL (Lib.decDigits v.natAbs)) = v ∧ decide (0 < numL (Lib.decDigits v.natAbs)) = true
    rw [num_dec _ (by omega)]
    exact ⟨by omega, decide_eq_true (by omega)⟩
  · rename_i hn
    have hc : ¬ (1 < (Lib.decDigits v.toNat).length ∧ (Lib.decDigits v.toNat).head? = some 45) := by
      intro e
      obtain ⟨c, r, hl⟩ : ∃ c r, Lib.decDigits v.toNat = c :: r := by
        cases h : Lib.decDigits v.toNat with
        | nil => exact absurd h (dec_ne _)
        | cons c r => exact ⟨c, r, rfl⟩
      have := dec_dig v.toNat c (by rw [hl]; simp)
      rw [hl] at e
      have e2 : c = 45 := by simpa using e.2
      rw [e2] at this
      exact absurd this.1 (by decide)
    rw [if_neg hc, if_neg hc, num_dec _ (by omega)]
    exact ⟨by omega, decide_eq_true (by omega)⟩

/-- Bytes that stand in no text of a number: neither 32 nor 10. -/
theorem itoa_free (v : Int) (b : UInt8) (hb : b ∈ Lib.itoa v) : b ≠ 32 ∧ b ≠ 10 := by
  have key : ∀ u, b ∈ Lib.decDigits u → b ≠ 32 ∧ b ≠ 10 := fun u h => by
    have := dec_dig u b h
    constructor <;> (intro e; rw [e] at this; exact absurd this.1 (by decide))
  unfold Lib.itoa at hb
  split at hb
  · rcases List.mem_cons.1 hb with e | hb
    · subst e; decide
    · exact key _ hb
  · exact key _ hb

theorem spl_glue (sep : UInt8) : ∀ (l cur : List UInt8), ∃ h t, spl sep cur l = h :: t ∧ cur ++ l = h ++ t.flatMap fun p => sep :: p
  | [], cur => ⟨cur, [], rfl, by simp⟩
  | c :: r, cur => by
    by_cases e : c = sep
    · obtain ⟨h, t, h1, h2⟩ := spl_glue sep r []
      refine ⟨cur, h :: t, by rw [spl, if_pos e, h1], ?_⟩
      rw [List.flatMap_cons, e]
      rw [List.nil_append] at h2
      rw [h2]; rfl
    · obtain ⟨h, t, h1, h2⟩ := spl_glue sep r (cur ++ [c])
      refine ⟨h, t, by rw [spl, if_neg e, h1], ?_⟩
      rw [← h2]; simp
theorem spl_cut (sep : UInt8) (r : List UInt8) : ∀ (p cur : List UInt8), (∀ b ∈ p, b ≠ sep) → spl sep cur (p ++ sep :: r) = (cur ++ p) :: spl sep [] r
  | [], cur, _ => by rw [List.nil_append, spl, if_pos rfl, List.append_nil]
  | c :: p, cur, h => by
    rw [List.cons_append, spl, if_neg (h c (by simp)), spl_cut sep r p _ (fun b hb => h b (List.mem_cons_of_mem _ hb))]
    simp
theorem spl_none (sep : UInt8) : ∀ (p cur : List UInt8), (∀ b ∈ p, b ≠ sep) → spl sep cur p = [cur ++ p]
  | [], cur, _ => by simp [spl]
  | c :: p, cur, h => by
    rw [spl, if_neg (h c (by simp)), spl_none sep p _ (fun b hb => h b (List.mem_cons_of_mem _ hb))]
    simp
theorem spl_words (sep : UInt8) : ∀ (t : List (List UInt8)) (h : List UInt8), (∀ b ∈ h, b ≠ sep) → (∀ p ∈ t, ∀ b ∈ p, b ≠ sep) → spl sep [] (h ++ t.flatMap fun p => sep :: p) = h :: t
  | [], h, hh, _ => by rw [List.flatMap_nil, List.append_nil, spl_none sep h [] hh]; rfl
  | p :: t, h, hh, ht => by
    rw [List.flatMap_cons, List.cons_append, spl_cut sep _ h [] hh, spl_words sep t p (ht p (by simp)) (fun q hq => ht q (List.mem_cons_of_mem _ hq))]
    rfl
theorem spl_lines (sep : UInt8) : ∀ (ps : List (List UInt8)), (∀ p ∈ ps, ∀ b ∈ p, b ≠ sep) → spl sep [] (ps.flatMap fun p => p ++ [sep]) = ps ++ [[]]
  | [], _ => rfl
  | p :: ps, h => by
    rw [List.flatMap_cons, List.append_assoc, List.singleton_append, spl_cut sep _ p [] (h p (by simp)), spl_lines sep ps (fun q hq => h q (List.mem_cons_of_mem _ hq))]
    rfl
theorem glue_lines (sep : UInt8) : ∀ (t : List (List UInt8)) (h : List UInt8), (h :: t).getLast? = some [] → h ++ (t.flatMap fun p => sep :: p) = (h :: t).dropLast.flatMap fun p => p ++ [sep]
  | [], h, hl => by
    have : h = [] := by simpa using hl
    rw [this]; rfl
  | p :: t, h, hl => by
    have := glue_lines sep t p (by simpa using hl)
    rw [List.flatMap_cons, List.dropLast_cons_cons, List.flatMap_cons, ← this]
    simp
theorem lines_back (sep : UInt8) (l : List UInt8) (h : (spl sep [] l).getLast? = some []) : l = (spl sep [] l).dropLast.flatMap fun p => p ++ [sep] := by
  obtain ⟨a, t, h1, h2⟩ := spl_glue sep l []
  rw [h1] at h ⊢
  rw [← glue_lines sep t a h, ← h2]; rfl
end Go.Proofs.YtgioejkelglmnaaGreatDoor.Code
