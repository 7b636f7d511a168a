/-
  The program's reading of code, as a function, and that it is the specification's.
  (Ahead of it, in this text: Texts and what they are read as: numbers, and a text that is split. Code and its text, there and back: what the specification's reading takes is the text of what it read, and the text of right code is read as that code. The program's own reading of a line, as a function of the library's words: the text of a right instruction is read as it.)
-/
import Derived.Test.YtgdlkekjbdkjjaaGreatDoorPaE
import Derived.Test.YtgdlkekjbdkjjaaGreatDoorCkE
import Derived.Lib.AtoiAll
import Derived.Lib.Split
import Derived.Lib.IndexBytes
namespace Go.Proofs.YtgdlkekjbdkjjaaGreatDoor.Code
open Go.RowKit
open Go.Proofs.YtgdlkekjbdkjjaaGreatDoor.Atom
set_option linter.unusedVariables false

theorem dec_small {u : Nat} (h : u < 10) : Lib.decDigits u = [UInt8.ofNat (48 + u)] := Lib.decDigits_one h
theorem dec_big {u : Nat} (h : ¬ u < 10) : Lib.decDigits u = Lib.decDigits (u / 10) ++ [UInt8.ofNat (48 + u % 10)] := by rw [Lib.decDigits, dif_neg h]
theorem dig_of {j : Nat} (h : j < 10) : (UInt8.ofNat (48 + j)).toNat = 48 + j := by
  rw [UInt8.toNat_ofNat']; omega
theorem dec_val : ∀ u, digV (Lib.decDigits u) = u := by
  intro u
  induction u using Nat.strongRecOn with
  | ind u ih =>
    by_cases h : u < 10
    · rw [dec_small h]; show 0 * 10 + ((UInt8.ofNat (48 + u)).toNat - 48) = u; rw [dig_of h]; omega
    · rw [dec_big h, digV_snoc, ih (u / 10) (by omega), dig_of (Nat.mod_lt _ (by omega))]; omega
theorem dec_dig : ∀ u, ∀ b ∈ Lib.decDigits u, 48 ≤ b.toNat ∧ b.toNat ≤ 57 := by
  intro u
  induction u using Nat.strongRecOn with
  | ind u ih =>
    intro b hb
    by_cases h : u < 10
    · rw [dec_small h, List.mem_singleton] at hb
      rw [hb, dig_of h]; omega
    · rw [dec_big h, List.mem_append, List.mem_singleton] at hb
      rcases hb with hb | hb
      · exact ih (u / 10) (by omega) b hb
      · have := Nat.mod_lt u (show 0 < 10 by omega)
        rw [hb, dig_of this]; omega
theorem dec_ne (u : Nat) : Lib.decDigits u ≠ [] := by
  by_cases h : u < 10
  · rw [dec_small h]; simp
  · rw [dec_big h]; simp
theorem dec_head : ∀ u, 1 ≤ u → (Lib.decDigits u).head? ≠ some 48 := by
  intro u
  induction u using Nat.strongRecOn with
  | ind u ih =>
    intro h1
    by_cases h : u < 10
    · rw [dec_small h]
      intro e
      simp only [List.head?_cons, Option.some.injEq] at e
      have := congrArg UInt8.toNat e
      rw [dig_of h] at this
      have h48 : (48 : UInt8).toNat = 48 := rfl
      omega
    · have hi := ih (u / 10) (by omega) (by omega)
      rw [dec_big h]
      cases e : Lib.decDigits (u / 10) with
      | nil => exact absurd e (dec_ne _)
      | cons a b => rw [e] at hi; exact hi
theorem dec_len : ∀ (k u : Nat), u < 10 ^ (k + 1) → (Lib.decDigits u).length ≤ k + 1
  | 0, u, h => by rw [dec_small (by simpa using h)]; simp
  | k + 1, u, h => by
    by_cases h1 : u < 10
    · rw [dec_small h1]; simp
    · rw [dec_big h1, List.length_append]
      have := dec_len k (u / 10) (by rw [Nat.pow_succ] at h; exact Nat.div_lt_of_lt_mul (by rw [Nat.mul_comm]; exact h))
      simp; omega
theorem num_dec (u : Nat) (h : u ≤ 1000000) : numL (Lib.decDigits u) = (u : Int) := by
  unfold numL
  have h1 : 1 ≤ (Lib.decDigits u).length := by
    cases e : Lib.decDigits u with
    | nil => exact absurd e (dec_ne u)
    | cons a b => simp
  rw [if_pos, dec_val]
  refine ⟨⟨h1, dec_len 6 u (by omega)⟩, fun hh => ?_, List.all_eq_true.2 fun b hb => decide_eq_true (dec_dig u b hb)⟩
  by_cases h0 : u = 0
  · subst h0
    have := hh.1
    rw [dec_small (by omega)] at this
    simp at this
  · exact dec_head u (by omega) hh.2
theorem fold_ge : ∀ (l : List UInt8) (n : Nat), n ≤ l.foldl (fun n b => n * 10 + (b.toNat - 48)) n
  | [], n => Nat.le_refl _
  | b :: l, n => by
    rw [List.foldl_cons]
    exact Nat.le_trans (by omega) (fold_ge l _)
theorem digV_pos {c : UInt8} {r : List UInt8} (h : 49 ≤ c.toNat) : 1 ≤ digV (c :: r) := by
  unfold digV
  rw [List.foldl_cons]
  exact Nat.le_trans (by omega) (fold_ge r _)
theorem ofNat_back (d : UInt8) (h : 48 ≤ d.toNat) : UInt8.ofNat (48 + (d.toNat - 48)) = d := by
  rw [show 48 + (d.toNat - 48) = d.toNat by omega]; exact UInt8.ofNat_toNat
theorem dec_back : ∀ (n : Nat) (l : List UInt8), l.length = n → l ≠ [] → l.all digB = true → ¬ (1 < l.length ∧ l.head? = some 48) → Lib.decDigits (digV l) = l
  | 0, l, hn, h, _, _ => absurd (List.length_eq_zero_iff.1 hn) h
  | n + 1, l, hn, h, hd, hz => by
    obtain ⟨m, d, rfl⟩ : ∃ m d, l = m ++ [d] := ⟨l.dropLast, l.getLast h, (List.dropLast_concat_getLast h).symm⟩
    have hdd : 48 ≤ d.toNat ∧ d.toNat ≤ 57 := of_decide_eq_true (List.all_eq_true.1 hd d (by simp))
    rw [digV_snoc]
    cases m with
    | nil =>
      show Lib.decDigits (0 * 10 + (d.toNat - 48)) = [d]
      rw [show 0 * 10 + (d.toNat - 48) = d.toNat - 48 by omega, dec_small (by omega), ofNat_back d hdd.1]
    | cons c r =>
      have hc : 48 ≤ c.toNat ∧ c.toNat ≤ 57 := of_decide_eq_true (List.all_eq_true.1 hd c (by simp))
      have hc48 : c ≠ 48 := fun e => hz ⟨by simp, by rw [e]; rfl⟩
      have hc49 : 49 ≤ c.toNat := by
        have : c.toNat ≠ 48 := fun e => hc48 (UInt8.toNat_inj.1 e)
        omega
      have hp := digV_pos (r := r) hc49
      have ih := dec_back n (c :: r) (by simp at hn ⊢; omega) (by simp) (List.all_eq_true.2 fun b hb => List.all_eq_true.1 hd b (by simp at hb ⊢; rcases hb with e | e <;> simp [e])) (fun e => hc48 (by simpa using e.2))
      rw [dec_big (by omega), show (digV (c :: r) * 10 + (d.toNat - 48)) / 10 = digV (c :: r) by omega, ih, show (digV (c :: r) * 10 + (d.toNat - 48)) % 10 = d.toNat - 48 by omega, ofNat_back d hdd.1]
theorem num_back {l : List UInt8} (h : 0 ≤ numL l) : Lib.decDigits (numL l).toNat = l ∧ l ≠ [] := by
  unfold numL at h ⊢
  split at h
  · rename_i hc
    rw [if_pos hc]
    have hne : l ≠ [] := fun e => by have := hc.1.1; rw [e] at this; simp at this
    exact ⟨by rw [Int.toNat_natCast]; exact dec_back _ l rfl hne hc.2.2 hc.2.1, hne⟩
  · omega
theorem whole_back {l : List UInt8} (h : wholeB l = true) : Lib.itoa (wholeV l) = l := by
  unfold wholeB at h
  unfold wholeV
  split at h
  · rename_i hc
    rw [if_pos hc]
    have hp := of_decide_eq_true h
    obtain ⟨c, r, rfl⟩ : ∃ c r, l = c :: r := by cases l with | nil => simp at hc | cons c r => exact ⟨c, r, rfl⟩
    have hc2 : c = 45 := by simpa using hc.2
    subst hc2
    unfold Lib.itoa
    rw [if_pos (by show -(numL r) < 0; have : 0 < numL r := hp; omega)]
    have := (num_back (l := r) (Int.le_of_lt hp)).1
    rw [show (-(numL (45 :: r).tail)).natAbs = (numL r).toNat by show (-(numL r)).natAbs = _; have : 0 < numL r := hp; omega, this]
  · rename_i hc
    rw [if_neg hc]
    have hp := of_decide_eq_true h
    unfold Lib.itoa
    rw [if_neg (by omega)]
    exact (num_back hp).1
theorem whole_itoa {v : Int} (h0 : -1000000 ≤ v) (h1 : v ≤ 1000000) : wholeV (Lib.itoa v) = v ∧ wholeB (Lib.itoa v) = true := by
  unfold Lib.itoa wholeV wholeB
  split
  · rename_i hn
    have hc : 1 < (45 :: Lib.decDigits v.natAbs).length ∧ (45 :: Lib.decDigits v.natAbs).head? = some 45 := by
      refine ⟨?_, rfl⟩
      cases e : Lib.decDigits v.natAbs with
      | nil => exact absurd e (dec_ne _)
      | cons a b => simp
    rw [if_pos hc, if_pos hc]
    show -(numL (Lib.decDigits v.natAbs)) = v ∧ decide (0 < numL (Lib.decDigits v.natAbs)) = true
    rw [num_dec _ (by omega)]
    exact ⟨by omega, decide_eq_true (by omega)⟩
  · rename_i hn
    have hc : ¬ (1 < (Lib.decDigits v.toNat).length ∧ (Lib.decDigits v.toNat).head? = some 45) := by
      intro e
      obtain ⟨c, r, hl⟩ : ∃ c r, Lib.decDigits v.toNat = c :: r := by
        cases h : Lib.decDigits v.toNat with
        | nil => exact absurd h (dec_ne _)
        | cons c r => exact ⟨c, r, rfl⟩
      have := dec_dig v.toNat c (by rw [hl]; simp)
      rw [hl] at e
      have e2 : c = 45 := by simpa using e.2
      rw [e2] at this
      exact absurd this.1 (by decide)
    rw [if_neg hc, if_neg hc, num_dec _ (by omega)]
    exact ⟨by omega, decide_eq_true (by omega)⟩

/-- Bytes that stand in no text of a number: neither 32 nor 10. -/
theorem itoa_free (v : Int) (b : UInt8) (hb : b ∈ Lib.itoa v) : b ≠ 32 ∧ b ≠ 10 := by
  have key : ∀ u, b ∈ Lib.decDigits u → b ≠ 32 ∧ b ≠ 10 := fun u h => by
    have := dec_dig u b h
    constructor <;> (intro e; rw [e] at this; exact absurd this.1 (by decide))
  unfold Lib.itoa at hb
  split at hb
  · rcases List.mem_cons.1 hb with e | hb
    · subst e; decide
    · exact key _ hb
  · exact key _ hb

theorem spl_glue (sep : UInt8) : ∀ (l cur : List UInt8), ∃ h t, spl sep cur l = h :: t ∧ cur ++ l = h ++ t.flatMap fun p => sep :: p
  | [], cur => ⟨cur, [], rfl, by simp⟩
  | c :: r, cur => by
    by_cases e : c = sep
    · obtain ⟨h, t, h1, h2⟩ := spl_glue sep r []
      refine ⟨cur, h :: t, by rw [spl, if_pos e, h1], ?_⟩
      rw [List.flatMap_cons, e]
      rw [List.nil_append] at h2
      rw [h2]; rfl
    · obtain ⟨h, t, h1, h2⟩ := spl_glue sep r (cur ++ [c])
      refine ⟨h, t, by rw [spl, if_neg e, h1], ?_⟩
      rw [← h2]; simp
theorem spl_cut (sep : UInt8) (r : List UInt8) : ∀ (p cur : List UInt8), (∀ b ∈ p, b ≠ sep) → spl sep cur (p ++ sep :: r) = (cur ++ p) :: spl sep [] r
  | [], cur, _ => by rw [List.nil_append, spl, if_pos rfl, List.append_nil]
  | c :: p, cur, h => by
    rw [List.cons_append, spl, if_neg (h c (by simp)), spl_cut sep r p _ (fun b hb => h b (List.mem_cons_of_mem _ hb))]
    simp
theorem spl_none (sep : UInt8) : ∀ (p cur : List UInt8), (∀ b ∈ p, b ≠ sep) → spl sep cur p = [cur ++ p]
  | [], cur, _ => by simp [spl]
  | c :: p, cur, h => by
    rw [spl, if_neg (h c (by simp)), spl_none sep p _ (fun b hb => h b (List.mem_cons_of_mem _ hb))]
    simp
theorem spl_words (sep : UInt8) : ∀ (t : List (List UInt8)) (h : List UInt8), (∀ b ∈ h, b ≠ sep) → (∀ p ∈ t, ∀ b ∈ p, b ≠ sep) → spl sep [] (h ++ t.flatMap fun p => sep :: p) = h :: t
  | [], h, hh, _ => by rw [List.flatMap_nil, List.append_nil, spl_none sep h [] hh]; rfl
  | p :: t, h, hh, ht => by
    rw [List.flatMap_cons, List.cons_append, spl_cut sep _ h [] hh, spl_words sep t p (ht p (by simp)) (fun q hq => ht q (List.mem_cons_of_mem _ hq))]
    rfl
theorem spl_lines (sep : UInt8) : ∀ (ps : List (List UInt8)), (∀ p ∈ ps, ∀ b ∈ p, b ≠ sep) → spl sep [] (ps.flatMap fun p => p ++ [sep]) = ps ++ [[]]
  | [], _ => rfl
  | p :: ps, h => by
    rw [List.flatMap_cons, List.append_assoc, List.singleton_append, spl_cut sep _ p [] (h p (by simp)), spl_lines sep ps (fun q hq => h q (List.mem_cons_of_mem _ hq))]
    rfl
theorem glue_lines (sep : UInt8) : ∀ (t : List (List UInt8)) (h : List UInt8), (h :: t).getLast? = some [] → h ++ (t.flatMap fun p => sep :: p) = (h :: t).dropLast.flatMap fun p => p ++ [sep]
  | [], h, hl => by
    have : h = [] := by simpa using hl
    rw [this]; rfl
  | p :: t, h, hl => by
    have := glue_lines sep t p (by simpa using hl)
    rw [List.flatMap_cons, List.dropLast_cons_cons, List.flatMap_cons, ← this]
    simp
theorem lines_back (sep : UInt8) (l : List UInt8) (h : (spl sep [] l).getLast? = some []) : l = (spl sep [] l).dropLast.flatMap fun p => p ++ [sep] := by
  obtain ⟨a, t, h1, h2⟩ := spl_glue sep l []
  rw [h1] at h ⊢
  rw [← glue_lines sep t a h, ← h2]; rfl
end Go.Proofs.YtgdlkekjbdkjjaaGreatDoor.Code
namespace Go.Proofs.YtgdlkekjbdkjjaaGreatDoor.Code
open Go.RowKit
open Go.Proofs.YtgdlkekjbdkjjaaGreatDoor.Atom
set_option linter.unusedVariables false

theorem word_free : ∀ (k : Nat), ∀ b ∈ word k, b ≠ 32 ∧ b ≠ 10 := by
  intro k b hb
  by_cases hk : k - 1 < 20 ∧ 1 ≤ k
  · obtain ⟨j, rfl⟩ : ∃ j, k = j + 1 := ⟨k - 1, by omega⟩
    have hj : j < 20 := by omega
    revert b
    rcases below20 hj with rfl | rfl | rfl | rfl | rfl | rfl | rfl | rfl | rfl | rfl | rfl | rfl | rfl | rfl | rfl | rfl | rfl | rfl | rfl | rfl <;> decide
  · have : word k = [] := by unfold word; split <;> first | omega | rfl
    rw [this] at hb; cases hb
theorem atom_free {s : ByteArray} (h : atomB s = true) : ∀ b ∈ s.data.toList, b ≠ 32 ∧ b ≠ 10 := by
  intro b hb
  unfold atomB allTo at h
  simp only [Bool.and_eq_true, List.all_eq_true] at h
  obtain ⟨i, hi, rfl⟩ := List.getElem_of_mem hb
  have h1 := h.1 i (by rw [List.mem_range]; simpa using hi)
  rw [List.getD_eq_getElem?_getD, List.getElem?_eq_getElem hi] at h1
  generalize s.data.toList[i] = c at h1
  constructor
  · rintro rfl
    simp [chOk] at h1
  · rintro rfl
    simp [chOk] at h1

/-- The words behind the first one. -/
def wordsU (x : I) (k : Nat) : List (List UInt8) := (uses k).map (letT x)
theorem text_words (x : I) (k : Nat) (hk : k < 20) (h : x.op = (k : Int) + 1) : textI x = word (k + 1) ++ (wordsU x (k + 1)).flatMap fun p => 32 :: p := by
  rw [textI_in x k hk h, ← accU_eq x k hk]
  unfold accU wordsU
  rw [List.flatMap_map]
/-- What a right instruction's numbers and text are. -/
structure Fit (x : I) : Prop where
  a : -1000000 ≤ x.a ∧ x.a ≤ 1000000
  b : -1000000 ≤ x.b ∧ x.b ≤ 1000000
  c : -1000000 ≤ x.c ∧ x.c ≤ 1000000
  n : -1000000 ≤ x.n ∧ x.n ≤ 1000000
  s : ∀ b ∈ x.s.data.toList, b ≠ 32 ∧ b ≠ 10
theorem reg_rng {u : List UInt8} {ch r : Int} (h : regB u ch r = true) : 0 ≤ r ∧ r ≤ 7 := by
  unfold regB at h
  split at h
  · exact of_decide_eq_true h
  · have : r = 0 := by simpa using h
    omega
theorem fit_of {x : I} {N : Int} (h : specOk x N = true) : Fit x := by
  unfold specOk at h
  simp only [Bool.and_eq_true] at h
  obtain ⟨h1, h2, h3, h4, h5, h6, h7⟩ := h
  have hN : 1 ≤ N ∧ N ≤ 200 := of_decide_eq_true h1
  have ha := reg_rng h3
  have hc := reg_rng h4
  have hb : 0 ≤ x.b ∧ x.b ≤ 7 := by
    split at h5
    · have : 1 ≤ x.b ∧ x.b ≤ 6 := of_decide_eq_true h5
      omega
    · exact reg_rng h5
  refine ⟨by omega, by omega, by omega, ?_, ?_⟩
  · unfold numB at h7
    split at h7
    · exact of_decide_eq_true h7
    split at h7
    · simp only [Bool.and_eq_true] at h7
      have : 0 ≤ x.n ∧ x.n ≤ 8 := of_decide_eq_true h7.1
      omega
    split at h7
    · have : 0 ≤ x.n ∧ x.n ≤ 7 := of_decide_eq_true h7
      omega
    split at h7
    · have := of_decide_eq_true h7
      omega
    · have : x.n = 0 := by simpa using h7
      omega
  · split at h6
    · exact atom_free h6
    · intro b hb
      rw [List.isEmpty_iff.1 h6] at hb
      cases hb
theorem let_free {x : I} (h : Fit x) (c : UInt8) : ∀ b ∈ letT x c, b ≠ 32 ∧ b ≠ 10 := by
  intro b hb
  unfold letT at hb
  split at hb
  · exact itoa_free _ b hb
  split at hb
  · exact itoa_free _ b hb
  split at hb
  · exact itoa_free _ b hb
  split at hb
  · exact itoa_free _ b hb
  · exact h.s b hb
theorem text_free {x : I} (h : Fit x) : ∀ b ∈ textI x, b ≠ 10 := by
  intro b hb
  unfold textI at hb
  split at hb
  · rename_i ho
    rw [accT] at hb
    rcases List.mem_append.1 hb with hb | hb
    · exact (word_free _ b hb).2
    · rw [List.mem_flatMap] at hb
      obtain ⟨j, _, hb⟩ := hb
      rcases List.mem_cons.1 hb with e | hb
      · rw [e]; decide
      · unfold slotT at hb
        split at hb
        · exact (h.s b hb).2
        · exact (itoa_free _ b hb).2
  · cases hb

theorem insW_found (ws : List (List UInt8)) : ∀ (m k : Nat), (insW ws k m).2 = true → ∃ j, k ≤ j ∧ j < k + m ∧ ws.head? = some (word (j + 1)) ∧ ws.length = (uses (j + 1)).length + 1 ∧ insW ws k m = setAll (opI j) true (uses (j + 1)) ws.tail
  | 0, k, h => by simp [insW] at h
  | m + 1, k, h => by
    rw [insW] at h ⊢
    split at h
    · rename_i e
      rw [if_pos e]
      by_cases hl : ws.length = (uses (k + 1)).length + 1
      · rw [decide_eq_true hl] at h ⊢
        exact ⟨k, Nat.le_refl _, by omega, e.symm, hl, rfl⟩
      · rw [decide_eq_false hl, setAll_no] at h
        cases h
    · rename_i e
      rw [if_neg e]
      obtain ⟨j, h1, h2, h3⟩ := insW_found ws m (k + 1) h
      exact ⟨j, by omega, by omega, h3⟩
theorem setAll_all : ∀ (us : List UInt8) (ws : List (List UInt8)) (x : I) (ok : Bool), us.length = ws.length → (setAll x ok us ws).2 = true → ok = true ∧ ∀ i (h1 : i < us.length) (h2 : i < ws.length), setB us[i] ws[i] = true
  | [], ws, x, ok, _, h => by rw [setAll_nil] at h; exact ⟨h, fun i h1 => absurd h1 (by simp)⟩
  | u :: us, [], x, ok, hl, h => by simp at hl
  | u :: us, w :: ws, x, ok, hl, h => by
    cases ok with
    | false => rw [setAll_no] at h; cases h
    | true =>
      rw [setAll, if_pos rfl] at h
      obtain ⟨h1, h2⟩ := setAll_all us ws _ _ (by simpa using hl) h
      refine ⟨rfl, fun i hi1 hi2 => ?_⟩
      cases i with
      | zero => exact h1
      | succ i => exact h2 i (by simpa using hi1) (by simpa using hi2)

def lettB (c : UInt8) : Bool := c = 65 ∨ c = 66 ∨ c = 67 ∨ c = 78 ∨ c = 83
theorem lett_of {c : UInt8} (h : lettB c = true) : c = 65 ∨ c = 66 ∨ c = 67 ∨ c = 78 ∨ c = 83 := of_decide_eq_true h
theorem set_same {x : I} {c : UInt8} {wd : List UInt8} (hc : lettB c = true) (h : setB c wd = true) : letT (setI x c wd) c = wd := by
  rcases lett_of hc with rfl | rfl | rfl | rfl | rfl
  · exact whole_back h
  · exact whole_back h
  · exact whole_back h
  · exact whole_back h
  · rfl
theorem set_far {x : I} {c d : UInt8} {wd : List UInt8} (hc : lettB c = true) (hd : lettB d = true) (h : c ≠ d) : letT (setI x c wd) d = letT x d := by
  rcases lett_of hc with rfl | rfl | rfl | rfl | rfl <;> rcases lett_of hd with rfl | rfl | rfl | rfl | rfl <;> first | rfl | exact absurd rfl h
theorem setAll_far {d : UInt8} (hd : lettB d = true) : ∀ (us : List UInt8) (ws : List (List UInt8)) (x : I) (ok : Bool), us.all lettB = true → d ∉ us → letT (setAll x ok us ws).1 d = letT x d
  | [], ws, x, ok, _, _ => by rw [setAll_nil]
  | u :: us, [], x, ok, _, _ => rfl
  | u :: us, w :: ws, x, ok, hu, hn => by
    rw [setAll]
    split
    · simp only [List.all_cons, Bool.and_eq_true] at hu
      simp only [List.mem_cons, not_or] at hn
      rw [setAll_far hd us ws _ _ hu.2 hn.2, set_far hu.1 hd (Ne.symm hn.1)]
    · rfl
theorem setAll_map : ∀ (us : List UInt8) (ws : List (List UInt8)) (x : I), us.all lettB = true → us.Nodup → us.length = ws.length → (setAll x true us ws).2 = true → us.map (letT (setAll x true us ws).1) = ws
  | [], [], x, _, _, _, _ => rfl
  | [], w :: ws, x, _, _, hl, _ => by simp at hl
  | u :: us, [], x, _, _, hl, _ => by simp at hl
  | u :: us, w :: ws, x, hu, hnd, hl, h => by
    rw [setAll, if_pos rfl] at h ⊢
    simp only [List.all_cons, Bool.and_eq_true] at hu
    have hnd' := List.nodup_cons.1 hnd
    cases hb : setB u w with
    | false => rw [hb, setAll_no] at h; cases h
    | true =>
      rw [hb] at h
      rw [List.map_cons, setAll_far hu.1 us ws _ _ hu.2 hnd'.1, set_same hu.1 hb, setAll_map us ws _ hu.2 hnd'.2 (by simpa using hl) h]
theorem setAll_op : ∀ (us : List UInt8) (ws : List (List UInt8)) (x : I) (ok : Bool), (setAll x ok us ws).1.op = x.op
  | [], ws, x, ok => by rw [setAll_nil]
  | u :: us, [], x, ok => rfl
  | u :: us, w :: ws, x, ok => by
    rw [setAll]
    split
    · rw [setAll_op]
      unfold setI
      split
      · rfl
      split
      · rfl
      split
      · rfl
      split <;> rfl
    · rfl
theorem uses_fit : ∀ k : Fin 20, (uses (k.val + 1)).all lettB = true ∧ (uses (k.val + 1)).Nodup := by decide +kernel
theorem word_inj : ∀ i k : Fin 20, word (i.val + 1) = word (k.val + 1) → i = k := by decide +kernel

/-- What the specification takes as a line is the text of what it read. -/
theorem line_back {p : List UInt8} (h : (insP p).2 = true) : textI (insP p).1 = p := by
  unfold insP at h ⊢
  obtain ⟨a, t, h1, h2⟩ := spl_glue 32 p []
  rw [List.nil_append] at h2
  rw [h1] at h ⊢
  obtain ⟨j, _, hj, hw, hl, he⟩ := insW_found _ 20 0 h
  rw [he] at h ⊢
  have hj20 : j < 20 := by omega
  have hf := uses_fit ⟨j, hj20⟩
  have ha : a = word (j + 1) := by simpa using hw
  have hm := setAll_map (uses (j + 1)) t (opI j) hf.1 hf.2 (by simpa using hl.symm) h
  rw [text_words _ j hj20 (by rw [List.tail_cons, setAll_op]; rfl)]
  unfold wordsU
  rw [List.tail_cons, hm, h2, ha]

theorem insW_at (k : Nat) (hk : k < 20) (t : List (List UInt8)) : ∀ (m i : Nat), i ≤ k → k < i + m → i + m ≤ 20 → insW (word (k + 1) :: t) i m = setAll (opI k) (decide ((word (k + 1) :: t).length = (uses (k + 1)).length + 1)) (uses (k + 1)) t
  | 0, i, h1, h2, _ => absurd h2 (by omega)
  | m + 1, i, h1, h2, h3 => by
    rw [insW]
    by_cases e : i = k
    · subst e; rw [if_pos (show some (word (i + 1)) = (word (i + 1) :: t).head? from rfl)]; rfl
    · rw [if_neg (fun hh => e (by
        have := word_inj ⟨i, by omega⟩ ⟨k, hk⟩ (by simpa using hh)
        simpa using this))]
      exact insW_at k hk t m (i + 1) (by omega) (by omega) (by omega)
theorem empty_of {s : ByteArray} (h : s.data.toList.isEmpty = true) : s = ByteArray.empty := by
  obtain ⟨⟨l⟩⟩ := s
  have : l = [] := List.isEmpty_iff.1 h
  subst this; rfl
theorem emptyD {s : ByteArray} (h : s.data = #[]) : ByteArray.empty = s := by obtain ⟨d⟩ := s; have : d = #[] := h; subst this; rfl
theorem text_back (s : ByteArray) : (⟨s.data.toList.toArray⟩ : ByteArray) = s := by obtain ⟨⟨l⟩⟩ := s; rfl

set_option maxHeartbeats 4000000 in
theorem setAll_text {x : I} {N : Int} (k : Nat) (hk : k < 20) (ho : x.op = (k : Int) + 1) (h : specOk x N = true) : setAll (opI k) true (uses (k + 1)) (wordsU x (k + 1)) = (x, true) := by
  have hf := fit_of h
  obtain ⟨op, a, b, c, n, s⟩ := x
  have ho' : op = (k : Int) + 1 := ho
  subst ho'
  have wa := whole_itoa hf.a.1 hf.a.2
  have wb := whole_itoa hf.b.1 hf.b.2
  have wc := whole_itoa hf.c.1 hf.c.2
  have wn := whole_itoa hf.n.1 hf.n.2
  unfold specOk at h
  simp only [Bool.and_eq_true] at h
  obtain ⟨_, _, h3, h4, h5, h6, h7⟩ := h
  have hs := text_back s
  simp only at wa wb wc wn
  rcases below20 hk with rfl | rfl | rfl | rfl | rfl | rfl | rfl | rfl | rfl | rfl | rfl | rfl | rfl | rfl | rfl | rfl | rfl | rfl | rfl | rfl
  all_goals
    clear hf ho
    simp [uses, regB, letB] at h3 h4 h5
    simp [numB] at h7
    simp at h6
    simp [wordsU, uses, setAll, setI, setB, letT, opI, wa, wb, wc, wn]
    repeat' (refine And.intro ?_ ?_)
    all_goals first | exact h4.symm | exact h5.symm | exact h7.symm | exact h3.symm | exact emptyD h6

/-- The text of a right instruction is read as it. -/
theorem line_text {x : I} {N : Int} (h : specOk x N = true) : insP (textI x) = (x, true) := by
  have ho : Atom.inB x.op 1 20 = true := by
    unfold specOk at h
    simp only [Bool.and_eq_true] at h
    exact h.2.1
  obtain ⟨k, hk, hx⟩ : ∃ k : Nat, k < 20 ∧ x.op = (k : Int) + 1 := by
    have := of_decide_eq_true ho
    exact ⟨(x.op - 1).toNat, by omega, by omega⟩
  have hf := fit_of h
  unfold insP
  rw [text_words x k hk hx, spl_words 32 _ _ (fun b hb => (word_free _ b hb).1) (fun p hp b hb => by
    unfold wordsU at hp
    obtain ⟨c, _, rfl⟩ := List.mem_map.1 hp
    exact (let_free hf c b hb).1), insW_at k hk _ 20 0 (by omega) (by omega) (by omega), decide_eq_true (by unfold wordsU; simp), setAll_text k hk hx h]
theorem read_text : ∀ (l : List I) (N : Int), (∀ x ∈ l, specOk x N = true) → readL (l.map textI) = some l
  | [], N, _ => rfl
  | x :: l, N, h => by
    rw [List.map_cons, readL, line_text (h x (by simp)), read_text l N (fun y hy => h y (List.mem_cons_of_mem _ hy))]
    rfl
theorem codeT_eq (l : List I) : codeT l = (l.map textI).flatMap fun p => p ++ [10] := by
  unfold codeT; rw [List.flatMap_map]
theorem codeB_all {l : List I} (h : codeB l = true) : ∀ x ∈ l, specOk x l.length = true := by
  unfold codeB at h
  simp only [Bool.and_eq_true, List.all_eq_true] at h
  exact h.2.2
/-- The text of right code is read as that code. -/
theorem parse_text {l : List I} (h : codeB l = true) : parseP (codeT l) = some l := by
  have ha := codeB_all h
  have hs : spl 10 [] (codeT l) = l.map textI ++ [[]] := by
    rw [codeT_eq]
    refine spl_lines 10 _ fun p hp b hb => ?_
    obtain ⟨x, hx, rfl⟩ := List.mem_map.1 hp
    exact text_free (fit_of (ha x hx)) b hb
  unfold parseP
  rw [hs, if_pos (by simp), List.dropLast_concat, read_text l _ ha]
  simp [h]
theorem read_back : ∀ (ps : List (List UInt8)) (l : List I), readL ps = some l → codeT l = ps.flatMap fun p => p ++ [10]
  | [], l, h => by
    simp only [readL, Option.some.injEq] at h
    subst h; rfl
  | p :: ps, l, h => by
    rw [readL] at h
    split at h
    · rename_i hp
      obtain ⟨m, hm, rfl⟩ := Option.map_eq_some_iff.1 h
      have := read_back ps m hm
      unfold codeT at this ⊢
      rw [List.flatMap_cons, List.flatMap_cons, this, line_back hp]
    · cases h
/-- What the specification reads as code is the text of right code. -/
theorem parse_back {t : List UInt8} {l : List I} (h : parseP t = some l) : codeT l = t ∧ codeB l = true := by
  unfold parseP at h
  split at h
  · rename_i hl
    split at h
    · rename_i m hm
      split at h
      · rename_i hc
        simp only [Option.some.injEq] at h
        subst h
        exact ⟨by rw [read_back _ _ hm]; exact (lines_back 10 t hl).symm, hc⟩
      · cases h
    · cases h
  · cases h
end Go.Proofs.YtgdlkekjbdkjjaaGreatDoor.Code
namespace Go.Proofs.YtgdlkekjbdkjjaaGreatDoor.Code
open Go.RowKit
open Go.Proofs.YtgdlkekjbdkjjaaGreatDoor.Atom
set_option linter.unusedVariables false

theorem uint_dig : ∀ (l : List UInt8) (acc : Nat), (∀ b ∈ l, 48 ≤ b.toNat ∧ b.toNat ≤ 57) → (acc + 1) * 10 ^ l.length ≤ 10 ^ 18 → Lib.parseUint10 acc l = .ok (l.foldl (fun n b => n * 10 + (b.toNat - 48)) acc)
  | [], acc, _, _ => rfl
  | c :: r, acc, h, hb => by
    have hc := h c (by simp)
    have h1 : 1 ≤ 10 ^ r.length := Nat.pos_of_ne_zero (by simp)
    rw [List.length_cons, Nat.pow_succ] at hb
    have h2 : (acc + 1) * 10 * 10 ^ r.length ≤ 10 ^ 18 := by
      rw [Nat.mul_assoc, Nat.mul_comm 10]; exact hb
    have h3 : (acc + 1) * 10 ≤ 10 ^ 18 := Nat.le_trans (Nat.le_mul_of_pos_right _ h1) h2
    have h4 : (acc * 10 + (c.toNat - 48) + 1) * 10 ^ r.length ≤ 10 ^ 18 := Nat.le_trans (Nat.mul_le_mul_right _ (by omega)) h2
    rw [Lib.parseUint10, if_pos hc, if_neg (by omega), if_neg (by omega), uint_dig r _ (fun b hb => h b (List.mem_cons_of_mem _ hb)) h4]
    rfl
theorem mag_dec (u : Nat) (h : u ≤ 1000000) : Lib.parseMag (Lib.decDigits u) = .ok u := by
  unfold Lib.parseMag
  have hl := dec_len 6 u (by omega)
  rw [if_neg (dec_ne u), uint_dig _ 0 (dec_dig u) (by
    have : 10 ^ (Lib.decDigits u).length ≤ 10 ^ 7 := Nat.pow_le_pow_right (by omega) hl
    omega)]
  have := dec_val u
  unfold digV at this
  rw [this]
theorem atoi_itoa {v : Int} (h0 : -1000000 ≤ v) (h1 : v ≤ 1000000) : Lib.atoiAll (Lib.itoa v) = .ok v := by
  unfold Lib.itoa
  split
  · rename_i hn
    unfold Lib.atoiAll
    have h45 : (45 : UInt8).toNat = 45 := rfl
    simp only [h45]
    rw [if_pos (Or.inr trivial), mag_dec _ (by omega)]
    simp only
    rw [if_neg (by simp), if_neg (by omega), if_pos trivial]
    congr 1
    omega
  · rename_i hn
    obtain ⟨c, r, hl⟩ : ∃ c r, Lib.decDigits v.toNat = c :: r := by
      cases h : Lib.decDigits v.toNat with
      | nil => exact absurd h (dec_ne _)
      | cons c r => exact ⟨c, r, rfl⟩
    have hd := dec_dig v.toNat c (by rw [hl]; simp)
    have hm := mag_dec v.toNat (by omega)
    rw [hl] at hm ⊢
    unfold Lib.atoiAll
    simp only
    rw [if_neg (by omega), hm]
    simp only
    rw [if_neg (by omega), if_neg (by omega), if_neg (by omega)]
    congr 1
    omega

theorem index_hit (c : UInt8) (r : List UInt8) : ∀ (p : List UInt8), (∀ b ∈ p, b ≠ c) → Lib.index (p ++ c :: r) [c] = (p.length : Int)
  | [], _ => by
    rw [List.nil_append, Lib.index, if_pos (by simp)]; rfl
  | b :: p, h => by
    have ih := index_hit c r p (fun x hx => h x (List.mem_cons_of_mem _ hx))
    have hb : ¬ (List.isPrefixOf [c] (b :: (p ++ c :: r)) = true) := by
      simp [List.isPrefixOf]
      exact fun e => h b (by simp) e.symm
    rw [List.cons_append, Lib.index, if_neg hb, ih, if_neg (by simp)]
    simp
theorem index_no (c : UInt8) : ∀ (p : List UInt8), (∀ b ∈ p, b ≠ c) → Lib.index p [c] = -1
  | [], _ => rfl
  | b :: p, h => by
    have ih := index_no c p (fun x hx => h x (List.mem_cons_of_mem _ hx))
    have hb : ¬ (List.isPrefixOf [c] (b :: p) = true) := by
      simp [List.isPrefixOf]
      exact fun e => h b (by simp) e.symm
    rw [Lib.index, if_neg hb, ih]; rfl
theorem cut_hit (c : UInt8) (p r : List UInt8) (h : ∀ b ∈ p, b ≠ c) : Lib.cut (p ++ c :: r) [c] = (p, r, true) := by
  unfold Lib.cut
  rw [index_hit c r p h, if_pos (by omega)]
  simp
theorem splitK_words (c : UInt8) : ∀ (t : List (List UInt8)) (h : List UInt8) (K : Nat), t.length ≤ K → (∀ b ∈ h, b ≠ c) → (∀ p ∈ t, ∀ b ∈ p, b ≠ c) → Lib.splitK [c] 0 K (h ++ t.flatMap fun p => c :: p) = h :: t
  | [], h, K, _, hh, _ => by
    rw [List.flatMap_nil, List.append_nil]
    cases K with
    | zero => rfl
    | succ K => rw [Lib.splitK, index_no c h hh]; rfl
  | p :: t, h, 0, hK, _, _ => by simp at hK
  | p :: t, h, K + 1, hK, hh, ht => by
    rw [List.flatMap_cons, List.cons_append, Lib.splitK, index_hit c _ h hh, if_neg (by simp)]
    simp only [Int.toNat_natCast, Nat.add_zero, List.length_singleton]
    rw [List.take_left', List.drop_append, show h.length + 1 - h.length = 1 by omega, List.drop_eq_nil_of_le (by omega)]
    · simp only [List.nil_append, List.drop_succ_cons, List.drop_zero]
      rw [splitK_words c t p K (by simpa using hK) (ht p (by simp)) (fun q hq => ht q (List.mem_cons_of_mem _ hq))]
    · rfl
theorem flat_ge (c : UInt8) : ∀ (t : List (List UInt8)), t.length ≤ (t.flatMap fun p => c :: p).length
  | [] => by simp
  | p :: t => by have := flat_ge c t; rw [List.flatMap_cons, List.length_append, List.length_cons, List.length_cons]; omega
theorem splitN_words (c : UInt8) (t : List (List UInt8)) (h : List UInt8) (hh : ∀ b ∈ h, b ≠ c) (ht : ∀ p ∈ t, ∀ b ∈ p, b ≠ c) : Lib.splitN (h ++ t.flatMap fun p => c :: p) [c] (t.length + 2) = h :: t := by
  unfold Lib.splitN
  have := flat_ge c t
  exact splitK_words c t h _ (by rw [List.length_append]; omega) hh ht

def setN (x : I) (k : Nat) (v : Int) : I := match k with
  | 1 => { x with a := v } | 2 => { x with b := v } | 3 => { x with c := v } | 4 => { x with b := v } | _ => { x with n := v }
/-- The program's read of a word into a slot. -/
def setSl (x : I) (k : Nat) (wd : List UInt8) : Option I :=
  if k = 9 then some { x with s := ⟨wd.toArray⟩ } else match Lib.atoiAll wd with
    | .ok v => some (setN x k v)
    | _ => none
def slotsQ (x : I) : List Nat → List (List UInt8) → Option I
  | k :: ks, wd :: ws => match setSl x k wd with
    | some y => slotsQ y ks ws
    | none => none
  | _, _ => some x
/-- The place of a word among the instructions', from the k-th on. -/
def findW (wd : List UInt8) : Nat → Nat → Option Nat
  | _, 0 => none
  | k, m + 1 => if word (k + 1) = wd then some k else findW wd (k + 1) m
/-- A line as the program reads it. -/
def lineQ (line : List UInt8) : Option I :=
  match findW (Lib.cut line [32]).1 0 20 with
  | none => none
  | some k => if (Lib.splitN (Lib.cut line [32]).2.1 [32] ((names (k + 1)).length + 1)).length = (names (k + 1)).length then slotsQ (opI k) (names (k + 1)) (Lib.splitN (Lib.cut line [32]).2.1 [32] ((names (k + 1)).length + 1)) else none
theorem findW_at (k : Nat) (hk : k < 20) : ∀ (m i : Nat), i ≤ k → k < i + m → i + m ≤ 20 → findW (word (k + 1)) i m = some k
  | 0, i, h1, h2, _ => absurd h2 (by omega)
  | m + 1, i, h1, h2, h3 => by
    rw [findW]
    by_cases e : i = k
    · subst e; rw [if_pos rfl]
    · rw [if_neg (fun hh => e (by
        have := word_inj ⟨i, by omega⟩ ⟨k, hk⟩ hh
        simpa using this))]
      exact findW_at k hk m (i + 1) (by omega) (by omega) (by omega)
theorem slot_free {x : I} (h : Fit x) (j : Nat) : ∀ b ∈ slotT x j, b ≠ 32 := by
  intro b hb
  unfold slotT at hb
  split at hb
  · exact (h.s b hb).1
  · exact (itoa_free _ b hb).1

set_option maxHeartbeats 4000000 in
theorem slots_text {x : I} {N : Int} (k : Nat) (hk : k < 20) (ho : x.op = (k : Int) + 1) (h : specOk x N = true) : slotsQ (opI k) (names (k + 1)) ((names (k + 1)).map (slotT x)) = some x := by
  have hf := fit_of h
  obtain ⟨op, a, b, c, n, s⟩ := x
  have ho' : op = (k : Int) + 1 := ho
  subst ho'
  have wa := atoi_itoa hf.a.1 hf.a.2
  have wb := atoi_itoa hf.b.1 hf.b.2
  have wc := atoi_itoa hf.c.1 hf.c.2
  have wn := atoi_itoa hf.n.1 hf.n.2
  unfold specOk at h
  simp only [Bool.and_eq_true] at h
  obtain ⟨_, _, h3, h4, h5, h6, h7⟩ := h
  have hs := text_back s
  simp only at wa wb wc wn
  rcases below20 hk with rfl | rfl | rfl | rfl | rfl | rfl | rfl | rfl | rfl | rfl | rfl | rfl | rfl | rfl | rfl | rfl | rfl | rfl | rfl | rfl
  all_goals
    clear hf ho
    simp [uses, regB, letB] at h3 h4 h5
    simp [numB] at h7
    simp at h6
    simp [names, slotsQ, setSl, setN, slotT, Code.val, opI, wa, wb, wc, wn]
    repeat' (refine And.intro ?_ ?_)
    all_goals first | exact h4.symm | exact h5.symm | exact h7.symm | exact h3.symm | exact emptyD h6

/-- The program reads the text of a right instruction as it. -/
theorem line_q {x : I} {N : Int} (h : specOk x N = true) : lineQ (textI x) = some x := by
  have ho : Atom.inB x.op 1 20 = true := by
    unfold specOk at h
    simp only [Bool.and_eq_true] at h
    exact h.2.1
  obtain ⟨k, hk, hx⟩ : ∃ k : Nat, k < 20 ∧ x.op = (k : Int) + 1 := by
    have := of_decide_eq_true ho
    exact ⟨(x.op - 1).toNat, by omega, by omega⟩
  have hf := fit_of h
  have hsl := slots_text k hk hx h
  have htx := textI_in x k hk hx
  unfold accT at htx
  cases hn : names (k + 1) with
  | nil =>
    exfalso
    revert hn
    rcases below20 hk with rfl | rfl | rfl | rfl | rfl | rfl | rfl | rfl | rfl | rfl | rfl | rfl | rfl | rfl | rfl | rfl | rfl | rfl | rfl | rfl <;> simp [names]
  | cons j js =>
    rw [hn] at htx hsl
    have e1 : Lib.cut (textI x) [32] = (word (k + 1), slotT x j ++ ((js.map (slotT x)).flatMap fun p => 32 :: p), true) := by
      rw [htx, List.flatMap_cons, List.cons_append, cut_hit 32 _ _ (fun b hb => (word_free _ b hb).1), List.flatMap_map]
    have e2 : Lib.splitN (slotT x j ++ ((js.map (slotT x)).flatMap fun p => 32 :: p)) [32] ((j :: js).length + 1) = (j :: js).map (slotT x) := by
      have := splitN_words 32 (js.map (slotT x)) (slotT x j) (slot_free hf j) (fun p hp b hb => by
        obtain ⟨i, _, rfl⟩ := List.mem_map.1 hp
        exact slot_free hf i b hb)
      rw [List.length_map] at this
      exact this
    unfold lineQ
    rw [e1]
    simp only
    rw [findW_at k hk 20 0 (by omega) (by omega) (by omega)]
    simp only [hn]
    rw [e2, if_pos (by simp), hsl]
end Go.Proofs.YtgdlkekjbdkjjaaGreatDoor.Code
namespace Go.Proofs.YtgdlkekjbdkjjaaGreatDoor.Code
open Go.RowKit
open Go.Proofs.YtgdlkekjbdkjjaaGreatDoor.Atom
set_option linter.unusedVariables false

/-- At most m lines of a text, as the program reads them. -/
def readQ : Nat → List UInt8 → Option (List I)
  | 0, _ => some []
  | m + 1, t => if t = [] then some [] else match lineQ (Lib.cut t [10]).1 with
    | none => none
    | some x => (readQ m (Lib.cut t [10]).2.1).map fun l => x :: l
/-- What the program's ParseCode takes. -/
def progP (t : List UInt8) : Option (List I) := match readQ 201 t with
  | none => none
  | some l => if codeB l = true ∧ codeT l = t then some l else none
theorem read_code (N : Int) : ∀ (l : List I) (m : Nat), l.length ≤ m → (∀ x ∈ l, specOk x N = true) → readQ m (codeT l) = some l
  | [], 0, _, _ => rfl
  | [], m + 1, _, _ => by rw [readQ, if_pos (show codeT [] = [] from rfl)]
  | x :: l, 0, h, _ => by simp at h
  | x :: l, m + 1, h, ha => by
    have hx := ha x (by simp)
    have e : codeT (x :: l) = textI x ++ 10 :: codeT l := by
      unfold codeT; rw [List.flatMap_cons, List.append_assoc]; rfl
    rw [readQ, if_neg (by rw [e]; simp), e, cut_hit 10 _ _ (text_free (fit_of hx))]
    simp only [line_q hx]
    rw [read_code N l m (by simpa using h) (fun y hy => ha y (List.mem_cons_of_mem _ hy))]
    rfl
theorem prog_eq (t : List UInt8) : progP t = parseP t := by
  cases hp : parseP t with
  | some l =>
    have hb := parse_back hp
    have hl : l.length ≤ 201 := by
      have := hb.2
      unfold codeB at this
      simp only [Bool.and_eq_true] at this
      have := of_decide_eq_true this.1
      omega
    have hr := read_code l.length l 201 hl (codeB_all hb.2)
    rw [hb.1] at hr
    unfold progP
    rw [hr]
    simp only
    rw [if_pos ⟨hb.2, hb.1⟩]
  | none =>
    unfold progP
    cases hr : readQ 201 t with
    | none => rfl
    | some l =>
      simp only
      rw [if_neg]
      rintro ⟨h1, h2⟩
      have := parse_text h1
      rw [h2, hp] at this
      cases this

theorem setN_s (x : I) (k : Nat) (v : Int) : (setN x k v).s = x.s := by unfold setN; split <;> rfl
theorem setSl_small {M : Nat} {x y : I} {k : Nat} {wd : List UInt8} (h : setSl x k wd = some y) (hx : x.s.size ≤ M) (hw : wd.length ≤ M) : y.s.size ≤ M := by
  unfold setSl at h
  split at h
  · simp only [Option.some.injEq] at h
    rw [← h]
    show wd.toArray.size ≤ M
    rw [List.size_toArray]; exact hw
  · rcases hq : Lib.atoiAll wd with v | _ | _
    · rw [hq] at h
      simp only [Option.some.injEq] at h
      rw [← h, setN_s]; exact hx
    · rw [hq] at h; cases h
    · rw [hq] at h; cases h
theorem slotsQ_small {M : Nat} : ∀ (ks : List Nat) (ws : List (List UInt8)) (x y : I), slotsQ x ks ws = some y → x.s.size ≤ M → (∀ p ∈ ws, p.length ≤ M) → y.s.size ≤ M
  | [], ws, x, y, h, hx, _ => by
    cases ws <;> (simp only [slotsQ, Option.some.injEq] at h; rw [← h]; exact hx)
  | k :: ks, [], x, y, h, hx, _ => by
    simp only [slotsQ, Option.some.injEq] at h; rw [← h]; exact hx
  | k :: ks, w :: ws, x, y, h, hx, hw => by
    rw [slotsQ] at h
    cases hs : setSl x k w with
    | none => rw [hs] at h; cases h
    | some z =>
      rw [hs] at h
      exact slotsQ_small ks ws z y h (setSl_small hs hx (hw w (by simp))) (fun p hp => hw p (List.mem_cons_of_mem _ hp))
theorem splitK_small (c : UInt8) : ∀ (k : Nat) (s p : List UInt8), p ∈ Lib.splitK [c] 0 k s → p.length ≤ s.length
  | 0, s, p, h => by
    rw [Lib.splitK, List.mem_singleton] at h
    rw [h]; exact Nat.le_refl _
  | k + 1, s, p, h => by
    rw [Lib.splitK] at h
    split at h
    · rw [List.mem_singleton] at h
      rw [h]; exact Nat.le_refl _
    · rcases List.mem_cons.1 h with rfl | h
      · rw [List.length_take]; omega
      · have := splitK_small c k _ p h
        rw [List.length_drop] at this
        omega
theorem cut_len2 (l : List UInt8) (c : UInt8) : (Lib.cut l [c]).1.length ≤ l.length ∧ (Lib.cut l [c]).2.1.length ≤ l.length := by
  unfold Lib.cut
  split
  · simp; omega
  · simp
theorem cut_less {l : List UInt8} (c : UInt8) (h : l ≠ []) : (Lib.cut l [c]).2.1.length < l.length := by
  unfold Lib.cut
  have : 0 < l.length := List.length_pos_iff.2 h
  split
  · simp; omega
  · simpa using this
theorem lineQ_small {line : List UInt8} {x : I} (h : lineQ line = some x) : x.s.size ≤ line.length := by
  unfold lineQ at h
  split at h
  · cases h
  · split at h
    · refine slotsQ_small _ _ _ _ h (Nat.zero_le _) fun p hp => ?_
      exact Nat.le_trans (splitK_small 32 _ _ p hp) (cut_len2 line 32).2
    · cases h
theorem readQ_small : ∀ (m : Nat) (t : List UInt8) (l : List I), readQ m t = some l → (∀ x ∈ l, x.s.size ≤ t.length) ∧ l.length ≤ m
  | 0, t, l, h => by
    simp only [readQ, Option.some.injEq] at h
    subst h
    exact ⟨fun x hx => (nomatch hx), Nat.le_refl _⟩
  | m + 1, t, l, h => by
    rw [readQ] at h
    split at h
    · simp only [Option.some.injEq] at h
      subst h
      exact ⟨fun x hx => (nomatch hx), Nat.zero_le _⟩
    · cases hl : lineQ (Lib.cut t [10]).1 with
      | none => rw [hl] at h; cases h
      | some x =>
        rw [hl] at h
        obtain ⟨r, hr, rfl⟩ := Option.map_eq_some_iff.1 h
        have ih := readQ_small m _ r hr
        refine ⟨fun y hy => ?_, by simpa using ih.2⟩
        rcases List.mem_cons.1 hy with rfl | hy
        · exact Nat.le_trans (lineQ_small hl) (cut_len2 t 10).1
        · exact Nat.le_trans (ih.1 y hy) (cut_len2 t 10).2
end Go.Proofs.YtgdlkekjbdkjjaaGreatDoor.Code
