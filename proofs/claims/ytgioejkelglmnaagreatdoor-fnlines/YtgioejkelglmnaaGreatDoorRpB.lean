/-
  Code and its text, there and back: what the specification's reading takes is the text of what it read, and the text of right code is read as that code.
-/
import Derived.Test.YtgioejkelglmnaaGreatDoorRpA
namespace Go.Proofs.YtgioejkelglmnaaGreatDoor.Code
open Go.RowKit
open Go.Proofs.YtgioejkelglmnaaGreatDoor.Atom
set_option linter.unusedVariables false

theorem word_free : ∀ (k : Nat), ∀ b ∈ word k, b ≠ 32 ∧ b ≠ 10 := by
  intro k b hb
  by_cases hk : k - 1 < 20 ∧ 1 ≤ k
  · obtain ⟨j, rfl⟩ : ∃ j, k = j + 1 := ⟨k - 1, by omega⟩
    have hj : j < 20 := by omega
    revert b
    rcases below20 hj with rfl | rfl | rfl | rfl | rfl | rfl | rfl | rfl | rfl | rfl | rfl | rfl | rfl | rfl | rfl | rfl | rfl | rfl | rfl | rfl <;> decide
  · have : word k = [] := by unfold word; split <;> first | omega | rfl
    rw [this] at hb; cases hb
theorem atom_free {s : ByteArray} (h : atomB s = true) : ∀ b ∈ s.data.toList, b ≠ 32 ∧ b ≠ 10 := by
  intro b hb
  unfold atomB allTo at h
  simp only [Bool.and_eq_true, List.all_eq_true] at h
  obtain ⟨i, hi, rfl⟩ := List.getElem_of_mem hb
  have h1 := h.1 i (by rw [List.mem_range]; simpa using hi)
  rw [List.getD_eq_getElem?_getD, List.getElem?_eq_getElem hi] at h1
  generalize s.data.toList[i] = c at h1
  constructor
  · rintro rfl
    simp [chOk] at h1
  · rintro rfl
    simp [chOk] at h1

/-- The words behind the first one. -/
def wordsU (x : I) (k : Nat) : List (List UInt8) := (uses k).map (letT x)
theorem text_words (x : I) (k : Nat) (hk : k < 20) (h : x.op = (k : Int) + 1) : textI x = word (k + 1) ++ (wordsU x (k + 1)).flatMap fun p => 32 :: p := by
  rw [textI_in x k hk h, ← accU_eq x k hk]
  unfold accU wordsU
  rw [List.flatMap_map]
/-- What a right instruction's numbers and text are. -/
structure Fit (x : I) : Prop where
  a : -1000000 ≤ x.a ∧ x.a ≤ 1000000
  b : -1000000 ≤ x.b ∧ x.b ≤ 1000000
  c : -1000000 ≤ x.c ∧ x.c ≤ 1000000
  n : -1000000 ≤ x.n ∧ x.n ≤ 1000000
  s : ∀ b ∈ x.s.data.toList, b ≠ 32 ∧ b ≠ 10
theorem reg_rng {u : List UInt8} {ch r : Int} (h : regB u ch r = true) : 0 ≤ r ∧ r ≤ 7 := by
  unfold regB at h
  split at h
  · exact of_decide_eq_true h
  · have : r = 0 := by simpa using h
    omega
theorem fit_of {x : I} {N : Int} (h : specOk x N = true) : Fit x := by
  unfold specOk at h
  simp only [Bool.and_eq_true] at h
  obtain ⟨h1, h2, h3, h4, h5, h6, h7⟩ := h
  have hN : 1 ≤ N ∧ N ≤ 200 := of_decide_eq_true h1
  have ha := reg_rng h3
  have hc := reg_rng h4
  have hb : 0 ≤ x.b ∧ x.b ≤ 7 := by
    split at h5
    · have : 1 ≤ x.b ∧ x.b ≤ 6 := of_decide_eq_true h5
      omega
    · exact reg_rng h5
  refine ⟨by omega, by omega, by omega, ?_, ?_⟩
  · unfold numB at h7
    split at h7
    · exact of_decide_eq_true h7
    split at h7
    · simp only [Bool.and_eq_true] at h7
      have : 0 ≤ x.n ∧ x.n ≤ 8 := of_decide_eq_true h7.1
      omega
    split at h7
    · have : 0 ≤ x.n ∧ x.n ≤ 7 := of_decide_eq_true h7
      omega
    split at h7
    · have := of_decide_eq_true h7
      omega
    · have : x.n = 0 := by simpa using h7
      omega
  · split at h6
    · exact atom_free h6
    · intro b hb
      rw [List.isEmpty_iff.1 h6] at hb
      cases hb
theorem let_free {x : I} (h : Fit x) (c : UInt8) : ∀ b ∈ letT x c, b ≠ 32 ∧ b ≠ 10 := by
  intro b hb
  unfold letT at hb
  split at hb
  · exact itoa_free _ b hb
  split at hb
  · exact itoa_free _ b hb
  split at hb
  · exact itoa_free _ b hb
  split at hb
  · exact itoa_free _ b hb
  · exact h.s b hb
theorem text_free {x : I} (h : Fit x) : ∀ b ∈ textI x, b ≠ 10 := by
  intro b hb
  unfold textI at hb
  split at hb
  · rename_i ho
    rw [accT] at hb
    rcases List.mem_append.1 hb with hb | hb
    · exact (word_free _ b hb).2
    · rw [List.mem_flatMap] at hb
      obtain ⟨j, _, hb⟩ := hb
      rcases List.mem_cons.1 hb with e | hb
      · rw [e]; decide
      · unfold slotT at hb
        split at hb
        · exact (h.s b hb).2
        · exact (itoa_free _ b hb).2
  · cases hb

theorem insW_found (ws : List (List UInt8)) : ∀ (m k : Nat), (insW ws k m).2 = true → ∃ j, k ≤ j ∧ j < k + m ∧ ws.head? = some (word (j + 1)) ∧ ws.length = (uses (j + 1)).length + 1 ∧ insW ws k m = setAll (opI j) true (uses (j + 1)) ws.tail
  | 0, k, h => by simp [insW] at h
  | m + 1, k, h => by
    rw [insW] at h ⊢
    split at h
    · rename_i e
      rw [if_pos e]
      by_cases hl : ws.length = (uses (k + 1)).length + 1
      · rw [decide_eq_true hl] at h ⊢
        exact ⟨k, Nat.le_refl _, by omega, e.symm, hl, rfl⟩
      · rw [decide_eq_false hl, setAll_no] at h
        cases h
    · rename_i e
      rw [if_neg e]
      obtain ⟨j, h1, h2, h3⟩ := insW_found ws m (k + 1) h
      exact ⟨j, by omega, by omega, h3⟩
theorem setAll_all : ∀ (us : List UInt8) (ws : List (List UInt8)) (x : I) (ok : Bool), us.length = ws.length → (setAll x ok us ws).2 = true → ok = true ∧ ∀ i (h1 : i < us.length) (h2 : i < ws.length), setB us[i] ws[i] = true
  | [], ws, x, ok, _, h => by rw [setAll_nil] at h; exact ⟨h, fun i h1 => absurd h1 (by simp)⟩
  | u :: us, [], x, ok, hl, h => by simp at hl
  | u :: us, w :: ws, x, ok, hl, h => by
    cases ok with
    | false => rw [setAll_no] at h; cases h
    | true =>
      rw [setAll, if_pos rfl] at h
      obtain ⟨h1, h2⟩ := setAll_all us ws _ _ (by simpa using hl) h
      refine ⟨rfl, fun i hi1 hi2 => ?_⟩
      cases i with
      | zero => exact h1
      | succ i => exact h2 i (by simpa using hi1) (by simpa using hi2)

def lettB (c : UInt8) : Bool := c = 65 ∨ c = 66 ∨ c = 67 ∨ c = 78 ∨ c = 83
theorem lett_of {c : UInt8} (h : lettB c = true) : c = 65 ∨ c = 66 ∨ c = 67 ∨ c = 78 ∨ c = 83 := of_decide_eq_true h
theorem set_same {x : I} {c : UInt8} {wd : List UInt8} (hc : lettB c = true) (h : setB c wd = true) : letT (setI x c wd) c = wd := by
  rcases lett_of hc with rfl | rfl | rfl | rfl | rfl
  · exact whole_back h
  · exact whole_back h
  · exact whole_back h
  · exact whole_back h
  · rfl
theorem set_far {x : I} {c d : UInt8} {wd : List UInt8} (hc : lettB c = true) (hd : lettB d = true) (h : c ≠ d) : letT (setI x c wd) d = letT x d := by
  rcases lett_of hc with rfl | rfl | rfl | rfl | rfl <;> rcases lett_of hd with rfl | rfl | rfl | rfl | rfl <;> first | rfl | exact absurd rfl h
theorem setAll_far {d : UInt8} (hd : lettB d = true) : ∀ (us : List UInt8) (ws : List (List UInt8)) (x : I) (ok : Bool), us.all lettB = true → d ∉ us → letT (setAll x ok us ws).1 d = letT x d
  | [], ws, x, ok, _, _ => by rw [setAll_nil]
  | u :: us, [], x, ok, _, _ => rfl
  | u :: us, w :: ws, x, ok, hu, hn => by
    rw [setAll]
    split
    · simp only [List.all_cons, Bool.and_eq_true] at hu
      simp only [List.mem_cons, not_or] at hn
      rw [setAll_far hd us ws _ _ hu.2 hn.2, set_far hu.1 hd (Ne.symm hn.1)]
    · rfl
theorem setAll_map : ∀ (us : List UInt8) (ws : List (List UInt8)) (x : I), us.all lettB = true → us.Nodup → us.length = ws.length → (setAll x true us ws).2 = true → us.map (letT (setAll x true us ws).1) = ws
  | [], [], x, _, _, _, _ => rfl
  | [], w :: ws, x, _, _, hl, _ => by simp at hl
  | u :: us, [], x, _, _, hl, _ => by simp at hl
  | u :: us, w :: ws, x, hu, hnd, hl, h => by
    rw [setAll, if_pos rfl] at h ⊢
    simp only [List.all_cons, Bool.and_eq_true] at hu
    have hnd' := List.nodup_cons.1 hnd
    cases hb : setB u w with
    | false => rw [hb, setAll_no] at h; cases h
    | true =>
      rw [hb] at h
      rw [List.map_cons, setAll_far hu.1 us ws _ _ hu.2 hnd'.1, set_same hu.1 hb, setAll_map us ws _ hu.2 hnd'.2 (by simpa using hl) h]
theorem setAll_op : ∀ (us : List UInt8) (ws : List (List UInt8)) (x : I) (ok : Bool), (setAll x ok us ws).1.op = x.op
  | [], ws, x, ok => by rw [setAll_nil]
  | u :: us, [], x, ok => rfl
  | u :: us, w :: ws, x, ok => by
    rw [setAll]
    split
    · rw [setAll_op]
      unfold setI
      split
      · rfl
      split
      · rfl
      split
      · rfl
      split <;> rfl
    · rfl
theorem uses_fit : ∀ k : Fin 20, (uses (k.val + 1)).all lettB = true ∧ (uses (k.val + 1)).Nodup := by decide +kernel
theorem word_inj : ∀ i k : Fin 20, word (i.val + 1) = word (k.val + 1) → i = k := by decide +kernel

/-- What the specification takes as a line is the text of what it read. -/
theorem line_back {p : List UInt8} (h : (insP p).2 = true) : textI (insP p).1 = p := by
  unfold insP at h ⊢
  obtain ⟨a, t, h1, h2⟩ := spl_glue 32 p []
  rw [List.nil_append] at h2
  rw [h1] at h ⊢
  obtain ⟨j, _, hj, hw, hl, he⟩ := insW_found _ 20 0 h
  rw [he] at h ⊢
  have hj20 : j < 20 := by omega
  have hf := uses_fit ⟨j, hj20⟩
  have ha : a = word (j + 1) := by simpa using hw
  have hm := setAll_map (uses (j + 1)) t (opI j) hf.1 hf.2 (by simpa using hl.symm) h
  rw [text_words _ j hj20 (by rw [List.tail_cons, setAll_op]; rfl)]
  unfold wordsU
  rw [List.tail_cons, hm, h2, ha]

theorem insW_at (k : Nat) (hk : k < 20) (t : List (List UInt8)) : ∀ (m i : Nat), i ≤ k → k < i + m → i + m ≤ 20 → insW (word (k + 1) :: t) i m = setAll (opI k) (decide ((word (k + 1) :: t).length = (uses (k + 1)).length + 1)) (uses (k + 1)) t
  | 0, i, h1, h2, _ => absurd h2 (by omega)
  | m + 1, i, h1, h2, h3 => by
    rw [insW]
    by_cases e : i = k
    · subst e; rw [if_pos (show some (word (i + 1)) = (word (i + 1) :: t).head? from rfl)]; rfl
    · rw [if_neg (fun hh => e (by
        have := word_inj ⟨i, by omega⟩ ⟨k, hk⟩ (by simpa using hh)
        simpa using this))]
      exact insW_at k hk t m (i + 1) (by omega) (by omega) (by omega)
theorem empty_of {s : ByteArray} (h : s.data.toList.isEmpty = true) : s = ByteArray.empty := by
  obtain ⟨⟨l⟩⟩ := s
  have : l = [] := List.isEmpty_iff.1 h
  subst this; rfl
theorem emptyD {s : ByteArray} (h : s.data = #[]) : ByteArray.empty = s := by obtain ⟨d⟩ := s; have : d = #[] := h; subst this; rfl
theorem text_back (s : ByteArray) : (⟨s.data.toList.toArray⟩ : ByteArray) = s := by obtain ⟨⟨l⟩⟩ := s; rfl

set_option maxHeartbeats 4000000 in
theorem setAll_text {x : I} {N : Int} (k : Nat) (hk : k < 20) (ho : x.op = (k : Int) + 1) (h : specOk x N = true) : setAll (opI k) true (uses (k + 1)) (wordsU x (k + 1)) = (x, true) := by
  have hf := fit_of h
  obtain ⟨op, a, b, c, n, s⟩ := x
  have ho' : op = (k : Int) + 1 := ho
  subst ho'
  have wa := whole_itoa hf.a.1 hf.a.2
  have wb := whole_itoa hf.b.1 hf.b.2
  have wc := whole_itoa hf.c.1 hf.c.2
  have wn := whole_itoa hf.n.1 hf.n.2
  unfold specOk at h
  simp only [Bool.and_eq_true] at h
  obtain ⟨_, _, h3, h4, h5, h6, h7⟩ := h
  have hs := text_back s
  simp only at wa wb wc wn
  rcases below20 hk with rfl | rfl | rfl | rfl | rfl | rfl | rfl | rfl | rfl | rfl | rfl | rfl | rfl | rfl | rfl | rfl | rfl | rfl | rfl | rfl
  all_goals
    clear hf ho
    simp [uses, regB, letB] at h3 h4 h5
    simp [numB] at h7
    simp at h6
    simp [wordsU, uses, setAll, setI, setB, letT, opI, wa, wb, wc, wn]
    repeat' (refine And.intro ?_ ?_)
    all_goals first | exact h4.symm | exact h5.symm | exact h7.symm | exact h3.symm | exact emptyD h6

/-- The text of a right instruction is read as it. -/
theorem line_text {x : I} {N : Int} (h : specOk x N = true) : insP (textI x) = (x, true) := by
  have ho : Atom.inB x.op 1 20 = true := by
    unfold specOk at h
    simp only [Bool.and_eq_true] at h
    exact h.2.1
  obtain ⟨k, hk, hx⟩ : ∃ k : Nat, k < 20 ∧ x.op = (k : Int) + 1 := by
    have := of_decide_eq_true ho
    exact ⟨(x.op - 1).toNat, by omega, by omega⟩
  have hf := fit_of h
  unfold insP
  rw [text_words x k hk hx, spl_words 32 _ _ (fun b hb => (word_free _ b hb).1) (fun p hp b hb => by
    unfold wordsU at hp
    obtain ⟨c, _, rfl⟩ := List.mem_map.1 hp
    exact (let_free hf c b hb).1), insW_at k hk _ 20 0 (by omega) (by omega) (by omega), decide_eq_true (by unfold wordsU; simp), setAll_text k hk hx h]
theorem read_text : ∀ (l : List I) (N : Int), (∀ x ∈ l, specOk x N = true) → readL (l.map textI) = some l
  | [], N, _ => rfl
  | x :: l, N, h => by
    rw [List.map_cons, readL, line_text (h x (by simp)), read_text l N (fun y hy => h y (List.mem_cons_of_mem _ hy))]
    rfl
theorem codeT_eq (l : List I) : codeT l = (l.map textI).flatMap fun p => p ++ [10] := by
  unfold codeT; rw [List.flatMap_map]
theorem codeB_all {l : List I} (h : codeB l = true) : ∀ x ∈ l, specOk x l.length = true := by
  unfold codeB at h
  simp only [Bool.and_eq_true, List.all_eq_true] at h
  exact h.2.2
/-- The text of right code is read as that code. -/
theorem parse_text {l : List I} (h : codeB l = true) : parseP (codeT l) = some l := by
  have ha := codeB_all h
  have hs : spl 10 [] (codeT l) = l.map textI ++ [[]] := by
    rw [codeT_eq]
    refine spl_lines 10 _ fun p hp b hb => ?_
    obtain ⟨x, hx, rfl⟩ := List.mem_map.1 hp
    exact text_free (fit_of (ha x hx)) b hb
  unfold parseP
  rw [hs, if_pos (by simp), List.dropLast_concat, read_text l _ ha]
  simp [h]
theorem read_back : ∀ (ps : List (List UInt8)) (l : List I), readL ps = some l → codeT l = ps.flatMap fun p => p ++ [10]
  | [], l, h => by
    simp only [readL, Option.some.injEq] at h
    subst h; rfl
  | p :: ps, l, h => by
    rw [readL] at h
    split at h
    · rename_i hp
      obtain ⟨m, hm, rfl⟩ := Option.map_eq_some_iff.1 h
      have := read_back ps m hm
      unfold codeT at this ⊢
      rw [List.flatMap_cons, List.flatMap_cons, this, line_back hp]
    · cases h
/-- What the specification reads as code is the text of right code. -/
theorem parse_back {t : List UInt8} {l : List I} (h : parseP t = some l) : codeT l = t ∧ codeB l = true := by
  unfold parseP at h
  split at h
  · rename_i hl
    split at h
    · rename_i m hm
      split at h
      · rename_i hc
        simp only [Option.some.injEq] at h
        subst h
        exact ⟨by rw [read_back _ _ hm]; exact (lines_back 10 t hl).symm, hc⟩
      · cases h
    · cases h
  · cases h
end Go.Proofs.YtgioejkelglmnaaGreatDoor.Code
