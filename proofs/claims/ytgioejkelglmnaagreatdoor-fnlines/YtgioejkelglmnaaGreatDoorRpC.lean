/-
  The program's own reading of a line, as a function of the library's words: the text of a right instruction is read as it.
-/
import Derived.Test.YtgioejkelglmnaaGreatDoorRpB
import Derived.Lib.AtoiAll
import Derived.Lib.Split
import Derived.Lib.IndexBytes
namespace Go.Proofs.YtgioejkelglmnaaGreatDoor.Code
open Go.RowKit
open Go.Proofs.YtgioejkelglmnaaGreatDoor.Atom
set_option linter.unusedVariables false

theorem uint_dig : ∀ (l : List UInt8) (acc : Nat), (∀ b ∈ l, 48 ≤ b.toNat ∧ b.toNat ≤ 57) → (acc + 1) * 10 ^ l.length ≤ 10 ^ 18 → Lib.parseUint10 acc l = .ok (l.foldl (fun n b => n * 10 + (b.toNat - 48)) acc)
  | [], acc, _, _ => rfl
  | c :: r, acc, h, hb => by
    have hc := h c (by simp)
    have h1 : 1 ≤ 10 ^ r.length := Nat.pos_of_ne_zero (by simp)
    rw [List.length_cons, Nat.pow_succ] at hb
    have h2 : (acc + 1) * 10 * 10 ^ r.length ≤ 10 ^ 18 := by
      rw [Nat.mul_assoc, Nat.mul_comm 10]; exact hb
    have h3 : (acc + 1) * 10 ≤ 10 ^ 18 := Nat.le_trans (Nat.le_mul_of_pos_right _ h1) h2
    have h4 : (acc * 10 + (c.toNat - 48) + 1) * 10 ^ r.length ≤ 10 ^ 18 := Nat.le_trans (Nat.mul_le_mul_right _ (by omega)) h2
    rw [Lib.parseUint10, if_pos hc, if_neg (by omega), if_neg (by omega), uint_dig r _ (fun b hb => h b (List.mem_cons_of_mem _ hb)) h4]
    rfl
theorem mag_dec (u : Nat) (h : u ≤ 1000000) : Lib.parseMag (Lib.decDigits u) = .ok u := by
  unfold Lib.parseMag
  have hl := dec_len 6 u (by omega)
  rw [if_neg (dec_ne u), uint_dig _ 0 (dec_dig u) (by
    have : 10 ^ (Lib.decDigits u).length ≤ 10 ^ 7 := Nat.pow_le_pow_right (by omega) hl
    omega)]
  have := dec_val u
  unfold digV at this
  rw [this]
theorem atoi_itoa {v : Int} (h0 : -1000000 ≤ v) (h1 : v ≤ 1000000) : Lib.atoiAll (Lib.itoa v) = .ok v := by
  unfold Lib.itoa
  split
  · rename_i hn
    unfold Lib.atoiAll
    have h45 : (45 : UInt8).toNat = 45 := rfl
    simp only [h45]
    rw [if_pos (Or.inr trivial), mag_dec _ (by omega)]
    simp only
    rw [if_neg (by simp), if_neg (by omega), if_pos trivial]
    congr 1
    omega
  · rename_i hn
    obtain ⟨c, r, hl⟩ : ∃ c r, Lib.decDigits v.toNat = c :: r := by
      cases h : Lib.decDigits v.toNat with
      | nil => exact absurd h (dec_ne _)
      | cons c r => exact ⟨c, r, rfl⟩
    have hd := dec_dig v.toNat c (by rw [hl]; simp)
    have hm := mag_dec v.toNat (by omega)
    rw [hl] at hm ⊢
    unfold Lib.atoiAll
    simp only
    rw [if_neg (by omega), hm]
    simp only
    rw [if_neg (by omega), if_neg (by omega), if_neg (by omega)]
    congr 1
    omega

theorem index_hit (c : UInt8) (r : List UInt8) : ∀ (p : List UInt8), (∀ b ∈ p, b ≠ c) → Lib.index (p ++ c :: r) [c] = (p.length : Int)
  | [], _ => by
    rw [List.nil_append, Lib.index, if_pos (by simp)]; rfl
  | b :: p, h => by
    have ih := index_hit c r p (fun x hx => h x (List.mem_cons_of_mem _ hx))
    have hb : ¬ (List.isPrefixOf [c] (b :: (p ++ c :: r)) = true) := by
      simp [List.isPrefixOf]
      exact fun e => h b (by simp) e.symm
    rw [List.cons_append, Lib.index, if_neg hb, ih, if_neg (by simp)]
    simp
theorem index_no (c : UInt8) : ∀ (p : List UInt8), (∀ b ∈ p, b ≠ c) → Lib.index p [c] = -1
  | [], _ => rfl
  | b :: p, h => by
    have ih := index_no c p (fun x hx => h x (List.mem_cons_of_mem _ hx))
    have hb : ¬ (List.isPrefixOf [c] (b :: p) = true) := by
      simp [List.isPrefixOf]
      exact fun e => h b (by simp) e.symm
    rw [Lib.index, if_neg hb, ih]; rfl
theorem cut_hit (c : UInt8) (p r : List UInt8) (h : ∀ b ∈ p, b ≠ c) : Lib.cut (p ++ c :: r) [c] = (p, r, true) := by
  unfold Lib.cut
  rw [index_hit c r p h, if_pos (by omega)]
  simp
theorem splitK_words (c : UInt8) : ∀ (t : List (List UInt8)) (h : List UInt8) (K : Nat), t.length ≤ K → (∀ b ∈ h, b ≠ c) → (∀ p ∈ t, ∀ b ∈ p, b ≠ c) → Lib.splitK [c] 0 K (h ++ t.flatMap fun p => c :: p) = h :: t
  | [], h, K, _, hh, _ => by
    rw [List.flatMap_nil, List.append_nil]
    cases K with
    | zero => rfl
    | succ K => rw [Lib.splitK, index_no c h hh]; rfl
  | p :: t, h, 0, hK, _, _ => by simp at hK
  | p :: t, h, K + 1, hK, hh, ht => by
    rw [List.flatMap_cons, List.cons_append, Lib.splitK, index_hit c _ h hh, if_neg (by simp)]
    simp only [Int.toNat_natCast, Nat.add_zero, List.length_singleton]
    rw [List.take_left', List.drop_append, show h.length + 1 - h.length = 1 by omega, List.drop_eq_nil_of_le (by omega)]
    · simp only [List.nil_append, List.drop_succ_cons, List.drop_zero]
      rw [splitK_words c t p K (by simpa using hK) (ht p (by simp)) (fun q hq => ht q (List.mem_cons_of_mem _ hq))]
    · rfl
theorem flat_ge (c : UInt8) : ∀ (t : List (List UInt8)), t.length ≤ (t.flatMap fun p => c :: p).length
  | [] => by simp
  | p :: t => by have := flat_ge c t; rw [List.flatMap_cons, List.length_append, List.length_cons, List.length_cons]; omega
theorem splitN_words (c : UInt8) (t : List (List UInt8)) (h : List UInt8) (hh : ∀ b ∈ h, b ≠ c) (ht : ∀ p ∈ t, ∀ b ∈ p, b ≠ c) : Lib.splitN (h ++ t.flatMap fun p => c :: p) [c] (t.length + 2) = h :: t := by
  unfold Lib.splitN
  have := flat_ge c t
  exact splitK_words c t h _ (by rw [List.length_append]; omega) hh ht

def setN (x : I) (k : Nat) (v : Int) : I := match k with
  | 1 => { x with a := v } | 2 => { x with b := v } | 3 => { x with c := v } | 4 => { x with b := v } | _ => { x with n := v }
/-- The program's read of a word into a slot. -/
def setSl (x : I) (k : Nat) (wd : List UInt8) : Option I :=
  if k = 9 then some { x with s := ⟨wd.toArray⟩ } else match Lib.atoiAll wd with
    | .ok v => some (setN x k v)
    | _ => none
def slotsQ (x : I) : List Nat → List (List UInt8) → Option I
  | k :: ks, wd :: ws => match setSl x k wd with
    | some y => slotsQ y ks ws
    | none => none
  | _, _ => some x
/-- The place of a word among the instructions', from the k-th on. -/
def findW (wd : List UInt8) : Nat → Nat → Option Nat
  | _, 0 => none
  | k, m + 1 => if word (k + 1) = wd then some k else findW wd (k + 1) m
/-- A line as the program reads it. -/
def lineQ (line : List UInt8) : Option I :=
  match findW (Lib.cut line [32]).1 0 20 with
  | none => none
  | some k => if (Lib.splitN (Lib.cut line [32]).2.1 [32] ((names (k + 1)).length + 1)).length = (names (k + 1)).length then slotsQ (opI k) (names (k + 1)) (Lib.splitN (Lib.cut line [32]).2.1 [32] ((names (k + 1)).length + 1)) else none
theorem findW_at (k : Nat) (hk : k < 20) : ∀ (m i : Nat), i ≤ k → k < i + m → i + m ≤ 20 → findW (word (k + 1)) i m = some k
  | 0, i, h1, h2, _ => absurd h2 (by omega)
  | m + 1, i, h1, h2, h3 => by
    rw [findW]
    by_cases e : i = k
    · subst e; rw [if_pos rfl]
    · rw [if_neg (fun hh => e (by
        have := word_inj ⟨i, by omega⟩ ⟨k, hk⟩ hh
        simpa using this))]
      exact findW_at k hk m (i + 1) (by omega) (by omega) (by omega)
theorem slot_free {x : I} (h : Fit x) (j : Nat) : ∀ b ∈ slotT x j, b ≠ 32 := by
  intro b hb
  unfold slotT at hb
  split at hb
  · exact (h.s b hb).1
  · exact (itoa_free _ b hb).1

set_option maxHeartbeats 4000000 in
theorem slots_text {x : I} {N : Int} (k : Nat) (hk : k < 20) (ho : x.op = (k : Int) + 1) (h : specOk x N = true) : slotsQ (opI k) (names (k + 1)) ((names (k + 1)).map (slotT x)) = some x := by
  have hf := fit_of h
  obtain ⟨op, a, b, c, n, s⟩ := x
  have ho' : op = (k : Int) + 1 := ho
  subst ho'
  have wa := atoi_itoa hf.a.1 hf.a.2
  have wb := atoi_itoa hf.b.1 hf.b.2
  have wc := atoi_itoa hf.c.1 hf.c.2
  have wn := atoi_itoa hf.n.1 hf.n.2
  unfold specOk at h
  simp only [Bool.and_eq_true] at h
  obtain ⟨_, _, h3, h4, h5, h6, h7⟩ := h
  have hs := text_back s
  simp only at wa wb wc wn
  rcases below20 hk with rfl | rfl | rfl | rfl | rfl | rfl | rfl | rfl | rfl | rfl | rfl | rfl | rfl | rfl | rfl | rfl | rfl | rfl | rfl | rfl
  all_goals
    clear hf ho
    simp [uses, regB, letB] at h3 h4 h5
    simp [numB] at h7
    simp at h6
    simp [names, slotsQ, setSl, setN, slotT, Code.val, opI, wa, wb, wc, wn]
    repeat' (refine And.intro ?_ ?_)
    all_goals first | exact h4.symm | exact h5.symm | exact h7.symm | exact h3.symm | exact emptyD h6

/-- The program reads the text of a right instruction as it. -/
theorem line_q {x : I} {N : Int} (h : specOk x N = true) : lineQ (textI x) = some x := by
  have ho : Atom.inB x.op 1 20 = true := by
    unfold specOk at h
    simp only [Bool.and_eq_true] at h
    exact h.2.1
  obtain ⟨k, hk, hx⟩ : ∃ k : Nat, k < 20 ∧ x.op = (k : Int) + 1 := by
    have := of_decide_eq_true ho
    exact ⟨(x.op - 1).toNat, by omega, by omega⟩
  have hf := fit_of h
  have hsl := slots_text k hk hx h
  have htx := textI_in x k hk hx
  unfold accT at htx
  cases hn : names (k + 1) with
  | nil =>
    exfalso
    revert hn
    rcases below20 hk with rfl | rfl | rfl | rfl | rfl | rfl | rfl | rfl | rfl | rfl | rfl | rfl | rfl | rfl | rfl | rfl | rfl | rfl | rfl | rfl <;> simp [names]
  | cons j js =>
    rw [hn] at htx hsl
    have e1 : Lib.cut (textI x) [32] = (word (k + 1), slotT x j ++ ((js.map (slotT x)).flatMap fun p => 32 :: p), true) := by
      rw [htx, List.flatMap_cons, List.cons_append, cut_hit 32 _ _ (fun b hb => (word_free _ b hb).1), List.flatMap_map]
    have e2 : Lib.splitN (slotT x j ++ ((js.map (slotT x)).flatMap fun p => 32 :: p)) [32] ((j :: js).length + 1) = (j :: js).map (slotT x) := by
      have := splitN_words 32 (js.map (slotT x)) (slotT x j) (slot_free hf j) (fun p hp b hb => by
        obtain ⟨i, _, rfl⟩ := List.mem_map.1 hp
        exact slot_free hf i b hb)
      rw [List.length_map] at this
      exact this
    unfold lineQ
    rw [e1]
    simp only
    rw [findW_at k hk 20 0 (by omega) (by omega) (by omega)]
    simp only [hn]
    rw [e2, if_pos (by simp), hsl]
end Go.Proofs.YtgioejkelglmnaaGreatDoor.Code
