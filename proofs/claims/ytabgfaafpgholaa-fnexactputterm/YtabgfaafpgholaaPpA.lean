/-
  Words that are filled from a place on, as reckoning: what stands where behind a term that is put.
-/
import Derived.Test.YtabgfaafpgholaaPtA
namespace Go.Proofs.Ytabgfaafpgholaa
open Go.RowKit
set_option linter.unusedVariables false

/-- The words f, with xs from the place a on. -/
def ovr (f : Nat → Int) (a : Nat) (xs : List Int) (j : Nat) : Int := if a ≤ j then (match xs[j - a]? with | some x => x | none => f j) else f j
theorem ovr_lt {f : Nat → Int} {a : Nat} {xs : List Int} {j : Nat} (h : j < a) : ovr f a xs j = f j := by unfold ovr; rw [if_neg (by omega)]
theorem ovr_in {f : Nat → Int} {a : Nat} {xs : List Int} {j : Nat} (h : a ≤ j) (h2 : j < a + xs.length) : ovr f a xs j = xs[j - a] := by
  unfold ovr; rw [if_pos h, List.getElem?_eq_getElem (by omega)]
theorem ovr_ge {f : Nat → Int} {a : Nat} {xs : List Int} {j : Nat} (h : a + xs.length ≤ j) : ovr f a xs j = f j := by
  unfold ovr
  split
  · rw [List.getElem?_eq_none (by omega)]
  · rfl
theorem ovr_nil (f : Nat → Int) (a : Nat) : ovr f a [] = f := by
  funext j
  exact if h : j < a then ovr_lt h else ovr_ge (by simp; omega)
theorem ovr_app (f : Nat → Int) (a b : Nat) (xs ys : List Int) (hb : b = a + xs.length) : ovr (ovr f a xs) b ys = ovr f a (xs ++ ys) := by
  subst hb
  funext j
  rcases Nat.lt_or_ge j a with h | h
  · rw [ovr_lt (by omega), ovr_lt h, ovr_lt h]
  rcases Nat.lt_or_ge j (a + xs.length) with h2 | h2
  · rw [ovr_lt h2, ovr_in h h2, ovr_in h (by simp; omega), List.getElem_append_left]
  rcases Nat.lt_or_ge j (a + xs.length + ys.length) with h3 | h3
  · rw [ovr_in h2 h3, ovr_in h (by simp; omega), List.getElem_append_right (by omega)]
    congr 1
    omega
  · rw [ovr_ge h3, ovr_ge h2, ovr_ge (by simp; omega)]
theorem ovr_comm (f : Nat → Int) (a b : Nat) (xs ys : List Int) (h : a + xs.length ≤ b) : ovr (ovr f a xs) b ys = ovr (ovr f b ys) a xs := by
  funext j
  rcases Nat.lt_or_ge j a with h1 | h1
  · rw [ovr_lt (by omega), ovr_lt h1, ovr_lt h1, ovr_lt (by omega)]
  rcases Nat.lt_or_ge j (a + xs.length) with h2 | h2
  · rw [ovr_lt (by omega), ovr_in h1 h2, ovr_in h1 h2]
  rw [ovr_ge (f := ovr f b ys) h2]
  rcases Nat.lt_or_ge j b with h3 | h3
  · rw [ovr_lt h3, ovr_lt h3, ovr_ge h2]
  rcases Nat.lt_or_ge j (b + ys.length) with h4 | h4
  · rw [ovr_in h3 h4, ovr_in h3 h4]
  · rw [ovr_ge h4, ovr_ge h4, ovr_ge h2]
/-- The same at one place. -/
theorem ovr_one (f : Nat → Int) (a : Nat) (v : Int) (j : Nat) : ovr f a [v] j = if j = a then v else f j := by
  by_cases h : j = a
  · subst h
    rw [if_pos rfl, ovr_in (Nat.le_refl _) (by simp)]
    simp
  · rw [if_neg h]
    rcases Nat.lt_or_ge j a with h1 | h1
    · exact ovr_lt h1
    · exact ovr_ge (by simp; omega)
/-- A row that is filled ahead of what comes behind it. -/
theorem ovr_head (f : Nat → Int) (a b : Nat) (hd ws ns n1 : List Int) (h : a + hd.length + ws.length ≤ b) :
    ovr (ovr (ovr f a (hd ++ ws)) b ns) (b + ns.length) n1 = ovr (ovr f a (hd ++ ws)) b (ns ++ n1) := ovr_app _ _ _ _ _ rfl
theorem ovr_next (f : Nat → Int) (a b c : Nat) (ws ns : List Int) (u : List Int) (hc : c = a + ws.length) (h : c + u.length ≤ b) :
    ovr (ovr (ovr f a ws) b ns) c u = ovr (ovr f a (ws ++ u)) b ns := by
  rw [← ovr_comm _ _ _ _ _ h, ovr_app _ _ _ _ _ hc]
/-- The first n of them. -/
def rowF (n : Nat) (f : Nat → Int) : List Int := (List.range n).map f
theorem rowF_len (n : Nat) (f : Nat → Int) : (rowF n f).length = n := by simp [rowF]
theorem rowF_get (n : Nat) (f : Nat → Int) (j : Nat) (h : j < (rowF n f).length) : (rowF n f)[j] = f j := by simp [rowF]
theorem rowF_set (n : Nat) (f : Nat → Int) (j : Nat) (v : Int) : (rowF n f).set j v = rowF n (ovr f j [v]) := by
  apply List.ext_getElem
  · simp [rowF]
  · intro i h1 h2
    rw [rowF_get, ovr_one, List.getElem_set]
    by_cases h : j = i
    · rw [if_pos h, if_pos h.symm]
    · rw [if_neg h, if_neg (fun e => h e.symm), rowF_get]
theorem rowF_ovr (xs ns : List Int) (g : Nat → Int) : rowF (xs.length + ns.length) (ovr (ovr g 0 xs) xs.length ns) = xs ++ ns := by
  rw [ovr_app _ _ _ _ _ (by omega)]
  apply List.ext_getElem
  · simp [rowF]
  · intro i h1 h2
    rw [rowF_get, ovr_in (Nat.zero_le _) (by omega)]
    simp
theorem rowF_all (xs : List Int) (g : Nat → Int) : rowF xs.length (ovr g 0 xs) = xs := by
  have h := rowF_ovr xs [] g
  rw [ovr_nil, List.append_nil] at h
  exact h
/-! ### A list's cells, so far -/
/-- The cells of the first heads of a list of so many. -/
def consR : Nat → List Int → Nat → List Int
  | _, [], _ => []
  | m, x :: r, a => x :: (if m = 1 then 3 else mkw 5 ((a : Int) + 2)) :: consR (m - 1) r (a + 2)
theorem consR_len : ∀ (m : Nat) (ws : List Int) (a : Nat), (consR m ws a).length = 2 * ws.length
  | _, [], _ => rfl
  | m, x :: r, a => by rw [consR, List.length_cons, List.length_cons, consR_len]; simp only [List.length_cons]; omega
theorem consR_snoc : ∀ (ws : List Int) (m : Nat) (w : Int) (a : Nat), consR m (ws ++ [w]) a = consR m ws a ++ [w, if m - ws.length = 1 then 3 else mkw 5 (((a + 2 * ws.length : Nat) : Int) + 2)]
  | [], m, w, a => by simp [consR]
  | x :: r, m, w, a => by
    rw [List.cons_append, consR, consR, consR_snoc r (m - 1) w (a + 2), List.cons_append, List.cons_append]
    congr 3
    have e1 : m - 1 - r.length = m - (x :: r).length := by simp only [List.length_cons]; omega
    have e2 : a + 2 + 2 * r.length = a + 2 * (x :: r).length := by simp only [List.length_cons]; omega
    rw [e1, e2]
theorem consR_all : ∀ (ws : List Int) (a : Nat), consR ws.length ws a = consL ws a
  | [], a => by rw [consL]; rfl
  | [x], a => by rw [consL]; rfl
  | x :: y :: r, a => by
    rw [consL, consR, if_neg (by simp only [List.length_cons]; omega)]
    congr 2
    exact consR_all (y :: r) (a + 2)
/-! ### One behind the other -/
/-- What the rest of a list adds, behind its first ones. -/
def catP (ws ns : List Int) : Option (List Int × List Int × List ByteArray) → Option (List Int × List Int × List ByteArray)
  | none => none
  | some (ws', ns', A) => some (ws ++ ws', ns ++ ns', A)
theorem catP_nil (o : Option (List Int × List Int × List ByteArray)) : catP [] [] o = o := by
  rcases o with _ | ⟨ws, ns, A⟩ <;> rfl
theorem catP_cat (ws ns ws' ns' : List Int) (o : Option (List Int × List Int × List ByteArray)) : catP ws ns (catP ws' ns' o) = catP (ws ++ ws') (ns ++ ns') o := by
  rcases o with _ | ⟨ws2, ns2, A⟩ <;> simp [catP]
theorem ptL_more {t : Tm} {r : List Tm} {a : Nat} {A : List ByteArray} {ns : List Int} {A1 : List ByteArray} {w : Int} (h : ptT t a A = some (ns, A1, w)) : ptL (t :: r) a A = catP [w] ns (ptL r (a + ns.length) A1) := by
  rw [ptL, h]
  dsimp only
  rcases ptL r (a + ns.length) A1 with _ | ⟨ws, ns2, A2⟩ <;> rfl
theorem ptL_none {t : Tm} {r : List Tm} {a : Nat} {A : List ByteArray} (h : ptT t a A = none) : ptL (t :: r) a A = none := by rw [ptL, h]
theorem ptT_4 (n : Int) (s : ByteArray) (l : List Tm) (a : Nat) (A : List ByteArray) : ptT (.mk 4 n s l) a A = match ptL l (a + 1 + l.length) A with
      | none => none
      | some (ws, ns, A') => some ((l.length : Int) :: (ws ++ ns), A', mkw 4 a) := by
  rw [ptT, if_neg (by decide), if_neg (by decide), if_neg (by decide), if_neg (by decide), if_pos rfl]
  rcases ptL l (a + 1 + l.length) A with _ | ⟨ws, ns, A'⟩ <;> rfl
theorem ptT_5 (n : Int) (s : ByteArray) (l : List Tm) (a : Nat) (A : List ByteArray) (hl : l.length ≠ 0) : ptT (.mk 5 n s l) a A = match ptL l (a + 2 * l.length) A with
      | none => none
      | some (ws, ns, A') => some (consL ws a ++ ns, A', mkw 5 a) := by
  rw [ptT, if_neg (by decide), if_neg (by decide), if_neg (by decide), if_neg (by decide), if_neg (by decide), if_neg hl]
  rcases ptL l (a + 2 * l.length) A with _ | ⟨ws, ns, A'⟩ <;> rfl
theorem ptT_50 (n : Int) (s : ByteArray) (a : Nat) (A : List ByteArray) : ptT (.mk 5 n s []) a A = some ([], A, 3) := by
  rw [ptT, if_neg (by decide), if_neg (by decide), if_neg (by decide), if_neg (by decide), if_neg (by decide), if_pos (show ([] : List Tm).length = 0 from rfl)]
theorem ptT_6 (n : Int) (s : ByteArray) (l : List Tm) (a : Nat) (A : List ByteArray) : ptT (.mk 6 n s l) a A = some ((s.size : Int) :: bytesI s, A, mkw 6 a) := by
  rw [ptT, if_neg (by decide), if_neg (by decide), if_neg (by decide), if_pos rfl]
theorem ptT_1 (n : Int) (s : ByteArray) (l : List Tm) (a : Nat) (A : List ByteArray) : ptT (.mk 1 n s l) a A = some ([], A, mkw 0 (n + 1000000)) := by rw [ptT, if_pos rfl]
theorem ptT_3 (n : Int) (s : ByteArray) (l : List Tm) (a : Nat) (A : List ByteArray) : ptT (.mk 3 n s l) a A = some ([], A, mkw 2 n) := by rw [ptT, if_neg (by decide), if_pos rfl]
theorem ptT_2 (n : Int) (s : ByteArray) (l : List Tm) (a : Nat) (A : List ByteArray) : ptT (.mk 2 n s l) a A = if addK A s < 0 then none else some ([], addL A s, mkw 1 (addK A s)) := by rw [ptT, if_neg (by decide), if_neg (by decide), if_pos rfl]
/-- So many atoms more at most. -/
theorem addK_le (A : List ByteArray) (s : ByteArray) : addK A s ≤ A.length := by
  unfold addK
  split
  · exact Int.le_refl _
  · have := idx_lt A s; omega
end Go.Proofs.Ytabgfaafpgholaa
