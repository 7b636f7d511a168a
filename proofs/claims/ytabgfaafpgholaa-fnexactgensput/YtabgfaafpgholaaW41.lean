/-
  The closure that puts a term, walked: what needs no room, bytes, a tuple.
  (Ahead of it, in this text: Words that are filled from a place on, as reckoning: what stands where behind a term that is put. What a term is put on, in memory, and what leaves it so. What a term is put on: what the program's small functions answer.)
-/
import Derived.Test.YtabgfaafpgholaaW10
import Derived.Test.YtabgfaafpgholaaW39
import Derived.Test.YtabgfaafpgholaaW40
import Derived.Test.YtabgfaafpgholaaW12
import Derived.Test.YtabgfaafpgholaaW7
import Derived.Deep.LoopGhost
import Derived.Deep.RegionHeld3
import Derived.Deep.RegionLaw
import Derived.RegionDies
namespace Go.Proofs.Ytabgfaafpgholaa
open Go.RowKit
set_option linter.unusedVariables false

/-- The words f, with xs from the place a on. -/
def ovr (f : Nat → Int) (a : Nat) (xs : List Int) (j : Nat) : Int := if a ≤ j then (match xs[j - a]? with | some x => x | none => f j) else f j
theorem ovr_lt {f : Nat → Int} {a : Nat} {xs : List Int} {j : Nat} (h : j < a) : ovr f a xs j = f j := by unfold ovr; rw [if_neg (by omega)]
theorem ovr_in {f : Nat → Int} {a : Nat} {xs : List Int} {j : Nat} (h : a ≤ j) (h2 : j < a + xs.length) : ovr f a xs j = xs[j - a] := by
  unfold ovr; rw [if_pos h, List.getElem?_eq_getElem (by omega)]
theorem ovr_ge {f : Nat → Int} {a : Nat} {xs : List Int} {j : Nat} (h : a + xs.length ≤ j) : ovr f a xs j = f j := by
  unfold ovr
  split
  · rw [List.getElem?_eq_none (by omega)]
  · rfl
theorem ovr_nil (f : Nat → Int) (a : Nat) : ovr f a [] = f := by
  funext j
  exact if h : j < a then ovr_lt h else ovr_ge (by simp; omega)
theorem ovr_app (f : Nat → Int) (a b : Nat) (xs ys : List Int) (hb : b = a + xs.length) : ovr (ovr f a xs) b ys = ovr f a (xs ++ ys) := by
  subst hb
  funext j
  rcases Nat.lt_or_ge j a with h | h
  · rw [ovr_lt (by omega), ovr_lt h, ovr_lt h]
  rcases Nat.lt_or_ge j (a + xs.length) with h2 | h2
  · rw [ovr_lt h2, ovr_in h h2, ovr_in h (by simp; omega), List.getElem_append_left]
  rcases Nat.lt_or_ge j (a + xs.length + ys.length) with h3 | h3
  · rw [ovr_in h2 h3, ovr_in h (by simp; omega), List.getElem_append_right (by omega)]
    congr 1
    omega
  · rw [ovr_ge h3, ovr_ge h2, ovr_ge (by simp; omega)]
theorem ovr_comm (f : Nat → Int) (a b : Nat) (xs ys : List Int) (h : a + xs.length ≤ b) : ovr (ovr f a xs) b ys = ovr (ovr f b ys) a xs := by
  funext j
  rcases Nat.lt_or_ge j a with h1 | h1
  · rw [ovr_lt (by omega), ovr_lt h1, ovr_lt h1, ovr_lt (by omega)]
  rcases Nat.lt_or_ge j (a + xs.length) with h2 | h2
  · rw [ovr_lt (by omega), ovr_in h1 h2, ovr_in h1 h2]
  rw [ovr_ge (f := ovr f b ys) h2]
  rcases Nat.lt_or_ge j b with h3 | h3
  · rw [ovr_lt h3, ovr_lt h3, ovr_ge h2]
  rcases Nat.lt_or_ge j (b + ys.length) with h4 | h4
  · rw [ovr_in h3 h4, ovr_in h3 h4]
  · rw [ovr_ge h4, ovr_ge h4, ovr_ge h2]
/-- The same at one place. -/
theorem ovr_one (f : Nat → Int) (a : Nat) (v : Int) (j : Nat) : ovr f a [v] j = if j = a then v else f j := by
  by_cases h : j = a
  · subst h
    rw [if_pos rfl, ovr_in (Nat.le_refl _) (by simp)]
    simp
  · rw [if_neg h]
    rcases Nat.lt_or_ge j a with h1 | h1
    · exact ovr_lt h1
    · exact ovr_ge (by simp; omega)
/-- A row that is filled ahead of what comes behind it. -/
theorem ovr_head (f : Nat → Int) (a b : Nat) (hd ws ns n1 : List Int) (h : a + hd.length + ws.length ≤ b) :
    ovr (ovr (ovr f a (hd ++ ws)) b ns) (b + ns.length) n1 = ovr (ovr f a (hd ++ ws)) b (ns ++ n1) := ovr_app _ _ _ _ _ rfl
theorem ovr_next (f : Nat → Int) (a b c : Nat) (ws ns : List Int) (u : List Int) (hc : c = a + ws.length) (h : c + u.length ≤ b) :
    ovr (ovr (ovr f a ws) b ns) c u = ovr (ovr f a (ws ++ u)) b ns := by
  rw [← ovr_comm _ _ _ _ _ h, ovr_app _ _ _ _ _ hc]
/-- The first n of them. -/
def rowF (n : Nat) (f : Nat → Int) : List Int := (List.range n).map f
theorem rowF_len (n : Nat) (f : Nat → Int) : (rowF n f).length = n := by simp [rowF]
theorem rowF_get (n : Nat) (f : Nat → Int) (j : Nat) (h : j < (rowF n f).length) : (rowF n f)[j] = f j := by simp [rowF]
theorem rowF_set (n : Nat) (f : Nat → Int) (j : Nat) (v : Int) : (rowF n f).set j v = rowF n (ovr f j [v]) := by
  apply List.ext_getElem
  · simp [rowF]
  · intro i h1 h2
    rw [rowF_get, ovr_one, List.getElem_set]
    by_cases h : j = i
    · rw [if_pos h, if_pos h.symm]
    · rw [if_neg h, if_neg (fun e => h e.symm), rowF_get]
theorem rowF_ovr (xs ns : List Int) (g : Nat → Int) : rowF (xs.length + ns.length) (ovr (ovr g 0 xs) xs.length ns) = xs ++ ns := by
  rw [ovr_app _ _ _ _ _ (by omega)]
  apply List.ext_getElem
  · simp [rowF]
  · intro i h1 h2
    rw [rowF_get, ovr_in (Nat.zero_le _) (by omega)]
    simp
theorem rowF_all (xs : List Int) (g : Nat → Int) : rowF xs.length (ovr g 0 xs) = xs := by
  have h := rowF_ovr xs [] g
  rw [ovr_nil, List.append_nil] at h
  exact h
/-! ### A list's cells, so far -/
/-- The cells of the first heads of a list of so many. -/
def consR : Nat → List Int → Nat → List Int
  | _, [], _ => []
  | m, x :: r, a => x :: (if m = 1 then 3 else mkw 5 ((a : Int) + 2)) :: consR (m - 1) r (a + 2)
theorem consR_len : ∀ (m : Nat) (ws : List Int) (a : Nat), (consR m ws a).length = 2 * ws.length
  | _, [], _ => rfl
  | m, x :: r, a => by rw [consR, List.length_cons, List.length_cons, consR_len]; simp only [List.length_cons]; omega
theorem consR_snoc : ∀ (ws : List Int) (m : Nat) (w : Int) (a : Nat), consR m (ws ++ [w]) a = consR m ws a ++ [w, if m - ws.length = 1 then 3 else mkw 5 (((a + 2 * ws.length : Nat) : Int) + 2)]
  | [], m, w, a => by simp [consR]
  | x :: r, m, w, a => by
    rw [List.cons_append, consR, consR, consR_snoc r (m - 1) w (a + 2), List.cons_append, List.cons_append]
    congr 3
    have e1 : m - 1 - r.length = m - (x :: r).length := by simp only [List.length_cons]; omega
    have e2 : a + 2 + 2 * r.length = a + 2 * (x :: r).length := by simp only [List.length_cons]; omega
    rw [e1, e2]
theorem consR_all : ∀ (ws : List Int) (a : Nat), consR ws.length ws a = consL ws a
  | [], a => by rw [consL]; rfl
  | [x], a => by rw [consL]; rfl
  | x :: y :: r, a => by
    rw [consL, consR, if_neg (by simp only [List.length_cons]; omega)]
    congr 2
    exact consR_all (y :: r) (a + 2)
/-! ### One behind the other -/
/-- What the rest of a list adds, behind its first ones. -/
def catP (ws ns : List Int) : Option (List Int × List Int × List ByteArray) → Option (List Int × List Int × List ByteArray)
  | none => none
  | some (ws', ns', A) => some (ws ++ ws', ns ++ ns', A)
theorem catP_nil (o : Option (List Int × List Int × List ByteArray)) : catP [] [] o = o := by
  rcases o with _ | ⟨ws, ns, A⟩ <;> rfl
theorem catP_cat (ws ns ws' ns' : List Int) (o : Option (List Int × List Int × List ByteArray)) : catP ws ns (catP ws' ns' o) = catP (ws ++ ws') (ns ++ ns') o := by
  rcases o with _ | ⟨ws2, ns2, A⟩ <;> simp [catP]
theorem ptL_more {t : Tm} {r : List Tm} {a : Nat} {A : List ByteArray} {ns : List Int} {A1 : List ByteArray} {w : Int} (h : ptT t a A = some (ns, A1, w)) : ptL (t :: r) a A = catP [w] ns (ptL r (a + ns.length) A1) := by
  rw [ptL, h]
  dsimp only
  rcases ptL r (a + ns.length) A1 with _ | ⟨ws, ns2, A2⟩ <;> rfl
theorem ptL_none {t : Tm} {r : List Tm} {a : Nat} {A : List ByteArray} (h : ptT t a A = none) : ptL (t :: r) a A = none := by rw [ptL, h]
theorem ptT_4 (n : Int) (s : ByteArray) (l : List Tm) (a : Nat) (A : List ByteArray) : ptT (.mk 4 n s l) a A = match ptL l (a + 1 + l.length) A with
      | none => none
      | some (ws, ns, A') => some ((l.length : Int) :: (ws ++ ns), A', mkw 4 a) := by
  rw [ptT, if_neg (by decide), if_neg (by decide), if_neg (by decide), if_neg (by decide), if_pos rfl]
  rcases ptL l (a + 1 + l.length) A with _ | ⟨ws, ns, A'⟩ <;> rfl
theorem ptT_5 (n : Int) (s : ByteArray) (l : List Tm) (a : Nat) (A : List ByteArray) (hl : l.length ≠ 0) : ptT (.mk 5 n s l) a A = match ptL l (a + 2 * l.length) A with
      | none => none
      | some (ws, ns, A') => some (consL ws a ++ ns, A', mkw 5 a) := by
  rw [ptT, if_neg (by decide), if_neg (by decide), if_neg (by decide), if_neg (by decide), if_neg (by decide), if_neg hl]
  rcases ptL l (a + 2 * l.length) A with _ | ⟨ws, ns, A'⟩ <;> rfl
theorem ptT_50 (n : Int) (s : ByteArray) (a : Nat) (A : List ByteArray) : ptT (.mk 5 n s []) a A = some ([], A, 3) := by
  rw [ptT, if_neg (by decide), if_neg (by decide), if_neg (by decide), if_neg (by decide), if_neg (by decide), if_pos (show ([] : List Tm).length = 0 from rfl)]
theorem ptT_6 (n : Int) (s : ByteArray) (l : List Tm) (a : Nat) (A : List ByteArray) : ptT (.mk 6 n s l) a A = some ((s.size : Int) :: bytesI s, A, mkw 6 a) := by
  rw [ptT, if_neg (by decide), if_neg (by decide), if_neg (by decide), if_pos rfl]
theorem ptT_1 (n : Int) (s : ByteArray) (l : List Tm) (a : Nat) (A : List ByteArray) : ptT (.mk 1 n s l) a A = some ([], A, mkw 0 (n + 1000000)) := by rw [ptT, if_pos rfl]
theorem ptT_3 (n : Int) (s : ByteArray) (l : List Tm) (a : Nat) (A : List ByteArray) : ptT (.mk 3 n s l) a A = some ([], A, mkw 2 n) := by rw [ptT, if_neg (by decide), if_pos rfl]
theorem ptT_2 (n : Int) (s : ByteArray) (l : List Tm) (a : Nat) (A : List ByteArray) : ptT (.mk 2 n s l) a A = if addK A s < 0 then none else some ([], addL A s, mkw 1 (addK A s)) := by rw [ptT, if_neg (by decide), if_neg (by decide), if_pos rfl]
/-- So many atoms more at most. -/
theorem addK_le (A : List ByteArray) (s : ByteArray) : addK A s ≤ A.length := by
  unfold addK
  split
  · exact Int.le_refl _
  · have := idx_lt A s; omega
end Go.Proofs.Ytabgfaafpgholaa
namespace Go.Proofs.Ytabgfaafpgholaa
open Go.RowKit
set_option linter.unusedVariables false

/-- The places: the putting in pb, its n words in wb, both from lo on; the first word has the place base; the closure's two cells are pa and qa. -/
structure PZp where
  pb : Nat
  wb : Nat
  n : Nat
  base : Nat
  lo : Nat
  pa : Nat
  qa : Nat
/-- The atoms, in a block of their own. -/
def PAt (Z : PZp) (w : World) (v : Value) (A : List ByteArray) : Prop :=
  ∃ ab ac, v = .slice (some ⟨ab, 0, none⟩) A.length ac ∧ Txt w ab 0 A ∧ (∀ o, w.frozen? ⟨ab, o, none⟩ = false) ∧ ab ≠ Z.pb ∧ ab ≠ Z.wb ∧ Z.lo ≤ ab ∧ ab < w.heap.size ∧ A.length ≤ ac ∧ ac ≤ maxLen
structure PP (Z : PZp) (w : World) (f : Nat → Int) (next : Nat) (A : List ByteArray) : Prop where
  c0 : w.cell? ⟨Z.pb, 0, none⟩ = some (.slice (some ⟨Z.wb, 0, none⟩) Z.n Z.n)
  c1 : w.cell? ⟨Z.pb, 1, none⟩ = some (.int .i64 (next : Int))
  c2 : w.cell? ⟨Z.pb, 2, none⟩ = some (.int .i64 (Z.base : Int))
  c3 : ∃ v, w.cell? ⟨Z.pb, 3, none⟩ = some v ∧ PAt Z w v A
  fr : ∀ o, w.frozen? ⟨Z.pb, o, none⟩ = false
  wf : ∀ o, w.frozen? ⟨Z.wb, o, none⟩ = false
  ws : ∀ j, j < Z.n → w.cell? ⟨Z.wb, j, none⟩ = some (.int .i64 (f j))
  ne : Z.pb ≠ Z.wb
  lp : Z.lo ≤ Z.pb
  lw : Z.lo ≤ Z.wb
  sw : Z.wb < w.heap.size
/-- The closure's cells. -/
structure PK (Z : PZp) (w : World) : Prop where
  k1 : w.cell? ⟨Z.pa, 0, none⟩ = some (.pointer (some ⟨Z.pb, 0, none⟩))
  k2 : w.cell? ⟨Z.qa, 0, none⟩ = some (.func (.func 96) #[] #[.pointer (some ⟨Z.pa, 0, none⟩), .pointer (some ⟨Z.qa, 0, none⟩)])
  n1 : Z.pa ≠ Z.pb ∧ Z.pa ≠ Z.wb
  n2 : Z.qa ≠ Z.pb ∧ Z.qa ≠ Z.wb
/-- Only the putting, its words and what is new may have turned. -/
structure PF (Z : PZp) (w w' : World) : Prop where
  os : w'.os = w.os
  tape : w'.tape = w.tape
  output : w'.output = w.output
  size : w.heap.size ≤ w'.heap.size
  block : ∀ b, b < w.heap.size → b ≠ Z.pb → b ≠ Z.wb → w'.heap[b]? = w.heap[b]?
theorem PF.refl (Z : PZp) (w : World) : PF Z w w := ⟨rfl, rfl, rfl, Nat.le_refl _, fun _ _ _ _ => rfl⟩
theorem PF.trans {Z : PZp} {a b c : World} (h : PF Z a b) (k : PF Z b c) : PF Z a c :=
  ⟨k.os.trans h.os, k.tape.trans h.tape, k.output.trans h.output, Nat.le_trans h.size k.size, fun i hi h1 h2 => (k.block i (Nat.lt_of_lt_of_le hi h.size) h1 h2).trans (h.block i hi h1 h2)⟩
theorem PF.below {Z : PZp} {w w' : World} (h : Below w.heap.size w w') : PF Z w w' := ⟨h.os, h.tape, h.output, h.size, fun b hb _ _ => h.block b hb⟩
theorem PF.setP {Z : PZp} {w : World} (o : Nat) (v : Value) : PF Z w (w.setCell ⟨Z.pb, o, none⟩ v) :=
  ⟨rfl, rfl, rfl, by rw [World.size_setCell]; exact Nat.le_refl _, fun b _ h1 _ => Below.heap_setCell _ _ _ _ h1⟩
theorem PF.setW {Z : PZp} {w : World} (o : Nat) (v : Value) : PF Z w (w.setCell ⟨Z.wb, o, none⟩ v) :=
  ⟨rfl, rfl, rfl, by rw [World.size_setCell]; exact Nat.le_refl _, fun b _ _ h2 => Below.heap_setCell _ _ _ _ h2⟩
theorem PF.drew {Z : PZp} {a w : World} (h : PF Z a w) : PF Z a w.drew := ⟨h.os, h.tape, h.output, h.size, h.block⟩
theorem PF.undrew {Z : PZp} {a w : World} (h : PF Z a.drew w) : PF Z a w := ⟨h.os, h.tape, h.output, h.size, h.block⟩
theorem PF.cell {Z : PZp} {w w' : World} (h : PF Z w w') {b o : Nat} {v : Value} (h1 : b ≠ Z.pb) (h2 : b ≠ Z.wb) (hc : w.cell? ⟨b, o, none⟩ = some v) : w'.cell? ⟨b, o, none⟩ = some v := by
  rw [World.cell?_of_block (w := w) (h.block b (World.block_lt_of_cell? w _ hc) h1 h2)]; exact hc
theorem PF.frozen {Z : PZp} {w w' : World} (h : PF Z w w') {b o : Nat} (hb : b < w.heap.size) (h1 : b ≠ Z.pb) (h2 : b ≠ Z.wb) : w'.frozen? ⟨b, o, none⟩ = w.frozen? ⟨b, o, none⟩ :=
  World.frozen?_of_block (w := w) (h.block b hb h1 h2)
theorem PK.go {Z : PZp} {w w' : World} (h : PK Z w) (hf : PF Z w w') : PK Z w' := ⟨hf.cell h.n1.1 h.n1.2 h.k1, hf.cell h.n2.1 h.n2.2 h.k2, h.n1, h.n2⟩
theorem PAt.go {Z : PZp} {w w' : World} {v : Value} {A : List ByteArray} (h : PAt Z w v A) (hf : PF Z w w') : PAt Z w' v A := by
  obtain ⟨ab, ac, e, h1, h2, h3, h4, h5, h6, h7⟩ := h
  exact ⟨ab, ac, e, fun j hj => hf.cell h3 h4 (h1 j hj), fun o => (hf.frozen h6 h3 h4).trans (h2 o), h3, h4, h5, Nat.lt_of_lt_of_le h6 hf.size, h7⟩
theorem PP.pl {Z : PZp} {w : World} {f : Nat → Int} {next : Nat} {A : List ByteArray} (h : PP Z w f next A) : Z.pb < w.heap.size := World.block_lt_of_cell? w _ h.c0
theorem PP.below {Z : PZp} {w w' : World} {f : Nat → Int} {next : Nat} {A : List ByteArray} (h : PP Z w f next A) (hb : Below w.heap.size w w') : PP Z w' f next A := by
  have hp := h.pl
  have kc : ∀ {b o : Nat} {v : Value}, w.cell? ⟨b, o, none⟩ = some v → w'.cell? ⟨b, o, none⟩ = some v := fun hc => by
    rw [hb.cell (World.block_lt_of_cell? w _ hc)]; exact hc
  obtain ⟨v, hv, ha⟩ := h.c3
  exact ⟨kc h.c0, kc h.c1, kc h.c2, ⟨v, kc hv, ha.go (PF.below hb)⟩, fun o => by rw [hb.frozen (p := ⟨Z.pb, o, none⟩) hp]; exact h.fr o, fun o => by rw [hb.frozen (p := ⟨Z.wb, o, none⟩) h.sw]; exact h.wf o, fun j hj => kc (h.ws j hj), h.ne, h.lp, h.lw, Nat.lt_of_lt_of_le h.sw hb.size⟩
theorem PP.drew {Z : PZp} {w : World} {f : Nat → Int} {next : Nat} {A : List ByteArray} (h : PP Z w f next A) : PP Z w.drew f next A := h.below (Below.refl _ _).drew
theorem PP.next {Z : PZp} {w : World} {f : Nat → Int} {next : Nat} {A : List ByteArray} (h : PP Z w f next A) (m : Nat) : PP Z (w.setCell ⟨Z.pb, 1, none⟩ (.int .i64 (m : Int))) f m A := by
  obtain ⟨v, hv, ha⟩ := h.c3
  have ko : ∀ {b o : Nat} {v u : Value}, (b ≠ Z.pb ∨ o ≠ 1) → w.cell? ⟨b, o, none⟩ = some v → (w.setCell ⟨Z.pb, 1, none⟩ u).cell? ⟨b, o, none⟩ = some v := fun hn hc => by
    rw [World.cell?_setCell_other (h := fun e => by simp only [Addr.mk.injEq, and_true] at e; rcases hn with hn | hn <;> omega)]; exact hc
  have kf : ∀ {b o : Nat} {u : Value}, (w.setCell ⟨Z.pb, 1, none⟩ u).frozen? ⟨b, o, none⟩ = w.frozen? ⟨b, o, none⟩ := fun {b o u} => World.frozen?_setCell ..
  exact ⟨ko (.inr (by decide)) h.c0, World.cell?_setCell_same _ _ _ h.c1, ko (.inr (by decide)) h.c2, ⟨v, ko (.inr (by decide)) hv, ha.go (PF.setP 1 _)⟩, fun o => kf.trans (h.fr o), fun o => kf.trans (h.wf o), fun j hj => ko (.inl h.ne.symm) (h.ws j hj), h.ne, h.lp, h.lw, by rw [World.size_setCell]; exact h.sw⟩
theorem PP.atoms {Z : PZp} {w : World} {f : Nat → Int} {next : Nat} {A B : List ByteArray} (h : PP Z w f next A) {v : Value} (hv : PAt Z w v B) : PP Z (w.setCell ⟨Z.pb, 3, none⟩ v) f next B := by
  obtain ⟨u, hu, ha⟩ := h.c3
  have ko : ∀ {b o : Nat} {v u : Value}, (b ≠ Z.pb ∨ o ≠ 3) → w.cell? ⟨b, o, none⟩ = some v → (w.setCell ⟨Z.pb, 3, none⟩ u).cell? ⟨b, o, none⟩ = some v := fun hn hc => by
    rw [World.cell?_setCell_other (h := fun e => by simp only [Addr.mk.injEq, and_true] at e; rcases hn with hn | hn <;> omega)]; exact hc
  have kf : ∀ {b o : Nat} {u : Value}, (w.setCell ⟨Z.pb, 3, none⟩ u).frozen? ⟨b, o, none⟩ = w.frozen? ⟨b, o, none⟩ := fun {b o u} => World.frozen?_setCell ..
  exact ⟨ko (.inr (by decide)) h.c0, ko (.inr (by decide)) h.c1, ko (.inr (by decide)) h.c2, ⟨v, World.cell?_setCell_same _ _ _ hu, hv.go (PF.setP 3 _)⟩, fun o => kf.trans (h.fr o), fun o => kf.trans (h.wf o), fun j hj => ko (.inl h.ne.symm) (h.ws j hj), h.ne, h.lp, h.lw, by rw [World.size_setCell]; exact h.sw⟩
theorem PP.word {Z : PZp} {w : World} {f : Nat → Int} {next : Nat} {A : List ByteArray} (h : PP Z w f next A) {j : Nat} (hj : j < Z.n) (x : Int) : PP Z (w.setCell ⟨Z.wb, j, none⟩ (.int .i64 x)) (ovr f j [x]) next A := by
  obtain ⟨v, hv, ha⟩ := h.c3
  have ko : ∀ {b o : Nat} {v u : Value}, (b ≠ Z.wb ∨ o ≠ j) → w.cell? ⟨b, o, none⟩ = some v → (w.setCell ⟨Z.wb, j, none⟩ u).cell? ⟨b, o, none⟩ = some v := fun hn hc => by
    rw [World.cell?_setCell_other (h := fun e => by simp only [Addr.mk.injEq, and_true] at e; rcases hn with hn | hn <;> omega)]; exact hc
  have kf : ∀ {b o : Nat} {u : Value}, (w.setCell ⟨Z.wb, j, none⟩ u).frozen? ⟨b, o, none⟩ = w.frozen? ⟨b, o, none⟩ := fun {b o u} => World.frozen?_setCell ..
  refine ⟨ko (.inl h.ne) h.c0, ko (.inl h.ne) h.c1, ko (.inl h.ne) h.c2, ⟨v, ko (.inl h.ne) hv, ha.go (PF.setW j _)⟩, fun o => kf.trans (h.fr o), fun o => kf.trans (h.wf o), fun i hi => ?_, h.ne, h.lp, h.lw, by rw [World.size_setCell]; exact h.sw⟩
  rw [ovr_one]
  by_cases e : i = j
  · rw [if_pos e, e]
    exact World.cell?_setCell_same _ _ _ (h.ws j hj)
  · rw [if_neg e]
    exact ko (.inr e) (h.ws i hi)
/-- Terms below lo stay. -/
theorem PF.moves {Z : PZp} {w w' : World} (h : PF Z w w') (h1 : Z.lo ≤ Z.pb) (h2 : Z.lo ≤ Z.wb) : Moves (fun b => b < Z.lo) (fun b => b < Z.lo) w w' := fun b o v hb hc => by
  have hb' : b < Z.lo := hb
  exact ⟨hb, h.cell (by omega) (by omega) hc⟩
theorem PP.base {Z : PZp} {w : World} {f : Nat → Int} {next : Nat} {A : List ByteArray} (h : PP Z w f next A) : Z.lo ≤ w.heap.size := by have := h.lw; have := h.sw; omega
/-! ### How many atoms -/
mutual
theorem ptT_cnt : ∀ (t : Tm) (a : Nat) (A : List ByteArray) (ns : List Int) (A' : List ByteArray) (w : Int), ptT t a A = some (ns, A', w) → A'.length ≤ A.length + nT t
  | .mk k n s l, a, A, ns, A', w, h => by
    rw [ptT] at h
    rw [nT]
    have same : ∀ {x : List Int} {y : Int}, some (x, A, y) = some (ns, A', w) → A'.length ≤ A.length + (1 + nL l) := fun h => by
      simp only [Option.some.injEq, Prod.mk.injEq] at h
      rw [← h.2.1]; omega
    split at h
    · exact same h
    split at h
    · exact same h
    split at h
    · split at h
      · cases h
      · simp only [Option.some.injEq, Prod.mk.injEq] at h
        have := addL_len A s
        rw [← h.2.1]; omega
    split at h
    · exact same h
    split at h
    · split at h
      · cases h
      · rename_i ws ns' A1 hp
        simp only [Option.some.injEq, Prod.mk.injEq] at h
        have := ptL_cnt l _ A ws ns' A1 hp
        rw [← h.2.1]; omega
    split at h
    · exact same h
    · split at h
      · cases h
      · rename_i ws ns' A1 hp
        simp only [Option.some.injEq, Prod.mk.injEq] at h
        have := ptL_cnt l _ A ws ns' A1 hp
        rw [← h.2.1]; omega
theorem ptL_cnt : ∀ (l : List Tm) (a : Nat) (A : List ByteArray) (ws ns : List Int) (A' : List ByteArray), ptL l a A = some (ws, ns, A') → A'.length ≤ A.length + nL l
  | [], a, A, ws, ns, A', h => by
    rw [ptL] at h
    simp only [Option.some.injEq, Prod.mk.injEq] at h
    rw [← h.2.2]; omega
  | t :: r, a, A, ws, ns, A', h => by
    rw [ptL] at h
    rw [nL]
    split at h
    · cases h
    · rename_i ns1 A1 w1 hp
      split at h
      · cases h
      · rename_i ws2 ns2 A2 hp2
        simp only [Option.some.injEq, Prod.mk.injEq] at h
        have h1 := ptT_cnt t a A ns1 A1 w1 hp
        have h2 := ptL_cnt r _ _ ws2 ns2 A2 hp2
        rw [← h.2.2]; omega
end
/-! ### What putting answers -/
/-- It gives up, or all is put. -/
def PAns (Z : PZp) (w : World) (f : Nat → Int) (next : Nat) (o : Option (List Int × List ByteArray × Int)) (e : Ending) (w' : World) : Prop :=
  PF Z w w' ∧ ((∃ ns A' x, o = some (ns, A', x) ∧ e = .returned (.int .i64 x) ∧ PP Z w' (ovr f next ns) (next + ns.length) A') ∨ (o = none ∧ e = .panicked PN))
def PutK (Z : PZp) (t : Tm) : Prop := ∀ (w : World) (f : Nat → Int) (next : Nat) (A : List ByteArray) (v : Value), PP Z w f next A → PK Z w → RpV (fun b => b < Z.lo) w t v → goodT t → next + ndT t ≤ Z.n → Z.base + Z.n ≤ 3000000 → A.length + nT t ≤ 1048577 →
  Calls Try.prog 96 #[v, .pointer (some ⟨Z.pa, 0, none⟩), .pointer (some ⟨Z.qa, 0, none⟩)] w (PAns Z w f next (ptT t (Z.base + next) A))
end Go.Proofs.Ytabgfaafpgholaa
namespace Go.Proofs.Ytabgfaafpgholaa
open Go.RowKit
set_option linter.unusedVariables false

set_option maxHeartbeats 1000000 in
theorem takeP_any (pb next m : Nat) (w : World) (hc : w.cell? ⟨pb, 1, none⟩ = some (.int .i64 (next : Int))) (hf : w.frozen? ⟨pb, 1, none⟩ = false) (hb : next + m ≤ 4000000) :
    Calls Try.prog 97 #[.pointer (some ⟨pb, 0, none⟩), .int .i64 (m : Int)] w fun e w' => e = .returned (.int .i64 (next : Int)) ∧ w' = w.setCell ⟨pb, 1, none⟩ (.int .i64 ((next + m : Nat) : Int)) := by
  have e : IntKind.i64.wrap ((next : Int) + (m : Int)) = ((next + m : Nat) : Int) := by rw [IntKind.wrap_i64]; omega
  clear hb
  go_enter Try.func97, Try.ntmps97
  go_wp2_with fail
  go_ret
  exact ⟨rfl, rfl⟩
theorem listWord_any (a : Int) (m : Nat) (w : World) :
    Calls Try.prog 99 #[.int .i64 a, .int .i64 (m : Int)] w fun e w' => e = .returned (.int .i64 (if m = 0 then 3 else mkw 5 a)) ∧ w' = w := by
  by_cases h : m = 0
  · subst h
    have q : (((0 : Nat) : Int) == 0) = true := rfl
    go_enter Try.func99, Try.ntmps99
    go_wp2_with fail
    go_ret
    exact ⟨rfl, rfl⟩
  · have q : ((m : Int) == 0) = false := by simp; omega
    rw [if_neg h]
    clear h
    go_enter Try.func99, Try.ntmps99
    go_wp2_with (go_at_call 98; refine (implMake_any _ _ _).mono ?_; rintro e w' ⟨rfl, hw'⟩; obtain rfl := hw'.symm)
    go_ret
    exact ⟨rfl, rfl⟩
theorem PP.tail {Z : PZp} {w : World} {f : Nat → Int} {next : Nat} {A : List ByteArray} (h : PP Z w f next A) {m : Nat} (hm : next + m ≤ 4000000) :
    Calls Try.prog 97 #[.pointer (some ⟨Z.pb, 0, none⟩), .int .i64 (m : Int)] w fun e w' => e = .returned (.int .i64 (next : Int)) ∧ PP Z w' f (next + m) A ∧ PF Z w w' := by
  refine (takeP_any Z.pb next m w h.c1 (h.fr 1) hm).mono ?_
  rintro e w' ⟨rfl, rfl⟩
  exact ⟨rfl, h.next _, PF.setP 1 _⟩
set_option maxHeartbeats 4000000 in
set_option maxRecDepth 100000 in
theorem putBin_any (Z : PZp) (w : World) (f : Nat → Int) (next : Nat) (A : List ByteArray) (s : ByteArray) (h : PP Z w f next A) (hx : next + (1 + s.size) ≤ Z.n) (hb : Z.base + Z.n ≤ 3000000) :
    Calls Try.prog 100 #[.pointer (some ⟨Z.pb, 0, none⟩), .string s] w fun e w' => e = .returned (.int .i64 (mkw 6 ((Z.base + next : Nat) : Int))) ∧ PF Z w w' ∧ PP Z w' (ovr f next ((s.size : Int) :: bytesI s)) (next + (1 + s.size)) A := by
  have HX : Hid (next + (1 + s.size) ≤ Z.n ∧ Z.base + Z.n ≤ 3000000) := ⟨hx, hb⟩
  have e1 : IntKind.i64.wrap (1 + (s.size : Int)) = ((1 + s.size : Nat) : Int) := by rw [IntKind.wrap_i64]; omega
  have e2 : IntKind.i64.wrap ((Z.base : Int) + (next : Int)) = ((Z.base + next : Nat) : Int) := by rw [IntKind.wrap_i64]; omega
  have hn0 : next < Z.n := by omega
  have hni : (next : Int) ≤ 3000000 := by omega
  have hsi : (s.size : Int) ≤ 3000000 := by omega
  have HT : Hid (Calls Try.prog 97 #[.pointer (some ⟨Z.pb, 0, none⟩), .int .i64 ((1 + s.size : Nat) : Int)] w fun e w' => e = .returned (.int .i64 (next : Int)) ∧ PP Z w' f (next + (1 + s.size)) A ∧ PF Z w w') := h.tail (by omega)
  clear h hx hb
  go_enter Try.func100, Try.ntmps100
  go_wp2_with (go_at_call 97; fail)
  refine HT.out.mono ?_
  rintro e w1 ⟨rfl, hp1, hf1⟩
  have HP1 : Hid (PP Z w1 f (next + (1 + s.size)) A) := hp1
  have HF1 : Hid (PF Z w w1) := hf1
  have q0 := hp1.c0
  have q1 := hp1.ws next hn0
  have q2 := hp1.wf next
  clear hp1 hf1
  go_wp2_with fail
  go_loopw [22] (fun i wr => ∃ (k : Nat), k ≤ s.size ∧ i = .int .i64 k ∧ PP Z wr (ovr f next (((s.size : Int) :: bytesI s).take (k + 1))) (next + (1 + s.size)) A ∧ PF Z w wr) (fun i _ => s.size - (intOf i).toNat)
  case atStart => exact ⟨0, Nat.zero_le _, rfl, HP1.out.word (by have := HX.out; omega) _, HF1.out.trans (PF.setW next _)⟩
  case round =>
    obtain ⟨k, hk, rfl, hp, hf⟩ := hrel
    have HPR : Hid (PP Z wr (ovr f next (((s.size : Int) :: bytesI s).take (k + 1))) (next + (1 + s.size)) A) := hp
    have HFR : Hid (PF Z w wr) := hf
    have r0 := hp.c0
    have r2 := hp.c2
    clear q0 q1 q2
    by_cases hlt : k < s.size
    · have hlen : (((s.size : Int) :: bytesI s).take (k + 1)).length = k + 1 := by rw [List.length_take, List.length_cons, bytesI_len]; omega
      have HBT : Hid (((s.size : Int) :: bytesI s).take (k + 2) = ((s.size : Int) :: bytesI s).take (k + 1) ++ [((s.data[k]'hlt).toNat : Int)]) := bytes_take s k hlt
      obtain ⟨bt, hbt⟩ : ∃ bt : Nat, (s.data[k]'hlt).toNat = bt := ⟨_, rfl⟩
      rw [hbt] at HBT
      have hj : next + 1 + k < Z.n := by have := HX.out; omega
      have HST : Hid (PP Z (wr.setCell ⟨Z.wb, next + 1 + k, none⟩ (.int .i64 (bt : Int))) (ovr f next (((s.size : Int) :: bytesI s).take (k + 2))) (next + (1 + s.size)) A) := by
        have := hp.word hj (bt : Int)
        rw [ovr_app _ _ _ _ _ (by rw [hlen]; omega), ← HBT.out] at this
        exact this
      have hbt0 : (s.data[k]'hlt).toNat ≤ 255 := by have := (s.data[k]'hlt).toBitVec.isLt; show (s.data[k]'hlt).toBitVec.toNat ≤ 255; omega
      have hbt2 : (s[k]'hlt).toNat = bt := hbt
      have hbti : (bt : Int) ≤ 255 := by omega
      have hwb : IntKind.i64.wrap (bt : Int) = bt := by rw [IntKind.wrap_i64]; omega
      obtain ⟨J, hJ⟩ : ∃ J, J = next + 1 + k := ⟨_, rfl⟩
      have v1 : IntKind.i64.wrap ((next : Int) + 1) = (next : Int) + 1 := by rw [IntKind.wrap_i64]; omega
      have v2 : IntKind.i64.wrap ((next : Int) + 1 + (k : Int)) = (J : Int) := by rw [IntKind.wrap_i64]; omega
      have v3 : IntKind.i64.wrap ((k : Int) + 1) = ((k + 1 : Nat) : Int) := by rw [IntKind.wrap_i64]; omega
      have hki : (k : Int) < (s.size : Int) := by omega
      have r1 := hp.ws (next + 1 + k) hj
      have rf := hp.wf (next + 1 + k)
      rw [← hJ] at hj HST r1 rf
      clear hp hf HBT hlen hbt hbt0 hJ
      go_wp2_with fail
      go_region_law go_simp
      all_goals
        go_wp2_with fail
        go_roundw
        case rel => exact ⟨k + 1, by omega, by go_num, HST.out.drew, (HFR.out.trans (PF.setW _ _)).drew⟩
        case measure => simp [intOf]; omega
    · have hke : k = s.size := by omega
      have hki : ¬ (k : Int) < (s.size : Int) := by omega
      have HPF : Hid (PP Z wr (ovr f next ((s.size : Int) :: bytesI s)) (next + (1 + s.size)) A) := by
        have e : ((s.size : Int) :: bytesI s).take (k + 1) = (s.size : Int) :: bytesI s := List.take_of_length_le (by rw [List.length_cons, bytesI_len]; omega)
        rw [e] at hp; exact hp
      clear hp hf hke
      go_wp2_with (go_at_call 98; refine (implMake_any _ _ _).mono ?_; rintro e w' ⟨rfl, hw'⟩; obtain rfl := hw'.symm)
      go_ret
      exact ⟨rfl, HFR.out, HPF.out⟩
set_option maxHeartbeats 2000000 in
set_option maxRecDepth 100000 in
theorem atomWord_any (Z : PZp) (w : World) (f : Nat → Int) (next : Nat) (A : List ByteArray) (s : ByteArray) (h : PP Z w f next A) (hA : A.length ≤ 1048576) (hs : s.size ≤ maxLen) :
    Calls Try.prog 119 #[.pointer (some ⟨Z.pb, 0, none⟩), .string s] w (PAns Z w f next (if addK A s < 0 then none else some ([], addL A s, mkw 1 (addK A s)))) := by
  obtain ⟨v, hv, ab, ac, rfl, ha1, ha2, ha3, ha4, ha5, ha6, ha7, ha8⟩ := h.c3
  have hk2 : addK A s ≤ 1048576 := by have := addK_le A s; omega
  have HAD : Hid (Calls Try.prog 131 #[.slice (some ⟨ab, 0, none⟩) A.length ac, .string s] w fun e w' => ∃ v, e = .returned (.tuple #[v, .int .i64 (addK A s)]) ∧ Row1 w' w.heap.size v (addL A s) ∧ Below w.heap.size w w') := implAdd_any ab 0 ac A s w ha1 hA hs
  have HP : Hid (PP Z w f next A) := h
  have HLO : Hid (Z.lo ≤ w.heap.size ∧ Z.pb < w.heap.size ∧ Z.wb < w.heap.size) := ⟨h.base, h.pl, h.sw⟩
  obtain ⟨K, hK⟩ : ∃ K, K = addK A s := ⟨_, rfl⟩
  rw [← hK] at HAD hk2 ⊢
  clear ha1 ha2 ha3 ha4 ha5 ha6 ha7 ha8 h hA hs hK
  have HNE : Hid (∀ v w', Row1 w' w.heap.size v (addL A s) → Below w.heap.size w w' → PAt Z w' v (addL A s)) := fun v w' hr hb => by
    obtain ⟨g, cc, rfl, ho⟩ := hr
    obtain ⟨t1, t2, t3, t4⟩ := own_txt ho
    obtain ⟨l1, l2, l3⟩ := HLO.out
    obtain ⟨x1, x2⟩ := ho.2.elim (fun h => by cases h.1) (fun ⟨g', c', cur, e, q1, q2, q3, q4, q5, q6⟩ => by cases e; exact (⟨q3, q4⟩ : (addL A s).length ≤ cc ∧ cc ≤ maxLen))
    exact ⟨g, cc, rfl, t1, t4, by omega, by omega, by omega, t3, x1, x2⟩
  by_cases hk : K < 0
  · rw [if_pos hk]
    have hk0 : ¬ 0 ≤ K := by omega
    go_enter Try.func119, Try.ntmps119
    go_wp2_with (go_at_call 131; fail)
    refine HAD.out.mono ?_
    rintro e w1 ⟨u, rfl, hr1, hb1⟩
    have HF1 : Hid (PF Z w w1) := PF.below hb1
    clear hr1 hb1
    go_wp2_with (go_at_call 93; refine (insist_no _).mono ?_; rintro e w' ⟨rfl, hw'⟩; obtain rfl := hw'.symm)
    exact ⟨rfl, HF1.out, .inr ⟨rfl, rfl⟩⟩
  · rw [if_neg hk]
    have hk0 : 0 ≤ K := by omega
    have hk4 : K ≤ 4000000 := by omega
    go_enter Try.func119, Try.ntmps119
    go_wp2_with (go_at_call 131; fail)
    refine HAD.out.mono ?_
    rintro e w1 ⟨u, rfl, hr1, hb1⟩
    have HF1 : Hid (PF Z w w1) := PF.below hb1
    have HP1 : Hid (PP Z w1 f next A) := HP.out.below hb1
    have HU : Hid (PAt Z w1 u (addL A s)) := HNE.out u w1 hr1 hb1
    obtain ⟨v3, hv3, _⟩ := HP1.out.c3
    obtain ⟨g9, c9, hu9, _⟩ := HU.out
    subst hu9
    have hf3 := HP1.out.fr 3
    clear hr1 hb1 hv
    go_wp2_with (first | (go_at_call 93; refine (insist_yes _).mono ?_; rintro e w' ⟨rfl, hw'⟩; obtain rfl := hw'.symm) | (go_at_call 98; refine (implMake_any _ _ _).mono ?_; rintro e w' ⟨rfl, hw'⟩; obtain rfl := hw'.symm))
    go_ret
    refine ⟨HF1.out.trans (PF.setP 3 _), .inl ⟨[], addL A s, mkw 1 K, rfl, rfl, ?_⟩⟩
    rw [ovr_nil]
    exact HP1.out.atoms HU.out
set_option maxHeartbeats 1000000 in
theorem wordAlone_1 (Z : PZp) (w : World) (n : Int) (hn : -1000000 ≤ n ∧ n ≤ 1000000) : Calls Try.prog 101 #[.pointer (some ⟨Z.pb, 0, none⟩), .iface 149 (.int .i64 n)] w fun e w' => e = .returned (.int .i64 (mkw 0 (n + 1000000))) ∧ w' = w := by
  have q1 := assert_80_80
  have e1 : IntKind.i64.wrap (n + 1000000) = n + 1000000 := by rw [IntKind.wrap_i64]; omega
  go_enter Try.func101, Try.ntmps101
  go_wp2_with (go_at_call 98; refine (implMake_any _ _ _).mono ?_; rintro e w' ⟨rfl, hw'⟩; obtain rfl := hw'.symm)
  go_ret
  exact ⟨rfl, rfl⟩
theorem wordAlone_3 (Z : PZp) (w : World) (n : Int) : Calls Try.prog 101 #[.pointer (some ⟨Z.pb, 0, none⟩), .iface 151 (.int .i64 n)] w fun e w' => e = .returned (.int .i64 (mkw 2 n)) ∧ w' = w := by
  have q1 := assert_82_80
  have q2 := assert_82_81
  have q3 := assert_82_82
  go_enter Try.func101, Try.ntmps101
  go_wp2_with (go_at_call 98; refine (implMake_any _ _ _).mono ?_; rintro e w' ⟨rfl, hw'⟩; obtain rfl := hw'.symm)
  go_ret
  exact ⟨rfl, rfl⟩
theorem wordAlone_2 (Z : PZp) (w : World) (f : Nat → Int) (next : Nat) (A : List ByteArray) (s : ByteArray) (h : PP Z w f next A) (hA : A.length ≤ 1048576) (hs : s.size ≤ maxLen) : Calls Try.prog 101 #[.pointer (some ⟨Z.pb, 0, none⟩), .iface 150 (.string s)] w (PAns Z w f next (if addK A s < 0 then none else some ([], addL A s, mkw 1 (addK A s)))) := by
  have q1 := assert_81_80
  have q2 := assert_81_81
  have HC : Hid (Calls Try.prog 119 #[.pointer (some ⟨Z.pb, 0, none⟩), .string s] w (PAns Z w f next (if addK A s < 0 then none else some ([], addL A s, mkw 1 (addK A s))))) := atomWord_any Z w f next A s h hA hs
  generalize (if addK A s < 0 then none else some ([], addL A s, mkw 1 (addK A s))) = o at HC ⊢
  clear h hA hs
  cases o with
  | none =>
    go_enter Try.func101, Try.ntmps101
    go_wp2_with (go_at_call 119; refine HC.out.mono ?_; rintro e w1 ⟨hf1, hr1⟩; (have he : e = .panicked PN := by (rcases hr1 with ⟨_, _, _, e0, _⟩ | ⟨_, e0⟩; (cases e0); exact e0)); subst he)
    exact ⟨rfl, hf1, .inr ⟨rfl, rfl⟩⟩
  | some r =>
    go_enter Try.func101, Try.ntmps101
    go_wp2_with (go_at_call 119; refine HC.out.mono ?_; rintro e w1 ⟨hf1, hr1⟩; (obtain ⟨ns, A', x, e0, he, hp1⟩ : ∃ ns A' x, some r = some (ns, A', x) ∧ e = .returned (.int .i64 x) ∧ PP Z w1 (ovr f next ns) (next + ns.length) A' := by (rcases hr1 with h | ⟨e0, _⟩; exact h; cases e0)); subst he; have HR : Hid (some r = some (ns, A', x) ∧ PF Z w w1 ∧ PP Z w1 (ovr f next ns) (next + ns.length) A') := ⟨e0, hf1, hp1⟩; clear e0 hf1 hp1 hr1)
    go_ret
    exact ⟨HR.out.2.1, .inl ⟨_, _, _, HR.out.1, rfl, HR.out.2.2⟩⟩
end Go.Proofs.Ytabgfaafpgholaa
namespace Go.Proofs.Ytabgfaafpgholaa
open Go.RowKit
set_option linter.unusedVariables false

theorem elemP {Z : PZp} {w wr : World} {l : List Tm} {ao : Option Addr} (hr : RpL (fun b => b < Z.lo) w l ao) (hf : PF Z w wr) (h1 : Z.lo ≤ Z.pb) (h2 : Z.lo ≤ Z.wb) (i : Nat) (hi : i < l.length) :
    ∃ b off a1 a2 a3 a4 a5 a6, ao = some ⟨b, off, none⟩ ∧ wr.cell? ⟨b, off + i * 4, none⟩ = some (.int .i64 a1) ∧ wr.cell? ⟨b, off + i * 4 + 1, none⟩ = some (.int .i64 a2) ∧ wr.cell? ⟨b, off + i * 4 + 2, none⟩ = some (.string a3) ∧ wr.cell? ⟨b, off + i * 4 + 3, none⟩ = some (.slice a4 a5 a6) ∧ RpV (fun b => b < Z.lo) wr l[i] (.agg #[.int .i64 a1, .int .i64 a2, .string a3, .slice a4 a5 a6]) := by
  obtain ⟨b, off, e, _, hT⟩ := RpL.at _ _ ((hf.moves h1 h2).repL _ _ hr) i hi
  generalize l[i] = t at *
  obtain ⟨k', n', s', l'⟩ := t
  rw [RpT] at hT
  obtain ⟨q0, q1, q2, q3, ao', cap', q4, q5, q6, q7⟩ := hT
  exact ⟨b, off, k', n', s', ao', l'.length, cap', e, q0, q1, q2, q4, ao', cap', rfl, q3, q5, q6, q7⟩
/-- The form of a term, from any world behind w. -/
theorem formP (k n : Int) (s : ByteArray) (ao : Option Addr) (len cap : Nat) (w wq : World) (hb : Below w.heap.size w wq) : Calls Try.prog 83 #[.agg #[.int .i64 k, .int .i64 n, .string s, .slice ao len cap]] wq fun e w' => e = .returned (frm k n s (.slice ao len cap)) ∧ Below w.heap.size w w' :=
  (formOf_any k n s ao len cap wq).mono fun e w' ⟨h1, h2⟩ => ⟨h1, hb.trans (h2.mono hb.size)⟩
theorem shape_k {k n : Int} {s : ByteArray} {m : Nat} (h : shapeB k n s m = true) : ((k = 1 ∨ k = 2 ∨ k = 3 ∨ k = 6) ∧ m = 0) ∨ k = 4 ∨ k = 5 := by
  by_cases k1 : k = 1
  · subst k1; simp [shapeB] at h; exact .inl ⟨by omega, by omega⟩
  by_cases k2 : k = 2
  · subst k2; simp [shapeB] at h; exact .inl ⟨by omega, by omega⟩
  by_cases k3 : k = 3
  · subst k3; simp [shapeB] at h; exact .inl ⟨by omega, by omega⟩
  by_cases k4 : k = 4
  · exact .inr (.inl k4)
  by_cases k5 : k = 5
  · exact .inr (.inr k5)
  by_cases k6 : k = 6
  · subst k6; simp [shapeB] at h; exact .inl ⟨by omega, by omega⟩
  · exfalso; simp [shapeB, k1, k2, k3, k4, k5, k6] at h
mutual
theorem goodK : ∀ {t : Tm}, goodT t → AllK t
  | .mk k n s l, h => by
    rw [goodT] at h
    rw [AllK]
    refine ⟨?_, goodKL h.2⟩
    rcases shape_k h.1 with ⟨h1, h2⟩ | h1 | h1
    · exact .inl ⟨h1, List.eq_nil_of_length_eq_zero h2⟩
    · exact .inr (.inl h1)
    · exact .inr (.inr h1)
theorem goodKL : ∀ {l : List Tm}, goodL l → AllKL l
  | [], _ => by rw [AllKL]; trivial
  | t :: r, h => by rw [goodL] at h; rw [AllKL]; exact ⟨goodK h.1, goodKL h.2⟩
end
theorem nT_pos (t : Tm) : 1 ≤ nT t := by obtain ⟨k, n, s, l⟩ := t; rw [nT]; omega
set_option maxHeartbeats 2000000 in
set_option maxRecDepth 100000 in
theorem putK_1 (Z : PZp) (n : Int) (s : ByteArray) (l : List Tm) : PutK Z (.mk 1 n s l) := by
  intro w f next A v hp hk hv hg hx hb hA
  obtain ⟨ao, cap, rfl, hs, hlc, hcm, hr⟩ := hv
  have hsh : shapeB 1 n s l.length = true := by rw [goodT] at hg; exact hg.1
  have hn : -1000000 ≤ n ∧ n ≤ 1000000 := by simp [shapeB, inB] at hsh; omega
  have HF : Hid (∀ o, Calls Try.prog 83 #[.agg #[.int .i64 1, .int .i64 n, .string s, .slice ao l.length cap]] (w.alloc o) fun e w' => e = .returned (.iface 149 (.int .i64 n)) ∧ Below w.heap.size w w') := fun o => formP 1 n s ao l.length cap w _ ((Below.refl _ _).alloc (Nat.le_refl _) o)
  have HP : Hid (PP Z w f next A) := hp
  have HK : Hid (PK Z w) := hk
  have q1 := fun v W => assertN_1 v W _ (.inl rfl)
  have q2 := fun v W => assertN_1 v W _ (.inr rfl)
  have q3 := assertB_1
  have HN : Hid (-1000000 ≤ n ∧ n ≤ 1000000) := hn
  clear hp hk hg hx hb hA hs hlc hcm hr hsh hn
  rw [ptT_1]
  go_enter Try.func96, Try.ntmps96
  go_wp2_with (first
    | (go_at_call 83; refine (HF.out _).mono ?_; rintro e w1 ⟨rfl, hb1⟩; have HB1 : Hid (Below w.heap.size w w1) := hb1; have r1 := (HK.out.go (PF.below hb1)).k1; clear hb1)
    | (go_at_call 101; refine (wordAlone_1 Z _ n HN.out).mono ?_; rintro e w' ⟨rfl, hw'⟩; obtain rfl := hw'.symm))
  go_ret
  exact ⟨PF.below HB1.out, .inl ⟨[], A, _, rfl, rfl, by rw [ovr_nil]; exact HP.out.below HB1.out⟩⟩
set_option maxHeartbeats 2000000 in
set_option maxRecDepth 100000 in
theorem putK_3 (Z : PZp) (n : Int) (s : ByteArray) (l : List Tm) : PutK Z (.mk 3 n s l) := by
  intro w f next A v hp hk hv hg hx hb hA
  obtain ⟨ao, cap, rfl, hs, hlc, hcm, hr⟩ := hv
  have HF : Hid (∀ o, Calls Try.prog 83 #[.agg #[.int .i64 3, .int .i64 n, .string s, .slice ao l.length cap]] (w.alloc o) fun e w' => e = .returned (.iface 151 (.int .i64 n)) ∧ Below w.heap.size w w') := fun o => formP 3 n s ao l.length cap w _ ((Below.refl _ _).alloc (Nat.le_refl _) o)
  have HP : Hid (PP Z w f next A) := hp
  have HK : Hid (PK Z w) := hk
  have q1 := fun v W => assertN_3 v W _ (.inl rfl)
  have q2 := fun v W => assertN_3 v W _ (.inr rfl)
  have q3 := assertB_3
  clear hp hk hg hx hb hA hs hlc hcm hr
  rw [ptT_3]
  go_enter Try.func96, Try.ntmps96
  go_wp2_with (first
    | (go_at_call 83; refine (HF.out _).mono ?_; rintro e w1 ⟨rfl, hb1⟩; have HB1 : Hid (Below w.heap.size w w1) := hb1; have r1 := (HK.out.go (PF.below hb1)).k1; clear hb1)
    | (go_at_call 101; refine (wordAlone_3 Z _ n).mono ?_; rintro e w' ⟨rfl, hw'⟩; obtain rfl := hw'.symm))
  go_ret
  exact ⟨PF.below HB1.out, .inl ⟨[], A, _, rfl, rfl, by rw [ovr_nil]; exact HP.out.below HB1.out⟩⟩
set_option maxHeartbeats 2000000 in
set_option maxRecDepth 100000 in
theorem putK_2 (Z : PZp) (n : Int) (s : ByteArray) (l : List Tm) : PutK Z (.mk 2 n s l) := by
  intro w f next A v hp hk hv hg hx hb hA
  obtain ⟨ao, cap, rfl, hs, hlc, hcm, hr⟩ := hv
  have HF : Hid (∀ o, Calls Try.prog 83 #[.agg #[.int .i64 2, .int .i64 n, .string s, .slice ao l.length cap]] (w.alloc o) fun e w' => e = .returned (.iface 150 (.string s)) ∧ Below w.heap.size w w') := fun o => formP 2 n s ao l.length cap w _ ((Below.refl _ _).alloc (Nat.le_refl _) o)
  have HP : Hid (PP Z w f next A) := hp
  have HK : Hid (PK Z w) := hk
  have HC : Hid (∀ wq, Below w.heap.size w wq → Calls Try.prog 101 #[.pointer (some ⟨Z.pb, 0, none⟩), .iface 150 (.string s)] wq (PAns Z wq f next (if addK A s < 0 then none else some ([], addL A s, mkw 1 (addK A s))))) := fun wq hb => wordAlone_2 Z wq f next A s (hp.below hb) (by have := nT_pos (.mk 2 n s l); omega) hs
  have q1 := fun v W => assertN_2 v W _ (.inl rfl)
  have q2 := fun v W => assertN_2 v W _ (.inr rfl)
  have q3 := assertB_2
  clear hp hk hg hx hb hA hs hlc hcm hr
  rw [ptT_2]
  generalize (if addK A s < 0 then none else some ([], addL A s, mkw 1 (addK A s))) = o at HC ⊢
  cases o with
  | none =>
    go_enter Try.func96, Try.ntmps96
    go_wp2_with (first
      | (go_at_call 83; refine (HF.out _).mono ?_; rintro e w1 ⟨rfl, hb1⟩; have HB1 : Hid (Below w.heap.size w w1) := hb1; have r1 := (HK.out.go (PF.below hb1)).k1; clear hb1)
      | (go_at_call 101; refine (HC.out _ HB1.out).mono ?_; rintro e w2 ⟨hf1, hr1⟩; (have he : e = .panicked PN := by (rcases hr1 with ⟨_, _, _, e0, _⟩ | ⟨_, e0⟩; (cases e0); exact e0)); subst he))
    exact ⟨rfl, (PF.below HB1.out).trans hf1, .inr ⟨rfl, rfl⟩⟩
  | some r =>
    go_enter Try.func96, Try.ntmps96
    go_wp2_with (first
      | (go_at_call 83; refine (HF.out _).mono ?_; rintro e w1 ⟨rfl, hb1⟩; have HB1 : Hid (Below w.heap.size w w1) := hb1; have r1 := (HK.out.go (PF.below hb1)).k1; clear hb1)
      | (go_at_call 101; refine (HC.out _ HB1.out).mono ?_; rintro e w2 ⟨hf1, hr1⟩; (obtain ⟨ns, A', x, e0, he, hp1⟩ : ∃ ns A' x, some r = some (ns, A', x) ∧ e = .returned (.int .i64 x) ∧ PP Z w2 (ovr f next ns) (next + ns.length) A' := by (rcases hr1 with h | ⟨e0, _⟩; exact h; cases e0)); subst he; have HR : Hid (some r = some (ns, A', x) ∧ PF Z w1 w2 ∧ PP Z w2 (ovr f next ns) (next + ns.length) A') := ⟨e0, hf1, hp1⟩; clear e0 hf1 hp1 hr1))
    go_ret
    exact ⟨(PF.below HB1.out).trans HR.out.2.1, .inl ⟨_, _, _, HR.out.1, rfl, HR.out.2.2⟩⟩
set_option maxHeartbeats 2000000 in
set_option maxRecDepth 100000 in
theorem putK_6 (Z : PZp) (n : Int) (s : ByteArray) (l : List Tm) : PutK Z (.mk 6 n s l) := by
  intro w f next A v hp hk hv hg hx hb hA
  obtain ⟨ao, cap, rfl, hs, hlc, hcm, hr⟩ := hv
  have hnd : ndT (.mk 6 n s l) = 1 + s.size + ndL l := by simp [ndT, ndO]
  have HF : Hid (∀ o, Calls Try.prog 83 #[.agg #[.int .i64 6, .int .i64 n, .string s, .slice ao l.length cap]] (w.alloc o) fun e w' => e = .returned (.iface 140 (.string s)) ∧ Below w.heap.size w w') := fun o => formP 6 n s ao l.length cap w _ ((Below.refl _ _).alloc (Nat.le_refl _) o)
  have HP : Hid (PP Z w f next A) := hp
  have HK : Hid (PK Z w) := hk
  have HC : Hid (∀ wq, Below w.heap.size w wq → Calls Try.prog 100 #[.pointer (some ⟨Z.pb, 0, none⟩), .string s] wq fun e w' => e = .returned (.int .i64 (mkw 6 ((Z.base + next : Nat) : Int))) ∧ PF Z wq w' ∧ PP Z w' (ovr f next ((s.size : Int) :: bytesI s)) (next + (1 + s.size)) A) := fun wq hb9 => putBin_any Z wq f next A s (hp.below hb9) (by rw [hnd] at hx; omega) hb
  have q1 := assert_85_83
  have q2 := assert_85_84
  have q3 := assert_85_85
  clear hp hk hg hx hb hA hs hlc hcm hr hnd
  rw [ptT_6]
  go_enter Try.func96, Try.ntmps96
  go_wp2_with (first
    | (go_at_call 83; refine (HF.out _).mono ?_; rintro e w1 ⟨rfl, hb1⟩; have HB1 : Hid (Below w.heap.size w w1) := hb1; have r1 := (HK.out.go (PF.below hb1)).k1; clear hb1)
    | (go_at_call 100; refine (HC.out _ HB1.out).mono ?_; rintro e w2 ⟨rfl, hf2, hp2⟩; have HR : Hid (PF Z w1 w2 ∧ PP Z w2 (ovr f next ((s.size : Int) :: bytesI s)) (next + (1 + s.size)) A) := ⟨hf2, hp2⟩; clear hf2 hp2))
  go_ret
  refine ⟨(PF.below HB1.out).trans HR.out.1, .inl ⟨_, _, _, rfl, rfl, ?_⟩⟩
  have h := HR.out.2
  rw [show next + (1 + s.size) = next + ((s.size : Int) :: bytesI s).length by rw [List.length_cons, bytesI_len]; omega] at h
  exact h
set_option maxHeartbeats 8000000 in
set_option maxRecDepth 100000 in
theorem putK_4 (Z : PZp) (n : Int) (s : ByteArray) (l : List Tm) (ih : ∀ t, t ∈ l → PutK Z t) : PutK Z (.mk 4 n s l) := by
  intro w f next A v hp hk hv hg hx hb hA
  obtain ⟨ao, cap, rfl, hs, hlc, hcm, hr⟩ := hv
  rw [goodT] at hg
  have HGL : Hid (goodL l) := hg.2
  have IH : Hid (∀ t, t ∈ l → PutK Z t) := ih
  have hnd : ndT (.mk 4 n s l) = 1 + l.length + ndL l := by simp [ndT, ndO]
  have hnt : nT (.mk 4 n s l) = 1 + nL l := by rw [nT]
  rw [hnd] at hx
  rw [hnt] at hA
  obtain ⟨T, hT⟩ : ∃ T, T = l.length := ⟨_, rfl⟩
  rw [← hT] at hx hlc ⊢
  have HTL : Hid (T = l.length) := hT
  have HX : Hid (next + (1 + T + ndL l) ≤ Z.n ∧ Z.base + Z.n ≤ 3000000) := ⟨hx, hb⟩
  have HAN : Hid (A.length + (1 + nL l) ≤ 1048577) := hA
  have HF : Hid (∀ o, Calls Try.prog 83 #[.agg #[.int .i64 4, .int .i64 n, .string s, .slice ao T cap]] (w.alloc o) fun e w' => e = .returned (.iface 137 (.slice ao T cap)) ∧ Below w.heap.size w w') := fun o => formP 4 n s ao T cap w _ ((Below.refl _ _).alloc (Nat.le_refl _) o)
  have HP : Hid (PP Z w f next A) := hp
  have HK : Hid (PK Z w) := hk
  have HRL : Hid (RpL (fun b => b < Z.lo) w l ao) := hr
  have HLO : Hid (Z.lo ≤ Z.pb ∧ Z.lo ≤ Z.wb) := ⟨hp.lp, hp.lw⟩
  have q1 := assert_83_83
  have e1 : IntKind.i64.wrap (1 + (T : Int)) = ((1 + T : Nat) : Int) := by rw [IntKind.wrap_i64]; omega
  have e2 : IntKind.i64.wrap ((Z.base : Int) + (next : Int)) = ((Z.base + next : Nat) : Int) := by rw [IntKind.wrap_i64]; omega
  have hti : (T : Int) ≤ 3000000 := by omega
  have hni : (next : Int) ≤ 3000000 := by omega
  have hn0 : next < Z.n := by omega
  have HT : Hid (∀ wq, Below w.heap.size w wq → Calls Try.prog 97 #[.pointer (some ⟨Z.pb, 0, none⟩), .int .i64 ((1 + T : Nat) : Int)] wq fun e w' => e = .returned (.int .i64 (next : Int)) ∧ PP Z w' f (next + (1 + T)) A ∧ PF Z wq w') := fun wq hb9 => (hp.below hb9).tail (by omega)
  clear hp hk hg hx hb hA hs hlc hcm hr hnd hnt hT ih
  go_enter Try.func96, Try.ntmps96
  go_wp2_with (first
    | (go_at_call 83; refine (HF.out _).mono ?_; rintro e w1 ⟨rfl, hb1⟩; have HB1 : Hid (Below w.heap.size w w1) := hb1; have HK1 : Hid (PK Z w1) := HK.out.go (PF.below hb1); have r1 := HK1.out.k1; clear hb1)
    | (go_at_call 97; refine (HT.out _ HB1.out).mono ?_; rintro e w2 ⟨rfl, hp2, hf2⟩; have HP2 : Hid (PP Z w2 f (next + (1 + T)) A) := hp2; have HF2 : Hid (PF Z w w2) := (PF.below HB1.out).trans hf2; have HK2 : Hid (PK Z w2) := HK1.out.go hf2; have r2 := HK2.out.k1; have q0 := hp2.c0; have q9 := hp2.ws next hn0; have q8 := hp2.wf next; clear hp2 hf2))
  obtain ⟨w3, hw3⟩ : ∃ w3, w3 = w2.setCell ⟨Z.wb, next, none⟩ (.int .i64 (T : Int)) := ⟨_, rfl⟩
  rw [← hw3]
  have HP3 : Hid (PP Z w3 (ovr f next [(T : Int)]) (next + (1 + T)) A) := by rw [hw3]; exact HP2.out.word (by have := HX.out; omega) _
  have HF3 : Hid (PF Z w w3) := by rw [hw3]; exact HF2.out.trans (PF.setW _ _)
  clear hw3 HP2 HF2 HK1 HK2 r1 r2 q0 q9 q8 q1
  have HFE : Hid (∀ (k : Nat) (ws ns : List Int), ovr (ovr f next ((T : Int) :: ws)) (next + (1 + T)) ns = ovr (ovr f next ((T : Int) :: ws)) (next + (1 + T)) ns) := fun _ _ _ => rfl
  clear HFE
  go_loopw [38] (fun i wr => ∃ (k : Nat) (ws ns : List Int) (A' : List ByteArray), i = .int .i64 k ∧ k ≤ l.length ∧ ws.length = k ∧ ns.length = ndL (l.take k) ∧ A'.length ≤ A.length + nL (l.take k) ∧ ptL (l.take k) (Z.base + next + 1 + l.length) A = some (ws, ns, A') ∧ PP Z wr (ovr (ovr f next ((T : Int) :: ws)) (next + (1 + T)) ns) (next + (1 + T) + ns.length) A' ∧ PF Z w wr) (fun i _ => l.length - (intOf i).toNat)
  case atStart => exact ⟨0, [], [], A, rfl, Nat.zero_le _, rfl, by simp [ndL], by omega, by simp [ptL], by rw [ovr_nil]; exact HP3.out, HF3.out⟩
  case round =>
    obtain ⟨k, ws, ns, A', rfl, hk, hwl, hnl, hal, hpl, hp, hf⟩ := hrel
    have HPR : Hid (PP Z wr (ovr (ovr f next ((T : Int) :: ws)) (next + (1 + T)) ns) (next + (1 + T) + ns.length) A') := hp
    have HFR : Hid (PF Z w wr) := hf
    have HKR : Hid (PK Z wr) := HK.out.go hf
    have HWN : Hid (ws.length = k ∧ ns.length = ndL (l.take k) ∧ A'.length ≤ A.length + nL (l.take k) ∧ ptL (l.take k) (Z.base + next + 1 + l.length) A = some (ws, ns, A')) := ⟨hwl, hnl, hal, hpl⟩
    clear HP3 HF3
    by_cases hlt : k < l.length
    · have hltT : (k : Int) < (T : Int) := by have := HTL.out; omega
      have hkT : k < T := by have := HTL.out; omega
      obtain ⟨b, off, a1, a2, a3, a4, a5, a6, rfl, c0, c1, c2, c3, hv⟩ := elemP HRL.out hf HLO.out.1 HLO.out.2 k hlt
      have HV : Hid (RpV (fun b => b < Z.lo) wr l[k] (.agg #[.int .i64 a1, .int .i64 a2, .string a3, .slice a4 a5 a6])) := hv
      have HT9 : Hid (PutK Z l[k]) := IH.out _ (List.getElem_mem hlt)
      have HG9 : Hid (goodT l[k]) := goodL_at l HGL.out k hlt
      obtain ⟨N, hN⟩ : ∃ N, N = next + (1 + T) + ns.length := ⟨_, rfl⟩
      obtain ⟨F, hF⟩ : ∃ F, F = ovr (ovr f next ((T : Int) :: ws)) (next + (1 + T)) ns := ⟨_, rfl⟩
      rw [← hN, ← hF] at HPR
      have e3 := ndL_take l k hlt
      have e4 := ndL_le l (k + 1)
      have e5 := nL_take l k hlt
      have e6 := nL_le l (k + 1)
      have HB1 : Hid (N + ndT l[k] ≤ Z.n ∧ A'.length + nT l[k] ≤ 1048577) := by
        have e7 := HX.out
        have e8 := HAN.out
        have e9 := HTL.out
        exact ⟨by omega, by omega⟩
      obtain ⟨J, hJ⟩ : ∃ J, J = next + 1 + k := ⟨_, rfl⟩
      have hJn : J < Z.n := by have := HX.out; omega
      have v1 : IntKind.i64.wrap ((next : Int) + 1) = (next : Int) + 1 := by rw [IntKind.wrap_i64]; omega
      have v2 : IntKind.i64.wrap ((next : Int) + 1 + (k : Int)) = (J : Int) := by rw [IntKind.wrap_i64]; omega
      have v3 : IntKind.i64.wrap ((k : Int) + 1) = ((k + 1 : Nat) : Int) := by rw [IntKind.wrap_i64]; omega
      obtain ⟨wa, hwa⟩ : ∃ wa, wa = wr.alloc (.cells #[.int .i64 a1, .int .i64 a2, .string a3, .slice a4 a5 a6] 39) := ⟨_, rfl⟩
      have hba : Below wr.heap.size wr wa := by rw [hwa]; exact (Below.refl _ _).alloc (Nat.le_refl _) _
      have t0 : ∀ j, wa.cell? ⟨wr.heap.size, j, none⟩ = (#[.int .i64 a1, .int .i64 a2, .string a3, .slice a4 a5 a6] : Array Value)[j]? := fun j => by rw [hwa, World.cell?_alloc_new]
      have HPA : Hid (PP Z wa F N A') := HPR.out.below hba
      have HKA : Hid (PK Z wa) := HKR.out.go (PF.below hba)
      have HCL : Hid (Calls Try.prog 96 #[.agg #[.int .i64 a1, .int .i64 a2, .string a3, .slice a4 a5 a6], .pointer (some ⟨Z.pa, 0, none⟩), .pointer (some ⟨Z.qa, 0, none⟩)] wa.drew (PAns Z wa.drew F N (ptT l[k] (Z.base + N) A'))) :=
        HT9.out wa.drew F N A' _ HPA.out.drew (HKA.out.go (PF.refl _ _).drew) (((PF.below hba).drew.moves HLO.out.1 HLO.out.2).repV HV.out) HG9.out HB1.out.1 HX.out.2 HB1.out.2
      have p1 := HKA.out.k1
      have p2 := HKA.out.k2
      have p3 := HPA.out.c0
      have HWA : Hid (PF Z w wa) := HFR.out.trans (PF.below hba)
      have HNQ : Hid (Z.base + N = Z.base + next + 1 + l.length + ns.length) := by show _ = _; have := HTL.out; omega
      have HJ : Hid (J = next + 1 + k) := hJ
      have HNN : Hid (N = next + (1 + T) + ns.length) := hN
      have HFF : Hid (F = ovr (ovr f next ((T : Int) :: ws)) (next + (1 + T)) ns) := hF
      clear hp hf hv hba hJ hN hF e3 e4 e5 e6 hwl hnl hal hpl
      go_wp2_with fail
      rw [← hwa]
      clear hwa c0 c1 c2 c3
      have HSA : Hid (∀ wc F' N' B', PP Z wc F' N' B' → PF Z wa wc → wc.cell? ⟨Z.pa, 0, none⟩ = some (.pointer (some ⟨Z.pb, 0, none⟩)) ∧ wc.cell? ⟨Z.qa, 0, none⟩ = some (.func (.func 96) #[] #[.pointer (some ⟨Z.pa, 0, none⟩), .pointer (some ⟨Z.qa, 0, none⟩)]) ∧ wc.cell? ⟨Z.pb, 0, none⟩ = some (.slice (some ⟨Z.wb, 0, none⟩) Z.n Z.n) ∧ wc.cell? ⟨wr.heap.size, 0, none⟩ = some (.int .i64 a1) ∧ wc.cell? ⟨wr.heap.size, 1, none⟩ = some (.int .i64 a2) ∧ wc.cell? ⟨wr.heap.size, 2, none⟩ = some (.string a3) ∧ wc.cell? ⟨wr.heap.size, 3, none⟩ = some (.slice a4 a5 a6)) := fun wc F' N' B' g1 g2 => by
        have g3 := HKA.out.go g2
        have hw1 := HPR.out.pl
        have hw2 := HPR.out.sw
        exact ⟨g3.k1, g3.k2, g1.c0, g2.cell (by omega) (by omega) (t0 0), g2.cell (by omega) (by omega) (t0 1), g2.cell (by omega) (by omega) (t0 2), g2.cell (by omega) (by omega) (t0 3)⟩
      have S0 := HSA.out wa.drew _ _ _ HPA.out.drew (PF.refl _ _).drew
      clear t0 p1 p2 p3
      cases hq : ptT l[k] (Z.base + N) A' with
      | none =>
        have HNO : Hid (ptT (.mk 4 n s l) (Z.base + next) A = none) := by
          show _ = _
          rw [ptT_4, ptL_no hlt HWN.out.2.2.2 (by rw [HNQ.out] at hq; exact hq)]
        rw [hq] at HCL
        clear hq
        obtain ⟨p1, p2, p3, t0, t1, t2, t3⟩ := S0
        go_region_dies
        all_goals
          refine HCL.out.mono ?_
          rintro e w5 ⟨hf5, hr5⟩
          have he : e = .panicked PN := by
            rcases hr5 with ⟨_, _, _, e0, _⟩ | ⟨_, e0⟩
            · cases e0
            · exact e0
          subst he
          have HFZ : Hid (PF Z w w5) := HWA.out.trans hf5.undrew
          clear hf5 hr5
          first | exact ⟨rfl, HFZ.out, .inr ⟨HNO.out, rfl⟩⟩ | (go_simp; exact ⟨rfl, HFZ.out, .inr ⟨HNO.out, rfl⟩⟩) | fail "NONE"
      | some r =>
        obtain ⟨ns2, A2, x⟩ := r
        have HQ : Hid (ptT l[k] (Z.base + N) A' = some (ns2, A2, x)) := hq
        rw [hq] at HCL
        clear hq
        go_region_held3 (fun wc => wc.cell? ⟨Z.pa, 0, none⟩ = some (.pointer (some ⟨Z.pb, 0, none⟩)) ∧ wc.cell? ⟨Z.qa, 0, none⟩ = some (.func (.func 96) #[] #[.pointer (some ⟨Z.pa, 0, none⟩), .pointer (some ⟨Z.qa, 0, none⟩)]) ∧ wc.cell? ⟨Z.pb, 0, none⟩ = some (.slice (some ⟨Z.wb, 0, none⟩) Z.n Z.n) ∧ wc.cell? ⟨wr.heap.size, 0, none⟩ = some (.int .i64 a1) ∧ wc.cell? ⟨wr.heap.size, 1, none⟩ = some (.int .i64 a2) ∧ wc.cell? ⟨wr.heap.size, 2, none⟩ = some (.string a3) ∧ wc.cell? ⟨wr.heap.size, 3, none⟩ = some (.slice a4 a5 a6)) (first | (refine HSA.out _ _ _ _ HPA.out.drew ?_; first | exact PF.refl _ _ | exact (PF.refl _ _).drew; done) | (refine HSA.out _ _ _ _ HP5.out ?_; exact HF5.out; done) | (refine HSA.out _ _ _ _ (HP5.out.word hJn _) ?_; exact HF5.out.trans (PF.setW _ _); done) | go_keep) (first
          | (go_at_call 96; refine HCL.out.mono ?_; rintro e w5 ⟨hf5, hr5⟩; (obtain ⟨he, hp5⟩ : e = .returned (.int .i64 x) ∧ PP Z w5 (ovr F N ns2) (N + ns2.length) A2 := by (rcases hr5 with ⟨ns9, A9, x9, e0, e1, e2⟩ | ⟨e0, _⟩; (simp only [Option.some.injEq, Prod.mk.injEq] at e0; obtain ⟨rfl, rfl, rfl⟩ := e0; exact ⟨e1, e2⟩); cases e0)); subst he; have HF5 : Hid (PF Z wa w5) := hf5.undrew; have HP5 : Hid (PP Z w5 (ovr F N ns2) (N + ns2.length) A2) := hp5; have s1 := hp5.ws J hJn; have s2 := hp5.wf J; clear hf5 hr5 hp5))
        have HPW : Hid (PP Z (w5.setCell ⟨Z.wb, J, none⟩ (.int .i64 x)) (ovr (ovr f next ((T : Int) :: (ws ++ [x]))) (next + (1 + T)) (ns ++ ns2)) (next + (1 + T) + (ns ++ ns2).length) A2) := by
          have h9 := HP5.out.word hJn x
          rw [HFF.out, ovr_app _ _ _ _ _ HNN.out, ovr_next f next (next + (1 + T)) J ((T : Int) :: ws) (ns ++ ns2) [x] (by have := HJ.out; have := HWN.out.1; simp only [List.length_cons]; omega) (by have := HJ.out; simp only [List.length_cons, List.length_nil]; omega), HNN.out] at h9
          rw [Nat.add_assoc (next + (1 + T))] at h9
          show PP _ _ _ _ _
          rw [List.length_append]
          exact h9
        have HFW : Hid (PF Z w (w5.setCell ⟨Z.wb, J, none⟩ (.int .i64 x))) := (HWA.out.trans HF5.out).trans (PF.setW _ _)
        have HNX : Hid ((ws ++ [x]).length = k + 1 ∧ (ns ++ ns2).length = ndL (l.take (k + 1)) ∧ A2.length ≤ A.length + nL (l.take (k + 1)) ∧ ptL (l.take (k + 1)) (Z.base + next + 1 + l.length) A = some (ws ++ [x], ns ++ ns2, A2)) := by
          have hq9 := HQ.out
          obtain ⟨g1, g2, g3, g4⟩ := HWN.out
          have h1 := ptT_len l[k] _ A' ns2 A2 x (goodK HG9.out) hq9
          have h2 := ptT_cnt l[k] _ A' ns2 A2 x hq9
          have h3 := ndL_take l k hlt
          have h4 := nL_take l k hlt
          rw [HNQ.out] at hq9
          exact ⟨by simp [g1], by rw [List.length_append]; omega, by omega, ptL_yes hlt g4 hq9⟩
        go_wp2_with fail
        go_roundw
        case rel => exact ⟨k + 1, ws ++ [x], ns ++ ns2, A2, by go_num, by omega, HNX.out.1, HNX.out.2.1, HNX.out.2.2.1, HNX.out.2.2.2, HPW.out, HFW.out⟩
        case measure => simp [intOf]; omega
    · have hke : k = l.length := by omega
      have hltT : ¬ (k : Int) < (T : Int) := by have := HTL.out; omega
      have HWE : Hid (ptT (.mk 4 n s l) (Z.base + next) A = some (((T : Int) :: ws) ++ ns, A', mkw 4 ((Z.base + next : Nat) : Int))) := by
        have h9 := HWN.out.2.2.2
        rw [hke, List.take_length] at h9
        show _ = _
        rw [ptT_4, h9, HTL.out]
        rfl
      have HPE : Hid (PP Z wr (ovr f next (((T : Int) :: ws) ++ ns)) (next + (((T : Int) :: ws) ++ ns).length) A') := by
        have h9 := HPR.out
        have g1 := HWN.out.1
        have g2 := HTL.out
        rw [ovr_app _ _ _ _ _ (by rw [List.length_cons]; omega)] at h9
        rw [show next + (((T : Int) :: ws) ++ ns).length = next + (1 + T) + ns.length by rw [List.length_append, List.length_cons]; omega]
        exact h9
      have p1 := HKR.out.k1
      have p2 := hp.c2
      clear hp hf hke hwl hnl hal hpl
      go_wp2_with (go_at_call 98; refine (implMake_any _ _ _).mono ?_; rintro e w' ⟨rfl, hw'⟩; obtain rfl := hw'.symm)
      go_ret
      exact ⟨HFR.out, .inl ⟨_, _, _, HWE.out, rfl, HPE.out⟩⟩
end Go.Proofs.Ytabgfaafpgholaa
