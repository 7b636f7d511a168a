/-
  Names of lists, copies of texts, shallow copies of lists.
  (Ahead of it, in this text: Maps whose keys are names of lists: a pointer and a number. A term whose lists stand each in a block, the blocks told as a list: what keeps it, its parts, what is read of it. Lookup and update of a map whose keys are names of lists. A copy of a text is that text.)
-/
import Derived.Test.YtfjaphhijefdlaaGreatDoorProg
import Derived.Laws.World
import Derived.LaidEql
import Derived.Below
import Derived.ChangeKeysEq
import Derived.Test.YtfjaphhijefdlaaGreatDoorTmC
import Derived.Test.YtfjaphhijefdlaaGreatDoorCurA
import Derived.MapKept
import Derived.Maps.OwnSet
import Derived.Test.YtfjaphhijefdlaaGreatDoorShelf
import Derived.Outline
import Derived.Lib.SliceRun
import Derived.Maps.AppendAt
import Derived.Deep.OwnRows
namespace Go.Proofs.YtfjaphhijefdlaaGreatDoor
open Go.RowKit
set_option linter.unusedVariables false

theorem blk_of_cell {w : World} {b o : Nat} {v : Value} (h : w.cell? ⟨b, o, none⟩ = some v) : ∃ c t f, w.heap[b]? = some (.cells c t f) := by
  unfold World.cell? at h
  cases hq : w.heap[b]? with
  | none => simp [hq] at h
  | some x => cases x <;> simp [hq] at h ⊢
/-- A block of cells none of which is frozen. -/
def Plain (w : World) (b : Nat) : Prop := (∃ c t f, w.heap[b]? = some (.cells c t f)) ∧ ∀ o, w.frozen? ⟨b, o, none⟩ = false
theorem sameAddr_any {P : Program} {w : World} {b o b' o' : Nat} (hb : Plain w b) (hb' : Plain w b') : (sameAddr ⟨b, o, none⟩ ⟨b', o', none⟩).run P w = .ok (decide (b = b' ∧ o = o')) w := by
  obtain ⟨⟨c, t, f, h⟩, hf⟩ := hb
  obtain ⟨⟨c', t', f', h'⟩, hf'⟩ := hb'
  by_cases e : b = b'
  · subst e
    by_cases e2 : o = o'
    · subst e2; simp [sameAddr]
    · simp [sameAddr, e2]
  · simp [sameAddr, e, hf, hf', noView, viewAt, World.shape?, mayBeOne, stringish, h, h']


theorem fldName : (match Tryz.prog.underlying 92 with | some (.struct fs) => fs.toList.map (fun f => (f.name, f.type, f.offset)) | _ => []) = [("first", 90, 0), ("n", 3, 1)] := by kernel_rfl
theorem undName : ∃ f1 f2 : Field, Tryz.prog.underlying 92 = some (.struct #[f1, f2]) ∧ f1.name = "first" ∧ f1.type = 90 ∧ f1.offset = 0 ∧ f2.name = "n" ∧ f2.type = 3 ∧ f2.offset = 1 := by
  have h := fldName
  generalize Tryz.prog.underlying 92 = u at h
  rcases u with _ | u
  · simp at h
  · cases u <;> simp at h
    rename_i fs
    obtain ⟨l⟩ := fs
    rcases l with _ | ⟨f1, _ | ⟨f2, _ | ⟨f3, r⟩⟩⟩ <;> simp at h
    exact ⟨f1, f2, rfl, h.1.1, h.1.2.1, h.1.2.2, h.2.1, h.2.2.1, h.2.2.2⟩
theorem ptrTerm : Tryz.prog.underlying 90 = some (.pointer 26) := by kernel_rfl

theorem eq_ptr {w : World} {b o b' o' : Nat} (hb : Plain w b) (hb' : Plain w b') (d : Nat) : (Op.equalIn (d + 1) 90 (.pointer (some ⟨b, o, none⟩)) (.pointer (some ⟨b', o', none⟩))).run Tryz.prog w = .ok (decide (b = b' ∧ o = o')) w := by
  simp [Op.equalIn, run_underlying ptrTerm, sameAddr_any hb hb']
theorem eq_int9 {w : World} {n n' : Int} (d : Nat) : (Op.equalIn (d + 1) 3 (.int .i64 n) (.int .i64 n')).run Tryz.prog w = .ok (n == n') w := by
  simp [Op.equalIn, run_underlying Tryz.underlying3]

abbrev nmV (b o : Nat) (n : Int) : Value := .agg #[.pointer (some ⟨b, o, none⟩), .int .i64 n]
theorem eq_nameIn {w : World} {b o b' o' : Nat} {n n' : Int} (hb : Plain w b) (hb' : Plain w b') (d : Nat) :
    (Op.equalIn (d + 2) 92 (nmV b o n) (nmV b' o' n')).run Tryz.prog w = .ok (decide (b = b' ∧ o = o') && (n == n')) w := by
  obtain ⟨f1, f2, hu, e1, e2, e3, e4, e5, e6⟩ := undName
  have p1 : ∀ (x y : Value), (part 90 #[x, y] 0).run Tryz.prog w = .ok x w := fun x y => by simp [part]
  have p2 : ∀ (x y : Value), (part 3 #[x, y] 1).run Tryz.prog w = .ok y w := fun x y => by simp [part]
  have q1 := eq_ptr hb hb' (o := o) (o' := o') d
  have q2 := eq_int9 (w := w) (n := n) (n' := n') d
  rw [show d + 2 = (d + 1) + 1 from rfl, Op.equalIn]
  simp only [Sem.run_bind, run_underlying hu, Result.andThen_ok]
  by_cases e : b = b' ∧ o = o'
  · rw [decide_eq_true e] at q1 ⊢
    by_cases en : n = n'
    · subst en
      simp [e1, e2, e3, e4, e5, e6, p1, p2, q1, q2]
    · have en2 : (n == n') = false := by simp [en]
      rw [en2] at q2
      simp [e1, e2, e3, e4, e5, e6, p1, p2, q1, q2, en]
  · rw [decide_eq_false e] at q1 ⊢
    simp [e1, e2, e3, e4, e5, e6, p1, q1]
theorem eq_name {w : World} {b o b' o' : Nat} {n n' : Int} (hb : Plain w b) (hb' : Plain w b') :
    (Op.equal 92 (nmV b o n) (nmV b' o' n')).run Tryz.prog w = .ok (decide (b = b' ∧ o = o') && (n == n')) w := eq_nameIn hb hb' 9998

/-- An entry of such a map; S tells which lists may be named. -/
def NmE (w : World) (S : Nat → Nat → Prop) (e : MapEntry) : Prop := ∃ b o n, e.key = nmV b o n ∧ Plain w b ∧ S b o ∧ ∃ a l c, e.val = .slice a l c
theorem find_name {w : World} {S : Nat → Nat → Prop} {b o : Nat} {n : Int} (hb : Plain w b) : ∀ (es : List MapEntry) (i : Nat), (∀ e ∈ es, NmE w S e) →
    ((Instr.findAsking 92 (nmV b o n) es i).run Tryz.prog w = .ok none w) ∨ ∃ j e, (Instr.findAsking 92 (nmV b o n) es i).run Tryz.prog w = .ok (some (i + j, e.val)) w ∧ es[j]? = some e ∧ e.key = nmV b o n ∧ S b o
  | [], i, _ => .inl (by simp [Instr.findAsking])
  | e :: es, i, h => by
    obtain ⟨b', o', n', hk, hp, hs, a, l, c, hv⟩ := h e (by simp)
    have q := eq_name (o := o) (o' := o') (n := n) (n' := n') hb hp
    rw [← hk] at q
    by_cases hq : (b = b' ∧ o = o') ∧ n = n'
    · right
      obtain ⟨⟨rfl, rfl⟩, rfl⟩ := hq
      refine ⟨0, e, ?_, rfl, hk, hs⟩
      rw [Instr.findAsking, Sem.run_bind, q]
      simp
    · have hf : (decide (b = b' ∧ o = o') && (n == n')) = false := by
        by_cases h1 : b = b' ∧ o = o'
        · have : n ≠ n' := fun x => hq ⟨h1, x⟩
          simp [this]
        · rw [decide_eq_false h1]; rfl
      rw [hf] at q
      rcases find_name (n := n) (o := o) (S := S) hb es (i + 1) (fun x hx => h x (by simp [hx])) with h1 | ⟨j, e', h1, h2, h3, h4⟩
      · left
        rw [Instr.findAsking, Sem.run_bind, q]
        simpa using h1
      · right
        refine ⟨j + 1, e', ?_, by simpa using h2, h3, h4⟩
        rw [Instr.findAsking, Sem.run_bind, q]
        have : i + (j + 1) = i + 1 + j := by omega
        rw [this]
        simpa using h1
theorem findKey_name {w : World} {S : Nat → Nat → Prop} {b o : Nat} {n : Int} (hb : Plain w b) (es : List MapEntry) (h : ∀ e ∈ es, NmE w S e) :
    ((Instr.findKey 92 (nmV b o n) es).run Tryz.prog w = .ok none w) ∨ ∃ j e, (Instr.findKey 92 (nmV b o n) es).run Tryz.prog w = .ok (some (j, e.val)) w ∧ es[j]? = some e ∧ e.key = nmV b o n ∧ S b o := by
  obtain ⟨f1, f2, hu, _⟩ := undName
  have key : (Instr.findKey 92 (nmV b o n) es).run Tryz.prog w = (Instr.findAsking 92 (nmV b o n) es 0).run Tryz.prog w := by
    unfold Instr.findKey
    rw [Sem.run_bind, run_underlying hu, Result.andThen_ok]
    cases es with
    | nil => simp [Instr.findNow, Instr.findAsking]
    | cons e r => simp [Instr.findNow, Instr.sameNow]
  rw [key]
  rcases find_name (n := n) (o := o) (S := S) hb es 0 h with h1 | ⟨j, e, h1, h2, h3, h4⟩
  · exact .inl h1
  · exact .inr ⟨j, e, by simpa using h1, h2, h3, h4⟩
theorem checkKey_name {w : World} {b o : Nat} {n : Int} (em : Bool) (d : Nat) : (Instr.checkKey em (d + 2) 92 (nmV b o n)).run Tryz.prog w = .ok () w := by
  obtain ⟨f1, f2, hu, e1, e2, e3, e4, e5, e6⟩ := undName
  have p1 : ∀ (x y : Value), (part 90 #[x, y] 0).run Tryz.prog w = .ok x w := fun x y => by simp [part]
  have p2 : ∀ (x y : Value), (part 3 #[x, y] 1).run Tryz.prog w = .ok y w := fun x y => by simp [part]
  have c1 : ∀ v, (Instr.checkKey em (d + 1) 90 v).run Tryz.prog w = .ok () w := fun v => by simp [Instr.checkKey, run_underlying ptrTerm]
  have c2 : ∀ v, (Instr.checkKey em (d + 1) 3 v).run Tryz.prog w = .ok () w := fun v => by simp [Instr.checkKey, run_underlying Tryz.underlying3]
  rw [show d + 2 = (d + 1) + 1 from rfl, Instr.checkKey]
  simp only [Sem.run_bind, run_underlying hu, Result.andThen_ok]
  simp [e1, e2, e3, e4, e5, e6, p1, p2, c1, c2]
end Go.Proofs.YtfjaphhijefdlaaGreatDoor
namespace Go.Proofs.YtfjaphhijefdlaaGreatDoor
open Go.RowKit
set_option linter.unusedVariables false

mutual
/-- The four cells from off on in the block b are the term t; the lists in it stand in the blocks bs. -/
def OsT (w : World) : Tm → List Nat → Nat → Nat → Prop
  | .mk k n s l, bs, b, off => w.cell? ⟨b, off, none⟩ = some (.int .i64 k) ∧ w.cell? ⟨b, off + 1, none⟩ = some (.int .i64 n) ∧ w.cell? ⟨b, off + 2, none⟩ = some (.string s) ∧ s.size ≤ 1048576 ∧
      ∃ ao cap, w.cell? ⟨b, off + 3, none⟩ = some (.slice ao l.length cap) ∧ l.length ≤ cap ∧ cap ≤ maxLen ∧ OsL w l bs ao
/-- From off on in the block g stand the terms of l. -/
def OsR (w : World) : List Tm → List Nat → Nat → Nat → Prop
  | [], bs, _, _ => bs = []
  | t :: r, bs, g, off => ∃ b1 b2, bs = b1 ++ b2 ∧ OsT w t b1 g off ∧ OsR w r b2 g (off + 4)
def OsL (w : World) : List Tm → List Nat → Option Addr → Prop
  | [], bs, _ => bs = []
  | t :: r, bs, ao => ∃ g o b1 b2, bs = g :: (b1 ++ b2) ∧ ao = some ⟨g, o, none⟩ ∧ (∀ x, w.frozen? ⟨g, x, none⟩ = false) ∧ OsT w t b1 g o ∧ OsR w r b2 g (o + 4)
end
def OsV (w : World) (bs : List Nat) : Tm → Value → Prop
  | .mk k n s l, v => ∃ ao cap, v = .agg #[.int .i64 k, .int .i64 n, .string s, .slice ao l.length cap] ∧ s.size ≤ 1048576 ∧ l.length ≤ cap ∧ cap ≤ maxLen ∧ OsL w l bs ao
theorem OsL.iff {w : World} {l : List Tm} {bs : List Nat} {ao : Option Addr} (hl : l ≠ []) : OsL w l bs ao ↔ ∃ g o b, bs = g :: b ∧ ao = some ⟨g, o, none⟩ ∧ (∀ x, w.frozen? ⟨g, x, none⟩ = false) ∧ OsR w l b g o := by
  cases l with
  | nil => exact absurd rfl hl
  | cons t r =>
    rw [OsL]
    constructor
    · rintro ⟨g, o, b1, b2, e1, e2, h3, h4, h5⟩
      exact ⟨g, o, b1 ++ b2, e1, e2, h3, by rw [OsR]; exact ⟨b1, b2, rfl, h4, h5⟩⟩
    · rintro ⟨g, o, b, e1, e2, h3, h4⟩
      rw [OsR] at h4
      obtain ⟨b1, b2, e3, h5, h6⟩ := h4
      exact ⟨g, o, b1, b2, by rw [e1, e3], e2, h3, h5, h6⟩
theorem OsT.head {w : World} {t : Tm} {bs : List Nat} {b off : Nat} (h : OsT w t bs b off) : ∃ v, w.cell? ⟨b, off, none⟩ = some v := by
  obtain ⟨k, n, s, l⟩ := t
  rw [OsT] at h
  exact ⟨_, h.1⟩
mutual
theorem OsT.keep {w w' : World} : ∀ (t : Tm) (bs : List Nat) (b off : Nat), (∀ x ∈ bs, x < w.heap.size → w'.heap[x]? = w.heap[x]?) → (∀ j v, j < 4 → w.cell? ⟨b, off + j, none⟩ = some v → w'.cell? ⟨b, off + j, none⟩ = some v) → OsT w t bs b off → OsT w' t bs b off
  | .mk k n s l, bs, b, off, hk, hc, h => by
    rw [OsT] at h ⊢
    obtain ⟨h0, h1, h2, hs, ao, cap, h3, hl, hcp, hr⟩ := h
    exact ⟨hc 0 _ (by omega) h0, hc 1 _ (by omega) h1, hc 2 _ (by omega) h2, hs, ao, cap, hc 3 _ (by omega) h3, hl, hcp, OsL.keep l bs ao hk hr⟩
theorem OsR.keep {w w' : World} : ∀ (l : List Tm) (bs : List Nat) (g off : Nat), (∀ x ∈ bs, x < w.heap.size → w'.heap[x]? = w.heap[x]?) → (∀ o v, off ≤ o → o < off + 4 * l.length → w.cell? ⟨g, o, none⟩ = some v → w'.cell? ⟨g, o, none⟩ = some v) → OsR w l bs g off → OsR w' l bs g off
  | [], bs, g, off, _, _, h => by rw [OsR] at h ⊢; exact h
  | t :: r, bs, g, off, hk, hc, h => by
    rw [OsR] at h ⊢
    obtain ⟨b1, b2, e, h4, h5⟩ := h
    subst e
    exact ⟨b1, b2, rfl, OsT.keep t b1 g off (fun x hx => hk x (List.mem_append_left _ hx)) (fun j v hj hv => hc _ v (by omega) (by simp; omega) hv) h4, OsR.keep r b2 g (off + 4) (fun x hx => hk x (List.mem_append_right _ hx)) (fun o v ho1 ho2 hv => hc o v (by omega) (by simp; omega) hv) h5⟩
theorem OsL.keep {w w' : World} : ∀ (l : List Tm) (bs : List Nat) (ao : Option Addr), (∀ x ∈ bs, x < w.heap.size → w'.heap[x]? = w.heap[x]?) → OsL w l bs ao → OsL w' l bs ao
  | [], _, _, _, h => by rw [OsL] at h ⊢; exact h
  | t :: r, bs, ao, hk, h => by
    rw [OsL] at h ⊢
    obtain ⟨g, o, b1, b2, e1, e2, hf, h4, h5⟩ := h
    subst e1
    have hgl : g < w.heap.size := by
      obtain ⟨v, hv⟩ := OsT.head h4
      exact World.block_lt_of_cell? w _ hv
    have hg := hk g (List.mem_cons_self ..) hgl
    have hc : ∀ x v, w.cell? ⟨g, x, none⟩ = some v → w'.cell? ⟨g, x, none⟩ = some v := fun x v hv => by rw [World.cell?_of_block (w := w) hg]; exact hv
    exact ⟨g, o, b1, b2, rfl, e2, fun x => by rw [World.frozen?_of_block (w := w) hg]; exact hf x, OsT.keep t b1 g o (fun x hx => hk x (List.mem_cons_of_mem _ (List.mem_append_left _ hx))) (fun j v _ hv => hc _ v hv) h4, OsR.keep r b2 g (o + 4) (fun x hx => hk x (List.mem_cons_of_mem _ (List.mem_append_right _ hx))) (fun x v _ _ hv => hc x v hv) h5⟩
end
theorem OsV.keep {w w' : World} {t : Tm} {bs : List Nat} {v : Value} (hk : ∀ x ∈ bs, x < w.heap.size → w'.heap[x]? = w.heap[x]?) (h : OsV w bs t v) : OsV w' bs t v := by
  obtain ⟨k, n, s, l⟩ := t
  obtain ⟨ao, cap, e, b1, b2, b3, b4⟩ := h
  exact ⟨ao, cap, e, b1, b2, b3, OsL.keep _ _ _ hk b4⟩
theorem OsL.below {w w' : World} {l : List Tm} {bs : List Nat} {ao : Option Addr} (hb : Below w.heap.size w w') (h : OsL w l bs ao) : OsL w' l bs ao := OsL.keep l bs ao (fun x _ hx => hb.block x hx) h
theorem OsV.below {w w' : World} {t : Tm} {bs : List Nat} {v : Value} (hb : Below w.heap.size w w') (h : OsV w bs t v) : OsV w' bs t v := h.keep (fun x _ hx => hb.block x hx)
theorem OsV.form {w : World} {bs : List Nat} {t : Tm} {v : Value} (h : OsV w bs t v) : ∃ a b c d e f, v = .agg #[.int .i64 a, .int .i64 b, .string c, .slice d e f] := by
  obtain ⟨k, n, s, l⟩ := t
  obtain ⟨ao, cap, e, _⟩ := h
  exact ⟨_, _, _, _, _, _, e⟩
mutual
theorem OsT.rep {w : World} : ∀ (t : Tm) (bs : List Nat) (b off : Nat), OsT w t bs b off → RepT 0 w t b off
  | .mk k n s l, bs, b, off, h => by
    rw [OsT] at h
    rw [RepT]
    obtain ⟨h0, h1, h2, hs, ao, cap, h3, hl, hcp, hr⟩ := h
    exact ⟨h0, h1, h2, by unfold maxLen; omega, ao, cap, h3, hl, hcp, OsL.rep l bs ao hr⟩
theorem OsR.rep {w : World} : ∀ (l : List Tm) (bs : List Nat) (g off : Nat), OsR w l bs g off → RepL 0 w l (some ⟨g, off, none⟩)
  | [], bs, g, off, h => by rw [RepL]; trivial
  | t :: r, bs, g, off, h => by
    rw [OsR] at h
    rw [RepL]
    obtain ⟨b1, b2, _, h4, h5⟩ := h
    exact ⟨g, off, rfl, Nat.zero_le _, OsT.rep t b1 g off h4, OsR.rep r b2 g (off + 4) h5⟩
theorem OsL.rep {w : World} : ∀ (l : List Tm) (bs : List Nat) (ao : Option Addr), OsL w l bs ao → RepL 0 w l ao
  | [], _, _, _ => by rw [RepL]; trivial
  | t :: r, bs, ao, h => by
    rw [OsL] at h
    rw [RepL]
    obtain ⟨g, o, b1, b2, _, e, _, h4, h5⟩ := h
    exact ⟨g, o, e, Nat.zero_le _, OsT.rep t b1 g o h4, OsR.rep r b2 g (o + 4) h5⟩
end
theorem OsV.rep {w : World} {bs : List Nat} {t : Tm} {v : Value} (h : OsV w bs t v) : RepV 0 w t v := by
  obtain ⟨k, n, s, l⟩ := t
  obtain ⟨ao, cap, e, b1, b2, b3, b4⟩ := h
  exact ⟨ao, cap, e, by unfold maxLen; omega, b2, b3, OsL.rep _ _ _ b4⟩
mutual
theorem OsT.lt {w : World} : ∀ (t : Tm) (bs : List Nat) (b off : Nat), OsT w t bs b off → ∀ x ∈ bs, x < w.heap.size
  | .mk k n s l, bs, b, off, h, x, hx => by
    rw [OsT] at h
    obtain ⟨_, _, _, _, ao, cap, _, _, _, hr⟩ := h
    exact OsL.lt l bs ao hr x hx
theorem OsR.lt {w : World} : ∀ (l : List Tm) (bs : List Nat) (g off : Nat), OsR w l bs g off → ∀ x ∈ bs, x < w.heap.size
  | [], bs, g, off, h, x, hx => by rw [OsR] at h; rw [h] at hx; cases hx
  | t :: r, bs, g, off, h, x, hx => by
    rw [OsR] at h
    obtain ⟨b1, b2, e, h4, h5⟩ := h
    rw [e] at hx
    rcases List.mem_append.1 hx with hx | hx
    · exact OsT.lt t b1 g off h4 x hx
    · exact OsR.lt r b2 g (off + 4) h5 x hx
theorem OsL.lt {w : World} : ∀ (l : List Tm) (bs : List Nat) (ao : Option Addr), OsL w l bs ao → ∀ x ∈ bs, x < w.heap.size
  | [], bs, _, h, x, hx => by rw [OsL] at h; rw [h] at hx; cases hx
  | t :: r, bs, ao, h, x, hx => by
    rw [OsL] at h
    obtain ⟨g, o, b1, b2, e, _, _, h4, h5⟩ := h
    rw [e] at hx
    rcases List.mem_cons.1 hx with rfl | hx
    · obtain ⟨v, hv⟩ := OsT.head h4
      exact World.block_lt_of_cell? w _ hv
    · rcases List.mem_append.1 hx with hx | hx
      · exact OsT.lt t b1 g o h4 x hx
      · exact OsR.lt r b2 g (o + 4) h5 x hx
end
/-! ### One of a row -/
theorem OsR.split {w : World} {t : Tm} {B : List Tm} {g : Nat} : ∀ {A : List Tm} {bs : List Nat} {off : Nat}, OsR w (A ++ t :: B) bs g off → ∃ ba bt bb, bs = ba ++ (bt ++ bb) ∧ OsR w A ba g off ∧ OsT w t bt g (off + A.length * 4) ∧ OsR w B bb g (off + A.length * 4 + 4)
  | [], bs, off, h => by
    rw [List.nil_append, OsR] at h
    obtain ⟨b1, b2, e, h4, h5⟩ := h
    exact ⟨[], b1, b2, e, by rw [OsR], by simpa using h4, by simpa using h5⟩
  | x :: A, bs, off, h => by
    rw [List.cons_append, OsR] at h
    obtain ⟨b1, b2, e, h4, h5⟩ := h
    obtain ⟨ba, bt, bb, e2, h6, h7, h8⟩ := OsR.split h5
    have el : off + 4 + A.length * 4 = off + (x :: A).length * 4 := by simp; omega
    rw [el] at h7 h8
    exact ⟨b1 ++ ba, bt, bb, by rw [e, e2, List.append_assoc], by rw [OsR]; exact ⟨b1, ba, rfl, h4, h6⟩, h7, h8⟩
theorem OsR.join {w : World} {t : Tm} {B : List Tm} {g : Nat} {bt bb : List Nat} : ∀ {A : List Tm} {ba : List Nat} {off : Nat}, OsR w A ba g off → OsT w t bt g (off + A.length * 4) → OsR w B bb g (off + A.length * 4 + 4) → OsR w (A ++ t :: B) (ba ++ (bt ++ bb)) g off
  | [], ba, off, h, h4, h5 => by
    rw [OsR] at h
    subst h
    rw [List.nil_append, OsR]
    exact ⟨bt, bb, rfl, by simpa using h4, by simpa using h5⟩
  | x :: A, ba, off, h, h4, h5 => by
    rw [OsR] at h
    obtain ⟨b1, b2, e, h6, h7⟩ := h
    have el : off + 4 + A.length * 4 = off + (x :: A).length * 4 := by simp; omega
    rw [← el] at h4 h5
    rw [List.cons_append, OsR]
    exact ⟨b1, b2 ++ (bt ++ bb), by rw [e, List.append_assoc], h6, OsR.join h7 h4 h5⟩
theorem OsL.plain {w : World} {l : List Tm} {g o : Nat} {bs : List Nat} (hl : l ≠ []) (h : OsL w l bs (some ⟨g, o, none⟩)) : Plain w g := by
  obtain ⟨g', o', b, _, e, hf, hr⟩ := (OsL.iff hl).1 h
  simp only [Option.some.injEq, Addr.mk.injEq, and_true] at e
  obtain ⟨rfl, rfl⟩ := e
  cases l with
  | nil => exact absurd rfl hl
  | cons t r =>
    rw [OsR] at hr
    obtain ⟨_, _, _, ht, _⟩ := hr
    obtain ⟨v, hv⟩ := ht.head
    exact ⟨blk_of_cell hv, hf⟩
/-- How many terms there are. -/
def ntL : List Tm → Nat
  | [] => 0
  | .mk _ _ _ l :: r => 1 + ntL l + ntL r
/-- How many there are in what stands in it. -/
def inL : List Tm → Nat
  | [] => 0
  | .mk _ _ _ l :: r => ntL l + inL r
theorem ntL_eq : ∀ l : List Tm, ntL l = l.length + inL l
  | [] => by rw [ntL, inL]; rfl
  | .mk k n s l :: r => by rw [ntL, inL, ntL_eq r, List.length_cons]; omega
end Go.Proofs.YtfjaphhijefdlaaGreatDoor
namespace Go.Proofs.YtfjaphhijefdlaaGreatDoor
open Go.RowKit
set_option linter.unusedVariables false

/-- The block mb is such a map. -/
def NmMap (w : World) (mb : Nat) (S : Nat → Nat → Prop) : Prop := ∃ es clk, w.heap[mb]? = some (.map es clk) ∧ ∀ e ∈ es.toList, NmE w S e
theorem undMap : Tryz.prog.underlying 105 = some (.map 92 24) := by kernel_rfl
theorem Plain.turn {w w' : World} {mb b : Nat} (ht : Turn mb w w') (hne : b ≠ mb) (h : Plain w b) : Plain w' b := by
  obtain ⟨⟨c, t, f, hb⟩, hf⟩ := h
  have hl : b < w.heap.size := by
    rcases Nat.lt_or_ge b w.heap.size with h | h
    · exact h
    · rw [Array.getElem?_eq_none h] at hb; cases hb
  have e := ht.block b hl hne
  exact ⟨⟨c, t, f, e.trans hb⟩, fun o => by rw [World.frozen?_of_block (w := w) e]; exact hf o⟩
theorem lookup_name {w : World} {mb : Nat} {S : Nat → Nat → Prop} (h : NmMap w mb S) {b o : Nat} {n : Int} (hb : Plain w b) :
    ∃ a l c q, (Instr.lookup 105 (.map (some mb)) (nmV b o n) true).run Tryz.prog w = .ok (.tuple #[.slice a l c, .bool q]) w ∧ (q = true → S b o) := by
  obtain ⟨es, clk, hm, he⟩ := h
  have hc : (Instr.checkKey es.isEmpty 10000 92 (nmV b o n)).run Tryz.prog w = .ok () w := checkKey_name es.isEmpty 9998
  rcases findKey_name (n := n) (o := o) hb es.toList he with h1 | ⟨j, e, h1, h2, h3, h4⟩
  · refine ⟨none, 0, 0, false, ?_, fun h => by cases h⟩
    simp [Instr.lookup, run_underlying undMap, MapKept.run_getObj_map hm, hc, h1]
  · obtain ⟨_, _, _, _, _, _, a, l, c, hv⟩ := he e (List.mem_of_getElem? h2)
    refine ⟨a, l, c, true, ?_, fun _ => h4⟩
    rw [hv] at h1
    simp [Instr.lookup, run_underlying undMap, MapKept.run_getObj_map hm, hc, h1]
open Classical in
/-- The first entry of this key. -/
noncomputable def nmFind (k : Value) : List MapEntry → Nat → Option (Nat × Value)
  | [], _ => none
  | e :: es, i => if e.key = k then some (i, e.val) else nmFind k es (i + 1)
theorem find_pure {w : World} {S : Nat → Nat → Prop} {b o : Nat} {n : Int} (hb : Plain w b) : ∀ (es : List MapEntry) (i : Nat), (∀ e ∈ es, NmE w S e) →
    (Instr.findAsking 92 (nmV b o n) es i).run Tryz.prog w = .ok (nmFind (nmV b o n) es i) w
  | [], i, _ => by simp [Instr.findAsking, nmFind]
  | e :: es, i, h => by
    obtain ⟨b', o', n', hk, hp, hs, a, l, c, hv⟩ := h e (by simp)
    have q := eq_name (o := o) (o' := o') (n := n) (n' := n') hb hp
    rw [← hk] at q
    rw [nmFind]
    by_cases hq : e.key = nmV b o n
    · have hq' := hq
      rw [hk] at hq'
      simp only [nmV, Value.agg.injEq, Array.mk.injEq, List.cons.injEq, and_true, Value.pointer.injEq, Option.some.injEq, Addr.mk.injEq, Value.int.injEq, true_and] at hq'
      obtain ⟨⟨rfl, rfl⟩, rfl⟩ := hq'
      rw [if_pos hq, Instr.findAsking, Sem.run_bind, q]
      simp
    · have hf : (decide (b = b' ∧ o = o') && (n == n')) = false := by
        by_cases h1 : b = b' ∧ o = o'
        · have : n ≠ n' := fun x => hq (by rw [hk, h1.1, h1.2, x])
          simp [this]
        · rw [decide_eq_false h1]; rfl
      rw [hf] at q
      rw [if_neg hq, Instr.findAsking, Sem.run_bind, q]
      simpa using find_pure hb es (i + 1) (fun x hx => h x (by simp [hx]))
theorem findKey_pure {w : World} {S : Nat → Nat → Prop} {b o : Nat} {n : Int} (hb : Plain w b) (es : List MapEntry) (h : ∀ e ∈ es, NmE w S e) :
    (Instr.findKey 92 (nmV b o n) es).run Tryz.prog w = .ok (nmFind (nmV b o n) es 0) w := by
  obtain ⟨f1, f2, hu, _⟩ := undName
  have key : (Instr.findKey 92 (nmV b o n) es).run Tryz.prog w = (Instr.findAsking 92 (nmV b o n) es 0).run Tryz.prog w := by
    unfold Instr.findKey
    rw [Sem.run_bind, run_underlying hu, Result.andThen_ok]
    cases es with
    | nil => simp [Instr.findNow, Instr.findAsking]
    | cons e r => simp [Instr.findNow, Instr.sameNow]
  rw [key]
  exact find_pure hb es 0 h
theorem nmFind_hit {k : Value} : ∀ {es : List MapEntry} {i j : Nat} {v : Value}, nmFind k es i = some (j, v) → ∃ e ∈ es, e.key = k ∧ e.val = v
  | [], i, j, v, h => by simp [nmFind] at h
  | e :: es, i, j, v, h => by
    rw [nmFind] at h
    split at h
    · rename_i hk
      simp only [Option.some.injEq, Prod.mk.injEq] at h
      exact ⟨e, by simp, hk, h.2⟩
    · obtain ⟨e', h1, h2⟩ := nmFind_hit h
      exact ⟨e', by simp [h1], h2⟩
/-- Lookup, in every world that has this heap. -/
theorem lookup_all {w : World} {mb : Nat} {S : Nat → Nat → Prop} (h : NmMap w mb S) {b o : Nat} {n : Int} (hb : Plain w b) :
    ∃ a l c q, (∀ w' : World, w'.heap = w.heap → (Instr.lookup 105 (.map (some mb)) (nmV b o n) true).run Tryz.prog w' = .ok (.tuple #[.slice a l c, .bool q]) w') ∧ (q = true → S b o) := by
  obtain ⟨es, clk, hm, he⟩ := h
  have hc : ∀ w' : World, (Instr.checkKey es.isEmpty 10000 92 (nmV b o n)).run Tryz.prog w' = .ok () w' := fun w' => checkKey_name es.isEmpty 9998
  have pl : ∀ w' : World, w'.heap = w.heap → ∀ x, Plain w x → Plain w' x := fun w' e x ⟨⟨c, t, f, h1⟩, h2⟩ => ⟨⟨c, t, f, by rw [e]; exact h1⟩, fun y => by
    rw [World.frozen?_of_block (w := w) (by rw [e])]; exact h2 y⟩
  have hf : ∀ w' : World, w'.heap = w.heap → (Instr.findKey 92 (nmV b o n) es.toList).run Tryz.prog w' = .ok (nmFind (nmV b o n) es.toList 0) w' := fun w' e =>
    findKey_pure (pl w' e b hb) es.toList (fun x hx => by obtain ⟨b', o', n', k1, k2, k3, k4⟩ := he x hx; exact ⟨b', o', n', k1, pl w' e _ k2, k3, k4⟩)
  cases hr : nmFind (nmV b o n) es.toList 0 with
  | none =>
    refine ⟨none, 0, 0, false, fun w' e => ?_, fun h => by cases h⟩
    have h1 := hf w' e
    rw [hr] at h1
    have hm' : w'.heap[mb]? = some (.map es clk) := by rw [e]; exact hm
    simp [Instr.lookup, run_underlying undMap, MapKept.run_getObj_map hm', hc, h1]
  | some x =>
    obtain ⟨j, v⟩ := x
    obtain ⟨e0, m1, m2, m3⟩ := nmFind_hit hr
    obtain ⟨b', o', n', k1, k2, k3, a, l, c, k4⟩ := he e0 m1
    rw [m2] at k1
    simp only [nmV, Value.agg.injEq, Array.mk.injEq, List.cons.injEq, and_true, Value.pointer.injEq, Option.some.injEq, Addr.mk.injEq, Value.int.injEq, true_and] at k1
    obtain ⟨⟨rfl, rfl⟩, rfl⟩ := k1
    refine ⟨a, l, c, true, fun w' e => ?_, fun _ => k3⟩
    have h1 := hf w' e
    rw [hr] at h1
    rw [← m3, k4] at h1
    have hm' : w'.heap[mb]? = some (.map es clk) := by rw [e]; exact hm
    simp [Instr.lookup, run_underlying undMap, MapKept.run_getObj_map hm', hc, h1]
theorem stays_name {w : World} {b o : Nat} {n : Int} : (Instr.keyThatStays (nmV b o n) (nmV b o n)).run Tryz.prog w = .ok (nmV b o n) w := by
  have : Instr.sameBits 10000 (nmV b o n) (nmV b o n) = true := by
    show Instr.sameBits (9998 + 1 + 1) _ _ = true
    simp [Instr.sameBits]
  simp [Instr.keyThatStays, this]
theorem update_name {w : World} {mb : Nat} {S : Nat → Nat → Prop} (h : NmMap w mb S) {b o : Nat} {n : Int} (hb : Plain w b) (a : Option Addr) (l c : Nat) :
    ∃ w', (Instr.mapUpdate 105 (.map (some mb)) (nmV b o n) (.slice a l c)).run Tryz.prog w = .ok () w' ∧ Turn mb w w' ∧ NmMap w' mb (fun x y => S x y ∨ (x = b ∧ y = o)) := by
  obtain ⟨es, clk, hm, he⟩ := h
  have hc : (Instr.checkKey false 10000 92 (nmV b o n)).run Tryz.prog w = .ok () w := checkKey_name false 9998
  have hml : mb < w.heap.size := by
    rcases Nat.lt_or_ge mb w.heap.size with h | h
    · exact h
    · rw [Array.getElem?_eq_none h] at hm; cases hm
  have hpl : ∀ x, Plain w x → x ≠ mb := fun x hx e => by
    subst e
    obtain ⟨⟨c, t, f, h⟩, _⟩ := hx
    rw [hm] at h; cases h
  have turn : ∀ O, Turn mb w { w with heap := w.heap.setIfInBounds mb O } := fun O => ⟨rfl, rfl, rfl, by simp, fun k hk hne => by
    show (w.heap.setIfInBounds mb O)[k]? = _
    rw [Array.getElem?_setIfInBounds_ne (Ne.symm hne)]⟩
  have new : ∀ O, ({ w with heap := w.heap.setIfInBounds mb O } : World).heap[mb]? = some O := fun O => by
    show (w.heap.setIfInBounds mb O)[mb]? = _
    rw [Array.getElem?_setIfInBounds_self_of_lt hml]
  have old : ∀ O x, NmE w S x → NmE { w with heap := w.heap.setIfInBounds mb O } (fun x y => S x y ∨ (x = b ∧ y = o)) x := fun O x ⟨b', o', n', k1, k2, k3, k4⟩ =>
    ⟨b', o', n', k1, k2.turn (turn O) (hpl b' k2), .inl k3, k4⟩
  have mine : ∀ O cl, NmE { w with heap := w.heap.setIfInBounds mb O } (fun x y => S x y ∨ (x = b ∧ y = o)) ⟨nmV b o n, .slice a l c, cl⟩ := fun O cl =>
    ⟨b, o, n, rfl, hb.turn (turn O) (hpl b hb), .inr ⟨rfl, rfl⟩, a, l, c, rfl⟩
  rcases findKey_name (n := n) (o := o) hb es.toList he with h1 | ⟨j, e, h1, h2, h3, h4⟩
  · refine ⟨{ w with heap := w.heap.setIfInBounds mb (.map (es.push ⟨nmV b o n, .slice a l c, clk⟩) (clk + 1)) }, by simp [Instr.mapUpdate, run_underlying undMap, MapKept.run_getObj_map hm, hc, h1, MapKept.run_setObj_map _ hm], turn _, _, _, new _, ?_⟩
    intro x hx
    simp only [Array.toList_push, List.mem_append, List.mem_singleton] at hx
    rcases hx with hx | rfl
    · exact old _ x (he x hx)
    · exact mine _ _
  · have hj : es[j]? = some e := by simpa using h2
    refine ⟨{ w with heap := w.heap.setIfInBounds mb (.map (es.modify j fun e' => { e' with key := nmV b o n, val := .slice a l c }) clk) }, by simp [Instr.mapUpdate, run_underlying undMap, MapKept.run_getObj_map hm, hc, h1, hj, h3, stays_name, MapKept.run_setObj_map _ hm], turn _, _, _, new _, ?_⟩
    intro x hx
    rcases MapFrom.mem_modify hx with hx | ⟨e', _, rfl⟩
    · exact old _ x (he x hx)
    · exact mine _ _
theorem NmMap.mono {w : World} {mb : Nat} {S S' : Nat → Nat → Prop} (h : NmMap w mb S) (hs : ∀ b o, S b o → S' b o) : NmMap w mb S' := by
  obtain ⟨es, clk, hm, he⟩ := h
  exact ⟨es, clk, hm, fun e hx => by obtain ⟨b', o', n', k1, k2, k3, k4⟩ := he e hx; exact ⟨b', o', n', k1, k2, hs _ _ k3, k4⟩⟩
/-- Another world that keeps the map and all blocks of cells that are named. -/
theorem NmMap.keep {w w' : World} {mb : Nat} {S : Nat → Nat → Prop} (h : NmMap w mb S) (hm : w'.heap[mb]? = w.heap[mb]?) (hk : ∀ b o, S b o → Plain w b → Plain w' b) : NmMap w' mb S := by
  obtain ⟨es, clk, hm', he⟩ := h
  exact ⟨es, clk, hm.trans hm', fun e hx => by obtain ⟨b', o', n', k1, k2, k3, k4⟩ := he e hx; exact ⟨b', o', n', k1, hk _ _ k3 k2, k3, k4⟩⟩
end Go.Proofs.YtfjaphhijefdlaaGreatDoor
namespace Go.Proofs.YtfjaphhijefdlaaGreatDoor
open Go.RowKit
set_option linter.unusedVariables false

theorem strClone_any (s : ByteArray) (w : World) (h : s.size ≤ 1048576) :
    Calls Tryz.prog 54 #[.string s] w fun e w' => e = .returned (.string s) ∧ Below w.heap.size w w' := by
  have HC : Hid (∀ w, Calls Tryz.prog 70 #[.string s] w fun e w' => e = .returned (.string s) ∧ Below w.heap.size w w') := fun w => Tryz.stringslite_Clone s w (by omega)
  go_enter Tryz.func54, Tryz.ntmps54
  go_wp2_with (go_at_call 70; fail)
  refine (HC.out _).mono ?_
  rintro e w1 ⟨rfl, hb1⟩
  have HB : Hid (Below w.heap.size w w1) := hb1
  clear hb1
  go_wp2_with fail
  go_ret
  exact ⟨rfl, HB.out⟩
end Go.Proofs.YtfjaphhijefdlaaGreatDoor
namespace Go.Proofs.YtfjaphhijefdlaaGreatDoor
open Go.RowKit
set_option linter.unusedVariables false

theorem OsR.move {w w' : World} : ∀ (l : List Tm) (bs : List Nat) (g off g' off' : Nat), (∀ x ∈ bs, x < w.heap.size → w'.heap[x]? = w.heap[x]?) → (∀ j v, j < 4 * l.length → w.cell? ⟨g, off + j, none⟩ = some v → w'.cell? ⟨g', off' + j, none⟩ = some v) → OsR w l bs g off → OsR w' l bs g' off'
  | [], bs, g, off, g', off', _, _, h => by rw [OsR] at h ⊢; exact h
  | .mk k n s m :: r, bs, g, off, g', off', hk, hc, h => by
    rw [OsR] at h ⊢
    obtain ⟨b1, b2, e, h4, h5⟩ := h
    subst e
    rw [OsT] at h4
    obtain ⟨h0, h1, h2, hs, ao, cap, h3, hl, hcp, hr⟩ := h4
    refine ⟨b1, b2, rfl, ?_, OsR.move r b2 g (off + 4) g' (off' + 4) (fun x hx => hk x (List.mem_append_right _ hx)) (fun j v hj hv => ?_) h5⟩
    · rw [OsT]
      exact ⟨hc 0 _ (by simp) h0, hc 1 _ (by simp; omega) h1, hc 2 _ (by simp; omega) h2, hs, ao, cap, hc 3 _ (by simp; omega) h3, hl, hcp, OsL.keep m b1 ao (fun x hx => hk x (List.mem_append_left _ hx)) hr⟩
    · have := hc (4 + j) v (by simp; omega) (by rw [← Nat.add_assoc]; exact hv)
      rw [Nat.add_assoc]; exact this
/-- The cells of a row. -/
theorem OsR.vals {w : World} : ∀ (l : List Tm) (bs : List Nat) (g off : Nat), OsR w l bs g off → ∃ xs : List Value, xs.length = l.length * 4 ∧ (∀ j u, xs[j]? = some u → w.cell? ⟨g, off + j, none⟩ = some u) ∧ ∀ u ∈ xs, u.oneCell' = true
  | [], bs, g, off, h => ⟨[], rfl, fun j u h => by simp at h, fun u h => by cases h⟩
  | .mk k n s m :: r, bs, g, off, h => by
    rw [OsR] at h
    obtain ⟨b1, b2, e, h4, h5⟩ := h
    rw [OsT] at h4
    obtain ⟨h0, h1, h2, hs, ao, cap, h3, hl, hcp, hr⟩ := h4
    obtain ⟨xs, e1, e2, e3⟩ := OsR.vals r b2 g (off + 4) h5
    refine ⟨.int .i64 k :: .int .i64 n :: .string s :: .slice ao m.length cap :: xs, by simp [e1]; omega, fun j u hj => ?_, fun u hu => ?_⟩
    · match j, hj with
      | 0, hj => simp at hj; subst hj; exact h0
      | 1, hj => simp at hj; subst hj; exact h1
      | 2, hj => simp at hj; subst hj; exact h2
      | 3, hj => simp at hj; subst hj; exact h3
      | j + 4, hj =>
        simp at hj
        have := e2 j u hj
        rw [show off + (j + 4) = off + 4 + j by omega]; exact this
    · simp only [List.mem_cons] at hu
      rcases hu with rfl | rfl | rfl | rfl | hu
      · rfl
      · rfl
      · rfl
      · rfl
      · exact e3 u hu

theorem nameOf_any (b o n cap : Nat) (w : World) (hn : n ≠ 0) :
    Calls Tryz.prog 47 #[.slice (some ⟨b, o, none⟩) n cap] w fun e w' => e = .returned (nmV b o n) ∧ Below w.heap.size w w' := by
  have q : ((n : Int) == 0) = false := by simp; omega
  have hpos : 0 < n := by omega
  clear hn
  go_enter Tryz.func47, Tryz.ntmps47
  go_wp2
  refine bodyPost_ret (v := nmV b o n) (by simp [results, Tryz.results47, go_sem]) rfl ⟨rfl, ?_⟩
  exact (Below.refl _ _).alloc (Nat.le_refl _) _

theorem infoParts9 {e : TypeId} {z : Value} {n b : Nat} (h : (Tryz.prog.info? e).map (fun i => (i.zero, i.size, i.bytes)) = some (some z, n, b)) : ∃ i, Tryz.prog.info? e = some i ∧ i.zero = some z ∧ i.size = n ∧ i.bytes = b := by
  obtain ⟨i, hi, he⟩ := Option.map_eq_some_iff.1 h
  simp only [Prod.mk.injEq] at he
  exact ⟨i, hi, he.1, he.2.1, he.2.2⟩

/-- The block of a row of terms that has room for c of them. -/
def Szd (w : World) (g c : Nat) : Prop := ∃ cur, w.heap[g]? = some (.cells cur 26 (0, 0)) ∧ cur.size = c * 4
theorem Szd.keep {w w' : World} {g c : Nat} (h : Szd w g c) (hb : w'.heap[g]? = w.heap[g]?) : Szd w' g c := by
  obtain ⟨cur, h1, h2⟩ := h
  exact ⟨cur, hb.trans h1, h2⟩
theorem Szd.set {w : World} {g c : Nat} (h : Szd w g c) (o : Nat) (v : Value) : Szd (w.setCell ⟨g, o, none⟩ v) g c := by
  obtain ⟨cur, h1, h2⟩ := h
  refine ⟨cur.setIfInBounds o v, ?_, by rw [Array.size_setIfInBounds]; exact h2⟩
  simp [World.setCell, Array.getElem?_modify, h1]

set_option maxHeartbeats 1000000 in
theorem clone_any (l : List Tm) (bs : List Nat) (b o cap : Nat) (w : World) (h : OsR w l bs b o) (hne : l ≠ []) (hlen : l.length ≤ 4194304) (hbl : ∀ x ∈ bs, x < w.heap.size) :
    Calls Tryz.prog 69 #[.slice (some ⟨b, o, none⟩) l.length cap] w fun e w' => ∃ g c, e = .returned (.slice (some ⟨g, 0, none⟩) l.length c) ∧ l.length ≤ c ∧ c ≤ maxLen ∧ w.heap.size ≤ g ∧ g < w'.heap.size ∧ OsR w' l bs g 0 ∧ (∀ x, w'.frozen? ⟨g, x, none⟩ = false) ∧ Below w.heap.size w w' ∧ Szd w' g c := by
  obtain ⟨xs, e1, e2, e3⟩ := OsR.vals l bs b o h
  have hnil := fun (w : World) (a : Option Addr) (n c : Nat) => Go.Lib.run_eql_slice_nil (P := Tryz.prog) w 24 26 a n c 0 0 underlying24
  obtain ⟨i0, hi, hz, hs, hb⟩ := infoParts9 info26
  have HI : Hid (Tryz.prog.info? 26 = some i0 ∧ i0.zero = some (.agg #[.int .i64 0, .int .i64 0, .string ⟨#[]⟩, .slice none 0 0]) ∧ i0.size = 4 ∧ i0.bytes = 56) := ⟨hi, hz, hs, hb⟩
  have HO : Hid ((w.alloc (.cells #[] 26)).ownsRow w.heap.size 26 4 (.slice (some ⟨w.heap.size, 0, none⟩) 0 0) 0 []) := World.ownsRow_made w #[] 0 (Nat.le_refl _) (Nat.zero_le _) rfl
  have HB : Hid (Below w.heap.size w (w.alloc (.cells #[] 26))) := (Below.refl _ _).alloc (Nat.le_refl _) _
  have HL : Hid (xs.length = l.length * 4) := e1
  have HC : Hid (∀ j u, xs[j]? = some u → (w.alloc (.cells #[] 26)).cell? ((⟨b, o, none⟩ : Addr).add j) = some u) := fun j u hj => by
    have hc := e2 j u hj
    have hlt := World.block_lt_of_cell? w _ hc
    rw [Addr.add_lit, HB.out.cell (p := ⟨b, o + j, none⟩) hlt]; exact hc
  have H1 : Hid (∀ u ∈ xs, u.oneCell' = true) := e3
  have C3 : Hid (0 + l.length ≤ maxLen) := by show _ ≤ _; unfold maxLen; omega
  have C4 : Hid ((0 + l.length) * 56 ≤ 140737488355328) := by show _ ≤ _; omega
  have HR : Hid (OsR w l bs b o) := h
  have HE2 : Hid (∀ j u, xs[j]? = some u → w.cell? ⟨b, o + j, none⟩ = some u) := e2
  have hpos : l.length ≠ 0 := fun e => hne (List.eq_nil_of_length_eq_zero e)
  have HPOS : Hid (l.length ≠ 0) := hpos
  have HBL : Hid (∀ x ∈ bs, x < w.heap.size) := hbl
  clear h hne e1 e2 e3 hi hz hs hb hpos hbl
  go_enter Tryz.func69, Tryz.ntmps69
  go_wp2_with (at_builtin; refine wpList_append_own_at _ rfl _ _ 24 rfl w.heap.size 26 i0 (.agg #[.int .i64 0, .int .i64 0, .string ⟨#[]⟩, .slice none 0 0]) 4 56 underlying24 HI.out.1 HI.out.2.1 HI.out.2.2.1 HI.out.2.2.2 rfl (by decide) (.slice (some ⟨w.heap.size, 0, none⟩) 0 0) 0 [] rfl HO.out ⟨b, o, none⟩ l.length cap xs rfl HL.out HC.out H1.out C3.out C4.out HB.out.size ?_; intro v2 w2 hown2 hgr2 hnn2 hat2; have HOWN : Hid (w2.ownsRow w.heap.size 26 4 v2 (0 + l.length) ([] ++ xs)) := hown2; have HGR : Hid ((w.alloc (.cells #[] 26)).grownBy w2 (some w.heap.size)) := hgr2; clear hown2 hgr2 hnn2 hat2)
  go_ret
  have hB2 : Below w.heap.size w w2 := HB.out.grown HGR.out HB.out.size (fun k hk => by injection hk with hk; omega)
  have ho := HOWN.out
  rw [Nat.zero_add, List.nil_append] at ho
  obtain ⟨_, h1 | ⟨g, c, cur, rfl, hg, hh, hn, hc, hsz, htk⟩⟩ := ho
  · exact absurd h1.2 HPOS.out
  · have hcell : ∀ x, w2.cell? ⟨g, x, none⟩ = cur[x]? := fun x => by simp [World.cell?, hh]
    refine ⟨g, c, rfl, hn, hc, hg, ?_, ?_, fun x => by simp [World.frozen?, hh], hB2, cur, hh, hsz⟩
    · rcases Nat.lt_or_ge g w2.heap.size with h | h
      · exact h
      · rw [Array.getElem?_eq_none h] at hh; cases hh
    · refine OsR.move l bs b o g 0 (fun x hx hl => hB2.block x hl) (fun j v hj hv => ?_) HR.out
      have hjx : j < xs.length := by rw [HL.out]; omega
      have hx : xs[j]? = some v := by
        rw [List.getElem?_eq_getElem hjx]
        have := HE2.out j xs[j] (List.getElem?_eq_getElem hjx)
        rw [hv] at this
        exact this.symm ▸ rfl
      rw [Nat.zero_add, hcell, ← Array.getElem?_toList]
      rw [← htk, List.getElem?_take] at hx
      split at hx
      · exact hx
      · cases hx
end Go.Proofs.YtfjaphhijefdlaaGreatDoor
