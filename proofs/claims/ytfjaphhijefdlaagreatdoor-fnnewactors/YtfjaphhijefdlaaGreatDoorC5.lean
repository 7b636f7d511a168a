/-
  Whether timers are right: the specification's TimersOk and the program's.
  (Ahead of it, in this text: Timers parted into those of which something holds and the others: the program's split. Terms that are drawn: how they lie in memory while more are drawn. A term that is drawn: what l1Draw answers. Terms that are drawn, each list in a block of its own: how they lie in memory while more are drawn. A term that is drawn stands in blocks of its own, told as a list. A copy of a term: what l1Copy answers stands in blocks of its own. The specification's copy of timers: each in blocks of its own. One timer: whether it is right (the specification's and the program's), its time, and two of them held against each other.)
-/
import Derived.Test.YtfjaphhijefdlaaGreatDoorC4
import Derived.Test.YtfjaphhijefdlaaGreatDoorC12
import Derived.Test.YtfjaphhijefdlaaGreatDoorTmC
import Derived.Deep.AppendLies
import Derived.Deep.Onto
import Derived.Deep.RegionLaw
import Derived.Test.YtfjaphhijefdlaaGreatDoorTmD
import Derived.Test.YtfjaphhijefdlaaGreatDoorC1
import Derived.Test.YtfjaphhijefdlaaGreatDoorInn
import Derived.Deep.RegionWith
namespace Go.Proofs.YtfjaphhijefdlaaGreatDoor.Tr
open Go.RowKit Atom
set_option linter.unusedVariables false

/-- The cells of a timer. -/
theorem ve_timer {w : World} {x : Sd} {va vb : Int} {vc : ByteArray} {vd : Option Addr} {ve vf : Nat} {bs : List Nat} (hv : OsV w bs x.t (.agg #[.int .i64 va, .int .i64 vb, .string vc, .slice vd ve vf])) : VE eltS w x [.int .i64 x.kind, .int .i64 x.pid, .int .i64 va, .int .i64 vb, .string vc, .slice vd ve vf] bs :=
  ⟨rfl, osV_lt hv, fun w' b off hc hk => by
    have hv' := osV_keep hv (fun b hb _ => hk b hb)
    refine ⟨hc 0 _ rfl, hc 1 _ rfl, ?_⟩
    obtain ⟨kind, pid, t⟩ := x
    obtain ⟨k, m, s, l⟩ := t
    obtain ⟨ao, cp, e, q1, q2, q3, q4⟩ := hv'
    simp only [Value.agg.injEq, Array.mk.injEq, List.cons.injEq, Value.int.injEq, Value.string.injEq, true_and, and_true] at e
    show OsT w' (.mk k m s l) bs b (off + 2)
    rw [OsT]
    refine ⟨?_, ?_, ?_, q1, ao, cp, ?_, q2, q3, q4⟩
    · rw [← e.1]; exact hc 2 _ rfl
    · rw [← e.2.1]; exact hc 3 _ rfl
    · rw [← e.2.2.1]; exact hc 4 _ rfl
    · rw [← e.2.2.2]; exact hc 5 _ rfl⟩
theorem nodup_swap {a b : List Nat} (h : (a ++ b).Nodup) : (b ++ a).Nodup := by
  obtain ⟨h1, h2, h3⟩ := List.nodup_append.1 h
  exact List.nodup_append.2 ⟨h2, h1, fun x hx y hy q => h3 y hy x hx q.symm⟩
theorem sixCells {w : World} {a b c d e f : Value} {t : TypeId} : ∀ j u, [a, b, c, d, e, f][j]? = some u → (w.alloc (.cells #[a, b, c, d, e, f] t)).cell? ((⟨w.heap.size, 0, none⟩ : Addr).add j) = some u := fun j u h => by
  rw [Addr.add_lit, Nat.zero_add, World.cell?_alloc_new]
  simpa using h
theorem sixOne {a b k n : Int} {s : ByteArray} {ao : Option Addr} {len cap : Nat} : ∀ v ∈ ([.int .i64 a, .int .i64 b, .int .i64 k, .int .i64 n, .string s, .slice ao len cap] : List Value), v.oneCell' = true := fun v hv => by
  simp at hv
  rcases hv with rfl | rfl | rfl | rfl | rfl | rfl <;> rfl
theorem take_filter {l : List Sd} {k : Nat} (h : k < l.length) (P : Sd → Bool) : (l.take (k + 1)).filter P = (l.take k).filter P ++ (if P l[k] = true then [l[k]] else []) := by
  rw [List.take_succ_eq_append_getElem h, List.filter_append]
  congr 1
  cases hp : P l[k] <;> simp [hp]
theorem hid {p : Prop} (h : p) : Hid p := h
def dueB (now : Int) (x : Sd) : Bool := decide (x.kind ≤ now)
def ofB (pid : Int) (x : Sd) : Bool := x.pid == pid
def notB (P : Sd → Bool) (x : Sd) : Bool := !P x

end Go.Proofs.YtfjaphhijefdlaaGreatDoor.Tr
namespace Go.Proofs.YtfjaphhijefdlaaGreatDoor
open Go.RowKit
set_option linter.unusedVariables false

mutual
/-- The four cells from off on in the block b are the term t; all blocks that it leads to are of S. -/
def RpT (S : Nat → Prop) (w : World) : Tm → Nat → Nat → Prop
  | .mk k n s l, b, off => w.cell? ⟨b, off, none⟩ = some (.int .i64 k) ∧ w.cell? ⟨b, off + 1, none⟩ = some (.int .i64 n) ∧ w.cell? ⟨b, off + 2, none⟩ = some (.string s) ∧ s.size ≤ maxLen ∧
      ∃ ao cap, w.cell? ⟨b, off + 3, none⟩ = some (.slice ao l.length cap) ∧ l.length ≤ cap ∧ cap ≤ maxLen ∧ RpL S w l ao
def RpL (S : Nat → Prop) (w : World) : List Tm → Option Addr → Prop
  | [], _ => True
  | t :: r, ao => ∃ b off, ao = some ⟨b, off, none⟩ ∧ S b ∧ RpT S w t b off ∧ RpL S w r (some ⟨b, off + 4, none⟩)
end
def RpV (S : Nat → Prop) (w : World) : Tm → Value → Prop
  | .mk k n s l, v => ∃ ao cap, v = .agg #[.int .i64 k, .int .i64 n, .string s, .slice ao l.length cap] ∧ s.size ≤ maxLen ∧ l.length ≤ cap ∧ cap ≤ maxLen ∧ RpL S w l ao

/-- What of the blocks of S held something holds it still, and these blocks are of S'. -/
def Moves (S S' : Nat → Prop) (w w' : World) : Prop := ∀ b o v, S b → w.cell? ⟨b, o, none⟩ = some v → S' b ∧ w'.cell? ⟨b, o, none⟩ = some v

theorem RpT.head {S : Nat → Prop} {w : World} {t : Tm} {b off : Nat} (h : RpT S w t b off) : ∃ v, w.cell? ⟨b, off, none⟩ = some v := by
  obtain ⟨k, n, s, l⟩ := t
  rw [RpT] at h
  exact ⟨_, h.1⟩
theorem Moves.repL {S S' : Nat → Prop} {w w' : World} (hk : Moves S S' w w') : ∀ (l : List Tm) (ao : Option Addr), RpL S w l ao → RpL S' w' l ao := by
  have ht : ∀ t : Tm, ∀ b off, S b → RpT S w t b off → RpT S' w' t b off := by
    refine Tm.ind ?_
    intro k n s l ih b off hb h
    rw [RpT] at h ⊢
    obtain ⟨h0, h1, h2, hs, ao, cap, h3, hl, hc, hr⟩ := h
    refine ⟨(hk _ _ _ hb h0).2, (hk _ _ _ hb h1).2, (hk _ _ _ hb h2).2, hs, ao, cap, (hk _ _ _ hb h3).2, hl, hc, ?_⟩
    clear h0 h1 h2 h3 hl hc
    induction l generalizing ao with
    | nil => rw [RpL]; trivial
    | cons t r ihr =>
      rw [RpL] at hr ⊢
      obtain ⟨b', off', e, hb', htt, hrr⟩ := hr
      obtain ⟨v, hv⟩ := htt.head
      exact ⟨b', off', e, (hk _ _ _ hb' hv).1, ih t (List.mem_cons_self ..) b' off' hb' htt, ihr (fun x hx => ih x (List.mem_cons_of_mem _ hx)) _ hrr⟩
  intro l
  induction l with
  | nil => intro ao _; rw [RpL]; trivial
  | cons t r ih =>
    intro ao h
    rw [RpL] at h ⊢
    obtain ⟨b', off', e, hb', htt, hrr⟩ := h
    obtain ⟨v, hv⟩ := htt.head
    exact ⟨b', off', e, (hk _ _ _ hb' hv).1, ht t b' off' hb' htt, ih _ hrr⟩
theorem Moves.repV {S S' : Nat → Prop} {w w' : World} (hk : Moves S S' w w') {t : Tm} {v : Value} (h : RpV S w t v) : RpV S' w' t v := by
  obtain ⟨k, n, s, l⟩ := t
  obtain ⟨ao, cap, e, h1, h2, h3, h4⟩ := h
  exact ⟨ao, cap, e, h1, h2, h3, hk.repL _ _ h4⟩
theorem Moves.turn {S : Nat → Prop} {cb : Nat} {w w' : World} (hn : ∀ b, S b → b ≠ cb) (t : Turn cb w w') : Moves S S w w' := fun b o v hb hc => ⟨hb, t.cell (hn b hb) hc⟩
theorem Moves.sub {S S' : Nat → Prop} {w : World} (h : ∀ b, S b → S' b) : Moves S S' w w := fun b o v hb hc => ⟨h b hb, hc⟩
theorem Moves.below {S : Nat → Prop} {w w' : World} (h : Below w.heap.size w w') : Moves S S w w' := fun b o v hb hc => ⟨hb, by
  rw [h.cell (p := ⟨b, o, none⟩) (World.block_lt_of_cell? w _ hc)]; exact hc⟩

mutual
theorem RpT.rep {S : Nat → Prop} {w : World} : ∀ (t : Tm) (b off : Nat), RpT S w t b off → RepT 0 w t b off
  | .mk k n s l, b, off, h => by
    rw [RpT] at h
    rw [RepT]
    obtain ⟨h0, h1, h2, hs, ao, cap, h3, hl, hc, hr⟩ := h
    exact ⟨h0, h1, h2, hs, ao, cap, h3, hl, hc, RpL.rep l ao hr⟩
theorem RpL.rep {S : Nat → Prop} {w : World} : ∀ (l : List Tm) (ao : Option Addr), RpL S w l ao → RepL 0 w l ao
  | [], _, _ => by rw [RepL]; trivial
  | t :: r, ao, h => by
    rw [RpL] at h
    rw [RepL]
    obtain ⟨b, off, e, hb, ht, hr⟩ := h
    exact ⟨b, off, e, Nat.zero_le _, RpT.rep t b off ht, RpL.rep r _ hr⟩
end
theorem RpV.rep {S : Nat → Prop} {w : World} {t : Tm} {v : Value} (h : RpV S w t v) : RepV 0 w t v := by
  obtain ⟨k, n, s, l⟩ := t
  obtain ⟨ao, cap, e, h1, h2, h3, h4⟩ := h
  exact ⟨ao, cap, e, h1, h2, h3, RpL.rep _ _ h4⟩
theorem RpV.form {S : Nat → Prop} {w : World} {t : Tm} {v : Value} (h : RpV S w t v) : ∃ a b c d e f, v = .agg #[.int .i64 a, .int .i64 b, .string c, .slice d e f] := by
  obtain ⟨k, n, s, l⟩ := t
  obtain ⟨ao, cap, e, _⟩ := h
  exact ⟨_, _, _, _, _, _, e⟩

theorem RpL.mk {S : Nat → Prop} {w : World} {b : Nat} (hb : S b) : ∀ (l : List Tm) (off : Nat), (∀ i (hi : i < l.length), RpT S w l[i] b (off + i * 4)) → RpL S w l (some ⟨b, off, none⟩)
  | [], _, _ => by rw [RpL]; trivial
  | t :: r, off, h => by
    rw [RpL]
    refine ⟨b, off, rfl, hb, by have := h 0 (Nat.zero_lt_succ _); rw [List.getElem_cons_zero, Nat.zero_mul, Nat.add_zero] at this; exact this, RpL.mk hb r (off + 4) (fun i hi => ?_)⟩
    have := h (i + 1) (by simpa using hi)
    rw [show off + 4 + i * 4 = off + (i + 1) * 4 by omega]
    simpa using this

/-- From the place o on the cells xs hold the term. -/
def RowT (S : Nat → Prop) (w : World) (xs : List Value) (o : Nat) : Tm → Prop
  | .mk k n s l => xs[o]? = some (.int .i64 k) ∧ xs[o + 1]? = some (.int .i64 n) ∧ xs[o + 2]? = some (.string s) ∧ s.size ≤ maxLen ∧
      ∃ ao cap, xs[o + 3]? = some (.slice ao l.length cap) ∧ l.length ≤ cap ∧ cap ≤ maxLen ∧ RpL S w l ao
/-- The cells xs hold the terms of l. -/
def Row (S : Nat → Prop) (w : World) (l : List Tm) (xs : List Value) : Prop := xs.length = l.length * 4 ∧ ∀ i (hi : i < l.length), RowT S w xs (i * 4) l[i]

theorem RowT.move {S S' : Nat → Prop} {w w' : World} (hk : Moves S S' w w') {xs : List Value} {o : Nat} {t : Tm} (h : RowT S w xs o t) : RowT S' w' xs o t := by
  obtain ⟨k, n, s, l⟩ := t
  obtain ⟨h0, h1, h2, hs, ao, cap, h3, hl, hc, hr⟩ := h
  exact ⟨h0, h1, h2, hs, ao, cap, h3, hl, hc, hk.repL _ _ hr⟩
theorem RowT.app {S : Nat → Prop} {w : World} {xs ys : List Value} {o : Nat} {t : Tm} (h : RowT S w xs o t) : RowT S w (xs ++ ys) o t := by
  have e : ∀ j v, xs[j]? = some v → (xs ++ ys)[j]? = some v := fun j v hj => by
    rw [List.getElem?_append_left (List.getElem?_eq_some_iff.1 hj).1]; exact hj
  obtain ⟨k, n, s, l⟩ := t
  obtain ⟨h0, h1, h2, hs, ao, cap, h3, hl, hc, hr⟩ := h
  exact ⟨e _ _ h0, e _ _ h1, e _ _ h2, hs, ao, cap, e _ _ h3, hl, hc, hr⟩
theorem Row.nil (S : Nat → Prop) (w : World) : Row S w [] [] := ⟨rfl, fun i hi => absurd hi (Nat.not_lt_zero _)⟩
theorem Row.snoc {S S' : Nat → Prop} {w w' : World} (hk : Moves S S' w w') {l : List Tm} {xs : List Value} (h : Row S w l xs) {t : Tm} {a b c d : Value} (hv : RpV S' w' t (.agg #[a, b, c, d])) :
    Row S' w' (l ++ [t]) (xs ++ [a, b, c, d]) := by
  refine ⟨by simp [h.1]; omega, fun i hi => ?_⟩
  by_cases hl : i < l.length
  · rw [List.getElem_append_left hl]
    exact ((h.2 i hl).move hk).app
  · have hil : i = l.length := by simp at hi; omega
    subst hil
    rw [List.getElem_append_right (Nat.le_refl _)]
    simp only [Nat.sub_self, List.getElem_cons_zero]
    have e : ∀ j, (xs ++ [a, b, c, d])[l.length * 4 + j]? = ([a, b, c, d] : List Value)[j]? := fun j => by
      rw [List.getElem?_append_right (by rw [h.1]; omega)]; congr 1; rw [h.1]; omega
    obtain ⟨k, n, s, m⟩ := t
    obtain ⟨ao, cap, e1, hs, hl', hc, hr⟩ := hv
    simp only [Value.agg.injEq, Array.mk.injEq, List.cons.injEq, and_true] at e1
    obtain ⟨rfl, rfl, rfl, rfl⟩ := e1
    exact ⟨e 0, e 1, e 2, hs, ao, cap, e 3, hl', hc, hr⟩
/-- A row in a block of its own is a list. -/
theorem Row.repL {S S' : Nat → Prop} {w : World} {l : List Tm} {xs : List Value} (h : Row S w l xs) (hS : ∀ b, S b → S' b) {base : Nat} {u : Value} (ho : w.ownsRow base 26 4 u l.length xs) (hu : ∀ g, u.ownBlock = some g → S' g) :
    ∃ ao cap, u = .slice ao l.length cap ∧ l.length ≤ cap ∧ cap ≤ maxLen ∧ RpL S' w l ao := by
  obtain ⟨hlen, hcase⟩ := id ho
  rcases hcase with ⟨rfl, h0⟩ | ⟨g, cap, cur, rfl, hb, hg, hn, hc, hsz, htake⟩
  · have : l = [] := List.eq_nil_of_length_eq_zero h0
    subst this
    exact ⟨none, 0, rfl, Nat.le_refl _, Nat.zero_le _, by rw [RpL]; trivial⟩
  · refine ⟨some ⟨g, 0, none⟩, cap, rfl, hn, hc, RpL.mk (hu g rfl) l 0 (fun i hi => ?_)⟩
    have e : ∀ j v, xs[j]? = some v → w.cell? ⟨g, j, none⟩ = some v := fun j v hj => by
      rw [ho.cellAt j (by have := (List.getElem?_eq_some_iff.1 hj).1; omega)]; exact hj
    have ht := (h.2 i hi).move (Moves.sub hS)
    revert ht
    generalize l[i] = t
    intro ht
    obtain ⟨k, n, s, m⟩ := t
    obtain ⟨h0, h1, h2, hs, ao, cap', h3, hl', hc', hr⟩ := ht
    rw [RpT, Nat.zero_add]
    exact ⟨e _ _ h0, e _ _ h1, e _ _ h2, hs, ao, cap', e _ _ h3, hl', hc', hr⟩

def drawnAtoms : List ByteArray := [⟨#[111, 107]⟩, ⟨#[97]⟩, ⟨#[115, 116, 111, 112]⟩, ⟨#[104, 105, 50]⟩]
/-- What a kind does not name is nothing. -/
def WfT : Tm → Prop
  | .mk k n s l => (k = 1 ∧ s = ByteArray.empty ∧ l = [] ∧ -1000000 ≤ n ∧ n ≤ 1000000 ∨ k = 2 ∧ n = 0 ∧ l = [] ∧ s ∈ drawnAtoms ∨ k = 3 ∧ s = ByteArray.empty ∧ l = [] ∧ 0 ≤ n ∧ n ≤ 3 ∨ (k = 4 ∨ k = 5) ∧ n = 0 ∧ s = ByteArray.empty ∨ k = 6 ∧ n = 0 ∧ l = [] ∧ s.size ≤ 5) ∧ l.length ≤ 3 ∧ ∀ t, t ∈ l → WfT t
/-- No deeper than so much below the first. -/
def DpT : Nat → Tm → Prop
  | 0, .mk _ _ _ l => l = []
  | d + 1, .mk _ _ _ l => ∀ t, t ∈ l → DpT d t
def RtT (d : Nat) (t : Tm) : Prop := WfT t ∧ DpT d t

/-- Nothing of this block is frozen. -/
def Nf (w : World) (b : Nat) : Prop := ∀ o, w.frozen? ⟨b, o, none⟩ = false
theorem Nf.blk {w w' : World} {b : Nat} (h : Nf w b) (e : w'.heap[b]? = w.heap[b]?) : Nf w' b := fun o => by rw [World.frozen?_of_block (w := w) e]; exact h o
theorem Nf.turn {cb : Nat} {w w' : World} {b : Nat} (h : Nf w b) (t : Turn cb w w') (hn : b ≠ cb) (hl : b < w.heap.size) : Nf w' b := fun o => by rw [t.frozen hn hl]; exact h o
theorem Nf.setCell {w : World} {b : Nat} (h : Nf w b) (p : Addr) (v : Value) : Nf (w.setCell p v) b := fun o => by rw [World.frozen?_setCell]; exact h o
theorem nf_own {w : World} {base size n g : Nat} {T : TypeId} {u : Value} {xs : List Value} (h : w.ownsRow base T size u n xs) (hg : u.ownBlock = some g) : Nf w g := by
  rcases h.2 with ⟨e, _⟩ | ⟨g', c, cur, rfl, q1, q2, _⟩
  · rw [e] at hg; cases hg
  · have e : g' = g := by
      have e2 : some g' = some g := hg
      injection e2
    subst e
    exact fun o => by simp [World.frozen?, q2]
theorem Moves.nf {S S' : Nat → Prop} {w w' : World} (h : Moves S S' w w') (hf : ∀ b o v, S b → w.cell? ⟨b, o, none⟩ = some v → Nf w b → Nf w' b) : Moves (fun b => S b ∧ Nf w b) (fun b => S' b ∧ Nf w' b) w w' :=
  fun b o v hb hc => ⟨⟨(h b o v hb.1 hc).1, hf b o v hb.1 hc hb.2⟩, (h b o v hb.1 hc).2⟩
theorem Moves.turnN {S : Nat → Prop} {cb : Nat} {w w' : World} (hn : ∀ b, S b → b ≠ cb) (t : Turn cb w w') : Moves (fun b => S b ∧ Nf w b) (fun b => S b ∧ Nf w' b) w w' :=
  (Moves.turn hn t).nf (fun b o v hb hc h => h.turn t (hn b hb) (World.block_lt_of_cell? w _ hc))

/-- A list that is gathered in the variable tb, while the terms in it are drawn. -/
structure Gath (cb : Nat) (ao : Option Addr) (len cap : Nat) (zs : List Int) (w wr : World) (tb : Nat) (K N : Int) (s : ByteArray) (l : List Tm) (u : Value) (xs : List Value) : Prop where
  drawn : Drawn cb ao len cap zs w wr
  old : cb < w.heap.size
  up : w.heap.size < tb
  lt : tb < wr.heap.size
  t0 : wr.cell? ⟨tb, 0, none⟩ = some (.int .i64 K)
  t1 : wr.cell? ⟨tb, 1, none⟩ = some (.int .i64 N)
  t2 : wr.cell? ⟨tb, 2, none⟩ = some (.string s)
  t3 : wr.cell? ⟨tb, 3, none⟩ = some u
  tf : ∀ o, wr.frozen? ⟨tb, o, none⟩ = false
  r : ∀ j, j < 4 → ∃ v, wr.cell? ⟨w.heap.size, j, none⟩ = some v
  rf : ∀ o, wr.frozen? ⟨w.heap.size, o, none⟩ = false
  own : wr.ownsRow (tb + 1) 26 4 u l.length xs
  row : Row (fun b => (tb + 1 ≤ b ∧ u.ownBlock ≠ some b) ∧ Nf wr b) wr l xs
  wf : ∀ t, t ∈ l → WfT t

theorem Gath.turn {cb : Nat} {ao : Option Addr} {len cap : Nat} {zs : List Int} {w wr w1 : World} {tb : Nat} {K N : Int} {s : ByteArray} {l : List Tm} {u : Value} {xs : List Value}
    (h : Gath cb ao len cap zs w wr tb K N s l u xs) (hd : Drawn cb ao len cap zs wr w1) : Gath cb ao len cap zs w w1 tb K N s l u xs := by
  have hne : tb ≠ cb := by have := h.old; have := h.up; omega
  have hnr : w.heap.size ≠ cb := by have := h.old; omega
  have t := hd.2
  refine ⟨⟨hd.1, h.drawn.2.trans t⟩, h.old, h.up, Nat.lt_of_lt_of_le h.lt t.size, t.cell hne h.t0, t.cell hne h.t1, t.cell hne h.t2, t.cell hne h.t3, fun o => ?_, fun j hj => ?_, fun o => ?_, ?_, ?_, h.wf⟩
  · rw [t.frozen hne h.lt]; exact h.tf o
  · obtain ⟨v, hv⟩ := h.r j hj
    exact ⟨v, t.cell hnr hv⟩
  · rw [t.frozen hnr (Nat.lt_trans h.up h.lt)]; exact h.rf o
  · refine h.own.kept t.grown (Or.inr (fun e => ?_))
    have := (h.own.lt cb e).1
    have := h.old; have := h.up; omega
  · exact ⟨h.row.1, fun i hi => (h.row.2 i hi).move (Moves.turnN (fun b hb e => by have := h.old; have := h.up; have := hb.1; omega) t)⟩

/-- One more is drawn, laid down in a block, appended, and the variable turned. -/
theorem Gath.more {cb : Nat} {ao : Option Addr} {len cap : Nat} {zs : List Int} {w wr w1 w2 : World} {tb : Nat} {K N : Int} {s : ByteArray} {l : List Tm} {u : Value} {xs : List Value}
    (h : Gath cb ao len cap zs w wr tb K N s l u xs) (hd : Drawn cb ao len cap zs wr w1) {t : Tm} {a b c d : Value} (hv : RpV (fun b => wr.heap.size ≤ b ∧ Nf w1 b) w1 t (.agg #[a, b, c, d])) (hw : WfT t) {o : Obj}
    {g cap' : Nat} (hown : w2.ownsRow (tb + 1) 26 4 (.slice (some ⟨g, 0, none⟩) (l.length + 1) cap') (l.length + 1) (xs ++ [a, b, c, d])) (hgrow : (w1.alloc o).grownBy w2 u.ownBlock) (hat : u.ownBlock = some g ∨ g = w1.heap.size + 1) (hlt : g < w2.heap.size) :
    Gath cb ao len cap zs w (w2.setCell ⟨tb, 3, none⟩ (.slice (some ⟨g, 0, none⟩) (l.length + 1) cap')) tb K N s (l ++ [t]) (.slice (some ⟨g, 0, none⟩) (l.length + 1) cap') (xs ++ [a, b, c, d]) := by
  have h1 := h.turn hd
  have hne : tb ≠ cb := by have := h.old; have := h.up; omega
  have hs1 : (w1.alloc o).heap.size = w1.heap.size + 1 := World.size_alloc _ _
  have hun : ∀ k, k < tb + 1 → some k ≠ u.ownBlock := fun k hk e => by have := (h.own.lt k e.symm).1; omega
  have hcell : ∀ p o' v, some p ≠ u.ownBlock → w1.cell? ⟨p, o', none⟩ = some v → w2.cell? ⟨p, o', none⟩ = some v := fun p o' v hp hc => by
    have hpl := World.block_lt_of_cell? w1 _ hc
    rw [hgrow.cell_far ⟨p, o', none⟩ (by rw [hs1]; exact Nat.lt_succ_of_lt hpl) hp, World.cell?_alloc_lt (h := hpl)]; exact hc
  have hfroz : ∀ p o', p < w1.heap.size → some p ≠ u.ownBlock → w2.frozen? ⟨p, o', none⟩ = w1.frozen? ⟨p, o', none⟩ := fun p o' hpl hp => by
    rw [hgrow.frozen_far ⟨p, o', none⟩ (by rw [hs1]; exact Nat.lt_succ_of_lt hpl) hp, World.frozen?_alloc_old (h := by show p ≠ _; omega)]
  have hset : ∀ p o' v, (p ≠ tb ∨ o' ≠ 3) → w2.cell? ⟨p, o', none⟩ = some v → (w2.setCell ⟨tb, 3, none⟩ (.slice (some ⟨g, 0, none⟩) (l.length + 1) cap')).cell? ⟨p, o', none⟩ = some v := fun p o' v hp hc => by
    rw [World.cell?_setCell_other (h := fun e => by simp at e; omega)]; exact hc
  have hgb : tb + 1 ≤ g := (hown.lt g rfl).1
  have hself : ∀ p, p < tb + 1 → some p ≠ u.ownBlock := hun
  have hll : (l ++ [t]).length = l.length + 1 := by simp
  have hul : tb < w1.heap.size := h1.lt
  have hwl : w.heap.size < w1.heap.size := Nat.lt_trans h.up hul
  have hk : ∀ k, k < tb → (w2.setCell ⟨tb, 3, none⟩ (.slice (some ⟨g, 0, none⟩) (l.length + 1) cap')).heap[k]? = w1.heap[k]? := fun k hkt => by
    rw [Below.heap_setCell w2 ⟨tb, 3, none⟩ _ k (by show k ≠ tb; omega), hgrow.block k (by rw [hs1]; omega) (hun k (by omega))]
    show (w1.heap.push _)[k]? = _
    rw [Array.getElem?_push, if_neg (by omega)]
  have hsz : (w2.setCell ⟨tb, 3, none⟩ (.slice (some ⟨g, 0, none⟩) (l.length + 1) cap')).heap.size = w2.heap.size := World.size_setCell ..
  have hsz2 : w1.heap.size + 1 ≤ w2.heap.size := by rw [← hs1]; exact hgrow.size
  have htb : some tb ≠ u.ownBlock := hun tb (by omega)
  have hrb : some w.heap.size ≠ u.ownBlock := hun _ (by have := h.up; omega)
  have hup := h.up
  have hold := h.old
  have hmv : Moves (fun b => tb + 1 ≤ b ∧ u.ownBlock ≠ some b) (fun b => tb + 1 ≤ b ∧ (Value.slice (some ⟨g, 0, none⟩) (l.length + 1) cap').ownBlock ≠ some b) w1 (w2.setCell ⟨tb, 3, none⟩ (.slice (some ⟨g, 0, none⟩) (l.length + 1) cap')) := fun p o' v hp hc => by
    have hpl := World.block_lt_of_cell? w1 _ hc
    refine ⟨⟨hp.1, fun e => ?_⟩, hset p o' v (Or.inl (by have := hp.1; omega)) (hcell p o' v (fun e => hp.2 e.symm) hc)⟩
    simp only [Value.ownBlock, Option.some.injEq] at e
    subst e
    rcases hat with hat | hat
    · exact hp.2 hat
    · have : g < w1.heap.size := hpl
      omega
  have hmn : Moves (fun b => wr.heap.size ≤ b) (fun b => tb + 1 ≤ b ∧ (Value.slice (some ⟨g, 0, none⟩) (l.length + 1) cap').ownBlock ≠ some b) w1 (w2.setCell ⟨tb, 3, none⟩ (.slice (some ⟨g, 0, none⟩) (l.length + 1) cap')) := fun p o' v hp hc => by
    have hpl : p < w1.heap.size := World.block_lt_of_cell? w1 _ hc
    have hpo : some p ≠ u.ownBlock := fun e => by have := (h.own.lt p e.symm).2; omega
    refine ⟨⟨by have := h.lt; omega, fun e => ?_⟩, hset p o' v (Or.inl (by have := h.lt; omega)) (hcell p o' v hpo hc)⟩
    simp only [Value.ownBlock, Option.some.injEq] at e
    subst e
    rcases hat with hat | hat
    · exact hpo hat.symm
    · omega
  refine ⟨⟨hd.1.same (fun b hb => hk b (by omega)), ?_⟩, hold, hup, by rw [hsz]; omega, hset _ _ _ (Or.inr (by omega)) (hcell _ _ _ htb h1.t0), hset _ _ _ (Or.inr (by omega)) (hcell _ _ _ htb h1.t1), hset _ _ _ (Or.inr (by omega)) (hcell _ _ _ htb h1.t2), World.cell?_setCell_same w2 _ _ (hcell _ _ _ htb h1.t3), fun o' => ?_, fun j hj => ?_, fun o' => ?_, ?_, ?_, ?_⟩
  · have t := h1.drawn.2
    exact ⟨hgrow.os.trans t.os, hgrow.tape.trans t.tape, hgrow.output.trans t.output, by rw [hsz]; omega, fun k hkl hkn => (hk k (by omega)).trans (t.block k hkl hkn)⟩
  · rw [World.frozen?_setCell, hfroz tb o' hul htb]; exact h1.tf o'
  · obtain ⟨v, hv'⟩ := h1.r j hj
    exact ⟨v, hset _ _ _ (Or.inl (by omega)) (hcell _ _ _ hrb hv')⟩
  · rw [World.frozen?_setCell, hfroz _ o' hwl hrb]; exact h1.rf o'
  · rw [hll]; exact ownsRow_setCell_below hown (by show tb < tb + 1; omega) _
  · exact Row.snoc (hmv.nf (fun p o' v hp hc hq => Nf.setCell (fun y => by rw [hfroz p y (World.block_lt_of_cell? w1 _ hc) (fun e => hp.2 e.symm)]; exact hq y) _ _)) h1.row
      ((hmn.nf (fun p o' v hp hc hq => Nf.setCell (fun y => by rw [hfroz p y (World.block_lt_of_cell? w1 _ hc) (fun e => by have := (h.own.lt p e.symm).2; omega)]; exact hq y) _ _)).repV hv)
  · intro x hx
    rcases List.mem_append.1 hx with hx | hx
    · exact h.wf x hx
    · have : x = t := by simpa using hx
      subst this; exact hw
end Go.Proofs.YtfjaphhijefdlaaGreatDoor
namespace Go.Proofs.YtfjaphhijefdlaaGreatDoor
open Go.RowKit
set_option linter.unusedVariables false

def DrT (cb : Nat) (ao : Option Addr) (len cap : Nat) (zs : List Int) (d : Nat) : Prop := ∀ w, Cur cb ao len cap zs w →
  Calls Tryz.prog 31 #[.pointer (some ⟨cb, 0, none⟩), .int .i64 d] w fun e w' => ∃ t v, e = .returned v ∧ RpV (fun b => w.heap.size ≤ b) w' t v ∧ RtT d t ∧ Drawn cb ao len cap zs w w'

/-- The same, and nothing of it is frozen. -/
def DrU (cb : Nat) (ao : Option Addr) (len cap : Nat) (zs : List Int) (d : Nat) : Prop := ∀ w, Cur cb ao len cap zs w →
  Calls Tryz.prog 31 #[.pointer (some ⟨cb, 0, none⟩), .int .i64 d] w fun e w' => ∃ t v, e = .returned v ∧ RpV (fun b => w.heap.size ≤ b ∧ Nf w' b) w' t v ∧ RtT d t ∧ Drawn cb ao len cap zs w w'
theorem DrU.drT {cb : Nat} {ao : Option Addr} {len cap : Nat} {zs : List Int} {d : Nat} (h : DrU cb ao len cap zs d) : DrT cb ao len cap zs d := fun w hc =>
  (h w hc).mono fun e w' hh => by
    obtain ⟨t, v, h1, h2, h3, h4⟩ := hh
    exact ⟨t, v, h1, (Moves.sub fun b hb => hb.1).repV h2, h3, h4⟩

/-- What stands in a new block behind a turn of the cursor alone. -/
theorem turn_new {cb : Nat} {w w1 : World} {c : Array Value} {t : TypeId} (hcb : cb < w.heap.size) (ht : Turn cb (w.alloc (.cells c t)) w1) :
    w.heap.size + 1 ≤ w1.heap.size ∧ (∀ o, w1.cell? ⟨w.heap.size, o, none⟩ = c[o]?) ∧ (∀ o, w1.frozen? ⟨w.heap.size, o, none⟩ = false) := by
  have hs : (w.alloc (.cells c t)).heap.size = w.heap.size + 1 := World.size_alloc _ _
  have hb := ht.block w.heap.size (by omega) (by omega)
  refine ⟨by have := ht.size; omega, fun o => ?_, fun o => ?_⟩
  · rw [World.cell?_of_block (w := w.alloc (.cells c t)) hb, World.cell?_alloc_new]
  · rw [World.frozen?_of_block (w := w.alloc (.cells c t)) hb, World.frozen?_alloc_new]
theorem Drawn.alloc {cb : Nat} {ao : Option Addr} {len cap : Nat} {zs : List Int} {w w1 : World} (h : Drawn cb ao len cap zs w w1) (o : Obj) : Drawn cb ao len cap zs w (w1.alloc o) := ⟨h.1.alloc o, h.2.alloc o⟩
theorem Drawn.trans {cb : Nat} {ao : Option Addr} {len cap : Nat} {zs : List Int} {w w1 w2 : World} (h : Drawn cb ao len cap zs w w1) (k : Drawn cb ao len cap zs w1 w2) : Drawn cb ao len cap zs w w2 := ⟨k.1, h.2.trans k.2⟩
theorem Drawn.refl {cb : Nat} {ao : Option Addr} {len cap : Nat} {zs : List Int} {w : World} (h : Cur cb ao len cap zs w) : Drawn cb ao len cap zs w w := ⟨h, Turn.refl _ _⟩
/-- A cell of a block that was not there turns. -/
theorem Drawn.set {cb : Nat} {ao : Option Addr} {len cap : Nat} {zs : List Int} {w w1 : World} (h : Drawn cb ao len cap zs w w1) (hcb : cb < w.heap.size) {b : Nat} (hb : w.heap.size ≤ b) (o : Nat) (v : Value) : Drawn cb ao len cap zs w (w1.setCell ⟨b, o, none⟩ v) :=
  ⟨h.1.same (fun k hk => Below.heap_setCell w1 ⟨b, o, none⟩ v k (by show k ≠ b; omega)), ⟨h.2.os, h.2.tape, h.2.output, by rw [World.size_setCell]; exact h.2.size, fun k hk hn => (Below.heap_setCell w1 ⟨b, o, none⟩ v k (by show k ≠ b; omega)).trans (h.2.block k hk hn)⟩⟩
theorem Drawn.set4 {cb : Nat} {ao : Option Addr} {len cap : Nat} {zs : List Int} {w w1 : World} (h : Drawn cb ao len cap zs w w1) (hcb : cb < w.heap.size) {b : Nat} (hb : w.heap.size ≤ b) (v0 v1 v2 v3 : Value) :
    Drawn cb ao len cap zs w ((((w1.setCell ⟨b, 0, none⟩ v0).setCell ⟨b, 1, none⟩ v1).setCell ⟨b, 2, none⟩ v2).setCell ⟨b, 3, none⟩ v3) :=
  (((h.set hcb hb 0 v0).set hcb hb 1 v1).set hcb hb 2 v2).set hcb hb 3 v3
theorem Cur.lt {cb : Nat} {ao : Option Addr} {len cap : Nat} {zs : List Int} {w : World} (h : Cur cb ao len cap zs w) : cb < w.heap.size := World.block_lt_of_cell? w _ h.c0

theorem dp_leaf (d : Nat) (k n : Int) (s : ByteArray) : DpT d (.mk k n s []) := by
  cases d with
  | zero => rw [DpT]
  | succ d => rw [DpT]; intro t ht; cases ht
theorem wf_int (d : Nat) (n : Int) (h0 : -1000000 ≤ n) (h1 : n ≤ 1000000) : RtT d (.mk 1 n ByteArray.empty []) := ⟨by rw [WfT]; exact ⟨.inl ⟨rfl, rfl, rfl, h0, h1⟩, by simp, by simp⟩, dp_leaf _ _ _ _⟩
theorem wf_atom (d : Nat) (s : ByteArray) (h : s ∈ drawnAtoms) : RtT d (.mk 2 0 s []) := ⟨by rw [WfT]; exact ⟨.inr (.inl ⟨rfl, rfl, rfl, h⟩), by simp, by simp⟩, dp_leaf _ _ _ _⟩
theorem wf_pid (d : Nat) (n : Int) (h0 : 0 ≤ n) (h1 : n ≤ 3) : RtT d (.mk 3 n ByteArray.empty []) := ⟨by rw [WfT]; exact ⟨.inr (.inr (.inl ⟨rfl, rfl, rfl, h0, h1⟩)), by simp, by simp⟩, dp_leaf _ _ _ _⟩
theorem wf_bin (d : Nat) (s : ByteArray) (h : s.size ≤ 5) : RtT d (.mk 6 0 s []) := ⟨by rw [WfT]; exact ⟨.inr (.inr (.inr (.inr ⟨rfl, rfl, rfl, h⟩))), by simp, by simp⟩, dp_leaf _ _ _ _⟩
theorem drp_leaf {S : Nat → Prop} {w : World} (k n : Int) (s : ByteArray) (hs : s.size ≤ maxLen) : RpV S w (.mk k n s []) (.agg #[.int .i64 k, .int .i64 n, .string s, .slice none 0 0]) :=
  ⟨none, 0, rfl, hs, Nat.le_refl _, Nat.zero_le _, by rw [RpL]; trivial⟩

theorem Turn.kept {cb W : Nat} {w1 w2 : World} {c : Array Value} (t : Turn cb w1 w2) (hn : W ≠ cb) (hlt : W < w1.heap.size) (hq : ∀ o, w1.cell? ⟨W, o, none⟩ = c[o]?) (hf : ∀ o, w1.frozen? ⟨W, o, none⟩ = false) :
    (∀ o, w2.cell? ⟨W, o, none⟩ = c[o]?) ∧ (∀ o, w2.frozen? ⟨W, o, none⟩ = false) :=
  ⟨fun o => by rw [World.cell?_of_block (w := w1) (t.block W hlt hn)]; exact hq o, fun o => by rw [World.frozen?_of_block (w := w1) (t.block W hlt hn)]; exact hf o⟩

theorem Gath.start {cb : Nat} {ao : Option Addr} {len cap : Nat} {zs : List Int} {w w3 : World} {c : Array Value} (h : Drawn cb ao len cap zs w w3) (hcb : cb < w.heap.size) (hz3 : w.heap.size + 1 ≤ w3.heap.size) (hc : c.size = 4)
    (q3 : ∀ o, w3.cell? ⟨w.heap.size, o, none⟩ = c[o]?) (f3 : ∀ o, w3.frozen? ⟨w.heap.size, o, none⟩ = false) (K N : Int) (s : ByteArray) :
    Gath cb ao len cap zs w (w3.alloc (.cells #[.int .i64 K, .int .i64 N, .string s, .slice none 0 0] 26)) w3.heap.size K N s [] (.slice none 0 0) [] := by
  refine ⟨h.alloc _, hcb, hz3, by rw [World.size_alloc]; omega, by rw [World.cell?_alloc_new]; rfl, by rw [World.cell?_alloc_new]; rfl, by rw [World.cell?_alloc_new]; rfl, by rw [World.cell?_alloc_new]; rfl, fun o => World.frozen?_alloc_new w3 _ _ o, fun j hj => ?_, fun o => ?_, ⟨rfl, Or.inl ⟨rfl, rfl⟩⟩, Row.nil _ _, by simp⟩
  · rw [World.cell?_alloc_lt (h := by show w.heap.size < _; omega), q3]
    exact ⟨c[j], by rw [Array.getElem?_eq_getElem (by omega)]⟩
  · rw [World.frozen?_alloc_old (h := by show w.heap.size ≠ _; omega)]; exact f3 o

def DpL (d : Nat) (l : List Tm) : Prop := l = [] ∨ ∃ d', d = d' + 1 ∧ ∀ t, t ∈ l → DpT d' t
theorem wf_list (d : Nat) (K : Int) (hK : K = 4 ∨ K = 5) (l : List Tm) (hl : l.length ≤ 3) (h : ∀ t, t ∈ l → WfT t) (hd : DpL d l) : RtT d (.mk K 0 ByteArray.empty l) := by
  refine ⟨?_, ?_⟩
  · rw [WfT]; exact ⟨by rcases hK with rfl | rfl <;> simp, hl, h⟩
  · rcases hd with rfl | ⟨d', rfl, hd⟩
    · exact dp_leaf _ _ _ _
    · rw [DpT]; exact hd
theorem DpL.snoc {d d' : Nat} {l : List Tm} {t : Tm} (h : DpL d l) (e : d = d' + 1) (ht : DpT d' t) : DpL d (l ++ [t]) := by
  subst e
  refine .inr ⟨d', rfl, fun x hx => ?_⟩
  rcases List.mem_append.1 hx with hx | hx
  · rcases h with rfl | ⟨d'', e, h⟩
    · cases hx
    · have : d' = d'' := by omega
      subst this; exact h x hx
  · have : x = t := by simpa using hx
    subst this; exact ht

/-- What is gathered is a term. -/
theorem Gath.done {cb : Nat} {ao : Option Addr} {len cap : Nat} {zs : List Int} {w wr : World} {tb : Nat} {K N : Int} {s : ByteArray} {l : List Tm} {u : Value} {xs : List Value}
    (h : Gath cb ao len cap zs w wr tb K N s l u xs) (hs : s.size ≤ maxLen) (v0 v1 v2 v3 : Value) :
    RpV (fun b => w.heap.size ≤ b ∧ Nf ((((wr.setCell ⟨w.heap.size, 0, none⟩ v0).setCell ⟨w.heap.size, 1, none⟩ v1).setCell ⟨w.heap.size, 2, none⟩ v2).setCell ⟨w.heap.size, 3, none⟩ v3) b) ((((wr.setCell ⟨w.heap.size, 0, none⟩ v0).setCell ⟨w.heap.size, 1, none⟩ v1).setCell ⟨w.heap.size, 2, none⟩ v2).setCell ⟨w.heap.size, 3, none⟩ v3) (.mk K N s l) (.agg #[.int .i64 K, .int .i64 N, .string s, u]) ∧
      Drawn cb ao len cap zs w ((((wr.setCell ⟨w.heap.size, 0, none⟩ v0).setCell ⟨w.heap.size, 1, none⟩ v1).setCell ⟨w.heap.size, 2, none⟩ v2).setCell ⟨w.heap.size, 3, none⟩ v3) := by
  obtain ⟨ao', cap', rfl, hl, hc, hr⟩ := h.row.repL (S' := fun b => tb + 1 ≤ b ∧ Nf wr b) (fun b hb => ⟨hb.1.1, hb.2⟩) h.own (fun g hg => ⟨(h.own.lt g hg).1, nf_own h.own hg⟩)
  refine ⟨⟨ao', cap', rfl, hs, hl, hc, ?_⟩, h.drawn.set4 h.old (Nat.le_refl _) _ _ _ _⟩
  refine Moves.repL (Moves.nf (S := fun b => tb + 1 ≤ b) (fun b o v hb hv => ⟨by have := h.up; omega, ?_⟩) (fun b o v hb hv hq => (((hq.setCell _ _).setCell _ _).setCell _ _).setCell _ _)) _ _ hr
  have hup := h.up
  have hne : ∀ j, (⟨w.heap.size, j, none⟩ : Addr) ≠ ⟨b, o, none⟩ := fun j e => by
    simp only [Addr.mk.injEq] at e
    have : tb + 1 ≤ b := hb
    omega
  rw [World.cell?_setCell_other (h := hne 3), World.cell?_setCell_other (h := hne 2), World.cell?_setCell_other (h := hne 1), World.cell?_setCell_other (h := hne 0)]
  exact hv
theorem Gath.grown {cb : Nat} {ao : Option Addr} {len cap : Nat} {zs : List Int} {w w1 w2 : World} {tb : Nat} {K N : Int} {s : ByteArray} {l : List Tm} {u : Value} {xs : List Value}
    (h : Gath cb ao len cap zs w w1 tb K N s l u xs) {o : Obj} (hgrow : (w1.alloc o).grownBy w2 u.ownBlock) : w2.cell? ⟨tb, 3, none⟩ = some u ∧ w2.frozen? ⟨tb, 3, none⟩ = false := by
  have hs1 : (w1.alloc o).heap.size = w1.heap.size + 1 := World.size_alloc _ _
  have hl := h.lt
  have hne : some tb ≠ u.ownBlock := fun e => by have := (h.own.lt tb e.symm).1; omega
  rw [hgrow.cell_far ⟨tb, 3, none⟩ (by rw [hs1]; exact Nat.lt_succ_of_lt hl) hne, hgrow.frozen_far ⟨tb, 3, none⟩ (by rw [hs1]; exact Nat.lt_succ_of_lt hl) hne, World.cell?_alloc_lt (h := hl), World.frozen?_alloc_old (h := by show tb ≠ _; omega)]
  exact ⟨h.t3, h.tf 3⟩
theorem Gath.form {cb : Nat} {ao : Option Addr} {len cap : Nat} {zs : List Int} {w wr : World} {tb : Nat} {K N : Int} {s : ByteArray} {l : List Tm} {u : Value} {xs : List Value}
    (h : Gath cb ao len cap zs w wr tb K N s l u xs) : ∃ ua uc, u = .slice ua l.length uc := by
  rcases h.own.2 with ⟨rfl, h0⟩ | ⟨g, cap, cur, rfl, _⟩
  · exact ⟨none, 0, by rw [h0]⟩
  · exact ⟨_, _, rfl⟩

theorem four_news {w : World} {a b c d : Value} {t : TypeId} : ∀ j u, [a, b, c, d][j]? = some u → (w.alloc (.cells #[a, b, c, d] t)).cell? ((⟨w.heap.size, 0, none⟩ : Addr).add j) = some u := fun j u hu =>
  World.news_of_block (w := w.alloc (.cells #[a, b, c, d] t)) (B := w.heap.size) (cs := #[a, b, c, d]) (t := t) (fr := (0, 0)) (by show (w.heap.push _)[w.heap.size]? = _; simp) j u hu

set_option maxRecDepth 100000 in
set_option maxHeartbeats 2000000 in
theorem drU_of (cb : Nat) (ao : Option Addr) (len cap : Nat) (zs : List Int) (d : Nat) (hd0 : d ≤ 6) (ih : ∀ d', d = d' + 1 → DrU cb ao len cap zs d') : DrU cb ao len cap zs d := by
  intro w hc
  have HC : Hid (Cur cb ao len cap zs w) := hc
  have IH : Hid (∀ d', d = d' + 1 → DrU cb ao len cap zs d') := ih
  have hcb := hc.lt
  clear hc ih
  obtain ⟨D, hD⟩ : ∃ D : Int, D = d := ⟨_, rfl⟩
  rw [← hD]
  have HDD : Hid (D = d) := hD
  have hD0 : 0 ≤ D := by omega
  have hD6 : D ≤ 6 := by omega
  clear hD
  go_enter Tryz.func31, Tryz.ntmps31
  go_wp2_with fail
  refine (below_any cb ao len cap zs _ (HC.out.alloc _) 9 (by decide) (by decide)).mono ?_
  rintro e w1 ⟨x, rfl, hx0, hx1, hd1⟩
  obtain ⟨hz1, q1, f1⟩ := turn_new hcb hd1.2
  have HD1 : Hid (Drawn cb ao len cap zs w w1) := ((Drawn.refl HC.out).alloc _).trans hd1
  clear hd1
  have hx : (x = 0 ∨ x = 1 ∨ x = 2) ∨ (x = 3 ∨ x = 4) ∨ x = 5 ∨ x = 6 ∨ (x = 7 ∨ x = 8) := by omega
  rcases hx with hx | hx | hx | hx | hx
  · have h0 : x = 0 ∨ x = 1 ∨ x = 2 := hx
    rcases h0 with rfl | rfl | rfl
    all_goals
      clear hx hx0 hx1
      go_wp2_with fail
      refine (below_any cb ao len cap zs _ HD1.out.1 100 (by decide) (by decide)).mono ?_
      rintro e w2 ⟨y, rfl, hy0, hy1, hd2⟩
      have HD2 : Hid (Drawn cb ao len cap zs w w2) := HD1.out.trans hd2
      have HT2 : Hid (Turn cb w1 w2) := hd2.2
      clear hd2
      go_wp2_with fail
      refine (int_any cb ao len cap zs _ (HD2.out.1.alloc _) w2.heap.size [0, 1, -1, 7, 1000000, -1000000, y] (by have := HD2.out.1.lt; omega) (by simp) (by simp) ?_).mono ?_
      · intro j hj
        rw [World.cell?_alloc_new]
        have : j = 0 ∨ j = 1 ∨ j = 2 ∨ j = 3 ∨ j = 4 ∨ j = 5 ∨ j = 6 := by simp at hj; omega
        rcases this with rfl | rfl | rfl | rfl | rfl | rfl | rfl <;> rfl
      rintro e w3 ⟨z, rfl, hzm, hd3⟩
      have HZB : Hid (-1000000 ≤ z ∧ z ≤ 1000000) := by
        show _ ∧ _
        simp only [List.mem_cons, List.not_mem_nil, or_false] at hzm
        omega
      clear hzm
      have HD3 : Hid (Drawn cb ao len cap zs w w3) := (HD2.out.alloc _).trans hd3
      obtain ⟨q3, f3⟩ := ((HT2.out.alloc _).trans hd3.2).kept (by omega) (by omega) q1 f1
      clear hd3 q1 f1
      go_wp2_with fail
      refine bodyPost_ret (v := .agg #[.int .i64 1, .int .i64 z, .string ⟨#[]⟩, .slice none 0 0]) (by simp [results, Tryz.results31, go_sem, q3]) rfl ⟨.mk 1 z ByteArray.empty [], _, rfl, drp_leaf _ _ _ (Nat.zero_le _), wf_int d z HZB.out.1 HZB.out.2, ?_⟩
      exact HD3.out.set4 hcb (Nat.le_refl _) _ _ _ _
  · rcases hx with rfl | rfl
    all_goals
      clear hx0 hx1
      go_wp2_with fail
      refine (str_any cb ao len cap zs _ (HD1.out.1.alloc _) w1.heap.size [⟨#[111, 107]⟩, ⟨#[97]⟩, ⟨#[115, 116, 111, 112]⟩, ⟨#[104, 105, 50]⟩] (by have := HD1.out.1.lt; omega) (by simp) (by simp) ?_).mono ?_
      · intro j hj
        rw [World.cell?_alloc_new]
        have : j = 0 ∨ j = 1 ∨ j = 2 ∨ j = 3 := by simp at hj; omega
        rcases this with rfl | rfl | rfl | rfl <;> rfl
      rintro e w3 ⟨z, rfl, hz, hd3⟩
      have hzs : z.size ≤ maxLen := by
        simp only [List.mem_cons, List.not_mem_nil, or_false] at hz
        rcases hz with rfl | rfl | rfl | rfl <;> decide
      have HZ : Hid (z.size ≤ maxLen) := hzs
      have HZA : Hid (z ∈ drawnAtoms) := hz
      have HD3 : Hid (Drawn cb ao len cap zs w w3) := (HD1.out.alloc _).trans hd3
      obtain ⟨q3, f3⟩ := (((Turn.refl _ _).alloc _).trans hd3.2).kept (by omega) (by omega) q1 f1
      clear hd3 q1 f1 hz hzs
      go_wp2_with fail
      refine bodyPost_ret (v := .agg #[.int .i64 2, .int .i64 0, .string z, .slice none 0 0]) (by simp [results, Tryz.results31, go_sem, q3]) rfl ⟨.mk 2 0 z [], _, rfl, drp_leaf _ _ _ HZ.out, wf_atom d z HZA.out, ?_⟩
      exact HD3.out.set4 hcb (Nat.le_refl _) _ _ _ _
  · subst hx
    clear hx0 hx1
    go_wp2_with fail
    refine (below_any cb ao len cap zs _ HD1.out.1 4 (by decide) (by decide)).mono ?_
    rintro e w2 ⟨z, rfl, hy0, hy1, hd2⟩
    have HD3 : Hid (Drawn cb ao len cap zs w w2) := HD1.out.trans hd2
    have HZB : Hid (0 ≤ z ∧ z ≤ 3) := by show _ ∧ _; omega
    obtain ⟨q3, f3⟩ := hd2.2.kept (by omega) (by omega) q1 f1
    clear hd2 q1 f1
    go_wp2_with fail
    refine bodyPost_ret (v := .agg #[.int .i64 3, .int .i64 z, .string ⟨#[]⟩, .slice none 0 0]) (by simp [results, Tryz.results31, go_sem, q3]) rfl ⟨.mk 3 z ByteArray.empty [], _, rfl, drp_leaf _ _ _ (Nat.zero_le _), wf_pid d z HZB.out.1 HZB.out.2, ?_⟩
    exact HD3.out.set4 hcb (Nat.le_refl _) _ _ _ _
  · rcases hx with rfl
    all_goals
      clear hx0 hx1
      go_wp2_with fail
      refine (str_any cb ao len cap zs _ (HD1.out.1.alloc _) w1.heap.size [⟨#[]⟩, ⟨#[120]⟩, ⟨#[0, 255]⟩, ⟨#[104, 101, 108, 108, 111]⟩] (by have := HD1.out.1.lt; omega) (by simp) (by simp) ?_).mono ?_
      · intro j hj
        rw [World.cell?_alloc_new]
        have : j = 0 ∨ j = 1 ∨ j = 2 ∨ j = 3 := by simp at hj; omega
        rcases this with rfl | rfl | rfl | rfl <;> rfl
      rintro e w3 ⟨z, rfl, hz, hd3⟩
      have hzs : z.size ≤ maxLen := by
        simp only [List.mem_cons, List.not_mem_nil, or_false] at hz
        rcases hz with rfl | rfl | rfl | rfl <;> decide
      have HZ : Hid (z.size ≤ maxLen) := hzs
      have HZA : Hid (z.size ≤ 5) := by
        show _ ≤ _
        simp only [List.mem_cons, List.not_mem_nil, or_false] at hz
        rcases hz with rfl | rfl | rfl | rfl <;> decide
      have HD3 : Hid (Drawn cb ao len cap zs w w3) := (HD1.out.alloc _).trans hd3
      obtain ⟨q3, f3⟩ := (((Turn.refl _ _).alloc _).trans hd3.2).kept (by omega) (by omega) q1 f1
      clear hd3 q1 f1 hz hzs
      go_wp2_with fail
      refine bodyPost_ret (v := .agg #[.int .i64 6, .int .i64 0, .string z, .slice none 0 0]) (by simp [results, Tryz.results31, go_sem, q3]) rfl ⟨.mk 6 0 z [], _, rfl, drp_leaf _ _ _ HZ.out, wf_bin d z HZA.out, ?_⟩
      exact HD3.out.set4 hcb (Nat.le_refl _) _ _ _ _
  · rcases hx with rfl | rfl
    all_goals
      clear hx0 hx1
      go_wp2_with fail
      refine (int_any cb ao len cap zs _ (HD1.out.1.alloc _) w1.heap.size [4, 5] (by have := HD1.out.1.lt; omega) (by simp) (by simp) ?_).mono ?_
      · intro j hj
        rw [World.cell?_alloc_new]
        have : j = 0 ∨ j = 1 := by simp at hj; omega
        rcases this with rfl | rfl <;> rfl
      rintro e w3 ⟨K, rfl, hK, hd3⟩
      have HK : Hid (K = 4 ∨ K = 5) := by show _ ∨ _; simpa using hK
      have HD3 : Hid (Drawn cb ao len cap zs w w3) := (HD1.out.alloc _).trans hd3
      obtain ⟨q3, f3⟩ := (((Turn.refl _ _).alloc _).trans hd3.2).kept (by omega) (by omega) q1 f1
      have hz3 : w.heap.size + 1 ≤ w3.heap.size := by have := (((Turn.refl _ _).alloc _).trans hd3.2).size; omega
      clear hd3 q1 f1 hK
      go_wp2_with fail
      refine (below_any cb ao len cap zs _ (HD3.out.1.alloc _) 4 (by decide) (by decide)).mono ?_
      rintro e w4 ⟨m, rfl, hm0, hm1, hd4⟩
      have HG0 : Hid (Gath cb ao len cap zs w w4 w3.heap.size K 0 ⟨#[]⟩ [] (.slice none 0 0) []) := (Gath.start HD3.out hcb hz3 rfl q3 f3 K 0 ⟨#[]⟩).turn hd4
      clear hd4 q3 f3
      obtain ⟨tb, htb⟩ : ∃ tb, tb = w3.heap.size := ⟨_, rfl⟩
      rw [← htb] at HG0
      rw [← htb]
      have htb0 : w.heap.size < tb := by omega
      clear htb HD3 HD1 hz3 hz1
      obtain ⟨i0, hi, hzz⟩ := Option.map_eq_some_iff.1 info26
      simp only [Prod.mk.injEq] at hzz
      obtain ⟨hzz0, hzz1, hzz2⟩ := hzz
      obtain ⟨m, rfl⟩ : ∃ k : Nat, m = k := ⟨m.toNat, by omega⟩
      have hm : m < 4 := by omega
      clear hm0 hm1
      go_wp2_with fail
      go_loopw [6] (fun i w' => ∃ (k : Nat) (l : List Tm) (u : Value) (xs : List Value), i = .int .i64 k ∧ l.length + k ≤ 3 ∧ Gath cb ao len cap zs w w' tb K 0 ⟨#[]⟩ l u xs ∧ DpL d l) (fun i _ => (intOf i).toNat)
      case atStart => exact ⟨m, [], _, _, rfl, by simp; omega, HG0.out, .inl rfl⟩
      case round =>
        obtain ⟨k, l, u, xs, rfl, hlk, hg, hdp⟩ := hrel
        have HDP : Hid (DpL d l) := hdp
        clear hdp
        obtain ⟨ua, uc, rfl⟩ := hg.form
        have HG : Hid (Gath cb ao len cap zs w wr tb K 0 ⟨#[]⟩ l (.slice ua l.length uc) xs) := hg
        have t0 := hg.t0
        have t1 := hg.t1
        have t2 := hg.t2
        have t3 := hg.t3
        have tf := hg.tf
        have htl := hg.lt
        obtain ⟨r0, hr0⟩ := hg.r 0 (by decide)
        obtain ⟨r1, hr1⟩ := hg.r 1 (by decide)
        obtain ⟨r2, hr2⟩ := hg.r 2 (by decide)
        obtain ⟨r3, hr3⟩ := hg.r 3 (by decide)
        have hrf := hg.rf
        clear hg
        by_cases hk : 0 < k
        · by_cases hDp : 0 < D
          case neg =>
            go_wp2_with fail
            obtain ⟨hv, hdd⟩ := HG.out.done (Nat.zero_le _) (.int .i64 K) (.int .i64 0) (.string ⟨#[]⟩) (.slice ua l.length uc)
            refine bodyPost_ret (v := .agg #[.int .i64 K, .int .i64 0, .string ⟨#[]⟩, .slice ua l.length uc]) (by simp [results, Tryz.results31, go_sem, hr0, hr1, hr2, hr3]) rfl ⟨_, _, rfl, hv, wf_list d K HK.out l (by omega) HG.out.wf HDP.out, hdd⟩
          case pos =>
            obtain ⟨d', hd'⟩ : ∃ d' : Nat, d = d' + 1 := ⟨d - 1, by have := HDD.out; omega⟩
            have HT : Hid (DrU cb ao len cap zs d') := IH.out d' hd'
            have HQ : Hid (D - 1 = d') := by show _ = _; have := HDD.out; omega
            have HW : Hid (IntKind.i64.wrap (D - 1) = d') := by show _ = _; have := HDD.out; rw [IntKind.wrap_i64]; omega
            have HDE : Hid (d = d' + 1) := hd'
            clear hd'
            go_wp2_with fail
            go_region_law (first
              | (refine step_append_lies _ rfl (.tmp 52) (.tmp 57) 24 rfl (tb + 1) 26 i0 (.agg #[.int .i64 0, .int .i64 0, .string ⟨#[]⟩, .slice none 0 0]) 4 56 underlying24 hi hzz0 hzz1 hzz2 rfl (by decide) (.slice ua l.length uc) l.length xs (by simp [Act.eval]) (HG1.out.own.alloc _) ⟨w5.heap.size, 0, none⟩ 1 1 [.int .i64 va, .int .i64 vb, .string vc, .slice vd ve vf] (by simp [Act.eval]) rfl four_news (by intro u' hu'; simp at hu'; rcases hu' with rfl | rfl | rfl | rfl <;> rfl) (by decide) (by unfold maxLen; omega) (by omega) (by simp; omega) _ rfl ?_; intro g cap5 w6 hown6 hgrow6 hat6 hlt6; obtain ⟨t36, tf6⟩ := HG1.out.grown hgrow6)
              | (go_simp; go_wp2_with (go_at_call 31; (first | rw [HW.out] | rw [HQ.out]); refine (HT.out _ ?_).mono ?_; exact HG.out.drawn.1.drew; rintro e w5 ⟨tt, vv, rfl, hv5, hw5, hd5⟩; obtain ⟨va, vb, vc, vd, ve, vf, rfl⟩ := hv5.form; have HG1 : Hid (Gath cb ao len cap zs w w5 tb K 0 ⟨#[]⟩ l (.slice ua l.length uc) xs) := HG.out.turn hd5.drew; have htl5 := HG1.out.lt; have t35 := HG1.out.t3; have tf5 := HG1.out.tf)))
            all_goals
              have HDP2 : Hid (DpL d (l ++ [tt])) := HDP.out.snoc HDE.out hw5.2
              have HG2 := HG.out.more hd5.drew hv5 hw5.1 hown6 hgrow6 (by rw [World.size_alloc] at hat6; exact hat6) hlt6
              clear t36 tf6 hown6 hgrow6 hat6 hlt6 hv5 hw5 hd5 HG1 htl5 t35 tf5
              have HG3 : Hid (Gath cb ao len cap zs w _ tb K 0 ⟨#[]⟩ _ _ _) := HG2
              go_wp2_with fail
              go_roundw
              case rel =>
                refine ⟨k - 1, l ++ [tt], _, _, ?_, ?_, HG3.out, HDP2.out⟩
                · have e : ((k - 1 : Nat) : Int) = (k : Int) - 1 := by omega
                  rw [e]
                · rw [List.length_append]; simp only [List.length_cons, List.length_nil]; omega
              case measure => simp [intOf]; omega
        · go_wp2_with fail
          obtain ⟨hv, hdd⟩ := HG.out.done (Nat.zero_le _) (.int .i64 K) (.int .i64 0) (.string ⟨#[]⟩) (.slice ua l.length uc)
          refine bodyPost_ret (v := .agg #[.int .i64 K, .int .i64 0, .string ⟨#[]⟩, .slice ua l.length uc]) (by simp [results, Tryz.results31, go_sem, hr0, hr1, hr2, hr3]) rfl ⟨_, _, rfl, hv, wf_list d K HK.out l (by omega) HG.out.wf HDP.out, hdd⟩

theorem drU_all (cb : Nat) (ao : Option Addr) (len cap : Nat) (zs : List Int) : ∀ d : Nat, d ≤ 6 → DrU cb ao len cap zs d
  | 0, h => drU_of cb ao len cap zs 0 h (fun d' e => by omega)
  | d + 1, h => drU_of cb ao len cap zs (d + 1) h (fun d' e => by
      have : d' = d := by omega
      subst this
      exact drU_all cb ao len cap zs d' (by omega))
theorem drT_all (cb : Nat) (ao : Option Addr) (len cap : Nat) (zs : List Int) (d : Nat) (h : d ≤ 6) : DrT cb ao len cap zs d := (drU_all cb ao len cap zs d h).drT
end Go.Proofs.YtfjaphhijefdlaaGreatDoor
namespace Go.Proofs.YtfjaphhijefdlaaGreatDoor
open Go.RowKit
set_option linter.unusedVariables false

def eltT : Elt Tm where
  s := 4
  E := fun w t bs b off => OsT w t bs b off
  pos := by omega
  keep := fun hk hc h => OsT.keep _ _ _ _ hk hc h
  lt := fun h => OsT.lt _ _ _ _ h
  head := fun h => OsT.head h
theorem gr_osR {w : World} {g : Nat} : ∀ (l : List Tm) (bs : List Nat) (off : Nat), GR eltT w l bs g off → OsR w l bs g off
  | [], bs, off, h => by rw [GR] at h; rw [OsR]; exact h
  | t :: r, bs, off, h => by
    rw [GR] at h
    obtain ⟨b1, b2, e, h1, h2⟩ := h
    rw [OsR]
    exact ⟨b1, b2, e, h1, gr_osR r b2 (off + 4) h2⟩
theorem gl_osL {w : World} {l : List Tm} {bs : List Nat} {ao : Option Addr} (h : GL eltT w l bs ao) : OsL w l bs ao := by
  rcases h with ⟨rfl, rfl⟩ | ⟨hl, g, o, b, e1, e2, hf, hr⟩
  · rw [OsL]
  · exact (OsL.iff hl).2 ⟨g, o, b, e1, e2, hf, gr_osR _ _ _ hr⟩
theorem ve_term {w : World} {t : Tm} {bs : List Nat} {va vb : Int} {vc : ByteArray} {vd : Option Addr} {ve vf : Nat} (hv : OsV w bs t (.agg #[.int .i64 va, .int .i64 vb, .string vc, .slice vd ve vf])) : VE eltT w t [.int .i64 va, .int .i64 vb, .string vc, .slice vd ve vf] bs := by
  refine ⟨rfl, osV_lt hv, fun w' b off hc hk => ?_⟩
  obtain ⟨k, n, s, l⟩ := t
  obtain ⟨ao, cap, e, h1, h2, h3, h4⟩ := hv
  simp only [Value.agg.injEq, Array.mk.injEq, List.cons.injEq, Value.int.injEq, Value.string.injEq, true_and, and_true] at e
  obtain ⟨rfl, rfl, rfl, e⟩ := e
  rw [e] at hc
  show OsT w' (.mk _ _ _ l) bs b off
  rw [OsT]
  exact ⟨hc 0 _ rfl, hc 1 _ rfl, hc 2 _ rfl, h1, ao, cap, hc 3 _ rfl, h2, h3, OsL.keep _ _ _ (fun x hx _ => hk x hx) h4⟩

/-- A list that is gathered in the variable tb, while the terms in it are drawn. -/
structure Gao (cb : Nat) (ao : Option Addr) (len cap : Nat) (zs : List Int) (w wr : World) (tb : Nat) (K N : Int) (s : ByteArray) (l : List Tm) (u : Value) (xs : List Value) (bs : List Nat) : Prop where
  drawn : Drawn cb ao len cap zs w wr
  old : cb < w.heap.size
  up : w.heap.size < tb
  lt : tb < wr.heap.size
  t0 : wr.cell? ⟨tb, 0, none⟩ = some (.int .i64 K)
  t1 : wr.cell? ⟨tb, 1, none⟩ = some (.int .i64 N)
  t2 : wr.cell? ⟨tb, 2, none⟩ = some (.string s)
  t3 : wr.cell? ⟨tb, 3, none⟩ = some u
  tf : ∀ o, wr.frozen? ⟨tb, o, none⟩ = false
  r : ∀ j, j < 4 → ∃ v, wr.cell? ⟨w.heap.size, j, none⟩ = some v
  rf : ∀ o, wr.frozen? ⟨w.heap.size, o, none⟩ = false
  own : wr.ownsRow (tb + 1) 26 4 u l.length xs
  row : VL eltT wr l xs bs
  nd : bs.Nodup
  lo : ∀ b ∈ bs, tb + 1 ≤ b ∧ u.ownBlock ≠ some b
  wf : ∀ t, t ∈ l → WfT t

theorem Gao.turn {cb : Nat} {ao : Option Addr} {len cap : Nat} {zs : List Int} {w wr w1 : World} {tb : Nat} {K N : Int} {s : ByteArray} {l : List Tm} {u : Value} {xs : List Value} {bs : List Nat}
    (h : Gao cb ao len cap zs w wr tb K N s l u xs bs) (hd : Drawn cb ao len cap zs wr w1) : Gao cb ao len cap zs w w1 tb K N s l u xs bs := by
  have hne : tb ≠ cb := by have := h.old; have := h.up; omega
  have hnr : w.heap.size ≠ cb := by have := h.old; omega
  have t := hd.2
  refine ⟨⟨hd.1, h.drawn.2.trans t⟩, h.old, h.up, Nat.lt_of_lt_of_le h.lt t.size, t.cell hne h.t0, t.cell hne h.t1, t.cell hne h.t2, t.cell hne h.t3, fun o => ?_, fun j hj => ?_, fun o => ?_, ?_, ?_, h.nd, h.lo, h.wf⟩
  · rw [t.frozen hne h.lt]; exact h.tf o
  · obtain ⟨v, hv⟩ := h.r j hj
    exact ⟨v, t.cell hnr hv⟩
  · rw [t.frozen hnr (Nat.lt_trans h.up h.lt)]; exact h.rf o
  · refine h.own.kept t.grown (Or.inr (fun e => ?_))
    have := (h.own.lt cb e).1
    have := h.old; have := h.up; omega
  · exact h.row.keep t.size (fun x hx => t.block x (VL.lt h.row x hx) (fun e => by have := (h.lo x hx).1; have := h.old; have := h.up; omega))
theorem Gao.grown {cb : Nat} {ao : Option Addr} {len cap : Nat} {zs : List Int} {w w1 w2 : World} {tb : Nat} {K N : Int} {s : ByteArray} {l : List Tm} {u : Value} {xs : List Value} {bs : List Nat}
    (h : Gao cb ao len cap zs w w1 tb K N s l u xs bs) {o : Obj} (hgrow : (w1.alloc o).grownBy w2 u.ownBlock) : w2.cell? ⟨tb, 3, none⟩ = some u ∧ w2.frozen? ⟨tb, 3, none⟩ = false := by
  have hs1 : (w1.alloc o).heap.size = w1.heap.size + 1 := World.size_alloc _ _
  have hl := h.lt
  have hne : some tb ≠ u.ownBlock := fun e => by have := (h.own.lt tb e.symm).1; omega
  rw [hgrow.cell_far ⟨tb, 3, none⟩ (by rw [hs1]; exact Nat.lt_succ_of_lt hl) hne, hgrow.frozen_far ⟨tb, 3, none⟩ (by rw [hs1]; exact Nat.lt_succ_of_lt hl) hne, World.cell?_alloc_lt (h := hl), World.frozen?_alloc_old (h := by show tb ≠ _; omega)]
  exact ⟨h.t3, h.tf 3⟩
theorem Gao.form {cb : Nat} {ao : Option Addr} {len cap : Nat} {zs : List Int} {w wr : World} {tb : Nat} {K N : Int} {s : ByteArray} {l : List Tm} {u : Value} {xs : List Value} {bs : List Nat}
    (h : Gao cb ao len cap zs w wr tb K N s l u xs bs) : ∃ ua uc, u = .slice ua l.length uc := by
  rcases h.own.2 with ⟨rfl, h0⟩ | ⟨g, cap, cur, rfl, _⟩
  · exact ⟨none, 0, by rw [h0]⟩
  · exact ⟨_, _, rfl⟩
theorem Gao.start {cb : Nat} {ao : Option Addr} {len cap : Nat} {zs : List Int} {w w3 : World} {c : Array Value} (h : Drawn cb ao len cap zs w w3) (hcb : cb < w.heap.size) (hz3 : w.heap.size + 1 ≤ w3.heap.size) (hc : c.size = 4)
    (q3 : ∀ o, w3.cell? ⟨w.heap.size, o, none⟩ = c[o]?) (f3 : ∀ o, w3.frozen? ⟨w.heap.size, o, none⟩ = false) (K N : Int) (s : ByteArray) :
    Gao cb ao len cap zs w (w3.alloc (.cells #[.int .i64 K, .int .i64 N, .string s, .slice none 0 0] 26)) w3.heap.size K N s [] (.slice none 0 0) [] [] := by
  obtain ⟨g1, g2, g3, g4, g5, g6, g7, g8, g9, g10, g11, g12, g13, g14⟩ := Gath.start h hcb hz3 hc q3 f3 K N s
  exact ⟨g1, g2, g3, g4, g5, g6, g7, g8, g9, g10, g11, g12, ⟨rfl, rfl⟩, List.nodup_nil, fun b hb => by simp at hb, g14⟩

/-- One more is drawn, laid down in a block, appended, and the variable turned. -/
theorem Gao.more {cb : Nat} {ao : Option Addr} {len cap : Nat} {zs : List Int} {w wr w1 w2 : World} {tb : Nat} {K N : Int} {s : ByteArray} {l : List Tm} {u : Value} {xs : List Value} {bs bt : List Nat}
    (h : Gao cb ao len cap zs w wr tb K N s l u xs bs) (hd : Drawn cb ao len cap zs wr w1) {t : Tm} {a b : Int} {c : ByteArray} {d : Option Addr} {e f : Nat} (hv : OsV w1 bt t (.agg #[.int .i64 a, .int .i64 b, .string c, .slice d e f])) (hbn : bt.Nodup) (hbl : ∀ x ∈ bt, wr.heap.size ≤ x) (hw : WfT t) {o : Obj}
    {g cap' : Nat} (hown : w2.ownsRow (tb + 1) 26 4 (.slice (some ⟨g, 0, none⟩) (l.length + 1) cap') (l.length + 1) (xs ++ [.int .i64 a, .int .i64 b, .string c, .slice d e f])) (hgrow : (w1.alloc o).grownBy w2 u.ownBlock) (hat : u.ownBlock = some g ∨ g = w1.heap.size + 1) (hlt : g < w2.heap.size) :
    Gao cb ao len cap zs w (w2.setCell ⟨tb, 3, none⟩ (.slice (some ⟨g, 0, none⟩) (l.length + 1) cap')) tb K N s (l ++ [t]) (.slice (some ⟨g, 0, none⟩) (l.length + 1) cap') (xs ++ [.int .i64 a, .int .i64 b, .string c, .slice d e f]) (bs ++ bt) := by
  have h1 := h.turn hd
  have hs1 : (w1.alloc o).heap.size = w1.heap.size + 1 := World.size_alloc _ _
  have hun : ∀ k, k < tb + 1 → some k ≠ u.ownBlock := fun k hk e => by have := (h.own.lt k e.symm).1; omega
  have hcell : ∀ p o' v, some p ≠ u.ownBlock → w1.cell? ⟨p, o', none⟩ = some v → w2.cell? ⟨p, o', none⟩ = some v := fun p o' v hp hc => by
    have hpl := World.block_lt_of_cell? w1 _ hc
    rw [hgrow.cell_far ⟨p, o', none⟩ (by rw [hs1]; exact Nat.lt_succ_of_lt hpl) hp, World.cell?_alloc_lt (h := hpl)]; exact hc
  have hfroz : ∀ p o', p < w1.heap.size → some p ≠ u.ownBlock → w2.frozen? ⟨p, o', none⟩ = w1.frozen? ⟨p, o', none⟩ := fun p o' hpl hp => by
    rw [hgrow.frozen_far ⟨p, o', none⟩ (by rw [hs1]; exact Nat.lt_succ_of_lt hpl) hp, World.frozen?_alloc_old (h := by show p ≠ _; omega)]
  have hset : ∀ p o' v, (p ≠ tb ∨ o' ≠ 3) → w2.cell? ⟨p, o', none⟩ = some v → (w2.setCell ⟨tb, 3, none⟩ (.slice (some ⟨g, 0, none⟩) (l.length + 1) cap')).cell? ⟨p, o', none⟩ = some v := fun p o' v hp hc => by
    rw [World.cell?_setCell_other (h := fun e => by simp at e; omega)]; exact hc
  have hgb : tb + 1 ≤ g := (hown.lt g rfl).1
  have hll : (l ++ [t]).length = l.length + 1 := by simp
  have hul : tb < w1.heap.size := h1.lt
  have hup := h.up
  have hold := h.old
  have hrl := h.lt
  have hwl : w.heap.size < w1.heap.size := Nat.lt_trans h.up hul
  have hz1 := hd.2.size
  have hk : ∀ k, k < w1.heap.size → some k ≠ u.ownBlock → k ≠ tb → (w2.setCell ⟨tb, 3, none⟩ (.slice (some ⟨g, 0, none⟩) (l.length + 1) cap')).heap[k]? = w1.heap[k]? := fun k hkl hku hkt => by
    rw [Below.heap_setCell w2 ⟨tb, 3, none⟩ _ k hkt, hgrow.block k (by rw [hs1]; omega) hku]
    show (w1.heap.push _)[k]? = _
    rw [Array.getElem?_push, if_neg (by omega)]
  have hsz : (w2.setCell ⟨tb, 3, none⟩ (.slice (some ⟨g, 0, none⟩) (l.length + 1) cap')).heap.size = w2.heap.size := World.size_setCell ..
  have hsz2 : w1.heap.size + 1 ≤ w2.heap.size := by rw [← hs1]; exact hgrow.size
  have htb : some tb ≠ u.ownBlock := hun tb (by omega)
  have hrb : some w.heap.size ≠ u.ownBlock := hun _ (by omega)
  have hvl := osV_lt hv
  have hbs : ∀ x ∈ bs, x < wr.heap.size := VL.lt h.row
  have hkb : ∀ x ∈ bs ++ bt, (w2.setCell ⟨tb, 3, none⟩ (.slice (some ⟨g, 0, none⟩) (l.length + 1) cap')).heap[x]? = w1.heap[x]? := fun x hx => by
    rcases List.mem_append.1 hx with hx | hx
    · exact hk x (by have := hbs x hx; omega) (fun e => (h.lo x hx).2 e.symm) (by have := (h.lo x hx).1; omega)
    · exact hk x (hvl x hx) (fun e => by have := (h.own.lt x e.symm).2; have := hbl x hx; omega) (by have := hbl x hx; omega)
  refine ⟨⟨hd.1.same (fun b hb => hk b (by omega) (hun b (by omega)) (by omega)), ?_⟩, hold, hup, by rw [hsz]; omega, hset _ _ _ (Or.inr (by omega)) (hcell _ _ _ htb h1.t0), hset _ _ _ (Or.inr (by omega)) (hcell _ _ _ htb h1.t1), hset _ _ _ (Or.inr (by omega)) (hcell _ _ _ htb h1.t2), World.cell?_setCell_same w2 _ _ (hcell _ _ _ htb h1.t3), fun o' => ?_, fun j hj => ?_, fun o' => ?_, ?_, ?_, ?_, ?_, ?_⟩
  · have t := h1.drawn.2
    exact ⟨hgrow.os.trans t.os, hgrow.tape.trans t.tape, hgrow.output.trans t.output, by rw [hsz]; omega, fun k hkl hkn => (hk k (by omega) (hun k (by omega)) (by omega)).trans (t.block k hkl hkn)⟩
  · rw [World.frozen?_setCell, hfroz tb o' hul htb]; exact h1.tf o'
  · obtain ⟨v, hv'⟩ := h1.r j hj
    exact ⟨v, hset _ _ _ (Or.inl (by omega)) (hcell _ _ _ hrb hv')⟩
  · rw [World.frozen?_setCell, hfroz _ o' hwl hrb]; exact h1.rf o'
  · rw [hll]; exact ownsRow_setCell_below hown (by show tb < tb + 1; omega) _
  · exact (VL.snoc (ve_term hv) h1.row).keep (by rw [hsz]; omega) hkb
  · rw [List.nodup_append]
    exact ⟨h.nd, hbn, fun x hx y hy e => by have := hbs x hx; have := hbl y hy; omega⟩
  · intro x hx
    refine ⟨?_, fun e => ?_⟩
    · rcases List.mem_append.1 hx with hx | hx
      · exact (h.lo x hx).1
      · have := hbl x hx; omega
    · simp only [Value.ownBlock, Option.some.injEq] at e
      subst e
      rcases List.mem_append.1 hx with hx | hx
      · rcases hat with hat | hat
        · exact (h.lo _ hx).2 hat
        · have := hbs _ hx; omega
      · rcases hat with hat | hat
        · have := (h.own.lt _ hat).2; have := hbl _ hx; omega
        · have := hvl _ hx; omega
  · intro x hx
    rcases List.mem_append.1 hx with hx | hx
    · exact h.wf x hx
    · have : x = t := by simpa using hx
      subst this; exact hw
/-- What is gathered is a term. -/
theorem Gao.done {cb : Nat} {ao : Option Addr} {len cap : Nat} {zs : List Int} {w wr : World} {tb : Nat} {K N : Int} {s : ByteArray} {l : List Tm} {u : Value} {xs : List Value} {bs : List Nat}
    (h : Gao cb ao len cap zs w wr tb K N s l u xs bs) (hs : s.size ≤ 1048576) (v0 v1 v2 v3 : Value) :
    (∃ bt, OsV ((((wr.setCell ⟨w.heap.size, 0, none⟩ v0).setCell ⟨w.heap.size, 1, none⟩ v1).setCell ⟨w.heap.size, 2, none⟩ v2).setCell ⟨w.heap.size, 3, none⟩ v3) bt (.mk K N s l) (.agg #[.int .i64 K, .int .i64 N, .string s, u]) ∧ bt.Nodup ∧ ∀ b ∈ bt, w.heap.size ≤ b) ∧
      Drawn cb ao len cap zs w ((((wr.setCell ⟨w.heap.size, 0, none⟩ v0).setCell ⟨w.heap.size, 1, none⟩ v1).setCell ⟨w.heap.size, 2, none⟩ v2).setCell ⟨w.heap.size, 3, none⟩ v3) := by
  obtain ⟨ao', cap', rfl, hl, hc, bt, hg, hb, hn⟩ := h.row.gl h.own
  have hup := h.up
  have hge : ∀ b ∈ bt, tb + 1 ≤ b := fun b hbm => by
    rcases hb b hbm with h9 | h9
    · exact (h.lo b h9).1
    · exact (h.own.lt b h9).1
  refine ⟨⟨bt, ⟨ao', cap', rfl, hs, hl, hc, ?_⟩, hn h.nd (fun b hbm => (h.lo b hbm).2), fun b hbm => by have := hge b hbm; omega⟩, h.drawn.set4 h.old (Nat.le_refl _) _ _ _ _⟩
  refine OsL.keep _ _ _ (fun x hx _ => ?_) (gl_osL hg)
  have hne : x ≠ w.heap.size := by have := hge x hx; omega
  rw [Below.heap_setCell _ ⟨w.heap.size, 3, none⟩ _ x hne, Below.heap_setCell _ ⟨w.heap.size, 2, none⟩ _ x hne, Below.heap_setCell _ ⟨w.heap.size, 1, none⟩ _ x hne, Below.heap_setCell _ ⟨w.heap.size, 0, none⟩ _ x hne]
end Go.Proofs.YtfjaphhijefdlaaGreatDoor
namespace Go.Proofs.YtfjaphhijefdlaaGreatDoor
open Go.RowKit
set_option linter.unusedVariables false

/-- The term stands in blocks of its own, none of which stood there. -/
def OwV (w : World) (lo : Nat) (t : Tm) (v : Value) : Prop := ∃ bs, OsV w bs t v ∧ bs.Nodup ∧ ∀ b ∈ bs, lo ≤ b
def DrO (cb : Nat) (ao : Option Addr) (len cap : Nat) (zs : List Int) (d : Nat) : Prop := ∀ w, Cur cb ao len cap zs w →
  Calls Tryz.prog 31 #[.pointer (some ⟨cb, 0, none⟩), .int .i64 d] w fun e w' => ∃ t v, e = .returned v ∧ OwV w' w.heap.size t v ∧ RtT d t ∧ Drawn cb ao len cap zs w w'
theorem ow_leaf {w : World} (lo : Nat) (k n : Int) (s : ByteArray) (hs : s.size ≤ 1048576) : OwV w lo (.mk k n s []) (.agg #[.int .i64 k, .int .i64 n, .string s, .slice none 0 0]) :=
  ⟨[], ⟨none, 0, rfl, hs, Nat.le_refl _, Nat.zero_le _, by rw [OsL]⟩, List.nodup_nil, fun b hb => by cases hb⟩

set_option maxRecDepth 100000 in
set_option maxHeartbeats 2000000 in
theorem drO_of (cb : Nat) (ao : Option Addr) (len cap : Nat) (zs : List Int) (d : Nat) (hd0 : d ≤ 6) (ih : ∀ d', d = d' + 1 → DrO cb ao len cap zs d') : DrO cb ao len cap zs d := by
  intro w hc
  have HC : Hid (Cur cb ao len cap zs w) := hc
  have IH : Hid (∀ d', d = d' + 1 → DrO cb ao len cap zs d') := ih
  have hcb := hc.lt
  clear hc ih
  obtain ⟨D, hD⟩ : ∃ D : Int, D = d := ⟨_, rfl⟩
  rw [← hD]
  have HDD : Hid (D = d) := hD
  have hD0 : 0 ≤ D := by omega
  have hD6 : D ≤ 6 := by omega
  clear hD
  go_enter Tryz.func31, Tryz.ntmps31
  go_wp2_with fail
  refine (below_any cb ao len cap zs _ (HC.out.alloc _) 9 (by decide) (by decide)).mono ?_
  rintro e w1 ⟨x, rfl, hx0, hx1, hd1⟩
  obtain ⟨hz1, q1, f1⟩ := turn_new hcb hd1.2
  have HD1 : Hid (Drawn cb ao len cap zs w w1) := ((Drawn.refl HC.out).alloc _).trans hd1
  clear hd1
  have hx : (x = 0 ∨ x = 1 ∨ x = 2) ∨ (x = 3 ∨ x = 4) ∨ x = 5 ∨ x = 6 ∨ (x = 7 ∨ x = 8) := by omega
  rcases hx with hx | hx | hx | hx | hx
  · have h0 : x = 0 ∨ x = 1 ∨ x = 2 := hx
    rcases h0 with rfl | rfl | rfl
    all_goals
      clear hx hx0 hx1
      go_wp2_with fail
      refine (below_any cb ao len cap zs _ HD1.out.1 100 (by decide) (by decide)).mono ?_
      rintro e w2 ⟨y, rfl, hy0, hy1, hd2⟩
      have HD2 : Hid (Drawn cb ao len cap zs w w2) := HD1.out.trans hd2
      have HT2 : Hid (Turn cb w1 w2) := hd2.2
      clear hd2
      go_wp2_with fail
      refine (int_any cb ao len cap zs _ (HD2.out.1.alloc _) w2.heap.size [0, 1, -1, 7, 1000000, -1000000, y] (by have := HD2.out.1.lt; omega) (by simp) (by simp) ?_).mono ?_
      · intro j hj
        rw [World.cell?_alloc_new]
        have : j = 0 ∨ j = 1 ∨ j = 2 ∨ j = 3 ∨ j = 4 ∨ j = 5 ∨ j = 6 := by simp at hj; omega
        rcases this with rfl | rfl | rfl | rfl | rfl | rfl | rfl <;> rfl
      rintro e w3 ⟨z, rfl, hzm, hd3⟩
      have HZB : Hid (-1000000 ≤ z ∧ z ≤ 1000000) := by
        show _ ∧ _
        simp only [List.mem_cons, List.not_mem_nil, or_false] at hzm
        omega
      clear hzm
      have HD3 : Hid (Drawn cb ao len cap zs w w3) := (HD2.out.alloc _).trans hd3
      obtain ⟨q3, f3⟩ := ((HT2.out.alloc _).trans hd3.2).kept (by omega) (by omega) q1 f1
      clear hd3 q1 f1
      go_wp2_with fail
      refine bodyPost_ret (v := .agg #[.int .i64 1, .int .i64 z, .string ⟨#[]⟩, .slice none 0 0]) (by simp [results, Tryz.results31, go_sem, q3]) rfl ⟨.mk 1 z ByteArray.empty [], _, rfl, ow_leaf _ _ _ _ (Nat.zero_le _), wf_int d z HZB.out.1 HZB.out.2, ?_⟩
      exact HD3.out.set4 hcb (Nat.le_refl _) _ _ _ _
  · rcases hx with rfl | rfl
    all_goals
      clear hx0 hx1
      go_wp2_with fail
      refine (str_any cb ao len cap zs _ (HD1.out.1.alloc _) w1.heap.size [⟨#[111, 107]⟩, ⟨#[97]⟩, ⟨#[115, 116, 111, 112]⟩, ⟨#[104, 105, 50]⟩] (by have := HD1.out.1.lt; omega) (by simp) (by simp) ?_).mono ?_
      · intro j hj
        rw [World.cell?_alloc_new]
        have : j = 0 ∨ j = 1 ∨ j = 2 ∨ j = 3 := by simp at hj; omega
        rcases this with rfl | rfl | rfl | rfl <;> rfl
      rintro e w3 ⟨z, rfl, hz, hd3⟩
      have hzs : z.size ≤ 1048576 := by
        simp only [List.mem_cons, List.not_mem_nil, or_false] at hz
        rcases hz with rfl | rfl | rfl | rfl <;> decide
      have HZ : Hid (z.size ≤ 1048576) := hzs
      have HZA : Hid (z ∈ drawnAtoms) := hz
      have HD3 : Hid (Drawn cb ao len cap zs w w3) := (HD1.out.alloc _).trans hd3
      obtain ⟨q3, f3⟩ := (((Turn.refl _ _).alloc _).trans hd3.2).kept (by omega) (by omega) q1 f1
      clear hd3 q1 f1 hz hzs
      go_wp2_with fail
      refine bodyPost_ret (v := .agg #[.int .i64 2, .int .i64 0, .string z, .slice none 0 0]) (by simp [results, Tryz.results31, go_sem, q3]) rfl ⟨.mk 2 0 z [], _, rfl, ow_leaf _ _ _ _ HZ.out, wf_atom d z HZA.out, ?_⟩
      exact HD3.out.set4 hcb (Nat.le_refl _) _ _ _ _
  · subst hx
    clear hx0 hx1
    go_wp2_with fail
    refine (below_any cb ao len cap zs _ HD1.out.1 4 (by decide) (by decide)).mono ?_
    rintro e w2 ⟨z, rfl, hy0, hy1, hd2⟩
    have HD3 : Hid (Drawn cb ao len cap zs w w2) := HD1.out.trans hd2
    have HZB : Hid (0 ≤ z ∧ z ≤ 3) := by show _ ∧ _; omega
    obtain ⟨q3, f3⟩ := hd2.2.kept (by omega) (by omega) q1 f1
    clear hd2 q1 f1
    go_wp2_with fail
    refine bodyPost_ret (v := .agg #[.int .i64 3, .int .i64 z, .string ⟨#[]⟩, .slice none 0 0]) (by simp [results, Tryz.results31, go_sem, q3]) rfl ⟨.mk 3 z ByteArray.empty [], _, rfl, ow_leaf _ _ _ _ (Nat.zero_le _), wf_pid d z HZB.out.1 HZB.out.2, ?_⟩
    exact HD3.out.set4 hcb (Nat.le_refl _) _ _ _ _
  · rcases hx with rfl
    all_goals
      clear hx0 hx1
      go_wp2_with fail
      refine (str_any cb ao len cap zs _ (HD1.out.1.alloc _) w1.heap.size [⟨#[]⟩, ⟨#[120]⟩, ⟨#[0, 255]⟩, ⟨#[104, 101, 108, 108, 111]⟩] (by have := HD1.out.1.lt; omega) (by simp) (by simp) ?_).mono ?_
      · intro j hj
        rw [World.cell?_alloc_new]
        have : j = 0 ∨ j = 1 ∨ j = 2 ∨ j = 3 := by simp at hj; omega
        rcases this with rfl | rfl | rfl | rfl <;> rfl
      rintro e w3 ⟨z, rfl, hz, hd3⟩
      have hzs : z.size ≤ 1048576 := by
        simp only [List.mem_cons, List.not_mem_nil, or_false] at hz
        rcases hz with rfl | rfl | rfl | rfl <;> decide
      have HZ : Hid (z.size ≤ 1048576) := hzs
      have HZA : Hid (z.size ≤ 5) := by
        show _ ≤ _
        simp only [List.mem_cons, List.not_mem_nil, or_false] at hz
        rcases hz with rfl | rfl | rfl | rfl <;> decide
      have HD3 : Hid (Drawn cb ao len cap zs w w3) := (HD1.out.alloc _).trans hd3
      obtain ⟨q3, f3⟩ := (((Turn.refl _ _).alloc _).trans hd3.2).kept (by omega) (by omega) q1 f1
      clear hd3 q1 f1 hz hzs
      go_wp2_with fail
      refine bodyPost_ret (v := .agg #[.int .i64 6, .int .i64 0, .string z, .slice none 0 0]) (by simp [results, Tryz.results31, go_sem, q3]) rfl ⟨.mk 6 0 z [], _, rfl, ow_leaf _ _ _ _ HZ.out, wf_bin d z HZA.out, ?_⟩
      exact HD3.out.set4 hcb (Nat.le_refl _) _ _ _ _
  · rcases hx with rfl | rfl
    all_goals
      clear hx0 hx1
      go_wp2_with fail
      refine (int_any cb ao len cap zs _ (HD1.out.1.alloc _) w1.heap.size [4, 5] (by have := HD1.out.1.lt; omega) (by simp) (by simp) ?_).mono ?_
      · intro j hj
        rw [World.cell?_alloc_new]
        have : j = 0 ∨ j = 1 := by simp at hj; omega
        rcases this with rfl | rfl <;> rfl
      rintro e w3 ⟨K, rfl, hK, hd3⟩
      have HK : Hid (K = 4 ∨ K = 5) := by show _ ∨ _; simpa using hK
      have HD3 : Hid (Drawn cb ao len cap zs w w3) := (HD1.out.alloc _).trans hd3
      obtain ⟨q3, f3⟩ := (((Turn.refl _ _).alloc _).trans hd3.2).kept (by omega) (by omega) q1 f1
      have hz3 : w.heap.size + 1 ≤ w3.heap.size := by have := (((Turn.refl _ _).alloc _).trans hd3.2).size; omega
      clear hd3 q1 f1 hK
      go_wp2_with fail
      refine (below_any cb ao len cap zs _ (HD3.out.1.alloc _) 4 (by decide) (by decide)).mono ?_
      rintro e w4 ⟨m, rfl, hm0, hm1, hd4⟩
      have HG0 : Hid (Gao cb ao len cap zs w w4 w3.heap.size K 0 ⟨#[]⟩ [] (.slice none 0 0) [] []) := (Gao.start HD3.out hcb hz3 rfl q3 f3 K 0 ⟨#[]⟩).turn hd4
      clear hd4 q3 f3
      obtain ⟨tb, htb⟩ : ∃ tb, tb = w3.heap.size := ⟨_, rfl⟩
      rw [← htb] at HG0
      rw [← htb]
      have htb0 : w.heap.size < tb := by omega
      clear htb HD3 HD1 hz3 hz1
      obtain ⟨i0, hi, hzz⟩ := Option.map_eq_some_iff.1 info26
      simp only [Prod.mk.injEq] at hzz
      obtain ⟨hzz0, hzz1, hzz2⟩ := hzz
      obtain ⟨m, rfl⟩ : ∃ k : Nat, m = k := ⟨m.toNat, by omega⟩
      have hm : m < 4 := by omega
      clear hm0 hm1
      go_wp2_with fail
      go_loopw [6] (fun i w' => ∃ (k : Nat) (l : List Tm) (u : Value) (xs : List Value) (bs : List Nat), i = .int .i64 k ∧ l.length + k ≤ 3 ∧ Gao cb ao len cap zs w w' tb K 0 ⟨#[]⟩ l u xs bs ∧ DpL d l) (fun i _ => (intOf i).toNat)
      case atStart => exact ⟨m, [], _, _, _, rfl, by simp; omega, HG0.out, .inl rfl⟩
      case round =>
        obtain ⟨k, l, u, xs, bs, rfl, hlk, hg, hdp⟩ := hrel
        have HDP : Hid (DpL d l) := hdp
        clear hdp
        obtain ⟨ua, uc, rfl⟩ := hg.form
        have HG : Hid (Gao cb ao len cap zs w wr tb K 0 ⟨#[]⟩ l (.slice ua l.length uc) xs bs) := hg
        have t0 := hg.t0
        have t1 := hg.t1
        have t2 := hg.t2
        have t3 := hg.t3
        have tf := hg.tf
        have htl := hg.lt
        obtain ⟨r0, hr0⟩ := hg.r 0 (by decide)
        obtain ⟨r1, hr1⟩ := hg.r 1 (by decide)
        obtain ⟨r2, hr2⟩ := hg.r 2 (by decide)
        obtain ⟨r3, hr3⟩ := hg.r 3 (by decide)
        have hrf := hg.rf
        clear hg
        by_cases hk : 0 < k
        · by_cases hDp : 0 < D
          case neg =>
            go_wp2_with fail
            obtain ⟨⟨bt, hv, hn, hlo⟩, hdd⟩ := HG.out.done (Nat.zero_le _) (.int .i64 K) (.int .i64 0) (.string ⟨#[]⟩) (.slice ua l.length uc)
            refine bodyPost_ret (v := .agg #[.int .i64 K, .int .i64 0, .string ⟨#[]⟩, .slice ua l.length uc]) (by simp [results, Tryz.results31, go_sem, hr0, hr1, hr2, hr3]) rfl ⟨_, _, rfl, ⟨bt, hv, hn, hlo⟩, wf_list d K HK.out l (by omega) HG.out.wf HDP.out, hdd⟩
          case pos =>
            obtain ⟨d', hd'⟩ : ∃ d' : Nat, d = d' + 1 := ⟨d - 1, by have := HDD.out; omega⟩
            have HT : Hid (DrO cb ao len cap zs d') := IH.out d' hd'
            have HQ : Hid (D - 1 = d') := by show _ = _; have := HDD.out; omega
            have HW : Hid (IntKind.i64.wrap (D - 1) = d') := by show _ = _; have := HDD.out; rw [IntKind.wrap_i64]; omega
            have HDE : Hid (d = d' + 1) := hd'
            clear hd'
            go_wp2_with fail
            go_region_law (first
              | (refine step_append_lies _ rfl (.tmp 52) (.tmp 57) 24 rfl (tb + 1) 26 i0 (.agg #[.int .i64 0, .int .i64 0, .string ⟨#[]⟩, .slice none 0 0]) 4 56 underlying24 hi hzz0 hzz1 hzz2 rfl (by decide) (.slice ua l.length uc) l.length xs (by simp [Act.eval]) (HG1.out.own.alloc _) ⟨w5.heap.size, 0, none⟩ 1 1 [.int .i64 va, .int .i64 vb, .string vc, .slice vd ve vf] (by simp [Act.eval]) rfl four_news (by intro u' hu'; simp at hu'; rcases hu' with rfl | rfl | rfl | rfl <;> rfl) (by decide) (by unfold maxLen; omega) (by omega) (by simp; omega) _ rfl ?_; intro g cap5 w6 hown6 hgrow6 hat6 hlt6; obtain ⟨t36, tf6⟩ := HG1.out.grown hgrow6)
              | (go_simp; go_wp2_with (go_at_call 31; (first | rw [HW.out] | rw [HQ.out]); refine (HT.out _ ?_).mono ?_; exact HG.out.drawn.1.drew; rintro e w5 ⟨tt, vv, rfl, ⟨bt, hv5, hn5, hl5⟩, hw5, hd5⟩; obtain ⟨va, vb, vc, vd, ve, vf, rfl⟩ := hv5.form; have HG1 : Hid (Gao cb ao len cap zs w w5 tb K 0 ⟨#[]⟩ l (.slice ua l.length uc) xs bs) := HG.out.turn hd5.drew; have htl5 := HG1.out.lt; have t35 := HG1.out.t3; have tf5 := HG1.out.tf)))
            all_goals
              have HDP2 : Hid (DpL d (l ++ [tt])) := HDP.out.snoc HDE.out hw5.2
              have HG2 := HG.out.more hd5.drew hv5 hn5 hl5 hw5.1 hown6 hgrow6 (by rw [World.size_alloc] at hat6; exact hat6) hlt6
              clear t36 tf6 hown6 hgrow6 hat6 hlt6 hv5 hn5 hl5 hw5 hd5 HG1 htl5 t35 tf5
              have HG3 : Hid (Gao cb ao len cap zs w _ tb K 0 ⟨#[]⟩ _ _ _ _) := HG2
              go_wp2_with fail
              go_roundw
              case rel =>
                refine ⟨k - 1, l ++ [tt], _, _, _, ?_, ?_, HG3.out, HDP2.out⟩
                · have e : ((k - 1 : Nat) : Int) = (k : Int) - 1 := by omega
                  rw [e]
                · rw [List.length_append]; simp only [List.length_cons, List.length_nil]; omega
              case measure => simp [intOf]; omega
        · go_wp2_with fail
          obtain ⟨⟨bt, hv, hn, hlo⟩, hdd⟩ := HG.out.done (Nat.zero_le _) (.int .i64 K) (.int .i64 0) (.string ⟨#[]⟩) (.slice ua l.length uc)
          refine bodyPost_ret (v := .agg #[.int .i64 K, .int .i64 0, .string ⟨#[]⟩, .slice ua l.length uc]) (by simp [results, Tryz.results31, go_sem, hr0, hr1, hr2, hr3]) rfl ⟨_, _, rfl, ⟨bt, hv, hn, hlo⟩, wf_list d K HK.out l (by omega) HG.out.wf HDP.out, hdd⟩

theorem drO_all (cb : Nat) (ao : Option Addr) (len cap : Nat) (zs : List Int) : ∀ d : Nat, d ≤ 6 → DrO cb ao len cap zs d
  | 0, h => drO_of cb ao len cap zs 0 h (fun d' e => by omega)
  | d + 1, h => drO_of cb ao len cap zs (d + 1) h (fun d' e => by
      have : d' = d := by omega
      subst this
      exact drO_all cb ao len cap zs d' (by omega))
end Go.Proofs.YtfjaphhijefdlaaGreatDoor
namespace Go.Proofs.YtfjaphhijefdlaaGreatDoor
open Go.RowKit
set_option linter.unusedVariables false

theorem OwV.low {w : World} {lo lo' : Nat} {t : Tm} {v : Value} (h : OwV w lo t v) (hl : lo' ≤ lo) : OwV w lo' t v := by
  obtain ⟨bs, h1, h2, h3⟩ := h
  exact ⟨bs, h1, h2, fun b hb => Nat.le_trans hl (h3 b hb)⟩
theorem OwV.form {w : World} {lo : Nat} {t : Tm} {v : Value} (h : OwV w lo t v) : ∃ a b c d e f, v = .agg #[.int .i64 a, .int .i64 b, .string c, .slice d e f] := by
  obtain ⟨bs, h1, _⟩ := h
  exact h1.form
theorem OwV.below {w w' : World} {lo : Nat} {t : Tm} {v : Value} (h : OwV w lo t v) (hb : Below w.heap.size w w') : OwV w' lo t v := by
  obtain ⟨bs, h1, h2, h3⟩ := h
  exact ⟨bs, h1.below hb, h2, h3⟩
structure Gzo (w wr : World) (tb : Nat) (K N : Int) (s : ByteArray) (l : List Tm) (u : Value) (xs : List Value) (bs : List Nat) : Prop where
  be : Below w.heap.size w wr
  up : w.heap.size < tb
  lt : tb < wr.heap.size
  t0 : wr.cell? ⟨tb, 0, none⟩ = some (.int .i64 K)
  t1 : wr.cell? ⟨tb, 1, none⟩ = some (.int .i64 N)
  t2 : wr.cell? ⟨tb, 2, none⟩ = some (.string s)
  t3 : wr.cell? ⟨tb, 3, none⟩ = some u
  tf : ∀ o, wr.frozen? ⟨tb, o, none⟩ = false
  r : ∀ j, j < 4 → ∃ v, wr.cell? ⟨w.heap.size, j, none⟩ = some v
  rf : ∀ o, wr.frozen? ⟨w.heap.size, o, none⟩ = false
  own : wr.ownsRow (tb + 1) 26 4 u l.length xs
  row : VL eltT wr l xs bs
  nd : bs.Nodup
  lo : ∀ b ∈ bs, tb + 1 ≤ b ∧ u.ownBlock ≠ some b
theorem Gzo.call {w wr w1 : World} {tb : Nat} {K N : Int} {s : ByteArray} {l : List Tm} {u : Value} {xs : List Value} {bs : List Nat} (h : Gzo w wr tb K N s l u xs bs) (hd : Below wr.heap.size wr w1) : Gzo w w1 tb K N s l u xs bs := by
  have hg : wr.grownBy w1 none := ⟨hd.os, hd.tape, hd.output, hd.size, fun k hk _ => hd.block k hk⟩
  have hup := h.up
  have hlt := h.lt
  have cc : ∀ b o v, wr.cell? ⟨b, o, none⟩ = some v → w1.cell? ⟨b, o, none⟩ = some v := fun b o v hv => by rw [hd.cell (p := ⟨b, o, none⟩) (World.block_lt_of_cell? wr _ hv)]; exact hv
  exact ⟨h.be.trans (hd.mono h.be.size), h.up, Nat.lt_of_lt_of_le h.lt hd.size, cc _ _ _ h.t0, cc _ _ _ h.t1, cc _ _ _ h.t2, cc _ _ _ h.t3, fun o => by rw [hd.frozen (p := ⟨tb, o, none⟩) h.lt]; exact h.tf o, fun j hj => by obtain ⟨v, hv⟩ := h.r j hj; exact ⟨v, cc _ _ _ hv⟩, fun o => by rw [hd.frozen (p := ⟨w.heap.size, o, none⟩) (by show w.heap.size < _; omega)]; exact h.rf o, h.own.kept hg (by by_cases e : u.ownBlock = none; exact Or.inl e; exact Or.inr e), h.row.keep hd.size (fun x hx => hd.block x (VL.lt h.row x hx)), h.nd, h.lo⟩
theorem Gzo.form {w wr : World} {tb : Nat} {K N : Int} {s : ByteArray} {l : List Tm} {u : Value} {xs : List Value} {bs : List Nat}
    (h : Gzo w wr tb K N s l u xs bs) : ∃ ua uc, u = .slice ua l.length uc := by
  rcases h.own.2 with ⟨rfl, h0⟩ | ⟨g, cap, cur, rfl, _⟩
  · exact ⟨none, 0, by rw [h0]⟩
  · exact ⟨_, _, rfl⟩
theorem Gzo.grown {w w1 w2 : World} {tb : Nat} {K N : Int} {s : ByteArray} {l : List Tm} {u : Value} {xs : List Value} {bs : List Nat}
    (h : Gzo w w1 tb K N s l u xs bs) {o : Obj} (hgrow : (w1.alloc o).grownBy w2 u.ownBlock) : w2.cell? ⟨tb, 3, none⟩ = some u ∧ w2.frozen? ⟨tb, 3, none⟩ = false := by
  have hs1 : (w1.alloc o).heap.size = w1.heap.size + 1 := World.size_alloc _ _
  have hl := h.lt
  have hne : some tb ≠ u.ownBlock := fun e => by have := (h.own.lt tb e.symm).1; omega
  rw [hgrow.cell_far ⟨tb, 3, none⟩ (by rw [hs1]; exact Nat.lt_succ_of_lt hl) hne, hgrow.frozen_far ⟨tb, 3, none⟩ (by rw [hs1]; exact Nat.lt_succ_of_lt hl) hne, World.cell?_alloc_lt (h := hl), World.frozen?_alloc_old (h := by show tb ≠ _; omega)]
  exact ⟨h.t3, h.tf 3⟩
/-- One more is drawn, laid down in a block, appended, and the variable turned. -/
theorem Gzo.more {w wr w1 w2 : World} {tb : Nat} {K N : Int} {s : ByteArray} {l : List Tm} {u : Value} {xs : List Value} {bs bt : List Nat}
    (h : Gzo w wr tb K N s l u xs bs) (hd : Below wr.heap.size wr w1) {t : Tm} {a b : Int} {c : ByteArray} {d : Option Addr} {e f : Nat} (hv : OsV w1 bt t (.agg #[.int .i64 a, .int .i64 b, .string c, .slice d e f])) (hbn : bt.Nodup) (hbl : ∀ x ∈ bt, wr.heap.size ≤ x) {o : Obj}
    {g cap' : Nat} (hown : w2.ownsRow (tb + 1) 26 4 (.slice (some ⟨g, 0, none⟩) (l.length + 1) cap') (l.length + 1) (xs ++ [.int .i64 a, .int .i64 b, .string c, .slice d e f])) (hgrow : (w1.alloc o).grownBy w2 u.ownBlock) (hat : u.ownBlock = some g ∨ g = w1.heap.size + 1) (hlt : g < w2.heap.size) :
    Gzo w (w2.setCell ⟨tb, 3, none⟩ (.slice (some ⟨g, 0, none⟩) (l.length + 1) cap')) tb K N s (l ++ [t]) (.slice (some ⟨g, 0, none⟩) (l.length + 1) cap') (xs ++ [.int .i64 a, .int .i64 b, .string c, .slice d e f]) (bs ++ bt) := by
  have h1 := h.call hd
  have hs1 : (w1.alloc o).heap.size = w1.heap.size + 1 := World.size_alloc _ _
  have hun : ∀ k, k < tb + 1 → some k ≠ u.ownBlock := fun k hk e => by have := (h.own.lt k e.symm).1; omega
  have hcell : ∀ p o' v, some p ≠ u.ownBlock → w1.cell? ⟨p, o', none⟩ = some v → w2.cell? ⟨p, o', none⟩ = some v := fun p o' v hp hc => by
    have hpl := World.block_lt_of_cell? w1 _ hc
    rw [hgrow.cell_far ⟨p, o', none⟩ (by rw [hs1]; exact Nat.lt_succ_of_lt hpl) hp, World.cell?_alloc_lt (h := hpl)]; exact hc
  have hfroz : ∀ p o', p < w1.heap.size → some p ≠ u.ownBlock → w2.frozen? ⟨p, o', none⟩ = w1.frozen? ⟨p, o', none⟩ := fun p o' hpl hp => by
    rw [hgrow.frozen_far ⟨p, o', none⟩ (by rw [hs1]; exact Nat.lt_succ_of_lt hpl) hp, World.frozen?_alloc_old (h := by show p ≠ _; omega)]
  have hset : ∀ p o' v, (p ≠ tb ∨ o' ≠ 3) → w2.cell? ⟨p, o', none⟩ = some v → (w2.setCell ⟨tb, 3, none⟩ (.slice (some ⟨g, 0, none⟩) (l.length + 1) cap')).cell? ⟨p, o', none⟩ = some v := fun p o' v hp hc => by
    rw [World.cell?_setCell_other (h := fun e => by simp at e; omega)]; exact hc
  have hgb : tb + 1 ≤ g := (hown.lt g rfl).1
  have hll : (l ++ [t]).length = l.length + 1 := by simp
  have hul : tb < w1.heap.size := h1.lt
  have hup := h.up
  have hrl := h.lt
  have hwl : w.heap.size < w1.heap.size := Nat.lt_trans h.up hul
  have hz1 := hd.size
  have hk : ∀ k, k < w1.heap.size → some k ≠ u.ownBlock → k ≠ tb → (w2.setCell ⟨tb, 3, none⟩ (.slice (some ⟨g, 0, none⟩) (l.length + 1) cap')).heap[k]? = w1.heap[k]? := fun k hkl hku hkt => by
    rw [Below.heap_setCell w2 ⟨tb, 3, none⟩ _ k hkt, hgrow.block k (by rw [hs1]; omega) hku]
    show (w1.heap.push _)[k]? = _
    rw [Array.getElem?_push, if_neg (by omega)]
  have hsz : (w2.setCell ⟨tb, 3, none⟩ (.slice (some ⟨g, 0, none⟩) (l.length + 1) cap')).heap.size = w2.heap.size := World.size_setCell ..
  have hsz2 : w1.heap.size + 1 ≤ w2.heap.size := by rw [← hs1]; exact hgrow.size
  have htb : some tb ≠ u.ownBlock := hun tb (by omega)
  have hrb : some w.heap.size ≠ u.ownBlock := hun _ (by omega)
  have hvl := osV_lt hv
  have hbs : ∀ x ∈ bs, x < wr.heap.size := VL.lt h.row
  have hkb : ∀ x ∈ bs ++ bt, (w2.setCell ⟨tb, 3, none⟩ (.slice (some ⟨g, 0, none⟩) (l.length + 1) cap')).heap[x]? = w1.heap[x]? := fun x hx => by
    rcases List.mem_append.1 hx with hx | hx
    · exact hk x (by have := hbs x hx; omega) (fun e => (h.lo x hx).2 e.symm) (by have := (h.lo x hx).1; omega)
    · exact hk x (hvl x hx) (fun e => by have := (h.own.lt x e.symm).2; have := hbl x hx; omega) (by have := hbl x hx; omega)
  refine ⟨?_, hup, by rw [hsz]; omega, hset _ _ _ (Or.inr (by omega)) (hcell _ _ _ htb h1.t0), hset _ _ _ (Or.inr (by omega)) (hcell _ _ _ htb h1.t1), hset _ _ _ (Or.inr (by omega)) (hcell _ _ _ htb h1.t2), World.cell?_setCell_same w2 _ _ (hcell _ _ _ htb h1.t3), fun o' => ?_, fun j hj => ?_, fun o' => ?_, ?_, ?_, ?_, ?_⟩
  · have t := h1.be
    exact ⟨hgrow.os.trans t.os, hgrow.tape.trans t.tape, hgrow.output.trans t.output, by rw [hsz]; omega, fun k hkl => (hk k (by omega) (hun k (by omega)) (by omega)).trans (t.block k hkl)⟩
  · rw [World.frozen?_setCell, hfroz tb o' hul htb]; exact h1.tf o'
  · obtain ⟨v, hv'⟩ := h1.r j hj
    exact ⟨v, hset _ _ _ (Or.inl (by omega)) (hcell _ _ _ hrb hv')⟩
  · rw [World.frozen?_setCell, hfroz _ o' hwl hrb]; exact h1.rf o'
  · rw [hll]; exact ownsRow_setCell_below hown (by show tb < tb + 1; omega) _
  · exact (VL.snoc (ve_term hv) h1.row).keep (by rw [hsz]; omega) hkb
  · rw [List.nodup_append]
    exact ⟨h.nd, hbn, fun x hx y hy e => by have := hbs x hx; have := hbl y hy; omega⟩
  · intro x hx
    refine ⟨?_, fun e => ?_⟩
    · rcases List.mem_append.1 hx with hx | hx
      · exact (h.lo x hx).1
      · have := hbl x hx; omega
    · simp only [Value.ownBlock, Option.some.injEq] at e
      subst e
      rcases List.mem_append.1 hx with hx | hx
      · rcases hat with hat | hat
        · exact (h.lo _ hx).2 hat
        · have := hbs _ hx; omega
      · rcases hat with hat | hat
        · have := (h.own.lt _ hat).2; have := hbl _ hx; omega
        · have := hvl _ hx; omega
theorem Gzo.done {w wr : World} {tb : Nat} {K N : Int} {s : ByteArray} {l : List Tm} {u : Value} {xs : List Value} {bs : List Nat}
    (h : Gzo w wr tb K N s l u xs bs) (hs : s.size ≤ 1048576) (v0 v1 v2 v3 : Value) :
    OwV ((((wr.setCell ⟨w.heap.size, 0, none⟩ v0).setCell ⟨w.heap.size, 1, none⟩ v1).setCell ⟨w.heap.size, 2, none⟩ v2).setCell ⟨w.heap.size, 3, none⟩ v3) w.heap.size (.mk K N s l) (.agg #[.int .i64 K, .int .i64 N, .string s, u]) ∧
      Below w.heap.size w ((((wr.setCell ⟨w.heap.size, 0, none⟩ v0).setCell ⟨w.heap.size, 1, none⟩ v1).setCell ⟨w.heap.size, 2, none⟩ v2).setCell ⟨w.heap.size, 3, none⟩ v3) := by
  obtain ⟨ao', cap', rfl, hl, hc, bt, hg, hb, hn⟩ := h.row.gl h.own
  have hup := h.up
  have hge : ∀ b ∈ bt, tb + 1 ≤ b := fun b hbm => by
    rcases hb b hbm with h9 | h9
    · exact (h.lo b h9).1
    · exact (h.own.lt b h9).1
  refine ⟨⟨bt, ⟨ao', cap', rfl, hs, hl, hc, ?_⟩, hn h.nd (fun b hbm => (h.lo b hbm).2), fun b hbm => by have := hge b hbm; omega⟩, (((h.be.setCell (Nat.le_refl _) _).setCell (Nat.le_refl _) _).setCell (Nat.le_refl _) _).setCell (Nat.le_refl _) _⟩
  refine OsL.keep _ _ _ (fun x hx _ => ?_) (gl_osL hg)
  have hne : x ≠ w.heap.size := by have := hge x hx; omega
  rw [Below.heap_setCell _ ⟨w.heap.size, 3, none⟩ _ x hne, Below.heap_setCell _ ⟨w.heap.size, 2, none⟩ _ x hne, Below.heap_setCell _ ⟨w.heap.size, 1, none⟩ _ x hne, Below.heap_setCell _ ⟨w.heap.size, 0, none⟩ _ x hne]
theorem bundrewO {W w3 : World} (hb : Below W.drew.heap.size W.drew w3) : Below W.heap.size W w3 := ⟨hb.os, hb.tape, hb.output, hb.size, hb.block⟩
theorem own_lenO {w : World} {B e z : Nat} {v : Value} {n k : Nat} {xs : List Value} (h : w.ownsRow B e z v n xs) (hn : n = k) : w.ownsRow B e z v k xs := by subst hn; exact h
theorem Gzo.begin (w : World) (c : Array Value) (hc : c.size = 4) (K N : Int) (s : ByteArray) :
    Gzo w (((w.alloc (.cells c 26)).alloc (.cells #[.int .i64 K, .int .i64 N, .string s, .slice (some ⟨w.heap.size + 1 + 1, 0, none⟩) 0 0] 26)).alloc (.cells #[] 26)) (w.heap.size + 1) K N s [] (.slice (some ⟨w.heap.size + 1 + 1, 0, none⟩) 0 0) [] [] := by
  have hb := three_new (w := w) (c1 := c) (c2 := #[.int .i64 K, .int .i64 N, .string s, .slice (some ⟨w.heap.size + 1 + 1, 0, none⟩) 0 0]) (c3 := #[]) (t1 := 26) (t2 := 26) (t3 := 26) (Below.refl _ _)
  obtain ⟨hz, q2, q3, f2, f3⟩ := hb
  have e1 : (((w.alloc (.cells c 26)).alloc (.cells #[.int .i64 K, .int .i64 N, .string s, .slice (some ⟨w.heap.size + 1 + 1, 0, none⟩) 0 0] 26)).alloc (.cells #[] 26)).heap[w.heap.size]? = some (.cells c 26 (0, 0)) := by
    show (((w.heap.push _).push _).push _)[w.heap.size]? = _
    rw [Array.getElem?_push, if_neg (by simp; omega), Array.getElem?_push, if_neg (by simp), Array.getElem?_push, if_pos (by simp)]
  have e3 : (((w.alloc (.cells c 26)).alloc (.cells #[.int .i64 K, .int .i64 N, .string s, .slice (some ⟨w.heap.size + 1 + 1, 0, none⟩) 0 0] 26)).alloc (.cells #[] 26)).heap[w.heap.size + 1 + 1]? = some (.cells #[] 26 (0, 0)) := by
    show (((w.heap.push _).push _).push _)[w.heap.size + 1 + 1]? = _
    rw [Array.getElem?_push, if_pos (by simp)]
  refine ⟨(((Below.refl _ _).alloc (Nat.le_refl _) _).alloc (by simp) _).alloc (by simp; omega) _, by omega, by omega, q2 0, q2 1, q2 2, q2 3, f2, fun j hj => ?_, fun o => frozen_of e1, ⟨rfl, Or.inr ⟨w.heap.size + 1 + 1, 0, #[], rfl, Nat.le_refl _, e3, Nat.le_refl _, Nat.zero_le _, rfl, rfl⟩⟩, ⟨rfl, rfl⟩, List.nodup_nil, fun b hb => by simp at hb⟩
  rw [cell_of e1]
  exact ⟨c[j], Array.getElem?_eq_getElem (by omega)⟩

def CzO (t : Tm) : Prop := ∀ (w : World) (v : Value), RepV 0 w t v → StS t →
  Calls Tryz.prog 23 #[v] w fun e w' => ∃ v', e = .returned v' ∧ OwV w' w.heap.size t v' ∧ Below w.heap.size w w'

set_option maxRecDepth 100000 in
set_option maxHeartbeats 4000000 in
theorem czO_of (K N : Int) (s : ByteArray) (m : List Tm) (ih : ∀ t, t ∈ m → CzO t) : CzO (.mk K N s m) := by
  intro w v hv hw
  obtain ⟨so, scap, rfl, hss, hl, hcap, hr⟩ := hv
  rw [StS] at hw
  have IH : Hid (∀ t, t ∈ m → CzO t) := ih
  have HR : Hid (RepL 0 w m so) := hr
  have HW : Hid (∀ t, t ∈ m → StS t) := hw.2.2
  have hm : m.length ≤ 1048576 := hw.2.1
  have HM : Hid (s.size ≤ 1048576) := hw.1
  clear ih hr hw hss
  unfold maxLen at hcap
  go_enter Tryz.func23, Tryz.ntmps23
  go_wp2_with fail
  obtain ⟨W0, hW⟩ : ∃ W0, W0 = w.alloc (.cells #[.int .i64 K, .int .i64 N, .string s, .slice so m.length scap] 26) := ⟨_, rfl⟩
  have hs0 : W0.heap.size = w.heap.size + 1 := by rw [hW, World.size_alloc]
  have hg0 := Gzo.begin W0 #[.int .i64 0, .int .i64 0, .string ⟨#[]⟩, .slice none 0 0] rfl K N s
  rw [hs0] at hg0
  have HDW : Hid (Below w.heap.size w W0) := by rw [hW]; exact (Below.refl _ _).alloc (Nat.le_refl _) _
  have HQ0 : Hid (W0.cell? ⟨w.heap.size, 3, none⟩ = some (.slice so m.length scap)) := by show _ = _; rw [hW, World.cell?_alloc_new]; rfl
  rw [← hW]
  have HG0 : Hid (Gzo W0 _ (w.heap.size + 1 + 1) K N s [] _ [] []) := hg0
  have HS0 : Hid (W0.heap.size = w.heap.size + 1) := hs0
  clear hg0 hs0 hW
  obtain ⟨i0, hi, hzz⟩ := Option.map_eq_some_iff.1 info26
  simp only [Prod.mk.injEq] at hzz
  obtain ⟨hzz0, hzz1, hzz2⟩ := hzz
  go_loopw [4] (fun i w' => ∃ (k : Nat) (u : Value) (xs : List Value) (bs : List Nat), i = .int .i64 k ∧ k ≤ m.length ∧ Gzo W0 w' (w.heap.size + 1 + 1) K N s (m.take k) u xs bs) (fun i _ => m.length - (intOf i).toNat)
  case atStart => exact ⟨0, _, _, _, rfl, Nat.zero_le _, HG0.out⟩
  case round =>
    obtain ⟨k, u, xs, bs, rfl, hk, hg⟩ := hrel
    obtain ⟨ua, uc, rfl⟩ := hg.form
    have hlen : (m.take k).length = k := by rw [List.length_take]; omega
    rw [hlen] at hg
    have HG : Hid (Gzo W0 wr (w.heap.size + 1 + 1) K N s (m.take k) (.slice ua k uc) xs bs) := hg
    have t0 := hg.t0
    have t1 := hg.t1
    have t2 := hg.t2
    have t3 := hg.t3
    have tf := hg.tf
    have htl := hg.lt
    have hqr : wr.cell? ⟨w.heap.size, 3, none⟩ = some (.slice so m.length scap) := by
      have hz := HS0.out
      rw [hg.be.cell (p := ⟨w.heap.size, 3, none⟩) (by show w.heap.size < _; omega)]; exact HQ0.out
    have hrr := hg.r
    have hrf := hg.rf
    rw [HS0.out] at hrr hrf
    obtain ⟨r0, hr0⟩ := hrr 0 (by decide)
    obtain ⟨r1, hr1⟩ := hrr 1 (by decide)
    obtain ⟨r2, hr2⟩ := hrr 2 (by decide)
    obtain ⟨r3, hr3⟩ := hrr 3 (by decide)
    have HDR : Hid (Below w.heap.size w wr) := by
      have hz := HS0.out
      exact HDW.out.trans (hg.be.mono (by omega))
    clear hg hrr
    by_cases hlt : k < m.length
    · have HRr : Hid (RepL 0 wr m so) := (Keeps.below HDR.out 0).repL _ _ HR.out
      obtain ⟨b, off, rfl, _, ht⟩ := RepL.at m so HRr.out k hlt
      obtain ⟨tk, tn, ts, tao, tlen, tcap, c0, c1, c2, c3, hv⟩ := ht.cells
      have HV : Hid (RepV 0 wr m[k] (.agg #[.int .i64 tk, .int .i64 tn, .string ts, .slice tao tlen tcap])) := hv
      have HT : Hid (CzO m[k]) := IH.out _ (List.getElem_mem hlt)
      clear hv ht
      go_wp2_with fail
      go_region_law (first
        | (refine step_append_lies _ rfl (.tmp 16) (.tmp 23) 24 rfl (w.heap.size + 1 + 1 + 1) 26 i0 (.agg #[.int .i64 0, .int .i64 0, .string ⟨#[]⟩, .slice none 0 0]) 4 56 underlying24 hi hzz0 hzz1 hzz2 rfl (by decide) (.slice ua k uc) k xs (by simp [Act.eval]) (HO1.out.alloc _) ⟨w5.heap.size, 0, none⟩ 1 1 [.int .i64 va, .int .i64 vb, .string vc, .slice vd ve vf] (by simp [Act.eval]) rfl four_news (by intro u' hu'; simp at hu'; rcases hu' with rfl | rfl | rfl | rfl <;> rfl) (by decide) (by unfold maxLen; omega) (by omega) (by simp; omega) _ rfl ?_; intro g cap5 w6 hown6 hgrow6 hat6 hlt6; obtain ⟨t36, tf6⟩ := HG1.out.grown hgrow6)
        | (go_simp; go_wp2_with (go_at_call 23; refine (HT.out _ _ ?_ ?_).mono ?_; exact HV.out.drew; exact HW.out _ (List.getElem_mem hlt); rintro e w5 ⟨vv, rfl, ⟨bt, hv5, hn5, hl5⟩, hd5⟩; obtain ⟨va, vb, vc, vd, ve, vf, rfl⟩ := hv5.form; have hd5' : Below wr.heap.size wr w5 := bundrewO hd5; have HG1 : Hid (Gzo W0 w5 (w.heap.size + 1 + 1) K N s (m.take k) (.slice ua k uc) xs bs) := HG.out.call hd5'; have HO1 : Hid (w5.ownsRow (w.heap.size + 1 + 1 + 1) 26 4 (.slice ua k uc) k xs) := own_lenO HG1.out.own hlen; have htl5 := HG1.out.lt; have t35 := HG1.out.t3; have tf5 := HG1.out.tf)))
      all_goals
        have HG2 := HG.out.more (g := g) (cap' := cap5) hd5' hv5 hn5 hl5 (by rw [hlen]; exact hown6) hgrow6 (by rw [World.size_alloc] at hat6; exact hat6) hlt6
        rw [hlen, ← List.take_succ_eq_append_getElem hlt] at HG2
        clear t36 tf6 hown6 hgrow6 hat6 hlt6 hv5 hn5 hl5 hd5 hd5' HG1 HO1 htl5 t35 tf5 c0 c1 c2 c3 hlen
        have HG3 : Hid (Gzo W0 _ (w.heap.size + 1 + 1) K N s _ _ _ _) := HG2
        go_wp2_with fail
        go_roundw
        case rel =>
          refine ⟨k + 1, _, _, _, ?_, by omega, HG3.out⟩
          go_num
        case measure => simp [intOf]; omega
    · go_wp2_with fail
      have hkm : m.take k = m := List.take_of_length_le (by omega)
      have hd := HG.out.done HM.out (.int .i64 K) (.int .i64 N) (.string s) (.slice ua k uc)
      rw [HS0.out, hkm] at hd
      refine bodyPost_ret (v := .agg #[.int .i64 K, .int .i64 N, .string s, .slice ua k uc]) (by simp [results, Tryz.results23, go_sem, hr0, hr1, hr2, hr3]) rfl ⟨_, rfl, hd.1.low (by omega), HDW.out.trans (hd.2.mono (by omega))⟩
theorem czO_all : ∀ t, CzO t := Tm.ind fun k n s l ih => czO_of k n s l ih
end Go.Proofs.YtfjaphhijefdlaaGreatDoor
namespace Go.Proofs.YtfjaphhijefdlaaGreatDoor.Tv
open Go.RowKit Atom
open Go.Proofs.YtfjaphhijefdlaaGreatDoor.Tr
set_option linter.unusedVariables false

theorem own_keep {w w' : World} {base : Nat} {T : TypeId} {size n : Nat} {v : Value} {xs : List Value} (h : w.ownsRow base T size v n xs) (hk : ∀ g, v.ownBlock = some g → w'.heap[g]? = w.heap[g]?) : w'.ownsRow base T size v n xs := by
  obtain ⟨h1, h2⟩ := h
  refine ⟨h1, ?_⟩
  rcases h2 with h2 | ⟨g', cap', cur, hv, hg, hh, r⟩
  · exact Or.inl h2
  · refine Or.inr ⟨g', cap', cur, hv, hg, ?_, r⟩
    rw [hk g' (by rw [hv]; rfl)]; exact hh
end Go.Proofs.YtfjaphhijefdlaaGreatDoor.Tv
namespace Go.Proofs.YtfjaphhijefdlaaGreatDoor.Tr
open Go.RowKit Atom
set_option linter.unusedVariables false

def okT (t : Tm) : Bool := (look t 6 100).isSome
def pidB (x : Int) : Bool := decide (1 ≤ x ∧ x ≤ 99999)
def atB (x : Int) : Bool := decide (0 ≤ x ∧ x ≤ 1000000000)
/-- A timer that is right. -/
def tmB (x : Sd) : Bool := atB x.kind && (pidB x.pid && okT x.t)

theorem isPid_any (x : Int) (w : World) : Calls Tryz.prog 15 #[.int .i64 x] w fun e w' => e = .returned (.bool (pidB x)) ∧ w' = w := by
  by_cases h1 : 1 ≤ x
  · by_cases h2 : x ≤ 99999
    · have q : pidB x = true := decide_eq_true ⟨h1, h2⟩
      have HQ : Hid (pidB x = true) := q
      clear q
      go_enter Tryz.func15, Tryz.ntmps15
      go_wp2
      go_ret
      exact ⟨ret_bool HQ.out.symm, rfl⟩
    · have HQ : Hid (pidB x = false) := decide_eq_false (by omega)
      go_enter Tryz.func15, Tryz.ntmps15
      go_wp2
      go_ret
      exact ⟨ret_bool HQ.out.symm, rfl⟩
  · have HQ : Hid (pidB x = false) := decide_eq_false (by omega)
    go_enter Tryz.func15, Tryz.ntmps15
    go_wp2
    go_ret
    exact ⟨ret_bool HQ.out.symm, rfl⟩

def cmpI (x y : Int) : Int := if x < y then -1 else if y < x then 1 else 0
theorem cmpInt_any (x y : Int) (w : World) :
    Calls Tryz.prog 43 #[.int .i64 x, .int .i64 y] w fun e w' => e = .returned (.int .i64 (cmpI x y)) ∧ w' = w := by
  by_cases h1 : x < y
  · have HC : Hid (cmpI x y = -1) := if_pos h1
    go_enter Tryz.func43, Tryz.ntmps43
    go_wp2_with (go_at_call 63; go_in)
    go_ret
    exact ⟨by rw [HC.out]; rfl, rfl⟩
  · by_cases h2 : y < x
    · have HC : Hid (cmpI x y = 1) := (if_neg h1).trans (if_pos h2)
      go_enter Tryz.func43, Tryz.ntmps43
      go_wp2_with (go_at_call 63; go_in)
      go_ret
      exact ⟨by rw [HC.out]; rfl, rfl⟩
    · have HC : Hid (cmpI x y = 0) := (if_neg h1).trans (if_neg h2)
      go_enter Tryz.func43, Tryz.ntmps43
      go_wp2_with (go_at_call 63; go_in)
      go_ret
      exact ⟨by rw [HC.out]; rfl, rfl⟩
end Go.Proofs.YtfjaphhijefdlaaGreatDoor.Tr
namespace Go.Proofs.YtfjaphhijefdlaaGreatDoor.Tr
open Go.RowKit Atom
set_option linter.unusedVariables false

/-- None of them is ahead of an earlier one. -/
def ordB (l : List Sd) : Bool := decide (∀ j, (hj : j < l.length) → (l[j - 1]'(Nat.lt_of_le_of_lt (Nat.sub_le _ _) hj)).kind ≤ l[j].kind)
def allB (l : List Sd) : Bool := l.all tmB
/-- Timers that are right. -/
def tmsB (l : List Sd) : Bool := decide (l.length ≤ 50) && (ordB l && allB l)
theorem ordB_no {l : List Sd} {j : Nat} (hj : j < l.length) (h : l[j].kind < (l[j - 1]'(Nat.lt_of_le_of_lt (Nat.sub_le _ _) hj)).kind) : ordB l = false :=
  decide_eq_false fun q => by have := q j hj; omega
theorem ordB_yes {l : List Sd} (h : ∀ j, (hj : j < l.length) → (l[j - 1]'(Nat.lt_of_le_of_lt (Nat.sub_le _ _) hj)).kind ≤ l[j].kind) : ordB l = true := decide_eq_true h
theorem allB_no {l : List Sd} {j : Nat} (hj : j < l.length) (h : tmB l[j] = false) : allB l = false := by
  unfold allB
  rw [List.all_eq_false]
  exact ⟨l[j], List.getElem_mem hj, by rw [h]; simp⟩
theorem allB_yes {l : List Sd} (h : ∀ j (hj : j < l.length), tmB l[j] = true) : allB l = true := by
  unfold allB
  rw [List.all_eq_true]
  intro x hx
  obtain ⟨j, hj, rfl⟩ := List.getElem_of_mem hx
  exact h j hj
theorem tmsB_no1 {l : List Sd} (h : ¬ l.length ≤ 50) : tmsB l = false := by unfold tmsB; rw [decide_eq_false h]; rfl
theorem tmsB_no2 {l : List Sd} (h : ordB l = false) : tmsB l = false := by unfold tmsB; rw [h]; simp
theorem tmsB_no3 {l : List Sd} (h : allB l = false) : tmsB l = false := by unfold tmsB; rw [h]; simp

end Go.Proofs.YtfjaphhijefdlaaGreatDoor.Tr
