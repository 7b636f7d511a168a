/-
  The program's iterator over all blocks: what it hands to whatever loop stands over it.
-/
import Derived.Test.YtmongbpdbcbhlaaTiA
import Derived.RangeFuncNested
import Derived.RangeFuncBound
import Derived.RangeFuncCalls
import Derived.RangeFuncLeaves
import Derived.Shelf.Abstract
import Derived.Shelf.RegionOpen
import Derived.OwnWalkIn
import Derived.TacticsInMore
import Derived.LoopNIn
import Derived.LoopIn
namespace Go.Proofs.Ytmongbpdbcbhlaa
open Go.RowKit Go.Shelf
set_option linter.unusedVariables false
attribute [local go_sem] Oper.semAt_some

/-- A block of these words. -/
abbrev BT (f : Nat → Int) (N : Nat) := { b : Nat × Nat × Bool // Blk f N b.1 b.2.1 b.2.2 }
/-- What the loop's variable holds. -/
def enB {f : Nat → Int} {N : Nat} (x : BT f N) : Array Value := #[.agg #[.int .i64 x.1.1, .int .i64 x.1.2.1, .bool x.1.2.2]]
def unB {f : Nat → Int} {N : Nat} (xs : List (BT f N)) : List (Nat × Nat × Bool) := xs.map (·.1)
/-- What the iterator reads: the arena in its box, the arena's words below n₀. -/
structure Hld (n₀ Bn : Nat) (ao : Option Addr) (N cap : Nat) (f : Nat → Int) (W : World) : Prop where
  box : Boxed W Bn 26 (.slice ao N cap)
  rd : Rd W ao N f
  low : N ≠ 0 → ∀ a, ao = some a → a.block < n₀
/-- What a round that goes on keeps: all below n₀, the boxes of arenas, blocks and yields, and what is no cells from S on. -/
structure KB (n₀ S : Nat) (A B : World) : Prop where
  bel : Below n₀ A B
  box : ∀ (k : Nat) (cs : Array Value) (t : TypeId) (r : Nat × Nat), A.heap[k]? = some (Obj.cells cs t r) → t = 26 ∨ t = 54 ∨ t = 89 → B.heap[k]? = some (Obj.cells cs t r)
  book : ∀ (k : Nat) (o : Obj), S ≤ k → A.heap[k]? = some o → o.isCells = false → B.heap[k]? = some o
theorem KB.refl (n₀ S : Nat) (A : World) : KB n₀ S A A := ⟨Below.refl _ _, fun _ _ _ _ h _ => h, fun _ _ _ h _ => h⟩
theorem KB.trans {n₀ S : Nat} {A B C : World} (h : KB n₀ S A B) (k : KB n₀ S B C) : KB n₀ S A C := ⟨h.bel.trans k.bel, fun i cs t r hi ht => k.box i cs t r (h.box i cs t r hi ht) ht, fun i o hs hi hc => k.book i o hs (h.book i o hs hi hc) hc⟩
theorem KB.up {n₀ S T : Nat} {A B : World} (h : KB n₀ S A B) (hs : S ≤ T) : KB n₀ T A B := ⟨h.bel, h.box, fun k o hk => h.book k o (by omega)⟩
theorem KB.put {n₀ S : Nat} {w : World} (hn : n₀ ≤ w.heap.size) (W : World) (l : Nat) (o o' : Obj) (hl : w.heap.size ≤ l) (hS : l < S) (h : W.heap[l]? = some o) (hc : o.isCells = false) (hw : o.isWalk = false) : KB n₀ S W (W.putObj l o') :=
  ⟨belowK_b hn W l o o' hl h hc hw, fun k cs t r hk _ => by
    rw [World.putObj_heap_other (fun e => by subst e; rw [hk] at h; cases h; cases hc)]; exact hk,
   fun k o2 hk h2 _ => by rw [World.putObj_heap_other (by omega)]; exact h2⟩
theorem KB.of_below {n₀ S : Nat} {A B : World} (h : Below A.heap.size A B) (hn : n₀ ≤ A.heap.size) : KB n₀ S A B :=
  ⟨h.mono hn, fun k cs t r hk _ => (h.block k (Array.getElem?_eq_some_iff.1 hk).1).trans hk, fun k o _ hk _ => (h.block k (Array.getElem?_eq_some_iff.1 hk).1).trans hk⟩
theorem KB.from {n₀ S B : Nat} {A C : World} (h : KB n₀ S A C) (hb : S ≤ B) (hs : A.heap.size ≤ C.heap.size) : KeepsFrom B A C := ⟨hs, fun k o hk h1 h2 => h.book k o (by omega) h1 h2⟩
/-- A store into a box of a number's or a list's kind. -/
theorem KB.set {n₀ S : Nat} {A : World} {X : Nat} {t : TypeId} {v : Value} (h : Boxed A X t v) (hn : n₀ ≤ X) (h1 : t ≠ 26) (h2 : t ≠ 54) (h3 : t ≠ 89) (u : Value) : KB n₀ S A (A.setCell ⟨X, 0, none⟩ u) :=
  ⟨(Below.refl n₀ A).setCell (p := ⟨X, 0, none⟩) hn _, fun k cs t' r hk ht => (Below.heap_setCell A ⟨X, 0, none⟩ u k (by
    show k ≠ X
    intro e; subst e
    have h : A.heap[k]? = _ := h
    rw [hk] at h; injection h with h; injection h with a b c; subst b; exact ht.elim h1 (fun q => q.elim h2 h3))).trans hk,
   fun k o _ hk hc => (KeepsOthers.setCell A ⟨X, 0, none⟩ u).same k o hk hc⟩
theorem Hld.kb {n₀ Bn : Nat} {ao : Option Addr} {N cap : Nat} {f : Nat → Int} {A B : World} (h : Hld n₀ Bn ao N cap f A) {S : Nat} (k : KB n₀ S A B) : Hld n₀ Bn ao N cap f B :=
  ⟨k.box _ _ _ _ h.box (.inl rfl), fun hn => by
    obtain ⟨b, o, e, hc⟩ := h.rd hn
    exact ⟨b, o, e, fun j hj => (k.bel.cell (p := ⟨b, o + j, none⟩) (show b < n₀ from h.low hn _ e)).trans (hc j hj)⟩, h.low⟩
theorem Hld.below {n₀ Bn : Nat} {ao : Option Addr} {N cap : Nat} {f : Nat → Int} {W W' : World} (h : Hld n₀ Bn ao N cap f W) (hb : Below W.heap.size W W') : Hld n₀ Bn ao N cap f W' :=
  ⟨(hb.block Bn h.box.lt).trans h.box, h.rd.below hb, h.low⟩
theorem grown_of_below {W W' : World} (h : Below W.heap.size W W') : W.grownBy W' none := ⟨h.os, h.tape, h.output, h.size, fun k hk _ => h.block k hk⟩

/-- A box that holds a block. -/
def Boxed3 (W : World) (X p m : Nat) (u : Bool) : Prop := W.heap[X]? = some (.cells #[.int .i64 p, .int .i64 m, .bool u] 54 (0, 0))
theorem Boxed3.cells {W : World} {X p m : Nat} {u : Bool} (h : Boxed3 W X p m u) : W.cell? ⟨X, 0, none⟩ = some (.int .i64 p) ∧ W.cell? ⟨X, 1, none⟩ = some (.int .i64 m) ∧ W.cell? ⟨X, 2, none⟩ = some (.bool u) := by
  have h : W.heap[X]? = _ := h
  refine ⟨?_, ?_, ?_⟩ <;> simp [World.cell?, h]

theorem end_any (p n : Nat) (u : Bool) (hp : p ≤ 4000) (hn : n ≤ 4000) (w : World) :
    Calls Try.prog 32 #[.agg #[.int .i64 p, .int .i64 n, .bool u]] w fun e w' => e = .returned (.int .i64 (p + n + 3 : Nat)) ∧ Below w.heap.size w w' := by
  go_enter Try.func32, Try.ntmps32
  go_wp2_with fail
  go_ret
  exact ⟨ret_int (by omega), (Below.refl _ _).alloc (Nat.le_refl _) _⟩

set_option maxRecDepth 100000 in
set_option maxHeartbeats 4000000 in
theorem each1_in (n : Nat) (hn : 1 ≤ n) (l Bn : Nat) (ao : Option Addr) (N cap : Nat) (f : Nat → Int) (hN : N ≤ 1048576) (hcap : N ≤ cap) (n₀ S : Nat) (J Jx : List (BT f N) → World → Prop)
    (W : World) (hJ : AbidesFrom W.heap.size J)
    (hY : ∀ pre x W1, J pre W1 → pre.length < N → YieldAt Fence.wide (n - 1) Try.prog l (enB x) W1 fun e W' =>
      (e = .returned (.bool true) ∧ J (pre ++ [x]) W' ∧ KB n₀ S W1 W') ∨ (e = .returned (.bool false) ∧ Jx (pre ++ [x]) W'))
    (hH : Hld n₀ Bn ao N cap f W) (h0 : J [] W) :
    CallsIn Fence.wide n Try.prog 70 #[.func (.yield l) #[] #[], .pointer (some ⟨Bn, 0, none⟩)] W fun e W' => (∃ v, e = .returned v) ∧
      ((∃ ys, unB ys = bk f N 0 ∧ J ys W') ∨ (∃ pre, (∃ rest, unB pre ++ rest = bk f N 0) ∧ Jx pre W')) := by
  refine callsIn_of_wp Try.func70 rfl trivial ?_ rfl
  simp only [Try.ntmps70, List.size_toArray, List.length_cons, List.length_nil, Nat.reduceAdd, Nat.reduceSub, Array.replicate_succ, Array.replicate_zero, List.push_toArray, List.append_toArray, List.nil_append, List.cons_append]
  have HH : Hid (Hld n₀ Bn ao N cap f W) := hH
  have HJ0 : Hid (J [] W) := h0
  have HY : Hid (∀ pre x W1, J pre W1 → pre.length < N → YieldAt Fence.wide (n - 1) Try.prog l (enB x) W1 fun e W' =>
      (e = .returned (.bool true) ∧ J (pre ++ [x]) W' ∧ KB n₀ S W1 W') ∨ (e = .returned (.bool false) ∧ Jx (pre ++ [x]) W')) := hY
  have HJ : Hid (AbidesFrom W.heap.size J) := hJ
  clear hH h0 hY hJ
  gi_wp2
  gi_loopw [3] (fun a wr => ∃ (p : Nat) (pre : List (BT f N)), p ≤ N ∧ a = .int .i64 p ∧ pre.length * 4 ≤ p ∧ unB pre ++ bk f N p = bk f N 0 ∧ Hld n₀ Bn ao N cap f wr ∧ J pre wr) (fun a _ => N - (intOf a).toNat)
  case atStart => exact ⟨0, [], Nat.zero_le _, rfl, Nat.le_refl _, rfl, HH.out, HJ0.out⟩
  case round =>
    obtain ⟨p, pre, hp, rfl, hlen, hap, hh, hj⟩ := hrel
    have HAP : Hid (unB pre ++ bk f N p = bk f N 0) := hap
    have HHr : Hid (Hld n₀ Bn ao N cap f wr) := hh
    have HJr : Hid (J pre wr) := hj
    have b0 := hh.box.cell
    clear hap hh hj
    gi_wp2
    refine ⟨trivial, (callsIn_wide.2 (implAt_any ao N cap f p wr HHr.out.rd hN hcap)).mono ?_⟩
    rintro e w1 ⟨rfl, hb1⟩
    have HH1 : Hid (Hld n₀ Bn ao N cap f w1) := HHr.out.below hb1
    have HJ1 : Hid (J pre w1) := HJ.out _ _ _ none HJr.out (grown_of_below hb1) (fun r e => by cases e)
    clear hb1 b0
    cases hB : blkO f N p with
    | none =>
      have HO : Hid (unB pre = bk f N 0) := by have := HAP.out; rw [bk_nil hB, List.append_nil] at this; exact this
      clear hB
      dsimp only [bv]
      gi_wp2
      refine ⟨fun _ h => (by cases h), ?_⟩
      gi_wp2
      refine bodyPost_ret (results_none rfl _ _ _) rfl ?_
      exact ⟨⟨_, rfl⟩, .inl ⟨pre, HO.out, HJ.out _ _ _ none HJ1.out (World.grownBy_alloc _ _ none) (fun r e => by cases e)⟩⟩
    | some x =>
      obtain ⟨m, u⟩ := x
      have hBk := blkO_of hB
      have hfit := hBk.fit
      have h1 := hBk.h1
      have h4 := hBk.hp
      have h5 := hBk.hn
      have HN : Hid (unB (pre ++ [⟨(p, m, u), hBk⟩]) ++ bk f N (p + m + 3) = bk f N 0) := by have := HAP.out; rw [bk_cons hB] at this; unfold unB at this ⊢; rw [List.map_append, List.append_assoc]; exact this
      have hbn := (Below.refl w1.heap.size w1).alloc (Nat.le_refl _) (.cells #[.int .i64 p, .int .i64 m, .bool u] 54)
      have HH2 : Hid (Hld n₀ Bn ao N cap f (w1.alloc (.cells #[.int .i64 p, .int .i64 m, .bool u] 54))) := HH1.out.below hbn
      have HJ2 : Hid (J pre (w1.alloc (.cells #[.int .i64 p, .int .i64 m, .bool u] 54))) := HJ.out _ _ _ none HJ1.out (World.grownBy_alloc _ _ none) (fun r e => by cases e)
      obtain ⟨fn, tmps, assign, body, hy, hR⟩ := HY.out pre ⟨(p, m, u), hBk⟩ _ HJ2.out (by omega)
      dsimp only [enB] at hy
      clear hB hbn
      dsimp only [bv]
      gi_wp2
      have hbx : Boxed3 (w1.alloc (.cells #[.int .i64 p, .int .i64 m, .bool u] 54)) w1.heap.size p m u := World.alloc_heap_new _ _
      clear hy
      generalize (w1.alloc (.cells #[.int .i64 p, .int .i64 m, .bool u] 54)) = w2 at HH2 HJ2 hbx hR ⊢
      generalize w1.heap.size = X at hbx ⊢
      have HX : Hid (Boxed3 w2 X p m u) := hbx
      clear hbx HJ1 HH1
      refine hR.mono ?_
      rintro e W3 (⟨rfl, hJ3, hk3⟩ | ⟨rfl, hJx3⟩)
      · have hx3 : Boxed3 W3 X p m u := hk3.box _ _ _ _ HX.out (.inr (.inl rfl))
        obtain ⟨q0, q1, q2⟩ := hx3.cells
        have HH3 : Hid (Hld n₀ Bn ao N cap f W3) := HH2.out.kb hk3
        have HJ3 : Hid (J (pre ++ [⟨(p, m, u), hBk⟩]) W3) := hJ3
        clear hJ3 hk3 hx3 hR
        gi_wp2
        refine ⟨trivial, (callsIn_wide.2 (end_any p m u h4 h5 W3)).mono ?_⟩
        rintro e w4 ⟨rfl, hb4⟩
        have HH4 : Hid (Hld n₀ Bn ao N cap f w4) := HH3.out.below hb4
        have HJ4 : Hid (J (pre ++ [⟨(p, m, u), hBk⟩]) w4) := HJ.out _ _ _ none HJ3.out (grown_of_below hb4) (fun r e => by cases e)
        clear hb4 q0 q1 q2
        gi_wp2
        go_roundw
        case rel => exact ⟨p + m + 3, pre ++ [⟨(p, m, u), hBk⟩], hfit, rfl, by rw [List.length_append, List.length_singleton]; omega, HN.out, HH4.out, HJ4.out⟩
        case measure => simp [intOf]; omega
      · have HJx : Hid (Jx (pre ++ [⟨(p, m, u), hBk⟩]) W3) := hJx3
        clear hJx3 hR
        gi_wp2
        refine bodyPost_ret (results_none rfl _ _ _) rfl ?_
        exact ⟨⟨_, rfl⟩, .inr ⟨pre ++ [⟨(p, m, u), hBk⟩], ⟨_, HN.out⟩, HJx.out⟩⟩

theorem each_in (n : Nat) (ao : Option Addr) (N cap : Nat) (w : World) :
    CallsIn Fence.wide n Try.prog 41 #[.agg #[.slice ao N cap]] w fun e w' => e = .returned (.func (.func 70) #[] #[.pointer (some ⟨w.heap.size, 0, none⟩)]) ∧ w' = w.alloc (.cells #[.slice ao N cap] 26) := by
  refine callsIn_of_wp Try.func41 rfl trivial ?_ rfl
  simp only [Try.ntmps41, List.size_toArray, List.length_cons, List.length_nil, Nat.reduceAdd, Nat.reduceSub, Array.replicate_succ, Array.replicate_zero, List.push_toArray, List.append_toArray, List.nil_append, List.cons_append]
  gi_wp2
  go_ret
  exact ⟨rfl, rfl⟩

/-- All blocks, in their order; or the first ones, where a round has said 'no more'. -/
theorem each_stops (n : Nat) (hn : 1 ≤ n) (n₀ S Bn : Nat) (ao : Option Addr) (N cap : Nat) (f : Nat → Int) (hN : N ≤ 1048576) (hcap : N ≤ cap) (w : World) (hH : Hld n₀ Bn ao N cap f w) :
    SeqStopsK Fence.wide n Try.prog 70 #[.pointer (some ⟨Bn, 0, none⟩)] (enB (f := f) (N := N)) (KB n₀ S) (fun ys => unB ys = bk f N 0) (fun pre => ∃ rest, unB pre ++ rest = bk f N 0) N w := fun l J Jx W hW hJ _ hY h0 =>
  each1_in n hn l Bn ao N cap f hN hcap n₀ S J Jx W hJ hY (hH.below hW) h0
end Go.Proofs.Ytmongbpdbcbhlaa
