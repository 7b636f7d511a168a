/-
  What was said, drawn: what DrawNoRooms answers.
-/
import Derived.Test.YtnfncdoiabgdjaaNrA
import Derived.Deep.RegionHeld3
namespace Go.Proofs.Ytnfncdoiabgdjaa.Nr
open Go.RowKit
set_option linter.unusedVariables false

def nrB : ByteArray := ⟨#[110, 111, 114, 111, 111, 109]⟩
def NR : Tm := .mk 2 0 nrB []
def SnOk (x : Sn) : Prop := 1 ≤ x.kind ∧ x.kind ≤ 3 ∧ x.pid = 1 ∧ (RtT 1 x.t ∨ x.t = NR)
theorem infoSaid : (Try.prog.info? 31).map (fun i => (i.zero, i.size, i.bytes)) = some (some (.agg #[.int .i64 0, .int .i64 0, .int .i64 0, .int .i64 0, .string ⟨#[]⟩, .slice none 0 0]), 6, 72) := by kernel_rfl
theorem undSaidS : Try.prog.underlying 24 = some (.slice 31) := by kernel_rfl
/-- The list while it is drawn. -/
structure Gn (cb : Nat) (ao : Option Addr) (len cap : Nat) (zs : List Int) (B : Nat) (w wr : World) (l : List Sn) (u : Value) (xs : List Value) : Prop where
  drawn : Drawn cb ao len cap zs w wr
  old : cb < B
  wB : B ≤ wr.heap.size
  wl : w.heap.size ≤ B
  own : wr.ownsRow B 31 6 u l.length xs
  row : RowN (fun b => B ≤ b ∧ u.ownBlock ≠ some b) wr l xs
  ok : ∀ x ∈ l, SnOk x
theorem Gn.turn {cb : Nat} {ao : Option Addr} {len cap : Nat} {zs : List Int} {B : Nat} {w wr w1 : World} {l : List Sn} {u : Value} {xs : List Value} (h : Gn cb ao len cap zs B w wr l u xs) (hd : Drawn cb ao len cap zs wr w1) : Gn cb ao len cap zs B w w1 l u xs :=
  ⟨⟨hd.1, h.drawn.2.trans hd.2⟩, h.old, Nat.le_trans h.wB hd.2.size, h.wl, h.own.kept hd.2.grown (Or.inr (fun e => by have := (h.own.lt cb e).1; have := h.old; omega)), h.row.move (Moves.turn (fun b hb e => by have := h.old; have := hb.1; omega) hd.2), h.ok⟩
theorem Gn.form {cb : Nat} {ao : Option Addr} {len cap : Nat} {zs : List Int} {B : Nat} {w wr : World} {l : List Sn} {u : Value} {xs : List Value} (h : Gn cb ao len cap zs B w wr l u xs) : ∃ a c, u = .slice a l.length c := by
  obtain ⟨_, hh | ⟨g, c, cur, e1, _⟩⟩ := h.own
  · exact ⟨none, 0, by rw [hh.1, hh.2]⟩
  · exact ⟨_, c, e1⟩
theorem Gn.more {cb : Nat} {ao : Option Addr} {len cap : Nat} {zs : List Int} {B : Nat} {w w1 w2 : World} {l : List Sn} {u : Value} {xs : List Value} (h : Gn cb ao len cap zs B w w1 l u xs) {S : Nat → Prop} {x : Sn} {a b c d : Value} (hv : RpV S w1 x.t (.agg #[a, b, c, d])) (hS : ∀ p, S p → B ≤ p ∧ u.ownBlock ≠ some p) (hx : SnOk x) {o : Obj}
    {g cap' : Nat} (hown : w2.ownsRow B 31 6 (.slice (some ⟨g, 0, none⟩) (l.length + 1) cap') (l.length + 1) (xs ++ [.int .i64 x.kind, .int .i64 x.pid, a, b, c, d])) (hgrow : (w1.alloc o).grownBy w2 u.ownBlock) (hat : u.ownBlock = some g ∨ g = w1.heap.size + 1) :
    Gn cb ao len cap zs B w w2 (l ++ [x]) (.slice (some ⟨g, 0, none⟩) (l.length + 1) cap') (xs ++ [.int .i64 x.kind, .int .i64 x.pid, a, b, c, d]) := by
  have hs1 : (w1.alloc o).heap.size = w1.heap.size + 1 := World.size_alloc _ _
  have hold := h.old
  have hwB := h.wB
  have hcell : ∀ p o' v, some p ≠ u.ownBlock → w1.cell? ⟨p, o', none⟩ = some v → w2.cell? ⟨p, o', none⟩ = some v := fun p o' v hp hc => by
    have hpl := World.block_lt_of_cell? w1 _ hc
    rw [hgrow.cell_far ⟨p, o', none⟩ (by rw [hs1]; exact Nat.lt_succ_of_lt hpl) hp, World.cell?_alloc_lt (h := hpl)]; exact hc
  have hmv : Moves (fun b => B ≤ b ∧ u.ownBlock ≠ some b) (fun b => B ≤ b ∧ (Value.slice (some ⟨g, 0, none⟩) (l.length + 1) cap').ownBlock ≠ some b) w1 w2 := fun p o' v hp hc => by
    have hpl : p < w1.heap.size := World.block_lt_of_cell? w1 _ hc
    refine ⟨⟨hp.1, fun e => ?_⟩, hcell p o' v (fun e => hp.2 e.symm) hc⟩
    simp only [Value.ownBlock, Option.some.injEq] at e
    subst e
    rcases hat with hat | hat
    · exact hp.2 hat
    · omega
  have hkb : ∀ k, k < B → w2.heap[k]? = w1.heap[k]? := fun k hk => by
    rw [hgrow.block k (by rw [hs1]; omega) (fun e => by have := (h.own.lt k e.symm).1; omega)]
    show (w1.heap.push _)[k]? = _
    rw [Array.getElem?_push, if_neg (by omega)]
  have hz2 : w1.heap.size + 1 ≤ w2.heap.size := by rw [← hs1]; exact hgrow.size
  have t := h.drawn.2
  refine ⟨⟨h.drawn.1.same (fun b hb => hkb b (by omega)), ⟨hgrow.os.trans t.os, hgrow.tape.trans t.tape, hgrow.output.trans t.output, by have := t.size; omega, fun k hkl hkn => ?_⟩⟩, h.old, by omega, h.wl, by rw [List.length_append]; exact hown, (h.row.move hmv).snoc ((Moves.repV (fun p o' v hp hc => ?_) hv)), ?_⟩
  · have hkw : k < w1.heap.size := Nat.lt_of_lt_of_le hkl t.size
    by_cases he : u.ownBlock = some k
    · have := (h.own.lt k he).1
      have := h.wl
      omega
    · rw [hgrow.block k (by rw [hs1]; omega) (fun e => he e.symm)]
      have : (w1.heap.push o)[k]? = w1.heap[k]? := by rw [Array.getElem?_push, if_neg (by omega)]
      exact this.trans (t.block k hkl hkn)
  · exact hmv p o' v (hS p hp) hc
  · intro y hy
    rcases List.mem_append.1 hy with hy | hy
    · exact h.ok y hy
    · have : y = x := by simpa using hy
      subst this; exact hx
end Go.Proofs.Ytnfncdoiabgdjaa.Nr
