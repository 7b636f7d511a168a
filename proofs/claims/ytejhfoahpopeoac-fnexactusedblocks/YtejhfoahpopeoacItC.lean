/-
  The program's iterator over the free blocks, which goes over the one over all blocks.
-/
import Derived.Test.YtejhfoahpopeoacItB
namespace Go.Proofs.Ytejhfoahpopeoac
open Go.RowKit Go.Shelf
set_option linter.unusedVariables false
attribute [local go_sem] Oper.semAt_some

def isFree (b : Nat × Nat × Bool) : Bool := !b.2.2
noncomputable def fk (f : Nat → Int) (N : Nat) : List (Nat × Nat × Bool) := (bk f N 0).filter isFree
def frs {f : Nat → Int} {N : Nat} (xs : List (BT f N)) : List (BT f N) := xs.filter fun x => isFree x.1
theorem unB_frs {f : Nat → Int} {N : Nat} (xs : List (BT f N)) : unB (frs xs) = (unB xs).filter isFree := by
  unfold unB frs
  rw [List.filter_map]
  rfl
theorem frs_snoc {f : Nat → Int} {N : Nat} (xs : List (BT f N)) (x : BT f N) : frs (xs ++ [x]) = if isFree x.1 then frs xs ++ [x] else frs xs := by
  unfold frs
  rw [List.filter_append]
  by_cases h : isFree x.1 = true <;> simp [h]
theorem OwnFrom.up {β : Type} {B C : Nat} {J : β → World → Prop} (h : OwnFrom B J) (hc : B ≤ C) : OwnFrom C J := fun s X Y row hs hg hr => h s X Y row hs hg fun r e => ⟨Nat.le_trans hc (hr r e).1, (hr r e).2⟩
theorem boxed3_own {β : Type} (X p m : Nat) (u : Bool) : Own (fun (_ : β) W => Boxed3 W X p m u) := fun s A C row hs hg hrow => by
  have h : A.heap[X]? = _ := hs
  refine (hg.block X (Array.getElem?_eq_some_iff.1 h).1 (fun e => ?_)).trans h
  obtain ⟨o, ho, hc⟩ := hrow X e.symm
  rw [h] at ho
  cases ho
  cases hc
theorem Boxed3.new (W : World) (p m : Nat) (u : Bool) : Boxed3 (W.alloc (.cells #[.int .i64 p, .int .i64 m, .bool u] 41)) W.heap.size p m u := World.alloc_heap_new W _
theorem round_any {m m' : Nat} {l l2 : Nat} {fn : FuncId} {tmps : Array Value} {assign body : Code} {w : World} {R : Ending → World → Prop} (h : RoundIn Fence.wide m Try.prog l fn tmps assign body w R) : RoundIn (Fence.wide.inRound l2) m' Try.prog l fn tmps assign body w R :=
  ⟨trivial, fun c cs _ => h.2 c cs (fun d hd => by cases hd)⟩

end Go.Proofs.Ytejhfoahpopeoac
