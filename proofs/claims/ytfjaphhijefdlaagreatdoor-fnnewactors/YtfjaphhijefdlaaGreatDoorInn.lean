/-
  A region that draws its order and whose callees make new blocks and write nothing that was there: one walk in the order of the text.
-/
import Derived.Test.YtfjaphhijefdlaaGreatDoorArA
import Derived.Deep.Quiet
import Derived.BigQuiet
namespace Go.Proofs.YtfjaphhijefdlaaGreatDoor
open Go.RowKit
set_option linter.unusedVariables false

theorem below_join {a b c : World} (h : Below a.heap.size a b) (k : Below b.heap.size b c) : Below a.heap.size a c := h.trans (k.mono h.size)
/-- A world in which all stands that stood in W. -/
structure Inn (W : World) where
  val : World
  bel : Below W.heap.size W val

theorem inn_ne (W : World) : Nonempty (Inn W) := ⟨⟨W, Below.refl _ _⟩⟩
theorem Inn.keep {W : World} {b o : Nat} {v : Value} (h : W.cell? ⟨b, o, none⟩ = some v) (x : Inn W) : x.val.cell? ⟨b, o, none⟩ = some v :=
  (x.bel.cell (p := ⟨b, o, none⟩) (World.block_lt_of_cell? W _ h)).trans h

theorem calls_inn {P : Program} {f : FuncId} {args : Array Value} {W : World} {x : Inn W} {v : Value}
    (h : Calls P f args x.val fun e w' => e = .returned v ∧ Below x.val.heap.size x.val w') : Calls P f args x.val fun e w'' => e = .returned v ∧ ∃ y : Inn W, w'' = y.val :=
  h.mono fun _ w' ⟨he, hb⟩ => ⟨he, ⟨w', below_join x.bel hb⟩, rfl⟩
theorem calls_inn_same {P : Program} {f : FuncId} {args : Array Value} {W : World} {x : Inn W} {v : Value}
    (h : Calls P f args x.val fun e w' => e = .returned v ∧ w' = x.val) : Calls P f args x.val fun e w'' => e = .returned v ∧ ∃ y : Inn W, w'' = y.val :=
  h.mono fun _ w' ⟨he, hb⟩ => ⟨he, x, hb⟩

theorem wp_region_inn {P : Program} {id : Nat} {Q : Exit → Act → World → Prop} {a : Act} {w : World} {l : List Oper} (hm : P.follows .mixedOrders = true) (hB : Region.lexB .any l.toArray = true)
    (h : wpQuiet P l.toArray (fun w' => ∃ x : Inn w, w' = x.val) (fun a' => ∀ w', (∃ x : Inn w, w' = x.val) → Q .normal a' w') l a) : (Code.region id l.toArray true).wp P Q a w :=
  wp_region_quiet (C := fun w' => ∃ x : Inn w, w' = x.val) hm hB ⟨⟨_, (Below.refl w.heap.size w).drew⟩, rfl⟩ (by simpa using h)
end Go.Proofs.YtfjaphhijefdlaaGreatDoor
