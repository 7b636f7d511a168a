/-
  What is laid: where the program's variable shapes reads as its initialiser lays it, it holds the table; it reads the same behind a call that turns nothing old.
-/
import Derived.Test.YtfjaphhijefdlaaGreatDoorCoI
import Derived.Test.YtfjaphhijefdlaaGreatDoorTie
import Derived.Test.YtfjaphhijefdlaaGreatDoorCards
import Derived.Lib.LaidTab
import Derived.LaidMore
import Derived.OpenShut
import Derived.Deep.Strs
import Derived.ChangeVars
import Derived.Stop.Joined
import Derived.Stop.LaidErr
import Derived.SevenTiedAt
namespace Go.Proofs.YtfjaphhijefdlaaGreatDoor.Code
open Go.ChangeShapes Go.WideShapes Go.ChangeAt Go.RowKit
set_option linter.unusedVariables false

def rowD {H : Type} (k : Nat) : DataW H := .agg [.lit (.int .i64 ((k : Int) + 1)), .lit (.string (word (k + 1))), Lib.tabData .i64 [nm (k + 1) 0, nm (k + 1) 1, nm (k + 1) 2]]
theorem shapesD : (Rows.laid_loop_example_g00248_impl_shapes : DataW Unit) = .agg ((List.range 20).map rowD) := by kernel_rfl

set_option maxRecDepth 100000 in
theorem row_of_trod {H : Type} {enc : TypeId × Value → H} {w : World} {base : Nat} {sp : Nat → Bool} {held : Bool} {fuel : Nat} {cs : List Value} {k : Nat} {p : List MemPlace}
    (h : DataW.trod enc Tryz.prog w base sp held fuel 162 cs = some (rowD k, p)) : cs = rowL k := by
  obtain ⟨y0, y1, y2, n, hx, hl, h0, h1, h2⟩ := Deep.trod_struct3 Tryz.underlying162 h
  have c5 : Tryz.prog.cellsOf 162 = 5 := by kernel_rfl
  have c1 : Tryz.prog.cellsOf 3 = 1 := by kernel_rfl
  have cs1 : Tryz.prog.cellsOf 9 = 1 := by kernel_rfl
  have c3 : Tryz.prog.cellsOf 160 = 3 := by kernel_rfl
  have cl : Tryz.prog.cellsOf 158 = 1 := by kernel_rfl
  rw [c5] at hl
  match cs, hl with
  | [a, b, c, d, e], _ =>
    simp only [c1, cs1, c3] at h0 h1 h2
    simp only [List.drop, List.take] at h0 h1 h2
    obtain ⟨o, e0, f0, _⟩ := DataW.trod_int Tryz.underlying3 h0
    obtain ⟨u, e1, f1, _⟩ := DataW.trod_string Tryz.underlying9 h1
    simp only [Prod.mk.injEq, rowD, DataW.agg.injEq, List.cons.injEq] at hx
    obtain ⟨⟨g0, g1, g2, _⟩, _⟩ := hx
    rw [f0] at g0
    rw [f1] at g1
    have h2' : DataW.trod enc Tryz.prog w base sp held n 160 [c, d, e] = some (Lib.tabData .i64 [nm (k + 1) 0, nm (k + 1) 1, nm (k + 1) 2], y2.2) := by
      rw [h2, g2]
    have e2 := Lib.cells_of_tab Tryz.underlying160 (by kernel_rfl : Tryz.prog.underlying 158 = some (.int .i64)) cl c3 h2'
    simp only [DataW.lit.injEq, Lit.int.injEq, Lit.string.injEq, true_and] at g0 g1
    simp only [List.cons.injEq, and_true] at e0 e1
    rw [e0, e1, ← g0]
    simp only [List.map, List.cons.injEq, and_true] at e2
    obtain ⟨rfl, rfl, rfl⟩ := e2
    have hu : u = wordT (k + 1) := by
      unfold wordT
      rw [g1]
    rw [hu]; rfl

theorem chunks {f : Nat → List Value} : ∀ (n : Nat) (cs : List Value), cs.length = 5 * n → (∀ j, j < n → (cs.drop (j * 5)).take 5 = f j) → cs = (List.range n).flatMap f
  | 0, cs, h, _ => by simpa using h
  | n + 1, cs, h, hf => by
    have h1 := chunks (f := f) n (cs.take (5 * n)) (by simp; omega) (fun j hj => by
      rw [← hf j (by omega), List.drop_take, List.take_take]
      congr 1; omega)
    have h2 := hf n (by omega)
    rw [List.take_of_length_le (by simp; omega)] at h2
    rw [List.range_succ, List.flatMap_append, ← h1]
    simp only [List.flatMap_cons, List.flatMap_nil, List.append_nil]
    rw [← h2, Nat.mul_comm n 5, List.take_append_drop]

theorem shp_of_trod {H : Type} {enc : TypeId × Value → H} {W : World} {base : Nat} {sp : Nat → Bool} {held : Bool} {fuel : Nat} {cs : Array Value} {n : String} {p : List MemPlace}
    (hg : Tryz.prog.globalNamed n = some 1) (hv : W.var? Tryz.prog n = some cs) (h : DataW.trod enc Tryz.prog W base sp held fuel 185 cs.toList = some (.agg ((List.range 20).map rowD), p)) : Shp W := by
  obtain ⟨xs, m, _, hx, hl, hlen, hel⟩ := DataW.trod_array Tryz.underlying185 h
  have c5 : Tryz.prog.cellsOf 162 = 5 := by kernel_rfl
  have c100 : Tryz.prog.cellsOf 185 = 100 := by kernel_rfl
  rw [c100] at hl
  simp only [Prod.mk.injEq, DataW.agg.injEq] at hx
  have hcs : cs.toList = (List.range 20).flatMap rowL := by
    refine chunks 20 _ hl fun j hj => ?_
    have h1 := hel j hj
    rw [c5, List.getElem?_eq_getElem (by omega)] at h1
    have h2 : (xs[j]'(by omega)).1 = rowD j := by
      have := congrArg (fun l => l[j]?) hx.1
      simp only [List.getElem?_map, List.getElem?_range hj, List.getElem?_eq_getElem (show j < xs.length by omega), Option.map_some, Option.some.injEq] at this
      exact this.symm
    exact row_of_trod (p := (xs[j]'(by omega)).2) (by rw [h1, ← h2])
  have hcs' : cs = tabV := by
    unfold tabV; rw [← hcs]
  subst hcs'
  unfold World.var? at hv
  rw [hg] at hv
  simp only [Option.bind_some] at hv
  split at hv
  · rename_i c t f hh
    obtain rfl := Option.some.inj hv
    exact ⟨_, _, hh⟩
  · cases hv

theorem own : ownKnob Tryz.prog.godebug = none := by kernel_rfl
theorem laidOut : laidOutB Tryz.prog = true := by kernel_rfl

/-- The variable reads behind as it read ahead. -/
theorem vars_after {H : Type} {enc : TypeId × Value → H} {W W' : World} {n : String} {gs : List (DataW H)} {q : List MemPlace} (hn : Tryz.prog.globalNamed n = some 1) (hS : Shp W)
    (hV : DataW.TrodVars enc Tryz.prog W (fun _ => true) [n] gs q) (bel : Below W.heap.size W W') : ∃ q', DataW.TrodVars enc Tryz.prog W' (fun b => decide (b < W.heap.size)) [n] gs q' := by
  obtain ⟨g, t, cs, fuel, d, p, rfl, h1, h2, h3, h4, rfl⟩ := trodVars_one hV
  obtain rfl := Option.some.inj (hn.symm.trans h1)
  obtain rfl := Option.some.inj ((show (Tryz.prog.globals[1]?).map (·.type) = some 185 by kernel_rfl).symm.trans h2)
  have tr : DataW.Trod enc Tryz.prog W 0 (fun _ => true) true 185 (.agg cs) d p := ⟨fuel, by simpa [Value.cells] using h4⟩
  obtain ⟨fuel', h'⟩ := Below.trod laidOut (by kernel_rfl) (of_decide_eq_true (by kernel_rfl)) tr bel (DataW.trod_lt fuel _ _ _ h4)
  have h5 : W'.var? Tryz.prog n = some cs := by
    unfold World.var? at h3 ⊢
    rw [hn] at h3 ⊢
    simp only [Option.bind_some] at h3 ⊢
    rw [bel.block _ hS.lt]; exact h3
  exact ⟨_, trodVars_mk1 h1 h2 h5 (by simpa [Value.cells] using h')⟩
end Go.Proofs.YtfjaphhijefdlaaGreatDoor.Code
