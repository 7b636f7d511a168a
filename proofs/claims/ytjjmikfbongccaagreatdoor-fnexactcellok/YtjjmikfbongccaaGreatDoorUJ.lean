/-
  At every list of instructions, every cell, every pair of lists with its mark and all atoms the program's CellOk answers as the specification's, and writes into no argument: the law FnExactCellOk returns true and its arguments read as before. The program's variable shapes, three tables and the type of error of Go's library hold what their initialisers lay.
  (Ahead of it, in this text: What is laid: where the program's variable shapes reads as its initialiser lays it, it holds the table; it reads the same behind a call that turns nothing old. An instruction that came in, opened; what the frames of the laws on code share. What is laid, for the laws on texts. A row of instructions that came in, opened; what is laid, for the laws on code.)
-/
import Derived.Test.YtjjmikfbongccaaGreatDoorCoI
import Derived.Test.YtjjmikfbongccaaGreatDoorTie
import Derived.Test.YtjjmikfbongccaaGreatDoorCards
import Derived.Lib.LaidTab
import Derived.LaidMore
import Derived.OpenShut
import Derived.Deep.Strs
import Derived.ChangeVars
import Derived.Stop.Joined
import Derived.Stop.LaidErr
import Derived.SevenTiedAt
import Derived.Test.YtjjmikfbongccaaGreatDoorCoM
import Derived.Test.YtjjmikfbongccaaGreatDoorCtC
import Derived.Test.YtjjmikfbongccaaGreatDoorCkB
import Derived.Test.YtjjmikfbongccaaGreatDoorCkC
import Derived.LaidHandle
import Derived.Deep.Slices
import Derived.Test.YtjjmikfbongccaaGreatDoorUI
import Derived.ChangeOld
import Derived.SliceStrings
import Derived.ShutString
namespace Go.Proofs.YtjjmikfbongccaaGreatDoor.Code
open Go.ChangeShapes Go.WideShapes Go.ChangeAt Go.RowKit
set_option linter.unusedVariables false

def rowD {H : Type} (k : Nat) : DataW H := .agg [.lit (.int .i64 ((k : Int) + 1)), .lit (.string (word (k + 1))), Lib.tabData .i64 [nm (k + 1) 0, nm (k + 1) 1, nm (k + 1) 2]]
theorem shapesD : (Rows.laid_loop_example_g00248_impl_shapes : DataW Unit) = .agg ((List.range 20).map rowD) := by kernel_rfl

set_option maxRecDepth 100000 in
theorem row_of_trod {H : Type} {enc : TypeId × Value → H} {w : World} {base : Nat} {sp : Nat → Bool} {held : Bool} {fuel : Nat} {cs : List Value} {k : Nat} {p : List MemPlace}
    (h : DataW.trod enc Tryz.prog w base sp held fuel 150 cs = some (rowD k, p)) : cs = rowL k := by
  obtain ⟨y0, y1, y2, n, hx, hl, h0, h1, h2⟩ := Deep.trod_struct3 Tryz.underlying150 h
  have c5 : Tryz.prog.cellsOf 150 = 5 := by kernel_rfl
  have c1 : Tryz.prog.cellsOf 3 = 1 := by kernel_rfl
  have cs1 : Tryz.prog.cellsOf 9 = 1 := by kernel_rfl
  have c3 : Tryz.prog.cellsOf 148 = 3 := by kernel_rfl
  have cl : Tryz.prog.cellsOf 146 = 1 := by kernel_rfl
  rw [c5] at hl
  match cs, hl with
  | [a, b, c, d, e], _ =>
    simp only [c1, cs1, c3] at h0 h1 h2
    simp only [List.drop, List.take] at h0 h1 h2
    obtain ⟨o, e0, f0, _⟩ := DataW.trod_int Tryz.underlying3 h0
    obtain ⟨u, e1, f1, _⟩ := DataW.trod_string Tryz.underlying9 h1
    simp only [Prod.mk.injEq, rowD, DataW.agg.injEq, List.cons.injEq] at hx
    obtain ⟨⟨g0, g1, g2, _⟩, _⟩ := hx
    rw [f0] at g0
    rw [f1] at g1
    have h2' : DataW.trod enc Tryz.prog w base sp held n 148 [c, d, e] = some (Lib.tabData .i64 [nm (k + 1) 0, nm (k + 1) 1, nm (k + 1) 2], y2.2) := by
      rw [h2, g2]
    have e2 := Lib.cells_of_tab Tryz.underlying148 (by kernel_rfl : Tryz.prog.underlying 146 = some (.int .i64)) cl c3 h2'
    simp only [DataW.lit.injEq, Lit.int.injEq, Lit.string.injEq, true_and] at g0 g1
    simp only [List.cons.injEq, and_true] at e0 e1
    rw [e0, e1, ← g0]
    simp only [List.map, List.cons.injEq, and_true] at e2
    obtain ⟨rfl, rfl, rfl⟩ := e2
    have hu : u = wordT (k + 1) := by
      unfold wordT
      rw [g1]
    rw [hu]; rfl

theorem chunks {f : Nat → List Value} : ∀ (n : Nat) (cs : List Value), cs.length = 5 * n → (∀ j, j < n → (cs.drop (j * 5)).take 5 = f j) → cs = (List.range n).flatMap f
  | 0, cs, h, _ => by simpa using h
  | n + 1, cs, h, hf => by
    have h1 := chunks (f := f) n (cs.take (5 * n)) (by simp; omega) (fun j hj => by
      rw [← hf j (by omega), List.drop_take, List.take_take]
      congr 1; omega)
    have h2 := hf n (by omega)
    rw [List.take_of_length_le (by simp; omega)] at h2
    rw [List.range_succ, List.flatMap_append, ← h1]
    simp only [List.flatMap_cons, List.flatMap_nil, List.append_nil]
    rw [← h2, Nat.mul_comm n 5, List.take_append_drop]

theorem shp_of_trod {H : Type} {enc : TypeId × Value → H} {W : World} {base : Nat} {sp : Nat → Bool} {held : Bool} {fuel : Nat} {cs : Array Value} {n : String} {p : List MemPlace}
    (hg : Tryz.prog.globalNamed n = some 1) (hv : W.var? Tryz.prog n = some cs) (h : DataW.trod enc Tryz.prog W base sp held fuel 174 cs.toList = some (.agg ((List.range 20).map rowD), p)) : Shp W := by
  obtain ⟨xs, m, _, hx, hl, hlen, hel⟩ := DataW.trod_array Tryz.underlying174 h
  have c5 : Tryz.prog.cellsOf 150 = 5 := by kernel_rfl
  have c100 : Tryz.prog.cellsOf 174 = 100 := by kernel_rfl
  rw [c100] at hl
  simp only [Prod.mk.injEq, DataW.agg.injEq] at hx
  have hcs : cs.toList = (List.range 20).flatMap rowL := by
    refine chunks 20 _ hl fun j hj => ?_
    have h1 := hel j hj
    rw [c5, List.getElem?_eq_getElem (by omega)] at h1
    have h2 : (xs[j]'(by omega)).1 = rowD j := by
      have := congrArg (fun l => l[j]?) hx.1
      simp only [List.getElem?_map, List.getElem?_range hj, List.getElem?_eq_getElem (show j < xs.length by omega), Option.map_some, Option.some.injEq] at this
      exact this.symm
    exact row_of_trod (p := (xs[j]'(by omega)).2) (by rw [h1, ← h2])
  have hcs' : cs = tabV := by
    unfold tabV; rw [← hcs]
  subst hcs'
  unfold World.var? at hv
  rw [hg] at hv
  simp only [Option.bind_some] at hv
  split at hv
  · rename_i c t f hh
    obtain rfl := Option.some.inj hv
    exact ⟨_, _, hh⟩
  · cases hv

theorem own : ownKnob Tryz.prog.godebug = none := by kernel_rfl
theorem laidOut : laidOutB Tryz.prog = true := by kernel_rfl

/-- The variable reads behind as it read ahead. -/
theorem vars_after {H : Type} {enc : TypeId × Value → H} {W W' : World} {n : String} {gs : List (DataW H)} {q : List MemPlace} (hn : Tryz.prog.globalNamed n = some 1) (hS : Shp W)
    (hV : DataW.TrodVars enc Tryz.prog W (fun _ => true) [n] gs q) (bel : Below W.heap.size W W') : ∃ q', DataW.TrodVars enc Tryz.prog W' (fun b => decide (b < W.heap.size)) [n] gs q' := by
  obtain ⟨g, t, cs, fuel, d, p, rfl, h1, h2, h3, h4, rfl⟩ := trodVars_one hV
  obtain rfl := Option.some.inj (hn.symm.trans h1)
  obtain rfl := Option.some.inj ((show (Tryz.prog.globals[1]?).map (·.type) = some 174 by kernel_rfl).symm.trans h2)
  have tr : DataW.Trod enc Tryz.prog W 0 (fun _ => true) true 174 (.agg cs) d p := ⟨fuel, by simpa [Value.cells] using h4⟩
  obtain ⟨fuel', h'⟩ := Below.trod laidOut (by kernel_rfl) (of_decide_eq_true (by kernel_rfl)) tr bel (DataW.trod_lt fuel _ _ _ h4)
  have h5 : W'.var? Tryz.prog n = some cs := by
    unfold World.var? at h3 ⊢
    rw [hn] at h3 ⊢
    simp only [Option.bind_some] at h3 ⊢
    rw [bel.block _ hS.lt]; exact h3
  exact ⟨_, trodVars_mk1 h1 h2 h5 (by simpa [Value.cells] using h')⟩
end Go.Proofs.YtjjmikfbongccaaGreatDoor.Code
namespace Go.Proofs.YtjjmikfbongccaaGreatDoor.Code
open Go.ChangeShapes Go.WideShapes Go.ChangeAt Go.RowKit
set_option linter.unusedVariables false

set_option maxRecDepth 100000 in
theorem open_ins {H : Type} {enc : TypeId × Value → H} {W : World} {r : Reach} {b0 base : Nat} {sp : Nat → Bool} {held : Bool} {v : Value} {d : DataW H} {p : List MemPlace}
    (hv : Value.okWide Tryz.prog W r b0 48 v) (h : DataW.Trod enc Tryz.prog W base sp held 48 v d p) :
    ∃ (op a b c n : Int) (s : ByteArray), v = .agg #[.int .i64 op, .int .i64 a, .int .i64 b, .int .i64 c, .int .i64 n, .string s] ∧ s.size ≤ maxLen ∧ (Lit.int .i64 op).wf = true ∧ (Lit.int .i64 a).wf = true ∧ (Lit.int .i64 b).wf = true ∧ (Lit.int .i64 c).wf = true ∧ (Lit.int .i64 n).wf = true := by
  obtain ⟨cs, rfl, hsz⟩ := okWide_struct Tryz.underlying48 hv
  obtain ⟨fuel, hf⟩ := h
  obtain ⟨xs, n, _, _, hl, hlen, hf⟩ := DataW.trod_struct Tryz.underlying48 hf
  have c6 : Tryz.prog.cellsOf 48 = 6 := by kernel_rfl
  have c1 : Tryz.prog.cellsOf 3 = 1 := by kernel_rfl
  have cs1 : Tryz.prog.cellsOf 9 = 1 := by kernel_rfl
  rw [c6] at hsz
  obtain ⟨l⟩ := cs
  have hl6 : l.length = 6 := hsz
  match l, hl6 with
  | [v0, v1, v2, v3, v4, v5], _ =>
    have hl' : xs.length = 6 := hlen
    have g : ∀ i, i < 6 → xs[i]? = some (xs.getD i (.nil, [])) := fun i hi => by
      rw [List.getD_eq_getElem?_getD, List.getElem?_eq_getElem (by omega)]; rfl
    have k0 : DataW.trod enc Tryz.prog W base sp held n 3 ((([v0, v1, v2, v3, v4, v5] : List Value).drop 0).take (Tryz.prog.cellsOf 3)) = some (xs.getD 0 (.nil, [])) := (hf 0 _ rfl).trans (g 0 (by omega))
    have k1 : DataW.trod enc Tryz.prog W base sp held n 3 ((([v0, v1, v2, v3, v4, v5] : List Value).drop 1).take (Tryz.prog.cellsOf 3)) = some (xs.getD 1 (.nil, [])) := (hf 1 _ rfl).trans (g 1 (by omega))
    have k2 : DataW.trod enc Tryz.prog W base sp held n 3 ((([v0, v1, v2, v3, v4, v5] : List Value).drop 2).take (Tryz.prog.cellsOf 3)) = some (xs.getD 2 (.nil, [])) := (hf 2 _ rfl).trans (g 2 (by omega))
    have k3 : DataW.trod enc Tryz.prog W base sp held n 3 ((([v0, v1, v2, v3, v4, v5] : List Value).drop 3).take (Tryz.prog.cellsOf 3)) = some (xs.getD 3 (.nil, [])) := (hf 3 _ rfl).trans (g 3 (by omega))
    have k4 : DataW.trod enc Tryz.prog W base sp held n 3 ((([v0, v1, v2, v3, v4, v5] : List Value).drop 4).take (Tryz.prog.cellsOf 3)) = some (xs.getD 4 (.nil, [])) := (hf 4 _ rfl).trans (g 4 (by omega))
    have k5 : DataW.trod enc Tryz.prog W base sp held n 9 ((([v0, v1, v2, v3, v4, v5] : List Value).drop 5).take (Tryz.prog.cellsOf 9)) = some (xs.getD 5 (.nil, [])) := (hf 5 _ rfl).trans (g 5 (by omega))
    simp only [c1, cs1, List.drop, List.take] at k0 k1 k2 k3 k4 k5
    obtain ⟨o, e0, _, w0⟩ := DataW.trod_int Tryz.underlying3 k0
    obtain ⟨a, e1, _, w1⟩ := DataW.trod_int Tryz.underlying3 k1
    obtain ⟨b, e2, _, w2⟩ := DataW.trod_int Tryz.underlying3 k2
    obtain ⟨c, e3, _, w3⟩ := DataW.trod_int Tryz.underlying3 k3
    obtain ⟨m, e4, _, w4⟩ := DataW.trod_int Tryz.underlying3 k4
    obtain ⟨s, e5, _, hs⟩ := DataW.trod_string Tryz.underlying9 k5
    simp only [List.cons.injEq, and_true] at e0 e1 e2 e3 e4 e5
    exact ⟨o, a, b, c, m, s, by rw [e0, e1, e2, e3, e4, e5], hs, w0, w1, w2, w3, w4⟩
end Go.Proofs.YtjjmikfbongccaaGreatDoor.Code
namespace Go.Proofs.YtjjmikfbongccaaGreatDoor.Code
open Go.ChangeShapes Go.WideShapes Go.ChangeAt Go.RowKit
set_option linter.unusedVariables false

theorem in64_of {n : Int} (h : (Lit.int .i64 n).wf = true) : -9223372036854775808 ≤ n ∧ n ≤ 9223372036854775807 := bounds_i64 h
theorem powData : (Rows.laid_internal_strconv_uint64pow10 : DataW Unit) = Lib.tabData .u64 Lib.pow10Tab := by kernel_rfl
theorem shp_of_met {W : World} {n : String} {rest : List (String × DataW Unit)} (h : laidMet Tryz.prog ((n, Rows.laid_loop_example_g00248_impl_shapes) :: rest) W) (hn : Tryz.prog.globalNamed n = some 1 := by kernel_rfl) : Shp W := by
  obtain ⟨ps, ⟨g0, t0, cs0, f0, p0, q0, hg0, ht0, hv0, hd0, _, _⟩, _, _⟩ := h
  obtain rfl := Option.some.inj (hn.symm.trans hg0)
  obtain rfl := Option.some.inj ((show (Tryz.prog.globals[1]?).map (·.type) = some 174 by kernel_rfl).symm.trans ht0)
  rw [shapesD] at hd0
  exact shp_of_trod hg0 hv0 hd0
theorem pow_of_met {W : World} {rest : List (String × DataW Unit)} (h : laidMet Tryz.prog (("internal/strconv.uint64pow10", Rows.laid_internal_strconv_uint64pow10) :: rest) W) : Pow W := by
  rw [powData] at h
  exact Lib.tabIs_of_head (g := 2) (t := 202) (e := 195) (n := 20) (by kernel_rfl) (by kernel_rfl) (by kernel_rfl) (by kernel_rfl) (by kernel_rfl) (by kernel_rfl) h
end Go.Proofs.YtjjmikfbongccaaGreatDoor.Code
namespace Go.Proofs.YtjjmikfbongccaaGreatDoor.Code
open Go.ChangeShapes Go.WideShapes Go.ChangeAt Go.RowKit
set_option linter.unusedVariables false

set_option maxRecDepth 100000 in
theorem ins_of_trod {H : Type} {enc : TypeId × Value → H} {W : World} {base : Nat} {sp : Nat → Bool} {held : Bool} {fuel : Nat} {l : List Value} {x : DataW H × List MemPlace}
    (h : DataW.trod enc Tryz.prog W base sp held fuel 48 l = some x) : ∃ y : I, l = insL y ∧ y.s.size ≤ maxLen ∧ In64 y := by
  obtain ⟨xs, n, _, _, hl, hlen, hf⟩ := DataW.trod_struct Tryz.underlying48 h
  have c6 : Tryz.prog.cellsOf 48 = 6 := by kernel_rfl
  have c1 : Tryz.prog.cellsOf 3 = 1 := by kernel_rfl
  have cs1 : Tryz.prog.cellsOf 9 = 1 := by kernel_rfl
  rw [c6] at hl
  match l, hl with
  | [v0, v1, v2, v3, v4, v5], _ =>
    have hl' : xs.length = 6 := hlen
    have g : ∀ i, i < 6 → xs[i]? = some (xs.getD i (.nil, [])) := fun i hi => by
      rw [List.getD_eq_getElem?_getD, List.getElem?_eq_getElem (by omega)]; rfl
    have k0 : DataW.trod enc Tryz.prog W base sp held n 3 ((([v0, v1, v2, v3, v4, v5] : List Value).drop 0).take (Tryz.prog.cellsOf 3)) = some (xs.getD 0 (.nil, [])) := (hf 0 _ rfl).trans (g 0 (by omega))
    have k1 : DataW.trod enc Tryz.prog W base sp held n 3 ((([v0, v1, v2, v3, v4, v5] : List Value).drop 1).take (Tryz.prog.cellsOf 3)) = some (xs.getD 1 (.nil, [])) := (hf 1 _ rfl).trans (g 1 (by omega))
    have k2 : DataW.trod enc Tryz.prog W base sp held n 3 ((([v0, v1, v2, v3, v4, v5] : List Value).drop 2).take (Tryz.prog.cellsOf 3)) = some (xs.getD 2 (.nil, [])) := (hf 2 _ rfl).trans (g 2 (by omega))
    have k3 : DataW.trod enc Tryz.prog W base sp held n 3 ((([v0, v1, v2, v3, v4, v5] : List Value).drop 3).take (Tryz.prog.cellsOf 3)) = some (xs.getD 3 (.nil, [])) := (hf 3 _ rfl).trans (g 3 (by omega))
    have k4 : DataW.trod enc Tryz.prog W base sp held n 3 ((([v0, v1, v2, v3, v4, v5] : List Value).drop 4).take (Tryz.prog.cellsOf 3)) = some (xs.getD 4 (.nil, [])) := (hf 4 _ rfl).trans (g 4 (by omega))
    have k5 : DataW.trod enc Tryz.prog W base sp held n 9 ((([v0, v1, v2, v3, v4, v5] : List Value).drop 5).take (Tryz.prog.cellsOf 9)) = some (xs.getD 5 (.nil, [])) := (hf 5 _ rfl).trans (g 5 (by omega))
    simp only [c1, cs1, List.drop, List.take] at k0 k1 k2 k3 k4 k5
    obtain ⟨o, e0, _, w0⟩ := DataW.trod_int Tryz.underlying3 k0
    obtain ⟨a, e1, _, w1⟩ := DataW.trod_int Tryz.underlying3 k1
    obtain ⟨b, e2, _, w2⟩ := DataW.trod_int Tryz.underlying3 k2
    obtain ⟨c, e3, _, w3⟩ := DataW.trod_int Tryz.underlying3 k3
    obtain ⟨m, e4, _, w4⟩ := DataW.trod_int Tryz.underlying3 k4
    obtain ⟨s, e5, _, hs⟩ := DataW.trod_string Tryz.underlying9 k5
    simp only [List.cons.injEq, and_true] at e0 e1 e2 e3 e4 e5
    exact ⟨⟨o, a, b, c, m, s⟩, by rw [e0, e1, e2, e3, e4, e5]; rfl, hs, ⟨in64_of w1, in64_of w2, in64_of w3, in64_of w4⟩⟩

theorem choose_below {α : Type} [Inhabited α] {n : Nat} {p : Nat → α → Prop} (h : ∀ i, i < n → ∃ a, p i a) : ∃ f : Nat → α, ∀ i, i < n → p i (f i) := by
  classical
  exact ⟨fun i => if hi : i < n then (h i hi).choose else default, fun i hi => by simp only [dif_pos hi]; exact (h i hi).choose_spec⟩

set_option maxRecDepth 100000 in
theorem open_insS {H : Type} {enc : TypeId × Value → H} {W : World} {r : Reach} {b0 base : Nat} {sp : Nat → Bool} {held : Bool} {v : Value} {d : DataW H} {p : List MemPlace}
    (hv : Value.okWide Tryz.prog W r b0 22 v) (h : DataW.Trod enc Tryz.prog W base sp held 22 v d p) :
    ∃ (l : List I) (ao : Option Addr) (cap : Nat), v = .slice ao l.length cap ∧ RowI W ao l ∧ SmI maxLen l ∧ (∀ x ∈ l, In64 x) ∧ l.length ≤ maxLen := by
  obtain ⟨a0, len, cap, rfl⟩ := okWide_slice Tryz.underlying22 hv
  obtain ⟨fuel, hf⟩ := h
  have c6 : Tryz.prog.cellsOf 48 = 6 := by kernel_rfl
  rcases DataW.trod_slice Tryz.underlying22 hf with ⟨hcs, _⟩ | ⟨a, len', cap', elems, rest, n, _, hcs, _, _, hlc, hm, hel, hat, _, _⟩
  · simp [Value.cells] at hcs
    obtain ⟨rfl, rfl, rfl⟩ := hcs
    exact ⟨[], none, 0, rfl, .inl rfl, (by intro x hx; cases hx), (by intro x hx; cases hx), by simp⟩
  · simp [Value.cells] at hcs
    obtain ⟨rfl, rfl, rfl⟩ := hcs
    rw [c6] at hat
    have one : ∀ i, i < len → ∃ y : I, W.cells? base (a.add (i * 6)) 6 = some (insL y) ∧ y.s.size ≤ maxLen ∧ In64 y := by
      intro i hi
      have ha := hat i hi
      rw [List.getElem?_eq_getElem (by omega)] at ha
      obtain ⟨cs', h1, h2⟩ := Option.bind_eq_some_iff.1 ha
      obtain ⟨y, rfl, hs, hI⟩ := ins_of_trod h2
      exact ⟨y, h1, hs, hI⟩
    haveI : Inhabited I := ⟨zeroI⟩
    obtain ⟨T, hT⟩ := choose_below one
    have hll : ((List.range len).map T).length = len := by simp
    have hget : ∀ j (hj : j < ((List.range len).map T).length), ((List.range len).map T)[j] = T j := fun j hj => by simp
    refine ⟨(List.range len).map T, some a, cap, by rw [hll], ?_, fun x hx => ?_, fun x hx => ?_, by rw [hll]; omega⟩
    · by_cases h0 : len = 0
      · subst h0; exact .inl rfl
      · obtain ⟨bk, off, spot⟩ := a
        have hsp : spot = none := by
          obtain ⟨hc, _⟩ := hT 0 (by omega)
          obtain ⟨_, _, hcell⟩ := World.cells?_some hc
          have h' := World.cell?_spot (hcell 0 (by omega))
          simpa [Addr.add] using h'
        subst hsp
        refine .inr ⟨bk, off, rfl, fun j hj => ?_⟩
        rw [hget j hj]
        obtain ⟨hc, _⟩ := hT j (by rw [hll] at hj; exact hj)
        obtain ⟨_, _, hcell⟩ := World.cells?_some hc
        have ad : ∀ i, ((⟨bk, off, none⟩ : Addr).add (j * 6)).add i = ⟨bk, off + j * 6 + i, none⟩ := by
          intro i
          unfold Addr.add
          by_cases h1 : j * 6 = 0 <;> by_cases h2 : i = 0 <;> simp [h1, h2]
        have k0 := hcell 0 (by omega)
        have k1 := hcell 1 (by omega)
        have k2 := hcell 2 (by omega)
        have k3 := hcell 3 (by omega)
        have k4 := hcell 4 (by omega)
        have k5 := hcell 5 (by omega)
        rw [ad] at k0 k1 k2 k3 k4 k5
        exact ⟨by simpa [insL] using k0, by simpa [insL] using k1, by simpa [insL] using k2, by simpa [insL] using k3, by simpa [insL] using k4, by simpa [insL] using k5⟩
    · obtain ⟨i, hi, rfl⟩ := List.mem_map.1 hx
      exact (hT i (List.mem_range.1 hi)).2.1
    · obtain ⟨i, hi, rfl⟩ := List.mem_map.1 hx
      exact (hT i (List.mem_range.1 hi)).2.2

theorem ety_of {W : World} {n : String} (hn : Tryz.prog.globalNamed n = some 0) (h : handlesMet Tryz.prog [(n, Rows.laid_errors_errorType)] W) : Es.Ety W := by
  have rt : (Tryz.prog.cutTypes.find? (·.1 == "internal/reflectlite.rtype")).map (·.2) = some 161 := by kernel_rfl
  have oneRow : ((List.range 238).filter fun t => Tryz.prog.rowNamed t [101, 114, 114, 111, 114]) = [107] := by kernel_rfl
  have size : Tryz.prog.types.size = 238 := by kernel_rfl
  have hhn : (Rows.laid_errors_errorType : DataW Unit).handleName? = some [101, 114, 114, 111, 114] := by kernel_rfl
  obtain ⟨name, u, ty, e1, e2, e3, e4, e5⟩ := h _ (List.mem_singleton.2 rfl)
  obtain rfl := Option.some.inj (hhn.symm.trans e1)
  obtain rfl := Option.some.inj (rt.symm.trans e2)
  have hm : ty ∈ (List.range 238).filter fun t => Tryz.prog.rowNamed t [101, 114, 114, 111, 114] := List.mem_filter.2 ⟨List.mem_range.2 (by rw [← size]; exact e3), e4⟩
  rw [oneRow] at hm
  obtain rfl := List.mem_singleton.1 hm
  have hh : typeHandle Tryz.prog 107 = .pointer (some ⟨5, 107, none⟩) := by kernel_rfl
  rw [hh] at e5
  have := World.var?_cell hn e5 0
  unfold Es.Ety
  simpa using this
end Go.Proofs.YtjjmikfbongccaaGreatDoor.Code
namespace Go.Proofs.YtjjmikfbongccaaGreatDoor.fnExactCellOk
open Go.ChangeShapes Go.WideShapes Go.ChangeAt Go.RowKit Go.Proofs.YtjjmikfbongccaaGreatDoor Go.Proofs.YtjjmikfbongccaaGreatDoor.Gn
open Go.Proofs.YtjjmikfbongccaaGreatDoor.Code
set_option linter.unusedVariables false

theorem laid_of {W : World} (h : laidMetH Tryz.prog Rows.fnExactCellOkRow.laid W) : (Shp W ∧ Pow W) ∧ Es.Ety W := by
  have h' : laidMet Tryz.prog [("math/bits.deBruijn32tab", Rows.laid_math_bits_deBruijn32tab), ("math/bits.deBruijn64tab", Rows.laid_math_bits_deBruijn64tab), ("internal/strconv.uint64pow10", Rows.laid_internal_strconv_uint64pow10), ("loop.example/g00248/impl.shapes", Rows.laid_loop_example_g00248_impl_shapes)] W ∧ handlesMet Tryz.prog [("errors.errorType", Rows.laid_errors_errorType)] W := h
  have h3 := laidMet.tail (laidMet.tail h'.1)
  exact ⟨⟨shp_of_met (laidMet.tail h3), pow_of_met h3⟩, ety_of (by kernel_rfl) h'.2⟩
theorem shp_of {W : World} (h : laidMetH Tryz.prog Rows.fnExactCellOkRow.laid W) : Shp W := (laid_of h).1.1

/-- The heap that the variables' own initialisers leave meets the condition. -/
theorem door_met (os : Os) (args : Array Value) : laidMetH Tryz.prog Rows.fnExactCellOkRow.laid ((World.doorLaid Tryz.prog 400 os).forCall (fun _ _ => 0) ⟨#[], args, []⟩).memory :=
  laidMetH_of_parts3 (fuel := 8) (laidMet_of_run' 8 (by kernel_rfl) (by kernel_rfl)) (by kernel_rfl) (by kernel_rfl)


theorem cellsGens : Tryz.prog.cellsOf 27 = 3 := by kernel_rfl
theorem cellsInt : Tryz.prog.cellsOf 3 = 1 := by kernel_rfl
theorem cellsInts : Tryz.prog.cellsOf 23 = 1 := by kernel_rfl
theorem ints_open {H : Type} {enc : TypeId × Value → H} {w : World} {base : Nat} {spare : Nat → Bool} {held : Bool} (m : Nat) (v0 : Value) (y0 : DataW H × List MemPlace) (g0 : DataW.trod enc Tryz.prog w base spare held m 23 [v0] = some y0) :
    ∃ (ao : Option Addr) (N cap : Nat) (f : Nat → Int), v0 = .slice ao N cap ∧ RdI w ao N f ∧ N ≤ cap ∧ cap ≤ maxLen ∧ ∀ j, f j ≤ 9223372036854775807 := by
  rcases open_ints Tryz.underlying23 Tryz.underlying3 (by kernel_rfl) g0 with ⟨hcs, _⟩ | ⟨a, l, c, zs, hcs, _, hle, hm, hz, _, hcell, hwz⟩
  · simp only [List.cons.injEq, and_true] at hcs
    subst hcs
    exact ⟨none, 0, 0, fun _ => 0, rfl, fun h => absurd rfl h, Nat.le_refl _, Nat.zero_le _, fun _ => (by show (0 : Int) ≤ _; decide)⟩
  · simp only [List.cons.injEq, and_true] at hcs
    subst hcs
    refine ⟨some a, l, c, fun j => zs.getD j 0, rfl, fun hn => ?_, hle, hm, fun j => ?_⟩
    · have hzl : l ≤ zs.length := by rw [hz]; split <;> omega
      obtain ⟨b, off, spot⟩ := a
      have q0 := hcell 0 (by omega)
      have hs : spot = none := by simpa [Addr.add] using World.cell?_spot q0
      subst hs
      refine ⟨b, off, rfl, fun j hj => ?_⟩
      have := hcell j (by omega)
      rw [Addr.add_lit] at this
      exact this
    · show zs.getD j 0 ≤ _
      by_cases hj : j < zs.length
      · have e : zs.getD j 0 = zs[j] := by simp [hj]
        rw [e]
        exact i64_le (hwz _ (List.getElem_mem hj))
      · have e : zs.getD j 0 = 0 := by simp [hj]
        rw [e]; decide
set_option maxRecDepth 100000 in
theorem gens_open {H : Type} {enc : TypeId × Value → H} {w : World} {base : Nat} {spare : Nat → Bool} {held : Bool} (fuel : Nat) (cs : List Value) (x : DataW H × List MemPlace) (h : DataW.trod enc Tryz.prog w base spare held fuel 27 cs = some x) :
    ∃ (ao : Option Addr) (N cap : Nat) (f : Nat → Int) (yo : Option Addr) (M ycap : Nat) (fy : Nat → Int) (mk : Int), cs = [.slice ao N cap, .slice yo M ycap, .int .i64 mk] ∧ RdI w ao N f ∧ N ≤ cap ∧ cap ≤ maxLen ∧ (∀ j, f j ≤ 9223372036854775807) ∧ RdI w yo M fy ∧ M ≤ ycap ∧ ycap ≤ maxLen ∧ (∀ j, fy j ≤ 9223372036854775807) := by
  obtain ⟨xs, m, hfu, _, hl, hlen, hf⟩ := DataW.trod_struct Tryz.underlying27 h
  rw [cellsGens] at hl
  match cs, hl, xs, hlen with
  | [v0, v1, v2], _, [y0, y1, y2], _ =>
    have h0 : DataW.trod enc Tryz.prog w base spare held m 23 (([v0, v1, v2].drop 0).take (Tryz.prog.cellsOf 23)) = some y0 := hf 0 _ rfl
    have h1 : DataW.trod enc Tryz.prog w base spare held m 23 (([v0, v1, v2].drop 1).take (Tryz.prog.cellsOf 23)) = some y1 := hf 1 _ rfl
    have h2 : DataW.trod enc Tryz.prog w base spare held m 3 (([v0, v1, v2].drop 2).take (Tryz.prog.cellsOf 3)) = some y2 := hf 2 _ rfl
    rw [cellsInts] at h0 h1
    rw [cellsInt] at h2
    have g0 : DataW.trod enc Tryz.prog w base spare held m 23 [v0] = some y0 := h0
    have g1 : DataW.trod enc Tryz.prog w base spare held m 23 [v1] = some y1 := h1
    have g2 : DataW.trod enc Tryz.prog w base spare held m 3 [v2] = some y2 := h2
    obtain ⟨ao, N, cap, f, rfl, a1, a2, a3, a4⟩ := ints_open m v0 y0 g0
    obtain ⟨yo, M, ycap, fy, rfl, b1, b2, b3, b4⟩ := ints_open m v1 y1 g1
    obtain ⟨mk, e2, _, _⟩ := DataW.trod_int Tryz.underlying3 g2
    obtain rfl : v2 = .int .i64 mk := by simpa using e2
    exact ⟨ao, N, cap, f, yo, M, ycap, fy, mk, rfl, a1, a2, a3, a4, b1, b2, b3, b4⟩

theorem cellsCell : Tryz.prog.cellsOf 25 = 6 := by kernel_rfl
theorem row_big {N : Nat} {f : Nat → Int} (h : ∀ j, f j ≤ 9223372036854775807) : ∀ x ∈ rowL N f, x ≤ 9223372036854775807 := fun x hx => by
  obtain ⟨j, _, rfl⟩ := List.mem_map.1 hx
  exact h j
set_option maxRecDepth 100000 in
theorem open_cell {H : Type} {enc : TypeId × Value → H} {W : World} {r : Reach} {b0 base : Nat} {sp : Nat → Bool} {held : Bool} {v : Value} {d : DataW H} {p : List MemPlace}
    (hv : Value.okWide Tryz.prog W r b0 25 v) (h : DataW.Trod enc Tryz.prog W base sp held 25 v d p) :
    ∃ (c : Ce) (g : Cw), v = ceV c g ∧ CeR W c g ∧ c.R ≤ maxLen ∧ c.B ≤ maxLen ∧ c.N ≤ maxLen ∧ CeW c := by
  obtain ⟨cs, rfl, hsz⟩ := okWide_struct Tryz.underlying25 hv
  obtain ⟨fuel, hf⟩ := h
  obtain ⟨xs, n, _, _, hl, hlen, hf⟩ := DataW.trod_struct Tryz.underlying25 hf
  rw [cellsCell] at hsz
  obtain ⟨l⟩ := cs
  have hl6 : l.length = 6 := hsz
  match l, hl6, xs, hlen with
  | [v0, v1, v2, v3, v4, v5], _, [y0, y1, y2, y3, y4, y5], _ =>
    have k0 : DataW.trod enc Tryz.prog W base sp held n 3 ((([v0, v1, v2, v3, v4, v5] : List Value).drop 0).take (Tryz.prog.cellsOf 3)) = some y0 := hf 0 _ rfl
    have k1 : DataW.trod enc Tryz.prog W base sp held n 3 ((([v0, v1, v2, v3, v4, v5] : List Value).drop 1).take (Tryz.prog.cellsOf 3)) = some y1 := hf 1 _ rfl
    have k2 : DataW.trod enc Tryz.prog W base sp held n 23 ((([v0, v1, v2, v3, v4, v5] : List Value).drop 2).take (Tryz.prog.cellsOf 23)) = some y2 := hf 2 _ rfl
    have k3 : DataW.trod enc Tryz.prog W base sp held n 23 ((([v0, v1, v2, v3, v4, v5] : List Value).drop 3).take (Tryz.prog.cellsOf 23)) = some y3 := hf 3 _ rfl
    have k4 : DataW.trod enc Tryz.prog W base sp held n 23 ((([v0, v1, v2, v3, v4, v5] : List Value).drop 4).take (Tryz.prog.cellsOf 23)) = some y4 := hf 4 _ rfl
    have k5 : DataW.trod enc Tryz.prog W base sp held n 3 ((([v0, v1, v2, v3, v4, v5] : List Value).drop 5).take (Tryz.prog.cellsOf 3)) = some y5 := hf 5 _ rfl
    rw [cellsInt] at k0 k1 k5
    rw [cellsInts] at k2 k3 k4
    have g0 : DataW.trod enc Tryz.prog W base sp held n 3 [v0] = some y0 := k0
    have g1 : DataW.trod enc Tryz.prog W base sp held n 3 [v1] = some y1 := k1
    have g5 : DataW.trod enc Tryz.prog W base sp held n 3 [v5] = some y5 := k5
    obtain ⟨pid, e0, _, _⟩ := DataW.trod_int Tryz.underlying3 g0
    obtain ⟨pc, e1, _, _⟩ := DataW.trod_int Tryz.underlying3 g1
    obtain ⟨ha, e5, _, _⟩ := DataW.trod_int Tryz.underlying3 g5
    simp only [List.cons.injEq, and_true] at e0 e1 e5
    subst e0 e1 e5
    obtain ⟨ra, R, rc, r, rfl, r0, r1, r2, r3⟩ := ints_open n v2 y2 k2
    obtain ⟨ba, B, bc, b, rfl, b0, b1, b2, b3⟩ := ints_open n v3 y3 k3
    obtain ⟨la, N, lc, f, rfl, l0, l1, l2, _⟩ := ints_open n v4 y4 k4
    exact ⟨⟨pid, pc, R, r, B, b, N, f, ha⟩, ⟨ra, rc, ba, bc, la, lc⟩, rfl, ⟨r0, b0, l0⟩, Nat.le_trans r1 r2, Nat.le_trans b1 b2, Nat.le_trans l1 l2, fun x hx => (List.mem_append.1 hx).elim (row_big r3 x) (row_big b3 x)⟩
set_option maxRecDepth 100000 in
theorem lifted (os : Os) (started : os.Started) (H : Type) (enc : TypeId × Value → H) :
    ReturnsInHanded {} Tryz.checked os 3 .any (fun w args => (Rows.fnExactCellOkSpec.pre enc Tryz.prog Tryz.f3 [] false w args ∧ laidMetH Tryz.prog Rows.fnExactCellOkRow.laid w) ∧ sizedMet enc Tryz.prog Tryz.f3 (OpenSpec.ofChange Rows.fnExactCellOkSpec) false w args)
      (Rows.fnExactCellOkSpec.post enc Tryz.prog Tryz.f3 false true false false) := by
  refine returnsInHanded_of_change_and (C := Tryz.checked) (X := fun w _ => laidMetH Tryz.prog Rows.fnExactCellOkRow.laid w) (fun _ _ _ hh h => h.of_heap hh) own started (by kernel_rfl) Tryz.func3
    (ChangeSpec.witness_shaped (enc := enc) (C := Tryz.checked) (os := os) (X := fun w _ => laidMetH Tryz.prog Rows.fnExactCellOkRow.laid w) false (World.doorLaid Tryz.prog 400 os) #[.slice none 0 0, .agg #[.int .i64 0, .int .i64 0, .slice none 0 0, .slice none 0 0, .slice none 0 0, .int .i64 0], .agg #[.slice none 0 0, .slice none 0 0, .int .i64 0], .slice none 0 0] 8 rfl (World.shaped_of_RefB (by kernel_rfl) (by kernel_rfl)) (by kernel_rfl) (by kernel_rfl) (by kernel_rfl) (door_met os _)) ?_
  intro W base args ds gs before hval0 hW _ _ hL _
  have hval : ∀ (j : Nat) t v, Tryz.f3.params[j]? = some t → args[j]? = some v → Value.okWide Tryz.prog W .any base t v := hval0
  have hW' := hW
  obtain ⟨p, q, hA0, hV, rfl, hfz, hnd⟩ := hW
  have hA : DataW.TrodAll enc Tryz.prog W 0 (fun _ => true) true Tryz.f3.params.toList args.toList ds p := hA0
  rw [Tryz.params3] at hA hval
  obtain ⟨v0, vs0, d0, ds0, p0, q0, hargs, rfl, rfl, h0, r0⟩ := trodAll_cons hA
  obtain ⟨v1, vs1, d1, ds1, p1, q1, rfl, rfl, rfl, h1, r1⟩ := trodAll_cons r0
  obtain ⟨v2, vs2, d2, ds2, p2, q2, rfl, rfl, rfl, h2, r2⟩ := trodAll_cons r1
  obtain ⟨v3, vs3, d3, ds3, p3, q3, rfl, rfl, rfl, h3, r3⟩ := trodAll_cons r2
  obtain ⟨rfl, rfl, rfl⟩ := trodAll_nil r3
  obtain rfl : args = #[v0, v1, v2, v3] := by cases args; simp_all
  obtain ⟨cs, rfl, hsz0⟩ := okWide_struct Tryz.underlying27 (hval 2 27 v2 rfl rfl)
  obtain ⟨av, len, acap, rfl⟩ := okWide_slice Tryz.underlying28 (hval 3 28 v3 rfl rfl)
  have k0 := h0
  have k1 := h1
  have k2 := h2
  have k3 := h3
  have lt3 : ∀ x ∈ p3, x.block < W.heap.size := by obtain ⟨m, hm⟩ := k3; exact DataW.trod_lt m _ _ _ hm
  have lt2 : ∀ x ∈ p2, x.block < W.heap.size := by obtain ⟨m, hm⟩ := k2; exact DataW.trod_lt m _ _ _ hm
  obtain ⟨c, cw, rfl, hcr, hc1, hc2, hc3, hcb⟩ := open_cell (hval 1 25 v1 rfl rfl) h1
  have lt0 : ∀ x ∈ p0, x.block < W.heap.size := by obtain ⟨m, hm⟩ := k0; exact DataW.trod_lt m _ _ _ hm
  have lt1 : ∀ x ∈ p1, x.block < W.heap.size := by obtain ⟨m, hm⟩ := k1; exact DataW.trod_lt m _ _ _ hm
  obtain ⟨ao, N, cap, f, yo, M, ycap, fy, mk, rfl, hr, hle, hm, hfb, hry, hley, hmy, hfby⟩ : ∃ (ao : Option Addr) (N cap : Nat) (f : Nat → Int) (yo : Option Addr) (M ycap : Nat) (fy : Nat → Int) (mk : Int), cs = #[.slice ao N cap, .slice yo M ycap, .int .i64 mk] ∧ RdI W ao N f ∧ N ≤ cap ∧ cap ≤ maxLen ∧ (∀ j, f j ≤ 9223372036854775807) ∧ RdI W yo M fy ∧ M ≤ ycap ∧ ycap ≤ maxLen ∧ (∀ j, fy j ≤ 9223372036854775807) := by
    obtain ⟨fuel, hf⟩ := h2
    obtain ⟨ao, N, cap, f, yo, M, ycap, fy, mk, e, hh⟩ := gens_open fuel _ _ hf
    refine ⟨ao, N, cap, f, yo, M, ycap, fy, mk, ?_, hh⟩
    obtain ⟨l⟩ := cs
    simpa [Value.cells] using e
  obtain ⟨L, hLL, hrT, hsz, hmL⟩ : ∃ L : List ByteArray, len = L.length ∧ RdT W av L ∧ (∀ x ∈ L, x.size ≤ maxLen) ∧ L.length ≤ maxLen := by
    obtain ⟨fuel, hf⟩ := h3
    rcases open_strings Tryz.underlying28 Tryz.underlying9 (by kernel_rfl) hf with ⟨hcs, hx⟩ | ⟨a, len2, cap2, ss, hcs, _, hl, hmm, hz, hx, hcell, hs⟩
    · have e : (Value.slice av len acap) = .slice none 0 0 := by simpa [Value.cells] using hcs
      cases e
      exact ⟨[], rfl, fun h => absurd rfl h, fun x hx => by simp at hx, Nat.zero_le _⟩
    · have e : (Value.slice av len acap) = .slice (some a) len2 cap2 := by simpa [Value.cells] using hcs
      cases e
      have hzl : len ≤ ss.length := by rw [hz]; split <;> omega
      have hln : (ss.take len).length = len := by simp; omega
      refine ⟨ss.take len, hln.symm, fun hn => ?_, fun x hx => hs x (List.mem_of_mem_take hx), by rw [hln]; exact Nat.le_trans hl hmm⟩
      obtain ⟨b, off, spot⟩ := a
      have q0 := hcell 0 (by omega)
      have hsp : spot = none := by simpa [Addr.add] using World.cell?_spot q0
      subst hsp
      refine ⟨b, off, rfl, fun j hj => ?_⟩
      have hj2 : j < ss.length := by omega
      have := hcell j hj2
      rw [Addr.add_lit, List.getD_eq_getElem?_getD, List.getElem?_eq_getElem hj2] at this
      rw [List.getElem_take]
      exact this
  subst hLL
  obtain ⟨l, lo, lcap, rfl, hrI, hsI, _, hlI⟩ := open_insS (hval 0 22 v0 rfl rfl) h0
  have hS := shp_of hL
  clear hA0 hval0
  refine (walk l lo lcap c cw ao N cap f yo M ycap fy mk av acap L W hrI hsI hlI hcr hc1 hc2 hc3 hcb ⟨hr, hry⟩ (Nat.le_trans hle hm) (Nat.le_trans hley hmy) hfb hfby hrT hmL hsz hS (laid_of hL).1.2 (laid_of hL).2).mono fun e W' ⟨he, bel⟩ => ?_
  subst he
  obtain ⟨q', hv'⟩ := vars_after (by kernel_rfl) hS hV bel
  have hg : ∃ g, gs = [g] := by
    obtain ⟨g, t, cs, fuel, d, p, e, _⟩ := trodVars_one hV
    exact ⟨d, e⟩
  obtain ⟨g, rfl⟩ := hg
  exact ⟨_, rfl, _, _, _, [], _, q', hW', trodAll_mk1 (shut_bool Tryz.underlying4 _), (trodAll_cons_mk (Below.trod laidOut (by kernel_rfl) (of_decide_eq_true (by kernel_rfl)) k0 bel lt0) (trodAll_cons_mk (Below.trod laidOut (by kernel_rfl) (of_decide_eq_true (by kernel_rfl)) k1 bel lt1) (trodAll_cons_mk (Below.trod laidOut (by kernel_rfl) (of_decide_eq_true (by kernel_rfl)) k2 bel lt2) (trodAll_cons_mk (Below.trod laidOut (by kernel_rfl) (of_decide_eq_true (by kernel_rfl)) k3 bel lt3) trodAll_mk0)))), hv', bel.frame _, fun h => by cases h⟩

theorem over : Rows.fnExactCellOkRow.holds Tryz.pinned (OpenSpec.ofChange Rows.fnExactCellOkSpec) :=
  OpenClaim.holds_of_wide 3 Tryz.f3 rfl rfl rfl rfl rfl rfl rfl ⟨rfl, rfl, rfl, rfl, rfl⟩ rfl rfl rfl rfl rfl (by kernel_rfl) Tryz.func3 (by kernel_rfl)
    (of_decide_eq_true (by kernel_rfl)) (by unfold Func.isWrapper; first | (rw [if_pos (by decide +kernel)]; kernel_rfl) | (rw [if_neg (by decide +kernel)]; exact ⟨rfl, rfl⟩))
    (fun os started H enc _ => lifted os started H enc)
end Go.Proofs.YtjjmikfbongccaaGreatDoor.fnExactCellOk
namespace Go.Proofs.YtjjmikfbongccaaGreatDoor
theorem fnExactCellOk_holds : Rows.FnExactCellOkCardSaid :=
  Claim7.holds_tied_plain_at .later [] [.data, .data, .data, .handle, .data] true Rows.fnExactCellOkCard.stood.harness true
    fnExactCellOk.over (fun _ h => by cases h) (by kernel_rfl) (fun _ h => by cases h) fnExactCellOk_row_tie rfl ⟨rfl, rfl⟩ (by kernel_rfl) rfl
    (fun f fn hf hfn => by
      obtain rfl : f = 3 := Option.some.inj ((show Tryz.prog.funcNamed Rows.fnExactCellOkRow.func = some 3 by kernel_rfl).symm.trans hf) |>.symm
      obtain rfl : fn = Tryz.f3 := (Option.some.inj (Tryz.func3.symm.trans hfn)).symm
      exact ⟨by kernel_rfl, fun j t ht => by
        rw [Tryz.params3] at ht
        have hm : t ∈ [22, 25, 27, 28] := by simpa using Array.mem_of_getElem? ht
        have hall : ([22, 25, 27, 28].all fun u => !Tryz.prog.wantsStandIn u) = true := by kernel_rfl
        exact (show Tryz.prog.wantsStandIn t = false by simpa using List.all_eq_true.1 hall t hm)⟩)
    (by kernel_rfl)
#print axioms fnExactCellOk_holds
end Go.Proofs.YtjjmikfbongccaaGreatDoor
