/-
  What is read of a drawn text as code is right and has that text, and so of drawn bytes; both sides read the same: the law FnCodesRead returns true and its argument reads as before. What the card lays and ties: the tables of Go's library, two of its errors, the program's variable shapes, and one handle.
  (Ahead of it, in this text: What is laid: where the program's variable shapes reads as its initialiser lays it, it holds the table; it reads the same behind a call that turns nothing old. What is laid, for the laws on texts. An instruction that came in, opened; what the frames of the laws on code share. A row of instructions that came in, opened; what is laid, for the laws on code. Code that is drawn and bent: the specification's l8Any and DrawInsOk. What is drawn for the law FnNums: bytes and a number; bytes and a place. What the law FnCodes does. A number drawn below one of any size. Two rows of bytes held against each other by the laws; a part of a row. Texts and bytes that are drawn, bent or not: what DrawGetCode and DrawParseCode answer. Code read of bytes by both sides: the list that is answered. What the law FnCodesRead does.)
-/
import Derived.Test.YtgdlkekjbdkjjaaGreatDoorCoI
import Derived.Test.YtgdlkekjbdkjjaaGreatDoorTie
import Derived.Test.YtgdlkekjbdkjjaaGreatDoorCards
import Derived.Lib.LaidTab
import Derived.LaidMore
import Derived.OpenShut
import Derived.Deep.Strs
import Derived.ChangeVars
import Derived.Stop.Joined
import Derived.Stop.LaidErr
import Derived.SevenTiedAt
import Derived.Test.YtgdlkekjbdkjjaaGreatDoorCtC
import Derived.Test.YtgdlkekjbdkjjaaGreatDoorCoM
import Derived.Test.YtgdlkekjbdkjjaaGreatDoorCkB
import Derived.Test.YtgdlkekjbdkjjaaGreatDoorCkC
import Derived.LaidHandle
import Derived.Deep.Slices
import Derived.Test.YtgdlkekjbdkjjaaGreatDoorDcB
import Derived.Test.YtgdlkekjbdkjjaaGreatDoorByD
import Derived.Test.YtgdlkekjbdkjjaaGreatDoorByG
import Derived.Test.YtgdlkekjbdkjjaaGreatDoorU3
import Derived.Test.YtgdlkekjbdkjjaaGreatDoorU8
import Derived.Test.YtgdlkekjbdkjjaaGreatDoorCurA
import Derived.Test.YtgdlkekjbdkjjaaGreatDoorByB
import Derived.Deep.RegionHeld3
import Derived.Deep.RegionLaw
import Derived.Test.YtgdlkekjbdkjjaaGreatDoorStrA
import Derived.Test.YtgdlkekjbdkjjaaGreatDoorU10
import Derived.LaidLaws
import Derived.Lay
import Derived.Shelf.Vars
import Derived.ChangeOld
namespace Go.Proofs.YtgdlkekjbdkjjaaGreatDoor.Code
open Go.ChangeShapes Go.WideShapes Go.ChangeAt Go.RowKit
set_option linter.unusedVariables false

def rowD {H : Type} (k : Nat) : DataW H := .agg [.lit (.int .i64 ((k : Int) + 1)), .lit (.string (word (k + 1))), Lib.tabData .i64 [nm (k + 1) 0, nm (k + 1) 1, nm (k + 1) 2]]
theorem shapesD : (Rows.laid_loop_example_g00248_impl_shapes : DataW Unit) = .agg ((List.range 20).map rowD) := by kernel_rfl

set_option maxRecDepth 100000 in
theorem row_of_trod {H : Type} {enc : TypeId × Value → H} {w : World} {base : Nat} {sp : Nat → Bool} {held : Bool} {fuel : Nat} {cs : List Value} {k : Nat} {p : List MemPlace}
    (h : DataW.trod enc Tryz.prog w base sp held fuel 98 cs = some (rowD k, p)) : cs = rowL k := by
  obtain ⟨y0, y1, y2, n, hx, hl, h0, h1, h2⟩ := Deep.trod_struct3 Tryz.underlying98 h
  have c5 : Tryz.prog.cellsOf 98 = 5 := by kernel_rfl
  have c1 : Tryz.prog.cellsOf 3 = 1 := by kernel_rfl
  have cs1 : Tryz.prog.cellsOf 9 = 1 := by kernel_rfl
  have c3 : Tryz.prog.cellsOf 96 = 3 := by kernel_rfl
  have cl : Tryz.prog.cellsOf 94 = 1 := by kernel_rfl
  rw [c5] at hl
  match cs, hl with
  | [a, b, c, d, e], _ =>
    simp only [c1, cs1, c3] at h0 h1 h2
    simp only [List.drop, List.take] at h0 h1 h2
    obtain ⟨o, e0, f0, _⟩ := DataW.trod_int Tryz.underlying3 h0
    obtain ⟨u, e1, f1, _⟩ := DataW.trod_string Tryz.underlying9 h1
    simp only [Prod.mk.injEq, rowD, DataW.agg.injEq, List.cons.injEq] at hx
    obtain ⟨⟨g0, g1, g2, _⟩, _⟩ := hx
    rw [f0] at g0
    rw [f1] at g1
    have h2' : DataW.trod enc Tryz.prog w base sp held n 96 [c, d, e] = some (Lib.tabData .i64 [nm (k + 1) 0, nm (k + 1) 1, nm (k + 1) 2], y2.2) := by
      rw [h2, g2]
    have e2 := Lib.cells_of_tab Tryz.underlying96 (by kernel_rfl : Tryz.prog.underlying 94 = some (.int .i64)) cl c3 h2'
    simp only [DataW.lit.injEq, Lit.int.injEq, Lit.string.injEq, true_and] at g0 g1
    simp only [List.cons.injEq, and_true] at e0 e1
    rw [e0, e1, ← g0]
    simp only [List.map, List.cons.injEq, and_true] at e2
    obtain ⟨rfl, rfl, rfl⟩ := e2
    have hu : u = wordT (k + 1) := by
      unfold wordT
      rw [g1]
    rw [hu]; rfl

theorem chunks {f : Nat → List Value} : ∀ (n : Nat) (cs : List Value), cs.length = 5 * n → (∀ j, j < n → (cs.drop (j * 5)).take 5 = f j) → cs = (List.range n).flatMap f
  | 0, cs, h, _ => by simpa using h
  | n + 1, cs, h, hf => by
    have h1 := chunks (f := f) n (cs.take (5 * n)) (by simp; omega) (fun j hj => by
      rw [← hf j (by omega), List.drop_take, List.take_take]
      congr 1; omega)
    have h2 := hf n (by omega)
    rw [List.take_of_length_le (by simp; omega)] at h2
    rw [List.range_succ, List.flatMap_append, ← h1]
    simp only [List.flatMap_cons, List.flatMap_nil, List.append_nil]
    rw [← h2, Nat.mul_comm n 5, List.take_append_drop]

theorem shp_of_trod {H : Type} {enc : TypeId × Value → H} {W : World} {base : Nat} {sp : Nat → Bool} {held : Bool} {fuel : Nat} {cs : Array Value} {n : String} {p : List MemPlace}
    (hg : Tryz.prog.globalNamed n = some 1) (hv : W.var? Tryz.prog n = some cs) (h : DataW.trod enc Tryz.prog W base sp held fuel 130 cs.toList = some (.agg ((List.range 20).map rowD), p)) : Shp W := by
  obtain ⟨xs, m, _, hx, hl, hlen, hel⟩ := DataW.trod_array Tryz.underlying130 h
  have c5 : Tryz.prog.cellsOf 98 = 5 := by kernel_rfl
  have c100 : Tryz.prog.cellsOf 130 = 100 := by kernel_rfl
  rw [c100] at hl
  simp only [Prod.mk.injEq, DataW.agg.injEq] at hx
  have hcs : cs.toList = (List.range 20).flatMap rowL := by
    refine chunks 20 _ hl fun j hj => ?_
    have h1 := hel j hj
    rw [c5, List.getElem?_eq_getElem (by omega)] at h1
    have h2 : (xs[j]'(by omega)).1 = rowD j := by
      have := congrArg (fun l => l[j]?) hx.1
      simp only [List.getElem?_map, List.getElem?_range hj, List.getElem?_eq_getElem (show j < xs.length by omega), Option.map_some, Option.some.injEq] at this
      exact this.symm
    exact row_of_trod (p := (xs[j]'(by omega)).2) (by rw [h1, ← h2])
  have hcs' : cs = tabV := by
    unfold tabV; rw [← hcs]
  subst hcs'
  unfold World.var? at hv
  rw [hg] at hv
  simp only [Option.bind_some] at hv
  split at hv
  · rename_i c t f hh
    obtain rfl := Option.some.inj hv
    exact ⟨_, _, hh⟩
  · cases hv

theorem own : ownKnob Tryz.prog.godebug = none := by kernel_rfl
theorem laidOut : laidOutB Tryz.prog = true := by kernel_rfl

/-- The variable reads behind as it read ahead. -/
theorem vars_after {H : Type} {enc : TypeId × Value → H} {W W' : World} {n : String} {gs : List (DataW H)} {q : List MemPlace} (hn : Tryz.prog.globalNamed n = some 1) (hS : Shp W)
    (hV : DataW.TrodVars enc Tryz.prog W (fun _ => true) [n] gs q) (bel : Below W.heap.size W W') : ∃ q', DataW.TrodVars enc Tryz.prog W' (fun b => decide (b < W.heap.size)) [n] gs q' := by
  obtain ⟨g, t, cs, fuel, d, p, rfl, h1, h2, h3, h4, rfl⟩ := trodVars_one hV
  obtain rfl := Option.some.inj (hn.symm.trans h1)
  obtain rfl := Option.some.inj ((show (Tryz.prog.globals[1]?).map (·.type) = some 130 by kernel_rfl).symm.trans h2)
  have tr : DataW.Trod enc Tryz.prog W 0 (fun _ => true) true 130 (.agg cs) d p := ⟨fuel, by simpa [Value.cells] using h4⟩
  obtain ⟨fuel', h'⟩ := Below.trod laidOut (by kernel_rfl) (of_decide_eq_true (by kernel_rfl)) tr bel (DataW.trod_lt fuel _ _ _ h4)
  have h5 : W'.var? Tryz.prog n = some cs := by
    unfold World.var? at h3 ⊢
    rw [hn] at h3 ⊢
    simp only [Option.bind_some] at h3 ⊢
    rw [bel.block _ hS.lt]; exact h3
  exact ⟨_, trodVars_mk1 h1 h2 h5 (by simpa [Value.cells] using h')⟩
end Go.Proofs.YtgdlkekjbdkjjaaGreatDoor.Code
namespace Go.Proofs.YtgdlkekjbdkjjaaGreatDoor.Code
open Go.ChangeShapes Go.WideShapes Go.ChangeAt Go.RowKit
set_option linter.unusedVariables false

theorem in64_of {n : Int} (h : (Lit.int .i64 n).wf = true) : -9223372036854775808 ≤ n ∧ n ≤ 9223372036854775807 := bounds_i64 h
theorem powData : (Rows.laid_internal_strconv_uint64pow10 : DataW Unit) = Lib.tabData .u64 Lib.pow10Tab := by kernel_rfl
theorem shp_of_met {W : World} {n : String} {rest : List (String × DataW Unit)} (h : laidMet Tryz.prog ((n, Rows.laid_loop_example_g00248_impl_shapes) :: rest) W) (hn : Tryz.prog.globalNamed n = some 1 := by kernel_rfl) : Shp W := by
  obtain ⟨ps, ⟨g0, t0, cs0, f0, p0, q0, hg0, ht0, hv0, hd0, _, _⟩, _, _⟩ := h
  obtain rfl := Option.some.inj (hn.symm.trans hg0)
  obtain rfl := Option.some.inj ((show (Tryz.prog.globals[1]?).map (·.type) = some 130 by kernel_rfl).symm.trans ht0)
  rw [shapesD] at hd0
  exact shp_of_trod hg0 hv0 hd0
theorem pow_of_met {W : World} {rest : List (String × DataW Unit)} (h : laidMet Tryz.prog (("internal/strconv.uint64pow10", Rows.laid_internal_strconv_uint64pow10) :: rest) W) : Pow W := by
  rw [powData] at h
  exact Lib.tabIs_of_head (g := 3) (t := 174) (e := 157) (n := 20) (by kernel_rfl) (by kernel_rfl) (by kernel_rfl) (by kernel_rfl) (by kernel_rfl) (by kernel_rfl) h
end Go.Proofs.YtgdlkekjbdkjjaaGreatDoor.Code
namespace Go.Proofs.YtgdlkekjbdkjjaaGreatDoor.Code
open Go.ChangeShapes Go.WideShapes Go.ChangeAt Go.RowKit
set_option linter.unusedVariables false

end Go.Proofs.YtgdlkekjbdkjjaaGreatDoor.Code
namespace Go.Proofs.YtgdlkekjbdkjjaaGreatDoor.Code
open Go.ChangeShapes Go.WideShapes Go.ChangeAt Go.RowKit
set_option linter.unusedVariables false

theorem choose_below {α : Type} [Inhabited α] {n : Nat} {p : Nat → α → Prop} (h : ∀ i, i < n → ∃ a, p i a) : ∃ f : Nat → α, ∀ i, i < n → p i (f i) := by
  classical
  exact ⟨fun i => if hi : i < n then (h i hi).choose else default, fun i hi => by simp only [dif_pos hi]; exact (h i hi).choose_spec⟩

theorem ety_of {W : World} {n : String} (hn : Tryz.prog.globalNamed n = some 0) (h : handlesMet Tryz.prog [(n, Rows.laid_errors_errorType)] W) : Es.Ety W := by
  have rt : (Tryz.prog.cutTypes.find? (·.1 == "internal/reflectlite.rtype")).map (·.2) = some 136 := by kernel_rfl
  have oneRow : ((List.range 221).filter fun t => Tryz.prog.rowNamed t [101, 114, 114, 111, 114]) = [41] := by kernel_rfl
  have size : Tryz.prog.types.size = 221 := by kernel_rfl
  have hhn : (Rows.laid_errors_errorType : DataW Unit).handleName? = some [101, 114, 114, 111, 114] := by kernel_rfl
  obtain ⟨name, u, ty, e1, e2, e3, e4, e5⟩ := h _ (List.mem_singleton.2 rfl)
  obtain rfl := Option.some.inj (hhn.symm.trans e1)
  obtain rfl := Option.some.inj (rt.symm.trans e2)
  have hm : ty ∈ (List.range 221).filter fun t => Tryz.prog.rowNamed t [101, 114, 114, 111, 114] := List.mem_filter.2 ⟨List.mem_range.2 (by rw [← size]; exact e3), e4⟩
  rw [oneRow] at hm
  obtain rfl := List.mem_singleton.1 hm
  have hh : typeHandle Tryz.prog 41 = .pointer (some ⟨10, 41, none⟩) := by kernel_rfl
  rw [hh] at e5
  have := World.var?_cell hn e5 0
  unfold Es.Ety
  simpa using this
end Go.Proofs.YtgdlkekjbdkjjaaGreatDoor.Code
namespace Go.Proofs.YtgdlkekjbdkjjaaGreatDoor.Code
open Go.RowKit
open Go.Proofs.YtgdlkekjbdkjjaaGreatDoor.Atom
set_option linter.unusedVariables false

/-- A row of n small instructions of the call's own, in the block g. -/
structure RowW (w : World) (B g n cap : Nat) : Prop where
  hB : B ≤ g
  hlt : g < w.heap.size
  hcap : n ≤ cap
  hmax : cap ≤ maxLen
  hn : n ≤ 20
  free : ∀ i, w.frozen? ⟨g, i, none⟩ = false
  rows : ∀ j, j < n → ∃ x, Wee x ∧ Bx6 w g (j * 6) x
theorem rowW_of {w : World} {B : Nat} {v : Value} {l : List I} (h : IRow w B v l) (h1 : 1 ≤ l.length) (h2 : l.length ≤ 20) (hw : ∀ x ∈ l, Wee x) : ∃ g cap, v = .slice (some ⟨g, 0, none⟩) l.length cap ∧ RowW w B g l.length cap := by
  rcases h.2 with ⟨_, h0⟩ | ⟨g, cap, cur, hv, hB, hg, ha, hb, _, _⟩
  · omega
  subst hv
  refine ⟨g, cap, rfl, hB, blk_lt hg, ha, hb, h2, fun i => blk_free hg i, fun j hj => ?_⟩
  rcases h.row with e | ⟨g', o', e, hc⟩
  · rw [e] at h1; simp at h1
  · simp only [Option.some.injEq, Addr.mk.injEq, and_true] at e
    obtain ⟨rfl, rfl⟩ := e
    have := hc j hj
    rw [Nat.zero_add] at this
    exact ⟨l[j], hw _ (List.getElem_mem hj), this⟩
theorem Bx6.same {w w' : World} {B o : Nat} {x : I} (h : Bx6 w B o x) (hb : w'.heap[B]? = w.heap[B]?) : Bx6 w' B o x := by
  have k : ∀ i v, w.cell? ⟨B, i, none⟩ = some v → w'.cell? ⟨B, i, none⟩ = some v := fun i v hv => (World.cell?_of_block (w := w) hb).trans hv
  exact ⟨k _ _ h.c0, k _ _ h.c1, k _ _ h.c2, k _ _ h.c3, k _ _ h.c4, k _ _ h.c5⟩
theorem RowW.same {w w' : World} {B g n cap : Nat} (h : RowW w B g n cap) (hs : w.heap.size ≤ w'.heap.size) (hb : w'.heap[g]? = w.heap[g]?) : RowW w' B g n cap :=
  ⟨h.hB, Nat.lt_of_lt_of_le h.hlt hs, h.hcap, h.hmax, h.hn, fun i => (World.frozen?_of_block (w := w) hb).trans (h.free i), fun j hj => by
    obtain ⟨x, hx, hc⟩ := h.rows j hj
    exact ⟨x, hx, hc.same hb⟩⟩
theorem RowW.drawn {cb : Nat} {ao : Option Addr} {len cp : Nat} {zs : List Int} {w w' : World} {B g n cap : Nat} (h : RowW w B g n cap) (d : Drawn cb ao len cp zs w w') (hc : cb < B) : RowW w' B g n cap :=
  h.same d.2.size (d.2.block g h.hlt (by have := h.hB; omega))
theorem RowW.below {w w' : World} {B g n cap : Nat} (h : RowW w B g n cap) (d : Below w.heap.size w w') : RowW w' B g n cap :=
  h.same d.size (d.block g h.hlt)
theorem RowW.less {w : World} {B g n cap k : Nat} (h : RowW w B g n cap) (hk : k ≤ n) : RowW w B g k cap :=
  ⟨h.hB, h.hlt, Nat.le_trans hk h.hcap, h.hmax, Nat.le_trans hk h.hn, h.free, fun j hj => h.rows j (by omega)⟩
theorem RowW.set {w : World} {B g n cap : Nat} (h : RowW w B g n cap) (k i : Nat) (hk : k < n) (hi : i < 6) (v : Value) (f : I → I)
    (hf : ∀ x, Wee x → Wee (f x)) (hv : ∀ x, insV (f x) = (insV x).setIfInBounds i v) : RowW (w.setCell ⟨g, k * 6 + i, none⟩ v) B g n cap := by
  refine ⟨h.hB, by simp [World.setCell]; exact h.hlt, h.hcap, h.hmax, h.hn, fun i => by rw [World.frozen?_setCell]; exact h.free i, fun j hj => ?_⟩
  obtain ⟨x, hx, hc⟩ := h.rows j hj
  by_cases hjk : j = k
  · subst hjk
    refine ⟨f x, hf x hx, ?_⟩
    have cells : ∀ m, m < 6 → w.cell? ⟨g, j * 6 + m, none⟩ = (insV x)[m]? := fun m hm => by
      rcases (show m = 0 ∨ m = 1 ∨ m = 2 ∨ m = 3 ∨ m = 4 ∨ m = 5 by omega) with rfl | rfl | rfl | rfl | rfl | rfl
      · exact hc.c0
      · exact hc.c1
      · exact hc.c2
      · exact hc.c3
      · exact hc.c4
      · exact hc.c5
    have hsz : (insV x).size = 6 := rfl
    have cells' : ∀ m, m < 6 → (w.setCell ⟨g, j * 6 + i, none⟩ v).cell? ⟨g, j * 6 + m, none⟩ = (insV (f x))[m]? := fun m hm => by
      rw [hv, Array.getElem?_setIfInBounds]
      by_cases hmi : i = m
      · subst hmi
        rw [if_pos rfl, if_pos (by omega)]
        exact World.cell?_setCell_same w _ _ (u := ((insV x)[i]'(by omega))) (by rw [cells i hm]; exact Array.getElem?_eq_getElem _)
      · rw [if_neg hmi, World.cell?_setCell_other (h := by simp <;> omega), cells m hm]
    exact ⟨cells' 0 (by omega), cells' 1 (by omega), cells' 2 (by omega), cells' 3 (by omega), cells' 4 (by omega), cells' 5 (by omega)⟩
  · refine ⟨x, hx, ?_⟩
    have k' : ∀ m u, m < 6 → w.cell? ⟨g, j * 6 + m, none⟩ = some u → (w.setCell ⟨g, k * 6 + i, none⟩ v).cell? ⟨g, j * 6 + m, none⟩ = some u := fun m u hm hu => by
      rw [World.cell?_setCell_other (h := by simp <;> omega)]; exact hu
    exact ⟨k' 0 _ (by omega) hc.c0, k' 1 _ (by omega) hc.c1, k' 2 _ (by omega) hc.c2, k' 3 _ (by omega) hc.c3, k' 4 _ (by omega) hc.c4, k' 5 _ (by omega) hc.c5⟩

/-- What l8Any answers. -/
def AnyP (cb : Nat) (ao : Option Addr) (len cap : Nat) (zs : List Int) (w : World) (e : Ending) (w' : World) : Prop :=
  ∃ (g n vc : Nat), e = .returned (.slice (some ⟨g, 0, none⟩) n vc) ∧ RowW w' w.heap.size g n vc ∧ Drawn cb ao len cap zs w w'

end Go.Proofs.YtgdlkekjbdkjjaaGreatDoor.Code
namespace Go.Proofs.YtgdlkekjbdkjjaaGreatDoor.By
open Go.RowKit
set_option linter.unusedVariables false

theorem bigB_any (ao : Option Addr) (len cap : Nat) (w : World) (hm : len ≤ maxLen) :
    Calls Tryz.prog 4 #[.slice ao len cap] w fun e w' => e = .returned (.bool (decide (1048576 < len))) ∧ w' = w := by
  unfold maxLen at hm
  by_cases h : 1048576 < len
  · go_enter Tryz.func4, Tryz.ntmps4
    go_wp2_with fail
    go_ret
    exact ⟨by simp [h]; omega, rfl⟩
  · go_enter Tryz.func4, Tryz.ntmps4
    go_wp2_with fail
    go_ret
    exact ⟨by simp [h]; omega, rfl⟩

set_option maxHeartbeats 1000000 in
theorem belowBig_any (cb : Nat) (ao : Option Addr) (len cap : Nat) (zs : List Int) (w : World) (hc : Cur cb ao len cap zs w) :
    Calls Tryz.prog 18 #[.pointer (some ⟨cb, 0, none⟩), .int .i64 10000] w fun e w' => ∃ x : Int, e = .returned (.int .i64 x) ∧ Drawn cb ao len cap zs w w' := by
  have HC : Hid (Cur cb ao len cap zs w) := hc
  clear hc
  go_enter Tryz.func18, Tryz.ntmps18
  go_wp2_with fail
  refine (byte_any cb ao len cap zs _ HC.out).mono ?_
  rintro e w1 ⟨x, rfl, hx0, hx1, hc1, ht1⟩
  have HD1 : Hid (Drawn cb ao len cap zs w w1) := ⟨hc1, ht1⟩
  clear hc1 ht1
  go_wp2_with fail
  refine (byte_any cb ao len cap zs _ HD1.out.1).mono ?_
  rintro e w2 ⟨y, rfl, hy0, hy1, hc1, ht1⟩
  have HD2 : Hid (Drawn cb ao len cap zs w w2) := ⟨hc1, HD1.out.2.trans ht1⟩
  clear hc1 ht1
  go_wp2_with fail
  refine (byte_any cb ao len cap zs _ HD2.out.1).mono ?_
  rintro e w3 ⟨z, rfl, hz0, hz1, hc1, ht1⟩
  have HD3 : Hid (Drawn cb ao len cap zs w w3) := ⟨hc1, HD2.out.2.trans ht1⟩
  clear hc1 ht1
  go_wp2_with fail
  go_ret
  exact ⟨_, rfl, HD3.out⟩

/-- A row of bytes drawn: it lies behind the cursor. -/
structure DrB (cb : Nat) (ao : Option Addr) (len cap : Nat) (zs : List Int) (w wr : World) (v : Value) (B : List UInt8) : Prop where
  own : OwB wr w.heap.size v B
  cur : Cur cb ao len cap zs wr
  turn : Turn cb w wr
theorem turn_grownR {cb : Nat} {a w w' : World} {row : Option Nat} (h : Turn cb a w) (hg : w.grownBy w' row) (hr : ∀ k, row = some k → a.heap.size ≤ k) : Turn cb a w' :=
  ⟨hg.os.trans h.os, hg.tape.trans h.tape, hg.output.trans h.output, Nat.le_trans h.size hg.size, fun k hk hn => (hg.block k (Nat.lt_of_lt_of_le hk h.size) (fun e => by have := hr k e.symm; omega)).trans (h.block k hk hn)⟩
theorem cur_kept {cb : Nat} {ao : Option Addr} {len cap : Nat} {zs : List Int} {w w' : World} (h : Cur cb ao len cap zs w) (hs : ∀ b, b ≤ cb → w'.heap[b]? = w.heap[b]?) : Cur cb ao len cap zs w' := by
  have e : ∀ b o v, b ≤ cb → w.cell? ⟨b, o, none⟩ = some v → w'.cell? ⟨b, o, none⟩ = some v := fun b o v hb hc => by
    rw [World.cell?_of_block (w := w) (hs b hb)]; exact hc
  obtain ⟨i, hi, h1⟩ := h.c1
  obtain ⟨x, h2⟩ := h.c2
  refine ⟨e _ _ _ (Nat.le_refl _) h.c0, ⟨i, hi, e _ _ _ (Nat.le_refl _) h1⟩, ⟨x, e _ _ _ (Nat.le_refl _) h2⟩, fun o => by rw [World.frozen?_of_block (w := w) (hs cb (Nat.le_refl _))]; exact h.free o, fun hn => ?_, h.rng, h.small⟩
  obtain ⟨b, off, e1, e2, e3⟩ := h.code hn
  exact ⟨b, off, e1, e2, fun j hj => e _ _ _ (Nat.le_of_lt e2) (e3 j hj)⟩
theorem DrB.more {cb : Nat} {ao : Option Addr} {len cap : Nat} {zs : List Int} {w wr w3 : World} {v v3 : Value} {B : List UInt8} {x : Int} {c : UInt8} (h : DrB cb ao len cap zs w wr v B) (hcb : cb < w.heap.size) (hx : x = ((c.toNat : Nat) : Int))
    (hown : w3.ownsRow w.heap.size 5 1 v3 (B.length + 1) (bcs B ++ [.int .u8 x])) (hgr : (wr.alloc (.cells #[.int .u8 x] 5)).grownBy w3 v.ownBlock) : DrB cb ao len cap zs w w3 v3 (B ++ [c]) := by
  have hs := h.turn.size
  refine ⟨owB_byte hown hx, ?_, turn_grownR (h.turn.alloc _) hgr (fun k hk => (World.ownsRow.lt h.own k hk).1)⟩
  refine cur_kept h.cur fun b hb => ?_
  rw [hgr.block b (by rw [World.size_alloc]; omega) (fun e => by have := (World.ownsRow.lt h.own b e.symm).1; omega)]
  show (wr.heap.push _)[b]? = _
  rw [Array.getElem?_push, if_neg (by omega)]
theorem DrB.drawn {cb : Nat} {ao : Option Addr} {len cap : Nat} {zs : List Int} {w wr w2 : World} {v : Value} {B : List UInt8} (h : DrB cb ao len cap zs w wr v B) (hcb : cb < w.heap.size) (hd : Drawn cb ao len cap zs wr w2) : DrB cb ao len cap zs w w2 v B := by
  refine ⟨?_, hd.1, h.turn.trans hd.2⟩
  refine World.ownsRow.kept (row := some cb) h.own ⟨hd.2.os, hd.2.tape, hd.2.output, hd.2.size, fun k hk hn => hd.2.block k hk (fun e => hn (by rw [e]))⟩ ?_
  cases hv : v.ownBlock with
  | none => exact .inl rfl
  | some k => exact .inr (fun e => by injection e with e; have := (World.ownsRow.lt h.own k hv).1; omega)
theorem byte_of {x : Int} (h0 : 0 ≤ x) (h1 : x ≤ 255) : x = (((UInt8.ofNat x.toNat).toNat : Nat) : Int) := by rw [toNat_of (by omega)]; omega

end Go.Proofs.YtgdlkekjbdkjjaaGreatDoor.By
namespace Go.Proofs.YtgdlkekjbdkjjaaGreatDoor.Cb
open Go.RowKit
open Go.Proofs.YtgdlkekjbdkjjaaGreatDoor.By
open Go.Proofs.YtgdlkekjbdkjjaaGreatDoor.Code (I codeB specOk RowI SmI Bx6 Wee codeT textC parseP Sur dat)
set_option linter.unusedVariables false

end Go.Proofs.YtgdlkekjbdkjjaaGreatDoor.Cb
namespace Go.Proofs.YtgdlkekjbdkjjaaGreatDoor
open Go.RowKit
set_option linter.unusedVariables false

set_option maxHeartbeats 1000000 in
theorem belowMore_any (cb : Nat) (ao : Option Addr) (len cap : Nat) (zs : List Int) (w : World) (hc : Cur cb ao len cap zs w) (n : Nat) (h0 : 1 ≤ n) (h1 : n ≤ 1048600) :
    Calls Tryz.prog 18 #[.pointer (some ⟨cb, 0, none⟩), .int .i64 n] w fun e w' => ∃ k : Nat, e = .returned (.int .i64 k) ∧ k < n ∧ Drawn cb ao len cap zs w w' := by
  by_cases hs : n ≤ 256
  · refine (below_any cb ao len cap zs w hc n (by omega) (by omega)).mono ?_
    rintro e w' ⟨x, rfl, hx0, hx1, hd⟩
    exact ⟨x.toNat, by rw [Int.toNat_of_nonneg hx0], by omega, hd⟩
  · have HC : Hid (Cur cb ao len cap zs w) := hc
    have HH : Hid (1 ≤ n) := h0
    clear hc
    have hn0 : ((n : Int) == 0) = false := by rw [beq_eq_false_iff_ne]; omega
    go_enter Tryz.func18, Tryz.ntmps18
    go_wp2_with fail
    refine (byte_any cb ao len cap zs _ HC.out).mono ?_
    rintro e w1 ⟨x, rfl, hx0, hx1, hc1, ht1⟩
    have HD1 : Hid (Drawn cb ao len cap zs w w1) := ⟨hc1, ht1⟩
    clear hc1 ht1
    go_wp2_with fail
    refine (byte_any cb ao len cap zs _ HD1.out.1).mono ?_
    rintro e w2 ⟨y, rfl, hy0, hy1, hc1, ht1⟩
    have HD2 : Hid (Drawn cb ao len cap zs w w2) := ⟨hc1, HD1.out.2.trans ht1⟩
    clear hc1 ht1
    go_wp2_with fail
    refine (byte_any cb ao len cap zs _ HD2.out.1).mono ?_
    rintro e w3 ⟨z, rfl, hz0, hz1, hc1, ht1⟩
    have HD3 : Hid (Drawn cb ao len cap zs w w3) := ⟨hc1, HD2.out.2.trans ht1⟩
    clear hc1 ht1
    obtain ⟨k, hk⟩ : ∃ k : Nat, (x * 65536 + y * 256 + z) % (n : Int) = k := ⟨((x * 65536 + y * 256 + z) % (n : Int)).toNat, by have := Int.emod_nonneg (x * 65536 + y * 256 + z) (show (n : Int) ≠ 0 by omega); omega⟩
    have hkl : k < n := by have := Int.emod_lt_of_pos (x * 65536 + y * 256 + z) (show (0 : Int) < n by omega); omega
    have hkt : (x * 65536 + y * 256 + z).tmod (n : Int) = (k : Int) := by rw [Int.tmod_eq_emod_of_nonneg (by omega)]; exact hk
    have hw1 : IntKind.i64.wrap (k : Int) = (k : Int) := by rw [IntKind.wrap_i64]; omega
    have HK : Hid (k < n) := hkl
    clear hk hkl
    go_wp2_with fail
    go_ret
    exact ⟨k, rfl, HK.out, HD3.out⟩
end Go.Proofs.YtgdlkekjbdkjjaaGreatDoor
namespace Go.Proofs.YtgdlkekjbdkjjaaGreatDoor.By
open Go.RowKit
set_option linter.unusedVariables false

set_option maxHeartbeats 1000000 in
theorem sameB_same (ao bo : Option Addr) (ca cb : Nat) (L : List UInt8) (w : World) (ha : RdB w ao L) (hb : RdB w bo L) (hN : L.length ≤ 1048600) :
    Calls Tryz.prog 13 #[.slice ao L.length ca, .slice bo L.length cb] w fun e w' => e = .returned (.bool true) ∧ Below w.heap.size w w' := by
  have HA : Hid (RdB w ao L) := ha
  have HB : Hid (RdB w bo L) := hb
  clear ha hb
  go_enter Tryz.func13, Tryz.ntmps13
  go_wp2_with fail
  go_loopw [5] (fun i w' => ∃ m : Nat, m ≤ L.length ∧ i = .int .i64 m ∧ Below w.heap.size w w') (fun i _ => L.length - (intOf i).toNat)
  case atStart => exact ⟨0, Nat.zero_le _, by simp, Below.refl _ _⟩
  case round =>
    obtain ⟨m, hm, rfl, hbl⟩ := hrel
    have HBL : Hid (Below w.heap.size w wr) := hbl
    by_cases hlt : m < L.length
    · obtain ⟨b1, o1, rfl, c1⟩ := HA.out.below hbl (by omega)
      obtain ⟨b2, o2, rfl, c2⟩ := HB.out.below hbl (by omega)
      have q1 := c1 m hlt
      have q2 := c2 m hlt
      clear c1 c2 hbl
      generalize ((L[m].toNat : Nat) : Int) = x at *
      go_wp2_with fail
      go_quiet (fail)
      go_wp2_with fail
      go_roundw
      case rel => exact ⟨m + 1, by omega, by go_num, by first | exact HBL.out.drew | exact below_drewN HBL.out _⟩
      case measure => simp [intOf]; omega
    · clear hbl
      go_wp2_with fail
      go_ret
      exact ⟨rfl, HBL.out⟩
theorem BAt.part {w : World} {b o : Nat} {L : List UInt8} (h : BAt w b o L) (i n : Nat) : BAt w b (o + i) ((L.drop i).take n) := fun j hj => by
  have hj2 : i + j < L.length := by simp at hj; omega
  have := h (i + j) hj2
  rw [Nat.add_assoc]
  simp only [List.getElem_take, List.getElem_drop]
  exact this
end Go.Proofs.YtgdlkekjbdkjjaaGreatDoor.By
namespace Go.Proofs.YtgdlkekjbdkjjaaGreatDoor.Cb
open Go.RowKit
open Go.Proofs.YtgdlkekjbdkjjaaGreatDoor.By
open Go.Proofs.YtgdlkekjbdkjjaaGreatDoor.Code (I codeB specOk RowI SmI Bx6 Wee codeT textC parseP Sur dat)
set_option linter.unusedVariables false

def bentT : List ByteArray := [⟨#[]⟩, ⟨#[101, 110, 100, 32, 48]⟩, ⟨#[101, 110, 100, 32, 48, 10]⟩, ⟨#[101, 110, 100, 32, 56, 10]⟩, ⟨#[101, 110, 100, 10]⟩, ⟨#[105, 110, 116, 32, 48, 32, 48, 49, 10, 101, 110, 100, 32, 48, 10]⟩, ⟨#[105, 110, 116, 32, 48, 32, 45, 48, 10, 101, 110, 100, 32, 48, 10]⟩, ⟨#[97, 116, 111, 109, 32, 48, 32, 65, 10, 101, 110, 100, 32, 48, 10]⟩, ⟨#[102, 108, 121, 32, 48, 10]⟩, ⟨#[101, 110, 100, 32, 48, 32, 10]⟩, ⟨#[106, 117, 109, 112, 32, 49, 10]⟩]
theorem bent_small : ∀ z ∈ bentT, z.size ≤ 1048576 := fun z hz => by
  simp only [bentT, List.mem_cons, List.not_mem_nil, or_false] at hz
  rcases hz with rfl | rfl | rfl | rfl | rfl | rfl | rfl | rfl | rfl | rfl | rfl <;> decide

theorem dat_ext (T : ByteArray) (k : Nat) : (T.extract 0 k).size ≤ T.size := by
  simp [ByteArray.size_extract]; omega
set_option maxHeartbeats 2000000 in
theorem drawParseC_any (ao : Option Addr) (len cap : Nat) (zs : List Int) (w : World) (hr : IsRow w ao len cap zs) (hsm : len ≤ 1048576) :
    Calls Tryz.prog 5 #[.slice ao len cap] w fun e w' => ∃ s : ByteArray, e = .returned (.string s) ∧ s.size ≤ 1048576 ∧ Below w.heap.size w w' := by
  have HR : Hid (IsRow w ao len cap zs) := hr
  clear hr
  go_enter Tryz.func5, Tryz.ntmps5
  go_wp2_with fail
  refine (new_any w ao len cap zs HR.out hsm).mono ?_
  rintro e w1 ⟨rfl, hcur, hb1, hsz⟩
  have HC1 : Hid (Cur w.heap.size ao len cap zs w1 ∧ Below w.heap.size w w1 ∧ w1.heap.size = w.heap.size + 1) := ⟨hcur, hb1, hsz⟩
  clear hcur hb1 hsz
  go_wp2_with fail
  refine (Code.code_any w.heap.size ao len cap zs w1 HC1.out.1).mono ?_
  rintro e w2 ⟨⟨v, l, rfl, hrow, h1, h2, h3, h4⟩, hd2⟩
  obtain ⟨va, vc, rfl, _⟩ := hrow.slice
  have HB2 : Hid (Below w.heap.size w w2 ∧ Cur w.heap.size ao len cap zs w2) := ⟨Turn.below HC1.out.2.1 HC1.out.2.1.size hd2.2 (Nat.le_refl _), hd2.1⟩
  have HTX : Hid (Calls Tryz.prog 16 #[.slice va l.length vc] w2 fun e w' => e = .returned (.string ⟨(textC l).toArray⟩) ∧ Below w2.heap.size w2 w') :=
    Code.specCodeText_any l va vc w2 hrow.row (fun x hx => Nat.le_trans (h3 x hx).s (by omega)) (fun x hx => Code.wee_in64 (h3 x hx)) (by omega)
  obtain ⟨T, hT⟩ : ∃ T : ByteArray, (⟨(textC l).toArray⟩ : ByteArray) = T := ⟨_, rfl⟩
  have HTS : Hid (T.size ≤ 1048576) := by
    show _ ≤ _
    have h5 := Code.codeT_wee l h3
    rw [← hT]
    unfold Code.textC
    rw [h4]
    simp [ByteArray.size]; omega
  rw [hT] at HTX
  clear hT hrow h1 h2 h3 h4 hd2
  go_wp2_with fail
  refine HTX.out.mono ?_
  rintro e w3 ⟨rfl, hb3⟩
  have HB3 : Hid (Below w.heap.size w w3 ∧ Cur w.heap.size ao len cap zs w3) := ⟨HB2.out.1.trans (hb3.mono HB2.out.1.size), HB2.out.2.below hb3⟩
  have hz3 : w.heap.size < w3.heap.size := by have := (HB2.out.1.trans (hb3.mono HB2.out.1.size)).size; have h9 := HB3.out.2; have := World.block_lt_of_cell? w3 _ h9.c0; exact this
  clear hb3 HTX
  go_wp2_with fail
  refine (below_any w.heap.size ao len cap zs w3 HB3.out.2 5 (by decide) (by decide)).mono ?_
  rintro e w4 ⟨x, rfl, hx0, hx1, hd4⟩
  have HD4 : Hid (Below w.heap.size w w4 ∧ Cur w.heap.size ao len cap zs w4 ∧ w.heap.size < w4.heap.size) := ⟨Turn.below HB3.out.1 HB3.out.1.size hd4.2 (Nat.le_refl _), hd4.1, Nat.lt_of_lt_of_le hz3 hd4.2.size⟩
  clear hd4 hz3
  by_cases hxz : x = 0
  · subst hxz
    go_wp2_with fail
    refine (str_any w.heap.size ao len cap zs _ (HD4.out.2.1.alloc _) w4.heap.size bentT (by have := HD4.out.2.2; omega) (by decide) (by decide) ?_).mono ?_
    · intro j hj
      rw [World.cell?_alloc_new]
      have hj' : j < 11 := hj
      have : j = 0 ∨ j = 1 ∨ j = 2 ∨ j = 3 ∨ j = 4 ∨ j = 5 ∨ j = 6 ∨ j = 7 ∨ j = 8 ∨ j = 9 ∨ j = 10 := by omega
      rcases this with rfl | rfl | rfl | rfl | rfl | rfl | rfl | rfl | rfl | rfl | rfl <;> rfl
    rintro e w5 ⟨z, rfl, hz, hd5⟩
    have HF : Hid (z.size ≤ 1048576 ∧ Below w.heap.size w w5) := ⟨bent_small z hz, Turn.below (HD4.out.1.alloc HD4.out.1.size _) (by rw [World.size_alloc]; have := HD4.out.1.size; omega) hd5.2 (Nat.le_refl _)⟩
    clear hz hd5
    go_wp2_with fail
    go_ret
    exact ⟨z, rfl, HF.out.1, HF.out.2⟩
  · by_cases hxo : x = 1
    · subst hxo
      have HBM : Hid (Calls Tryz.prog 18 #[.pointer (some ⟨w.heap.size, 0, none⟩), .int .i64 ((T.size : Int) + 1)] w4 fun e w' => ∃ k : Nat, e = .returned (.int .i64 k) ∧ k ≤ T.size ∧ Below w.heap.size w w') := by
        have h := belowMore_any w.heap.size ao len cap zs w4 HD4.out.2.1 (T.size + 1) (by omega) (by have := HTS.out; omega)
        rw [show ((T.size + 1 : Nat) : Int) = (T.size : Int) + 1 by omega] at h
        refine h.mono ?_
        rintro e w' ⟨k, rfl, hk, hd⟩
        exact ⟨k, rfl, by omega, Turn.below HD4.out.1 HD4.out.1.size hd.2 (Nat.le_refl _)⟩
      obtain ⟨N, hN⟩ : ∃ N, N = T.size := ⟨_, rfl⟩
      have hN1 : N ≤ 1048576 := by rw [hN]; exact HTS.out
      go_wp2_with fail
      refine HBM.out.mono ?_
      rintro e w5 ⟨k, rfl, hk, hb5⟩
      have HB5 : Hid (Below w.heap.size w w5) := hb5
      clear hb5
      go_wp2_with fail
      go_ret
      exact ⟨_, rfl, by have := HTS.out; have h9 := dat_ext T k; omega, HB5.out⟩
    · have e1 : (x == 0) = false := beq_eq_false_iff_ne.2 hxz
      have e2 : (x == 1) = false := beq_eq_false_iff_ne.2 hxo
      clear hxz hxo
      go_wp2_with fail
      go_ret
      exact ⟨T, rfl, HTS.out, HD4.out.1⟩

theorem bat_set {w : World} {g : Nat} {L : List UInt8} (h : BAt w g 0 L) (k : Nat) (hk : k < L.length) (y : UInt8) : BAt (w.setCell ⟨g, k, none⟩ (.int .u8 ((y.toNat : Nat) : Int))) g 0 (L.set k y) := fun j hj => by
  have hj' : j < L.length := by rw [List.length_set] at hj; exact hj
  by_cases e : j = k
  · subst e
    have h9 := World.cell?_setCell_same w ⟨g, j, none⟩ (.int .u8 ((y.toNat : Nat) : Int)) (by have := h j hj'; rw [Nat.zero_add] at this; exact this)
    rw [Nat.zero_add, h9]
    simp
  · rw [World.cell?_setCell_other (h := by simp <;> omega), h j hj', List.getElem_set_ne (by omega)]
def bentB : List Int := [0, 1, 2, 4, 24, 128]
set_option maxHeartbeats 2000000 in
theorem drawGetC_any (ao : Option Addr) (len cap : Nat) (zs : List Int) (w : World) (hr : IsRow w ao len cap zs) (hsm : len ≤ 1048576) :
    Calls Tryz.prog 8 #[.slice ao len cap] w fun e w' => ∃ (g c : Nat) (L : List UInt8), e = .returned (.slice (some ⟨g, 0, none⟩) L.length c) ∧ BAt w' g 0 L ∧ L.length ≤ c ∧ L.length ≤ 7204 ∧ g < w'.heap.size ∧ Below w.heap.size w w' := by
  have HR : Hid (IsRow w ao len cap zs) := hr
  clear hr
  go_enter Tryz.func8, Tryz.ntmps8
  go_wp2_with fail
  refine (new_any w ao len cap zs HR.out hsm).mono ?_
  rintro e w1 ⟨rfl, hcur, hb1, hsz⟩
  have HC1 : Hid (Cur w.heap.size ao len cap zs w1 ∧ Below w.heap.size w w1 ∧ w1.heap.size = w.heap.size + 1) := ⟨hcur, hb1, hsz⟩
  clear hcur hb1 hsz
  go_wp2_with fail
  refine (Code.code_any w.heap.size ao len cap zs w1 HC1.out.1).mono ?_
  rintro e w2 ⟨⟨v, l, rfl, hrow, h1, h2, h3, h4⟩, hd2⟩
  obtain ⟨va, vc, rfl, _⟩ := hrow.slice
  have HB2 : Hid (Below w.heap.size w w2 ∧ Cur w.heap.size ao len cap zs w2) := ⟨Turn.below HC1.out.2.1 HC1.out.2.1.size hd2.2 (Nat.le_refl _), hd2.1⟩
  have HPC : Hid (Calls Tryz.prog 25 #[.slice va l.length vc] w2 fun e w' => ∃ g c, e = .returned (.slice (some ⟨g, 0, none⟩) (codeBy l).length c) ∧ OwB w' w2.heap.size (.slice (some ⟨g, 0, none⟩) (codeBy l).length c) (codeBy l) ∧ Below w2.heap.size w2 w') := by
    have h := specPutC_any l va vc w2 hrow.row (fun x hx => by have := code_small h4 x hx; unfold maxLen; omega) (by omega)
    rw [putC_yes h4] at h; exact h
  obtain ⟨P, hP⟩ : ∃ P, codeBy l = P := ⟨_, rfl⟩
  have hP1 : 1 ≤ P.length := by rw [← hP]; unfold codeBy; rw [List.length_append]; have := num_len ((l.length : Nat) : Int); omega
  have hP2 : P.length ≤ 7204 := by rw [← hP]; exact codeBy_len h4
  rw [hP] at HPC
  clear hP hrow h1 h2 h3 h4 hd2
  go_wp2_with fail
  refine HPC.out.mono ?_
  rintro e w3 ⟨g, c, rfl, ho3, hb3⟩
  have hcc : P.length ≤ c := by
    rcases ho3.2 with ⟨e, _⟩ | ⟨_, cc, _, e, _, _, hl, _⟩
    · cases e
    · injection e with _ _ e; omega
  have hgl := World.ownsRow.lt ho3 g rfl
  have HB3 : Hid (Below w.heap.size w w3 ∧ Cur w.heap.size ao len cap zs w3 ∧ w2.heap.size ≤ g ∧ g < w3.heap.size) := ⟨HB2.out.1.trans (hb3.mono HB2.out.1.size), HB2.out.2.below hb3, hgl.1, hgl.2⟩
  have hgc : w.heap.size < g := by have := HC1.out.2.2; have h9 := World.block_lt_of_cell? w2 _ HB2.out.2.c0; have h8 : w.heap.size < w2.heap.size := h9; omega
  have HA3 : Hid (BAt w3 g 0 P ∧ ∀ o, w3.frozen? ⟨g, o, none⟩ = false) := ⟨ho3.at.1, fun o => World.ownsRow.frozenAt ho3 o⟩
  clear hb3 HPC ho3 hgl
  go_wp2_with fail
  refine (below_any w.heap.size ao len cap zs w3 HB3.out.2.1 5 (by decide) (by decide)).mono ?_
  rintro e w4 ⟨x, rfl, hx0, hx1, hd4⟩
  have HD4 : Hid (Below w.heap.size w w4 ∧ Cur w.heap.size ao len cap zs w4 ∧ g < w4.heap.size ∧ BAt w4 g 0 P ∧ (∀ o, w4.frozen? ⟨g, o, none⟩ = false)) := ⟨Turn.below HB3.out.1 HB3.out.1.size hd4.2 (Nat.le_refl _), hd4.1, Nat.lt_of_lt_of_le HB3.out.2.2.2 hd4.2.size, HA3.out.1.turn hd4.2 (by omega), fun o => by rw [hd4.2.frozen (by omega) HB3.out.2.2.2]; exact HA3.out.2 o⟩
  have HGC : Hid (g ≠ w.heap.size ∧ w.heap.size ≤ g) := ⟨by omega, by omega⟩
  clear hd4 hgc
  by_cases hxz : x = 0
  · subst hxz
    go_wp2_with fail
    refine (belowMore_any w.heap.size ao len cap zs w4 HD4.out.2.1 P.length hP1 (by omega)).mono ?_
    rintro e w5 ⟨k, rfl, hk, hd5⟩
    have HD5 : Hid (Below w.heap.size w w5 ∧ Cur w.heap.size ao len cap zs w5 ∧ g < w5.heap.size ∧ BAt w5 g 0 P ∧ (∀ o, w5.frozen? ⟨g, o, none⟩ = false)) := ⟨Turn.below HD4.out.1 HD4.out.1.size hd5.2 (Nat.le_refl _), hd5.1, Nat.lt_of_lt_of_le HD4.out.2.2.1 hd5.2.size, HD4.out.2.2.2.1.turn hd5.2 HGC.out.1, fun o => by rw [hd5.2.frozen HGC.out.1 HD4.out.2.2.1]; exact HD4.out.2.2.2.2 o⟩
    clear hd5
    go_wp2_with fail
    have hz5 : w.heap.size < w5.heap.size := by have := HD5.out.2.2.1; have := HGC.out.2; omega
    refine (int_any w.heap.size ao len cap zs _ (HD5.out.2.1.alloc _) w5.heap.size bentB (by omega) (by decide) (by decide) ?_).mono ?_
    · intro j hj
      rw [World.cell?_alloc_new]
      have hj' : j < 6 := hj
      have : j = 0 ∨ j = 1 ∨ j = 2 ∨ j = 3 ∨ j = 4 ∨ j = 5 := by omega
      rcases this with rfl | rfl | rfl | rfl | rfl | rfl <;> rfl
    rintro e w6 ⟨y, rfl, hy, hd6⟩
    have hy2 : 0 ≤ y ∧ y < 256 := by
      simp only [bentB, List.mem_cons, List.not_mem_nil, or_false] at hy
      omega
    have ht6 : Turn w.heap.size w5 w6 := ((Turn.refl _ w5).alloc _).trans hd6.2
    have HD6 : Hid (Below w.heap.size w w6 ∧ g < w6.heap.size ∧ BAt w6 g 0 P) := ⟨Turn.below HD5.out.1 HD5.out.1.size ht6 (Nat.le_refl _), Nat.lt_of_lt_of_le HD5.out.2.2.1 ht6.size, HD5.out.2.2.2.1.turn ht6 HGC.out.1⟩
    have hfz : ∀ o, w6.frozen? ⟨g, o, none⟩ = false := fun o => by rw [ht6.frozen HGC.out.1 HD5.out.2.2.1]; exact HD5.out.2.2.2.2 o
    have hck := HD6.out.2.2 k hk
    rw [Nat.zero_add] at hck
    obtain ⟨yb, hyb⟩ : ∃ yb : UInt8, ((yb.toNat : Nat) : Int) = y := ⟨UInt8.ofNat y.toNat, by rw [toNat_of (by omega)]; omega⟩
    have hwy : IntKind.u8.wrap y = y := by rw [← hyb]; simp [IntKind.wrap, IntKind.bits, IntKind.signed] <;> omega
    have HF : Hid (BAt (w6.setCell ⟨g, k, none⟩ (.int .u8 y)) g 0 (P.set k yb) ∧ Below w.heap.size w (w6.setCell ⟨g, k, none⟩ (.int .u8 y)) ∧ g < (w6.setCell ⟨g, k, none⟩ (.int .u8 y)).heap.size) := by
      refine ⟨?_, HD6.out.1.setCell HGC.out.2 _, by rw [World.size_setCell]; exact HD6.out.2.1⟩
      rw [← hyb]
      exact bat_set HD6.out.2.2 k hk yb
    clear hy hd6 ht6 hyb
    go_wp2_with fail
    go_ret
    exact ⟨g, c, P.set k yb, by rw [List.length_set]; rfl, HF.out.1, by rw [List.length_set]; omega, by rw [List.length_set]; omega, HF.out.2.2, HF.out.2.1⟩
  · by_cases hxo : x = 1
    · subst hxo
      go_wp2_with fail
      refine (belowMore_any w.heap.size ao len cap zs w4 HD4.out.2.1 P.length hP1 (by omega)).mono ?_
      rintro e w5 ⟨k, rfl, hk, hd5⟩
      have HD5 : Hid (Below w.heap.size w w5 ∧ g < w5.heap.size ∧ BAt w5 g 0 P) := ⟨Turn.below HD4.out.1 HD4.out.1.size hd5.2 (Nat.le_refl _), Nat.lt_of_lt_of_le HD4.out.2.2.1 hd5.2.size, HD4.out.2.2.2.1.turn hd5.2 HGC.out.1⟩
      have HTK : Hid ((P.take k).length = k) := by show _ = _; rw [List.length_take]; omega
      have hkc : (k : Int) ≤ c := by omega
      clear hd5
      go_wp2_with fail
      go_ret
      refine ⟨g, c, P.take k, by rw [HTK.out]; rfl, ?_, by rw [HTK.out]; omega, by rw [HTK.out]; omega, HD5.out.2.1, HD5.out.1⟩
      have := HD5.out.2.2.part 0 k
      rw [List.drop_zero] at this; exact this
    · have e1 : (x == 0) = false := beq_eq_false_iff_ne.2 hxz
      have e2 : (x == 1) = false := beq_eq_false_iff_ne.2 hxo
      clear hxz hxo
      go_wp2_with fail
      go_ret
      exact ⟨g, c, P, rfl, HD4.out.2.2.2.1, hcc, hP2, HD4.out.2.2.1, HD4.out.1⟩
end Go.Proofs.YtgdlkekjbdkjjaaGreatDoor.Cb
namespace Go.Proofs.YtgdlkekjbdkjjaaGreatDoor.Cb
open Go.RowKit
open Go.Proofs.YtgdlkekjbdkjjaaGreatDoor.By
open Go.Proofs.YtgdlkekjbdkjjaaGreatDoor.Code (I codeB specOk RowI SmI Bx6)
set_option linter.unusedVariables false

/-- The list that GetCode answers, and whether it is one. -/
def listC (L : List UInt8) : List I := (getC L).getD []
theorem listC_len (L : List UInt8) : (listC L).length ≤ 200 := by
  unfold listC
  cases h : getC L with
  | none => simp
  | some l =>
    unfold getC getCm at h
    cases hg : getB L 0 with
    | none => rw [hg] at h; cases h
    | some p =>
      rw [hg] at h
      simp only at h
      by_cases hn : 1 ≤ p.1 ∧ p.1 ≤ 200
      · rw [if_pos hn] at h
        exact (codeB_len (okC_some h).2).2
      · rw [if_neg hn] at h; cases h
/-- The specification's row, wherever it lies behind W. -/
def SpR (W : Nat) (w' : World) (va : Option Addr) (l : List I) : Prop := l = [] ∨ ∃ b, va = some ⟨b, 0, none⟩ ∧ W ≤ b ∧ b < w'.heap.size ∧ ∀ j (hj : j < l.length), Bx6 w' b (j * 6) l[j]
theorem SpR.row {W : Nat} {w' : World} {va : Option Addr} {l : List I} (h : SpR W w' va l) : RowI w' va l := by
  rcases h with h | ⟨b, e, _, _, hr⟩
  · exact .inl h
  · exact .inr ⟨b, 0, e, fun j hj => by rw [Nat.zero_add]; exact hr j hj⟩
theorem SpR.below {W : Nat} {w w' : World} {va : Option Addr} {l : List I} (h : SpR W w va l) (hb : Below w.heap.size w w') : SpR W w' va l := by
  rcases h with h | ⟨b, e, h1, h2, hr⟩
  · exact .inl h
  · exact .inr ⟨b, e, h1, Nat.lt_of_lt_of_le h2 hb.size, fun j hj => (hr j hj).below hb⟩
theorem bx_turn {cb : Nat} {w w' : World} {b o : Nat} {x : I} (h : Bx6 w b o x) (t : Turn cb w w') (hn : b ≠ cb) : Bx6 w' b o x :=
  ⟨t.cell hn h.c0, t.cell hn h.c1, t.cell hn h.c2, t.cell hn h.c3, t.cell hn h.c4, t.cell hn h.c5⟩
theorem specGetC2 (ao : Option Addr) (cap : Nat) (L : List UInt8) (w : World) (hr : RdB w ao L) (hN : L.length ≤ 1048600) (hcap : L.length ≤ cap) (hlow : ∀ b o, ao = some ⟨b, o, none⟩ → b < w.heap.size) :
    Calls Tryz.prog 10 #[.slice ao L.length cap] w fun e w' => ∃ va vc, e = .returned (.tuple #[.slice va (listC L).length vc, .bool (getC L).isSome]) ∧ SpR w.heap.size w' va (listC L) ∧ Below w.heap.size w w' := by
  refine (specGetC_any ao cap L w hr hN hcap hlow).mono ?_
  rintro e w' ⟨⟨l, v, hg, rfl, hrow⟩ | ⟨hg, g, rfl⟩, hb⟩
  · obtain ⟨va, vc, rfl, _, _⟩ := hrow.slice
    have hl : listC L = l := by unfold listC; rw [hg]; rfl
    rw [hl, hg]
    refine ⟨va, vc, rfl, ?_, hb⟩
    by_cases hnil : l = []
    · exact .inl hnil
    · rcases hrow.2 with ⟨_, h0⟩ | ⟨g, cp, cur, hv, hB, hgg, _⟩
      · exact absurd (List.length_eq_zero_iff.1 h0) hnil
      · injection hv with hv
        subst hv
        rcases hrow.row with h | ⟨b, o, e, hrw⟩
        · exact absurd h hnil
        · injection e with e
          injection e with e1 e2
          subst e1
          subst e2
          exact .inr ⟨g, rfl, hB, (Array.getElem?_eq_some_iff.1 hgg).1, fun j hj => by have := hrw j hj; rw [Nat.zero_add] at this; exact this⟩
  · have hl : listC L = [] := by unfold listC; rw [hg]; rfl
    rw [hl, hg]
    exact ⟨_, _, rfl, .inl rfl, hb⟩
theorem implGetC3 (ao : Option Addr) (cap : Nat) (L : List UInt8) (w : World) (hr : RdB w ao L) (hN : L.length ≤ 1048600) (hcap : L.length ≤ cap) (hS : Code.Shp w) (hP : Code.Pow w) (hE : Es.Ety w) :
    Calls Tryz.prog 9 #[.slice ao L.length cap] w fun e w' => ∃ g, e = .returned (.tuple #[.slice (some ⟨g, 0, none⟩) (listC L).length (listC L).length, .bool (getC L).isSome]) ∧ RowI w' (some ⟨g, 0, none⟩) (listC L) ∧ Below w.heap.size w w' := by
  refine (implGetC_any ao cap L w hr hN hcap hS hP hE).mono ?_
  rintro e w' (⟨l, g, hg, rfl, hf⟩ | ⟨hg, g, rfl, hb⟩)
  · have hl : listC L = l := by unfold listC; rw [hg]; rfl
    rw [hl, hg]
    exact ⟨g, rfl, hf.row, hf.below⟩
  · have hl : listC L = [] := by unfold listC; rw [hg]; rfl
    rw [hl, hg]
    exact ⟨g, rfl, .inl rfl, hb⟩
end Go.Proofs.YtgdlkekjbdkjjaaGreatDoor.Cb
namespace Go.Proofs.YtgdlkekjbdkjjaaGreatDoor.Cb
open Go.RowKit
open Go.Proofs.YtgdlkekjbdkjjaaGreatDoor.By
open Go.Proofs.YtgdlkekjbdkjjaaGreatDoor.Code (I codeB specOk RowI SmI Bx6 Wee codeT textC parseP Sur dat)
set_option linter.unusedVariables false

theorem code_in64 {l : List I} (h : codeB l = true) : Code.Al64 l := fun x hx => by
  obtain ⟨_, ha, hb, hc, hn⟩ := ins_in (codeB_all h x hx)
  unfold InM at ha hb hc hn
  exact ⟨by omega, by omega, by omega, by omega⟩
theorem dat_back (s : ByteArray) : (⟨(dat s).toArray⟩ : ByteArray) = s := by
  obtain ⟨⟨a⟩⟩ := s
  rfl

set_option maxHeartbeats 4000000 in
set_option maxRecDepth 100000 in
theorem codesRead_walk (w : World) (ao : Option Addr) (len cap : Nat) (zs : List Int) (hr : IsRow w ao len cap zs) (hlc : len ≤ cap) (hcm : cap ≤ maxLen) (hU : Sur w) :
    Calls Tryz.prog 3 #[.slice ao len cap] w fun e w' => e = .returned (.bool true) ∧ Below w.heap.size w w' := by
  have HR : Hid (IsRow w ao len cap zs) := hr
  have HU : Hid (Sur w) := hU
  have HBG : Hid (∀ w', Calls Tryz.prog 4 #[.slice ao len cap] w' fun e w'' => e = .returned (.bool (decide (1048576 < len))) ∧ w'' = w') := fun w' => bigB_any ao len cap w' (Nat.le_trans hlc hcm)
  clear hr hlc hcm hU
  by_cases hbig : 1048576 < len
  · have hd : decide (1048576 < len) = true := by simpa using hbig
    rw [hd] at HBG
    go_enter Tryz.func3, Tryz.ntmps3
    go_wp2_with (go_at_call 4; refine (HBG.out _).mono ?_; rintro e w' ⟨rfl, rfl⟩)
    go_ret
    exact ⟨rfl, Below.refl _ _⟩
  · have hd : decide (1048576 < len) = false := by simpa using hbig
    rw [hd] at HBG
    have HSM : Hid (len ≤ 1048576) := by show _ ≤ _; omega
    clear hd hbig
    go_enter Tryz.func3, Tryz.ntmps3
    go_wp2_with (go_at_call 4; refine (HBG.out _).mono ?_; rintro e w' ⟨rfl, hw'⟩; obtain rfl := hw'.symm)
    refine (drawParseC_any ao len cap zs w HR.out HSM.out).mono ?_
    rintro e w1 ⟨s, rfl, hs, hb1⟩
    have HW1 : Hid (Below w.heap.size w w1 ∧ s.size ≤ 1048576) := ⟨hb1, hs⟩
    clear hb1 hs
    go_wp2_with fail
    refine (Code.implParse_any s w1 HW1.out.2 (HU.out.below HW1.out.1)).mono ?_
    rintro e w2 ⟨⟨va, vc, l, rfl, hrow, hor⟩, hb2⟩
    have HW2 : Hid (Below w.heap.size w w2 ∧ RowI w2 va l ∧ (parseP (dat s) = some l ∨ parseP (dat s) = none ∧ l = [])) := ⟨join8 HW1.out.1 hb2, hrow.row, hor⟩
    clear hrow hb2 hor
    obtain ⟨q, hq⟩ : ∃ q, q = (parseP (dat s)).isSome := ⟨_, rfl⟩
    have HQ : Hid (q = (parseP (dat s)).isSome) := hq
    rw [← hq]
    clear hq
    go_wp2_with fail
    refine (Code.specParse_any s w2 HW1.out.2).mono ?_
    rintro e w3 ⟨⟨va3, vc3, l3, rfl, hrow3, hor3⟩, hb3⟩
    have HW3 : Hid (Below w.heap.size w w3 ∧ RowI w3 va l) := ⟨join8 HW2.out.1 hb3, HW2.out.2.1.below hb3⟩
    rw [← HQ.out]
    clear hrow3 hb3 hor3
    go_wp2_with fail
    refine (drawGetC_any ao len cap zs w3 (HR.out.below HW3.out.1) HSM.out).mono ?_
    rintro e w4 ⟨g, c, L, rfl, hbat, hLc, hL, hgl, hb4⟩
    have HW4 : Hid (Below w.heap.size w w4 ∧ RowI w4 va l ∧ BAt w4 g 0 L ∧ g < w4.heap.size) := ⟨join8 HW3.out.1 hb4, HW3.out.2.below hb4, hbat, hgl⟩
    clear hbat hgl hb4
    go_wp2_with fail
    have hu4 := HU.out.below HW4.out.1
    refine (implGetC3 (some ⟨g, 0, none⟩) c L w4 HW4.out.2.2.1.rd (by omega) hLc hu4.shp hu4.pow hu4.ety).mono ?_
    rintro e w5 ⟨g5, rfl, him, hb5⟩
    have HW5 : Hid (Below w.heap.size w w5 ∧ RowI w5 va l ∧ BAt w5 g 0 L ∧ g < w5.heap.size ∧ RowI w5 (some ⟨g5, 0, none⟩) (listC L)) := ⟨join8 HW4.out.1 hb5, HW4.out.2.1.below hb5, HW4.out.2.2.1.below hb5, Nat.lt_of_lt_of_le HW4.out.2.2.2 hb5.size, him⟩
    clear him hb5 hu4
    obtain ⟨z, hz⟩ : ∃ z, z = (getC L).isSome := ⟨_, rfl⟩
    have HZ : Hid (z = (getC L).isSome) := hz
    rw [← hz]
    clear hz
    go_wp2_with fail
    refine (specGetC2 (some ⟨g, 0, none⟩) c L w5 HW5.out.2.2.1.rd (by omega) hLc (fun b o e => by cases e; exact HW5.out.2.2.2.1)).mono ?_
    rintro e w6 ⟨va6, vc6, rfl, hsp, hb6⟩
    have HW6 : Hid (Below w.heap.size w w6 ∧ RowI w6 va l ∧ BAt w6 g 0 L ∧ RowI w6 (some ⟨g5, 0, none⟩) (listC L)) := ⟨join8 HW5.out.1 hb6, HW5.out.2.1.below hb6, HW5.out.2.2.1.below hb6, HW5.out.2.2.2.2.below hb6⟩
    rw [← HZ.out]
    clear hsp hb6
    obtain ⟨M, hM⟩ : ∃ M, M = listC L := ⟨_, rfl⟩
    have HM : Hid (M = listC L) := hM
    rw [← hM] at HW6 ⊢
    clear hM
    have HGT : Hid (∀ w7, Below w6.heap.size w6 w7 → (z = false → M.length = 0) ∧ (z = true → Calls Tryz.prog 11 #[.slice (some ⟨g5, 0, none⟩) M.length M.length] w7 (fun e w' => e = .returned (.bool true) ∧ Below w7.heap.size w7 w') ∧ Calls Tryz.prog 14 #[.slice (some ⟨g5, 0, none⟩) M.length M.length] w7 (fun e w' => ∃ gp cp, e = .returned (.slice (some ⟨gp, 0, none⟩) L.length cp) ∧ BAt w' gp 0 L ∧ Below w7.heap.size w7 w'))) := fun w7 hb => by
      have hu7 := HU.out.below (HW6.out.1.trans (hb.mono HW6.out.1.size))
      have hr7 := HW6.out.2.2.2.below hb
      refine ⟨fun h => ?_, fun h => ?_⟩
      · rw [HM.out]
        have hz := HZ.out
        rw [h] at hz
        unfold listC
        cases hg : getC L with
        | none => rfl
        | some m => rw [hg] at hz; cases hz
      · have hz := HZ.out
        rw [h] at hz
        obtain ⟨m, hg⟩ := Option.isSome_iff_exists.1 hz.symm
        have hm : M = m := by rw [HM.out]; unfold listC; rw [hg]; rfl
        subst hm
        obtain ⟨h1, h2⟩ := code_back hg
        have hl := Code.codeB_len h1
        have hsm : SmI maxLen M := fun x hx => by have := code_small h1 x hx; unfold maxLen; omega
        refine ⟨?_, ?_⟩
        · have := Code.implCode_any M (some ⟨g5, 0, none⟩) M.length w7 hr7 hsm (by omega) hu7.shp hu7.pow hu7.ety
          rw [h1] at this; exact this
        · refine (implPutC_any M (some ⟨g5, 0, none⟩) M.length w7 hr7 hsm (by omega) hu7.shp hu7.pow hu7.ety).mono ?_
          rw [putC_yes h1, h2]
          rintro e w' ⟨gp, cp, rfl, ho, hb'⟩
          exact ⟨gp, cp, rfl, ho.at.1, hb'⟩
    have HSB : Hid (∀ gp cp w7, Below w6.heap.size w6 w7 → BAt w7 gp 0 L → Calls Tryz.prog 13 #[.slice (some ⟨gp, 0, none⟩) L.length cp, .slice (some ⟨g, 0, none⟩) L.length c] w7 fun e w' => e = .returned (.bool true) ∧ Below w7.heap.size w7 w') := fun gp cp w7 hb hbt =>
      sameB_same (some ⟨gp, 0, none⟩) (some ⟨g, 0, none⟩) cp c L w7 hbt.rd (HW6.out.2.2.1.below hb).rd (by omega)
    have HPT : Hid (q = true → Calls Tryz.prog 11 #[.slice va l.length vc] w6 (fun e w' => e = .returned (.bool true) ∧ Below w6.heap.size w6 w') ∧ ∀ w7, Below w6.heap.size w6 w7 → Calls Tryz.prog 12 #[.slice va l.length vc] w7 (fun e w' => e = .returned (.string s) ∧ Below w7.heap.size w7 w')) := fun h => by
      have hq := HQ.out
      rw [h] at hq
      have hp : parseP (dat s) = some l := by
        rcases HW2.out.2.2 with h9 | ⟨h9, _⟩
        · exact h9
        · rw [h9] at hq; cases hq
      obtain ⟨h1, h2⟩ := Code.parse_back hp
      have hl := Code.codeB_len h2
      have hu6 := HU.out.below HW6.out.1
      refine ⟨?_, fun w7 hb => ?_⟩
      · have := Code.implCode_any l va vc w6 HW6.out.2.1 (fun x hx => by have := code_small h2 x hx; unfold maxLen; omega) (by omega) hu6.shp hu6.pow hu6.ety
        rw [h2] at this; exact this
      · have hu7 := hu6.below hb
        have := Code.implCodeText_any l va vc w7 (HW6.out.2.1.below hb) (fun x hx => by have := code_small h2 x hx; omega) (code_in64 h2) (by omega) hu7.shp hu7.pow hu7.ety
        have e : (⟨(textC l).toArray⟩ : ByteArray) = s := by unfold Code.textC; rw [h2, if_pos rfl, h1]; exact dat_back s
        rw [e] at this; exact this
    clear HM HZ HQ HU HR HSM HW1 HW2 HW3 HW4 HW5 hL hLc
    obtain ⟨NL, hNL⟩ : ∃ NL, NL = L.length := ⟨_, rfl⟩
    obtain ⟨NM, hNM⟩ : ∃ NM, NM = M.length := ⟨_, rfl⟩
    obtain ⟨Nl, hNl⟩ : ∃ Nl, Nl = l.length := ⟨_, rfl⟩
    rw [← hNL, ← hNM] at HGT
    rw [← hNL] at HSB
    rw [← hNl] at HPT
    rw [← hNL, ← hNM, ← hNl]
    clear hNL hNM hNl
    have HFIN : Hid (∀ w7, Below w6.heap.size w6 w7 → Below w.heap.size w w7) := fun w7 hb => HW6.out.1.trans (hb.mono HW6.out.1.size)
    have HB6 : Hid (Below w6.heap.size w6 w6) := Below.refl _ _
    cases q
    · clear HPT
      cases z
      · have hn : NM = 0 := (HGT.out w6 (Below.refl _ _)).1 rfl
        subst hn
        clear HGT HSB
        go_wp2_with fail
        go_ret
        exact ⟨rfl, HFIN.out w6 HB6.out⟩
      · have H1 : Hid (∀ w7, Below w6.heap.size w6 w7 → Calls Tryz.prog 11 #[.slice (some ⟨g5, 0, none⟩) NM NM] w7 (fun e w' => e = .returned (.bool true) ∧ Below w7.heap.size w7 w')) := fun w7 hb => ((HGT.out w7 hb).2 rfl).1
        have H2 : Hid (∀ w7, Below w6.heap.size w6 w7 → Calls Tryz.prog 14 #[.slice (some ⟨g5, 0, none⟩) NM NM] w7 (fun e w' => ∃ gp cp, e = .returned (.slice (some ⟨gp, 0, none⟩) NL cp) ∧ BAt w' gp 0 L ∧ Below w7.heap.size w7 w')) := fun w7 hb => ((HGT.out w7 hb).2 rfl).2
        clear HGT
        go_wp2_with fail
        refine (H1.out w6 HB6.out).mono ?_
        rintro e wa ⟨rfl, hba⟩
        have HBA : Hid (Below w6.heap.size w6 wa) := HB6.out.trans (hba.mono HB6.out.size)
        clear hba
        go_wp2_with fail
        refine (H2.out wa HBA.out).mono ?_
        rintro e wb ⟨gp, cp, rfl, hbt, hbb⟩
        have HBB : Hid (Below w6.heap.size w6 wb ∧ BAt wb gp 0 L) := ⟨HBA.out.trans (hbb.mono HBA.out.size), hbt⟩
        clear hbb hbt
        go_wp2_with fail
        refine (HSB.out gp cp wb HBB.out.1 HBB.out.2).mono ?_
        rintro e wc ⟨rfl, hbc⟩
        have HBC : Hid (Below w6.heap.size w6 wc) := HBB.out.1.trans (hbc.mono HBB.out.1.size)
        clear hbc
        go_wp2_with fail
        go_ret
        exact ⟨rfl, HFIN.out wc HBC.out⟩
    · have HP1 : Hid (Calls Tryz.prog 11 #[.slice va Nl vc] w6 (fun e w' => e = .returned (.bool true) ∧ Below w6.heap.size w6 w')) := (HPT.out rfl).1
      have HP2 : Hid (∀ w7, Below w6.heap.size w6 w7 → Calls Tryz.prog 12 #[.slice va Nl vc] w7 (fun e w' => e = .returned (.string s) ∧ Below w7.heap.size w7 w')) := (HPT.out rfl).2
      clear HPT
      go_wp2_with fail
      refine HP1.out.mono ?_
      rintro e w7 ⟨rfl, hb7⟩
      have HB7 : Hid (Below w6.heap.size w6 w7) := hb7
      clear hb7
      go_wp2_with fail
      refine (HP2.out w7 HB7.out).mono ?_
      rintro e w8 ⟨rfl, hb8⟩
      have HB8 : Hid (Below w6.heap.size w6 w8) := HB7.out.trans (hb8.mono HB7.out.size)
      clear hb8
      cases z
      · have hn : NM = 0 := (HGT.out w6 (Below.refl _ _)).1 rfl
        subst hn
        clear HGT HSB
        go_wp2_with fail
        go_ret
        exact ⟨rfl, HFIN.out w8 HB8.out⟩
      · have H1 : Hid (∀ w7, Below w6.heap.size w6 w7 → Calls Tryz.prog 11 #[.slice (some ⟨g5, 0, none⟩) NM NM] w7 (fun e w' => e = .returned (.bool true) ∧ Below w7.heap.size w7 w')) := fun w7 hb => ((HGT.out w7 hb).2 rfl).1
        have H2 : Hid (∀ w7, Below w6.heap.size w6 w7 → Calls Tryz.prog 14 #[.slice (some ⟨g5, 0, none⟩) NM NM] w7 (fun e w' => ∃ gp cp, e = .returned (.slice (some ⟨gp, 0, none⟩) NL cp) ∧ BAt w' gp 0 L ∧ Below w7.heap.size w7 w')) := fun w7 hb => ((HGT.out w7 hb).2 rfl).2
        clear HGT
        go_wp2_with fail
        refine (H1.out w8 HB8.out).mono ?_
        rintro e wa ⟨rfl, hba⟩
        have HBA : Hid (Below w6.heap.size w6 wa) := HB8.out.trans (hba.mono HB8.out.size)
        clear hba
        go_wp2_with fail
        refine (H2.out wa HBA.out).mono ?_
        rintro e wb ⟨gp, cp, rfl, hbt, hbb⟩
        have HBB : Hid (Below w6.heap.size w6 wb ∧ BAt wb gp 0 L) := ⟨HBA.out.trans (hbb.mono HBA.out.size), hbt⟩
        clear hbb hbt
        go_wp2_with fail
        refine (HSB.out gp cp wb HBB.out.1 HBB.out.2).mono ?_
        rintro e wc ⟨rfl, hbc⟩
        have HBC : Hid (Below w6.heap.size w6 wc) := HBB.out.1.trans (hbc.mono HBB.out.1.size)
        clear hbc
        go_wp2_with fail
        go_ret
        exact ⟨rfl, HFIN.out wc HBC.out⟩
end Go.Proofs.YtgdlkekjbdkjjaaGreatDoor.Cb
namespace Go.Proofs.YtgdlkekjbdkjjaaGreatDoor.fnCodesRead
open Go.ChangeShapes Go.WideShapes Go.ChangeAt Go.RowKit
open Go.Proofs.YtgdlkekjbdkjjaaGreatDoor.Code
set_option linter.unusedVariables false

theorem err_cell {W : World} {n nm : String} {d : DataW Unit} {rest : List (String × DataW Unit)} {g : Nat} {t : TypeId} {ms : Array (String × TypeId)} (h : laidMet Tryz.prog ((n, .iface nm d) :: rest) W) (hn : Tryz.prog.globalNamed n = some g) (ht : (Tryz.prog.globals[g]?).map (·.type) = some t) (hu : Tryz.prog.underlying t = some (.interface ms)) :
    ∃ ev, W.cell? ⟨g, 0, none⟩ = some ev ∧ (ev = .nilIface ∨ ∃ te pe, ev = .iface te pe) := by
  obtain ⟨ps, ⟨g0, t0, cs0, f0, p0, q0, hg0, ht0, hv0, hd0, _, _⟩, _, _⟩ := h
  obtain rfl := Option.some.inj (hn.symm.trans hg0)
  obtain rfl := Option.some.inj (ht.symm.trans ht0)
  obtain ⟨f', u, v, hcs, _, _⟩ := iface_of_trod hu hd0
  have hc : cs0 = #[.iface u v] := by cases cs0; simp_all
  subst hc
  have := World.var?_cell hn hv0 0
  exact ⟨.iface u v, by simpa using this, .inr ⟨u, v, rfl⟩⟩
theorem laid_of {W : World} (h : laidMetH Tryz.prog Rows.fnCodesReadRow.laid W) : (Shp W ∧ Pow W) ∧ Es.Ety W ∧ (∃ ev, W.cell? ⟨4, 0, none⟩ = some ev ∧ (ev = .nilIface ∨ ∃ te pe, ev = .iface te pe)) ∧ (∃ ev, W.cell? ⟨5, 0, none⟩ = some ev ∧ (ev = .nilIface ∨ ∃ te pe, ev = .iface te pe)) := by
  have h' : laidMet Tryz.prog [("math/bits.deBruijn32tab", Rows.laid_math_bits_deBruijn32tab), ("math/bits.deBruijn64tab", Rows.laid_math_bits_deBruijn64tab), ("internal/strconv.uint64pow10", Rows.laid_internal_strconv_uint64pow10), ("unicode/utf8.acceptRanges", Rows.laid_unicode_utf8_acceptRanges), ("strconv.ErrRange", Rows.laid_strconv_ErrRange), ("strconv.ErrSyntax", Rows.laid_strconv_ErrSyntax), ("loop.example/g00248/impl.shapes", Rows.laid_loop_example_g00248_impl_shapes), ("unicode/utf8.first", Rows.laid_unicode_utf8_first)] W ∧ handlesMet Tryz.prog [("errors.errorType", Rows.laid_errors_errorType)] W := h
  have h3 := laidMet.tail (laidMet.tail h'.1)
  have h5 := laidMet.tail (laidMet.tail h3)
  have h6 := laidMet.tail h5
  exact ⟨⟨shp_of_met (laidMet.tail h6), pow_of_met h3⟩, ety_of (by kernel_rfl) h'.2, err_cell h6 (by kernel_rfl) (by kernel_rfl) Tryz.underlying41, err_cell h5 (by kernel_rfl) (by kernel_rfl) Tryz.underlying41⟩
theorem shp_of {W : World} (h : laidMetH Tryz.prog Rows.fnCodesReadRow.laid W) : Shp W := (laid_of h).1.1
theorem sur_of {W : World} (h : laidMetH Tryz.prog Rows.fnCodesReadRow.laid W) (hs : W.ShapedOpen Tryz.prog) : Sur W :=
  ⟨(laid_of h).1.1, (laid_of h).1.2, ⟨cell_of_shapedOpen_int (t := 3) (zero := #[.int .i64 0]) hs (of_decide_eq_true (by kernel_rfl)) (by kernel_rfl) rfl (by kernel_rfl) (by kernel_rfl) Tryz.underlying3, (laid_of h).2.2.1, (laid_of h).2.2.2⟩, (laid_of h).2.1⟩

/-- The heap that the variables' own initialisers leave, and the table that is pinned by name, meet the condition. -/
theorem door_met (os : Os) (args : Array Value) : laidMetH Tryz.prog Rows.fnCodesReadRow.laid (((World.doorLaid Tryz.prog 400 os).layVars Tryz.prog (Rows.fnCodesReadRow.laid.filter fun x => x.2.handleName?.isNone)).forCall (fun _ _ => 0) ⟨#[], args, []⟩).memory := by
  refine laidMetH_of_parts3 (fuel := 8) ?_ (by kernel_rfl) (by kernel_rfl)
  generalize hl : (Rows.fnCodesReadRow.laid.filter fun x => x.2.handleName?.isNone) = L
  have e1 : (L.filter fun x => (L.map (·.1)).contains x.1) = L := List.filter_eq_self.2 fun x hx => List.contains_iff_mem.2 (List.mem_map.2 ⟨x, hx, rfl⟩)
  have e2 : (L.filter fun x => !(L.map (·.1)).contains x.1) = [] := List.filter_eq_nil_iff.2 fun x hx => by rw [List.contains_iff_mem.2 (List.mem_map.2 ⟨x, hx, rfl⟩)]; simp
  have f1 : (World.doorLaid Tryz.prog 400 os).layFits Tryz.prog L [] = true := by subst hl; kernel_rfl
  have f2 : (World.doorLaid Tryz.prog 400 os).layIfaces Tryz.prog L ((World.doorLaid Tryz.prog 400 os).layVars Tryz.prog L) = true := by subst hl; kernel_rfl
  have h : laidMet Tryz.prog L ((World.doorLaid Tryz.prog 400 os).layVars Tryz.prog L) := laidMet_layVars (w0 := World.doorLaid Tryz.prog 400 os) (L.map (·.1)) [] (by rw [e1]) (by rw [e1]; exact f1) (by rw [e1]; exact f2) (by rw [e2]; exact LaidIn.none)
  exact h.of_heap (by simp [World.memory, World.forCall, Input.heap])

theorem row_len {w : World} {a : Option Addr} {len cap : Nat} {zs : List Int} (h : IsRow w a len cap zs) : len ≤ cap ∧ cap ≤ maxLen := by
  rcases h with ⟨_, rfl, rfl, _⟩ | ⟨_, _, h1, h2, _⟩
  · exact ⟨Nat.le_refl _, Nat.zero_le _⟩
  · exact ⟨h1, h2⟩

set_option maxRecDepth 100000 in
theorem core {H : Type} {enc : TypeId × Value → H} (W : World) (base : Nat) (args : Array Value) (ds gs : List (DataW H)) (before : List MemPlace)
    (hval0 : ∀ (j : Nat) t v, Tryz.f3.params[j]? = some t → args[j]? = some v → Value.okWide Tryz.prog W .any base t v)
    (hW : DataW.Whole enc Tryz.prog Tryz.f3.params.toList Rows.fnCodesReadSpec.vars false W args.toList ds gs before)
    (hL : laidMetH Tryz.prog Rows.fnCodesReadRow.laid W) (hsh : W.ShapedOpen Tryz.prog) :
    Calls Tryz.prog 3 args W fun e W' => ∃ v, e = .returned v ∧ Rows.fnCodesReadSpec.post enc Tryz.prog Tryz.f3 false true false false W args v W' := by
  have hval : ∀ (j : Nat) t v, Tryz.f3.params[j]? = some t → args[j]? = some v → Value.okWide Tryz.prog W .any base t v := hval0
  have hW' := hW
  obtain ⟨p, q, hA0, hV, rfl, hfz, hnd⟩ := hW
  have hA : DataW.TrodAll enc Tryz.prog W 0 (fun _ => true) true Tryz.f3.params.toList args.toList ds p := hA0
  rw [Tryz.params3] at hA hval
  obtain ⟨v0, vs0, d0, ds0, p0, q0, hargs, rfl, rfl, h0, r0⟩ := trodAll_cons hA
  obtain ⟨rfl, rfl, rfl⟩ := trodAll_nil r0
  obtain rfl : args = #[v0] := by cases args; simp_all
  have k0 := h0
  have lt0 : ∀ x ∈ p0, x.block < W.heap.size := by obtain ⟨m, hm⟩ := k0; exact DataW.trod_lt m _ _ _ hm
  obtain ⟨a0, len0, cap0, rfl⟩ := okWide_slice Tryz.underlying22 (hval 0 22 v0 rfl rfl)
  obtain ⟨z0, w0⟩ : ∃ zs, IsRow W a0 len0 cap0 zs := by
    obtain ⟨fuel, hf⟩ := h0
    rcases open_ints Tryz.underlying22 Tryz.underlying5 (by kernel_rfl) hf with ⟨hcs, _⟩ | ⟨x, l, c, zs, hcs, _, hl, hm, hz, _, hcell, hwz⟩
    · simp [Value.cells] at hcs
      obtain ⟨rfl, rfl, rfl⟩ := hcs
      exact ⟨[], .inl ⟨rfl, rfl, rfl, rfl⟩⟩
    · simp [Value.cells] at hcs
      obtain ⟨rfl, rfl, rfl⟩ := hcs
      exact ⟨zs, .inr ⟨_, rfl, hl, hm, by simpa using hz, hcell, hwz⟩⟩
  have hS := shp_of hL
  clear hA0 hval0
  refine (Cb.codesRead_walk W a0 len0 cap0 z0 w0 (row_len w0).1 (row_len w0).2 (sur_of hL hsh)).mono fun e W' ⟨he, bel⟩ => ?_
  subst he
  obtain ⟨q', hv'⟩ := vars_after (by kernel_rfl) hS hV bel
  have hg : ∃ g, gs = [g] := by
    obtain ⟨g, t, cs, fuel, d, p, e, _⟩ := trodVars_one hV
    exact ⟨d, e⟩
  obtain ⟨g, rfl⟩ := hg
  exact ⟨_, rfl, _, _, _, [], _, q', hW', trodAll_mk1 (shut_bool Tryz.underlying4 _), (trodAll_cons_mk (Below.trod laidOut (by kernel_rfl) (of_decide_eq_true (by kernel_rfl)) k0 bel lt0) trodAll_mk0), hv', bel.frame _, fun h => by cases h⟩

set_option maxRecDepth 100000 in
theorem lifted (os : Os) (started : os.Started) (H : Type) (enc : TypeId × Value → H) :
    ReturnsInHanded {} Tryz.checked os 3 .any (fun w args => (Rows.fnCodesReadSpec.pre enc Tryz.prog Tryz.f3 [] false w args ∧ laidMetH Tryz.prog Rows.fnCodesReadRow.laid w) ∧ sizedMet enc Tryz.prog Tryz.f3 (OpenSpec.ofChange Rows.fnCodesReadSpec) false w args)
      (Rows.fnCodesReadSpec.post enc Tryz.prog Tryz.f3 false true false false) := by
  refine returnsInHanded_of_calls own started (by kernel_rfl)
    (ChangeSpec.witness_shaped (enc := enc) (C := Tryz.checked) (os := os) (X := fun w _ => laidMetH Tryz.prog Rows.fnCodesReadRow.laid w) false ((World.doorLaid Tryz.prog 400 os).layVars Tryz.prog (Rows.fnCodesReadRow.laid.filter fun x => x.2.handleName?.isNone)) #[.slice none 0 0] 8 (World.layVars_os _ _ _) (World.shaped_of_ZipB (by kernel_rfl) (by kernel_rfl)) (by kernel_rfl) (by kernel_rfl) (by kernel_rfl) (door_met os _)) ?_
  intro w tape i _ hsh _ hok hpre _
  obtain ⟨_, _, _, fn', hfn', _, _, _, _, hval0⟩ := hok
  obtain rfl : fn' = Tryz.f3 := Option.some.inj (hfn'.symm.trans Tryz.func3)
  obtain ⟨⟨⟨ds, gs, before, hw, _⟩, hx⟩, _⟩ := hpre
  refine (core (w.forCall tape i) w.heap.size i.args ds gs before hval0 (DataW.Whole.of_heap (w' := w.forCall tape i) (by rfl) hw) (laidMetH.of_heap (show (w.forCall tape i).memory.heap = (w.forCall tape i).heap from rfl) hx) hsh).mono fun e W' ⟨v, he, hp⟩ => ?_
  subst he
  exact ChangeSpec.post_blind hp

theorem over : Rows.fnCodesReadRow.holds Tryz.pinned (OpenSpec.ofChange Rows.fnCodesReadSpec) :=
  OpenClaim.holds_of_wide 3 Tryz.f3 rfl rfl rfl rfl rfl rfl rfl ⟨rfl, rfl, rfl, rfl, rfl⟩ rfl rfl rfl rfl rfl (by kernel_rfl) Tryz.func3 (by kernel_rfl)
    (of_decide_eq_true (by kernel_rfl)) (by unfold Func.isWrapper; first | (rw [if_pos (by decide +kernel)]; kernel_rfl) | (rw [if_neg (by decide +kernel)]; exact ⟨rfl, rfl⟩))
    (fun os started H enc _ => lifted os started H enc)
end Go.Proofs.YtgdlkekjbdkjjaaGreatDoor.fnCodesRead
namespace Go.Proofs.YtgdlkekjbdkjjaaGreatDoor
theorem fnCodesRead_holds : Rows.FnCodesReadCardSaid :=
  Claim7.holds_tied_plain_at .later [] [.data, .data, .data, .data, .handle, .sentinel, .sentinel, .data, .pinned] true Rows.fnCodesReadCard.stood.harness true
    fnCodesRead.over (fun _ h => by cases h) (by kernel_rfl) (fun _ h => by cases h) fnCodesRead_row_tie rfl ⟨rfl, rfl⟩ (by kernel_rfl) rfl
    (fun f fn hf hfn => by
      obtain rfl : f = 3 := Option.some.inj ((show Tryz.prog.funcNamed Rows.fnCodesReadRow.func = some 3 by kernel_rfl).symm.trans hf) |>.symm
      obtain rfl : fn = Tryz.f3 := (Option.some.inj (Tryz.func3.symm.trans hfn)).symm
      exact ⟨by kernel_rfl, fun j t ht => by
        rw [Tryz.params3] at ht
        have hm : t ∈ [22] := by simpa using Array.mem_of_getElem? ht
        have hall : ([22].all fun u => !Tryz.prog.wantsStandIn u) = true := by kernel_rfl
        exact (show Tryz.prog.wantsStandIn t = false by simpa using List.all_eq_true.1 hall t hm)⟩)
    (by kernel_rfl)
#print axioms fnCodesRead_holds
end Go.Proofs.YtgdlkekjbdkjjaaGreatDoor
