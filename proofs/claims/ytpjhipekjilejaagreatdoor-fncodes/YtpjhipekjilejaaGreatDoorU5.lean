/-
  Of every code: drawn code that is right comes back of its text and of its bytes, and of what is not right there is neither: the law FnCodes returns true and its argument reads as before. What the card lays and ties: the tables of Go's library, two of its errors, the program's variable shapes, and one handle.
  (Ahead of it, in this text: What is laid: where the program's variable shapes reads as its initialiser lays it, it holds the table; it reads the same behind a call that turns nothing old. What is laid, for the laws on texts. An instruction that came in, opened; what the frames of the laws on code share. A row of instructions that came in, opened; what is laid, for the laws on code. Code that is drawn and bent: the specification's l8Any and DrawInsOk. What is drawn for the law FnNums: bytes and a number; bytes and a place. What the law FnCodes does.)
-/
import Derived.Test.YtpjhipekjilejaaGreatDoorCoI
import Derived.Test.YtpjhipekjilejaaGreatDoorTie
import Derived.Test.YtpjhipekjilejaaGreatDoorCards
import Derived.Lib.LaidTab
import Derived.LaidMore
import Derived.OpenShut
import Derived.Deep.Strs
import Derived.ChangeVars
import Derived.Stop.Joined
import Derived.Stop.LaidErr
import Derived.SevenTiedAt
import Derived.Test.YtpjhipekjilejaaGreatDoorCtC
import Derived.Test.YtpjhipekjilejaaGreatDoorCoM
import Derived.Test.YtpjhipekjilejaaGreatDoorCkB
import Derived.Test.YtpjhipekjilejaaGreatDoorCkC
import Derived.LaidHandle
import Derived.Deep.Slices
import Derived.Test.YtpjhipekjilejaaGreatDoorDcB
import Derived.Test.YtpjhipekjilejaaGreatDoorByD
import Derived.Test.YtpjhipekjilejaaGreatDoorByG
import Derived.Test.YtpjhipekjilejaaGreatDoorU3
import Derived.Test.YtpjhipekjilejaaGreatDoorU8
import Derived.LaidLaws
import Derived.Lay
import Derived.Shelf.Vars
import Derived.ChangeOld
namespace Go.Proofs.YtpjhipekjilejaaGreatDoor.Code
open Go.ChangeShapes Go.WideShapes Go.ChangeAt Go.RowKit
set_option linter.unusedVariables false

def rowD {H : Type} (k : Nat) : DataW H := .agg [.lit (.int .i64 ((k : Int) + 1)), .lit (.string (word (k + 1))), Lib.tabData .i64 [nm (k + 1) 0, nm (k + 1) 1, nm (k + 1) 2]]
theorem shapesD : (Rows.laid_loop_example_g00248_impl_shapes : DataW Unit) = .agg ((List.range 20).map rowD) := by kernel_rfl

set_option maxRecDepth 100000 in
theorem row_of_trod {H : Type} {enc : TypeId × Value → H} {w : World} {base : Nat} {sp : Nat → Bool} {held : Bool} {fuel : Nat} {cs : List Value} {k : Nat} {p : List MemPlace}
    (h : DataW.trod enc Tryz.prog w base sp held fuel 81 cs = some (rowD k, p)) : cs = rowL k := by
  obtain ⟨y0, y1, y2, n, hx, hl, h0, h1, h2⟩ := Deep.trod_struct3 Tryz.underlying81 h
  have c5 : Tryz.prog.cellsOf 81 = 5 := by kernel_rfl
  have c1 : Tryz.prog.cellsOf 3 = 1 := by kernel_rfl
  have cs1 : Tryz.prog.cellsOf 9 = 1 := by kernel_rfl
  have c3 : Tryz.prog.cellsOf 79 = 3 := by kernel_rfl
  have cl : Tryz.prog.cellsOf 77 = 1 := by kernel_rfl
  rw [c5] at hl
  match cs, hl with
  | [a, b, c, d, e], _ =>
    simp only [c1, cs1, c3] at h0 h1 h2
    simp only [List.drop, List.take] at h0 h1 h2
    obtain ⟨o, e0, f0, _⟩ := DataW.trod_int Tryz.underlying3 h0
    obtain ⟨u, e1, f1, _⟩ := DataW.trod_string Tryz.underlying9 h1
    simp only [Prod.mk.injEq, rowD, DataW.agg.injEq, List.cons.injEq] at hx
    obtain ⟨⟨g0, g1, g2, _⟩, _⟩ := hx
    rw [f0] at g0
    rw [f1] at g1
    have h2' : DataW.trod enc Tryz.prog w base sp held n 79 [c, d, e] = some (Lib.tabData .i64 [nm (k + 1) 0, nm (k + 1) 1, nm (k + 1) 2], y2.2) := by
      rw [h2, g2]
    have e2 := Lib.cells_of_tab Tryz.underlying79 (by kernel_rfl : Tryz.prog.underlying 77 = some (.int .i64)) cl c3 h2'
    simp only [DataW.lit.injEq, Lit.int.injEq, Lit.string.injEq, true_and] at g0 g1
    simp only [List.cons.injEq, and_true] at e0 e1
    rw [e0, e1, ← g0]
    simp only [List.map, List.cons.injEq, and_true] at e2
    obtain ⟨rfl, rfl, rfl⟩ := e2
    have hu : u = wordT (k + 1) := by
      unfold wordT
      rw [g1]
    rw [hu]; rfl

theorem chunks {f : Nat → List Value} : ∀ (n : Nat) (cs : List Value), cs.length = 5 * n → (∀ j, j < n → (cs.drop (j * 5)).take 5 = f j) → cs = (List.range n).flatMap f
  | 0, cs, h, _ => by simpa using h
  | n + 1, cs, h, hf => by
    have h1 := chunks (f := f) n (cs.take (5 * n)) (by simp; omega) (fun j hj => by
      rw [← hf j (by omega), List.drop_take, List.take_take]
      congr 1; omega)
    have h2 := hf n (by omega)
    rw [List.take_of_length_le (by simp; omega)] at h2
    rw [List.range_succ, List.flatMap_append, ← h1]
    simp only [List.flatMap_cons, List.flatMap_nil, List.append_nil]
    rw [← h2, Nat.mul_comm n 5, List.take_append_drop]

theorem shp_of_trod {H : Type} {enc : TypeId × Value → H} {W : World} {base : Nat} {sp : Nat → Bool} {held : Bool} {fuel : Nat} {cs : Array Value} {n : String} {p : List MemPlace}
    (hg : Tryz.prog.globalNamed n = some 0) (hv : W.var? Tryz.prog n = some cs) (h : DataW.trod enc Tryz.prog W base sp held fuel 111 cs.toList = some (.agg ((List.range 20).map rowD), p)) : Shp W := by
  obtain ⟨xs, m, _, hx, hl, hlen, hel⟩ := DataW.trod_array Tryz.underlying111 h
  have c5 : Tryz.prog.cellsOf 81 = 5 := by kernel_rfl
  have c100 : Tryz.prog.cellsOf 111 = 100 := by kernel_rfl
  rw [c100] at hl
  simp only [Prod.mk.injEq, DataW.agg.injEq] at hx
  have hcs : cs.toList = (List.range 20).flatMap rowL := by
    refine chunks 20 _ hl fun j hj => ?_
    have h1 := hel j hj
    rw [c5, List.getElem?_eq_getElem (by omega)] at h1
    have h2 : (xs[j]'(by omega)).1 = rowD j := by
      have := congrArg (fun l => l[j]?) hx.1
      simp only [List.getElem?_map, List.getElem?_range hj, List.getElem?_eq_getElem (show j < xs.length by omega), Option.map_some, Option.some.injEq] at this
      exact this.symm
    exact row_of_trod (p := (xs[j]'(by omega)).2) (by rw [h1, ← h2])
  have hcs' : cs = tabV := by
    unfold tabV; rw [← hcs]
  subst hcs'
  unfold World.var? at hv
  rw [hg] at hv
  simp only [Option.bind_some] at hv
  split at hv
  · rename_i c t f hh
    obtain rfl := Option.some.inj hv
    exact ⟨_, _, hh⟩
  · cases hv

theorem own : ownKnob Tryz.prog.godebug = none := by kernel_rfl
theorem laidOut : laidOutB Tryz.prog = true := by kernel_rfl

/-- The variable reads behind as it read ahead. -/
theorem vars_after {H : Type} {enc : TypeId × Value → H} {W W' : World} {n : String} {gs : List (DataW H)} {q : List MemPlace} (hn : Tryz.prog.globalNamed n = some 0) (hS : Shp W)
    (hV : DataW.TrodVars enc Tryz.prog W (fun _ => true) [n] gs q) (bel : Below W.heap.size W W') : ∃ q', DataW.TrodVars enc Tryz.prog W' (fun b => decide (b < W.heap.size)) [n] gs q' := by
  obtain ⟨g, t, cs, fuel, d, p, rfl, h1, h2, h3, h4, rfl⟩ := trodVars_one hV
  obtain rfl := Option.some.inj (hn.symm.trans h1)
  obtain rfl := Option.some.inj ((show (Tryz.prog.globals[0]?).map (·.type) = some 111 by kernel_rfl).symm.trans h2)
  have tr : DataW.Trod enc Tryz.prog W 0 (fun _ => true) true 111 (.agg cs) d p := ⟨fuel, by simpa [Value.cells] using h4⟩
  obtain ⟨fuel', h'⟩ := Below.trod laidOut (by kernel_rfl) (of_decide_eq_true (by kernel_rfl)) tr bel (DataW.trod_lt fuel _ _ _ h4)
  have h5 : W'.var? Tryz.prog n = some cs := by
    unfold World.var? at h3 ⊢
    rw [hn] at h3 ⊢
    simp only [Option.bind_some] at h3 ⊢
    rw [bel.block _ hS.lt]; exact h3
  exact ⟨_, trodVars_mk1 h1 h2 h5 (by simpa [Value.cells] using h')⟩
end Go.Proofs.YtpjhipekjilejaaGreatDoor.Code
namespace Go.Proofs.YtpjhipekjilejaaGreatDoor.Code
open Go.ChangeShapes Go.WideShapes Go.ChangeAt Go.RowKit
set_option linter.unusedVariables false

theorem in64_of {n : Int} (h : (Lit.int .i64 n).wf = true) : -9223372036854775808 ≤ n ∧ n ≤ 9223372036854775807 := bounds_i64 h
theorem powData : (Rows.laid_internal_strconv_uint64pow10 : DataW Unit) = Lib.tabData .u64 Lib.pow10Tab := by kernel_rfl
theorem shp_of_met {W : World} {n : String} {rest : List (String × DataW Unit)} (h : laidMet Tryz.prog ((n, Rows.laid_loop_example_g00248_impl_shapes) :: rest) W) (hn : Tryz.prog.globalNamed n = some 0 := by kernel_rfl) : Shp W := by
  obtain ⟨ps, ⟨g0, t0, cs0, f0, p0, q0, hg0, ht0, hv0, hd0, _, _⟩, _, _⟩ := h
  obtain rfl := Option.some.inj (hn.symm.trans hg0)
  obtain rfl := Option.some.inj ((show (Tryz.prog.globals[0]?).map (·.type) = some 111 by kernel_rfl).symm.trans ht0)
  rw [shapesD] at hd0
  exact shp_of_trod hg0 hv0 hd0
theorem pow_of_met {W : World} {rest : List (String × DataW Unit)} (h : laidMet Tryz.prog (("internal/strconv.uint64pow10", Rows.laid_internal_strconv_uint64pow10) :: rest) W) : Pow W := by
  rw [powData] at h
  exact Lib.tabIs_of_head (g := 3) (t := 165) (e := 156) (n := 20) (by kernel_rfl) (by kernel_rfl) (by kernel_rfl) (by kernel_rfl) (by kernel_rfl) (by kernel_rfl) h
end Go.Proofs.YtpjhipekjilejaaGreatDoor.Code
namespace Go.Proofs.YtpjhipekjilejaaGreatDoor.Code
open Go.ChangeShapes Go.WideShapes Go.ChangeAt Go.RowKit
set_option linter.unusedVariables false

end Go.Proofs.YtpjhipekjilejaaGreatDoor.Code
namespace Go.Proofs.YtpjhipekjilejaaGreatDoor.Code
open Go.ChangeShapes Go.WideShapes Go.ChangeAt Go.RowKit
set_option linter.unusedVariables false

theorem choose_below {α : Type} [Inhabited α] {n : Nat} {p : Nat → α → Prop} (h : ∀ i, i < n → ∃ a, p i a) : ∃ f : Nat → α, ∀ i, i < n → p i (f i) := by
  classical
  exact ⟨fun i => if hi : i < n then (h i hi).choose else default, fun i hi => by simp only [dif_pos hi]; exact (h i hi).choose_spec⟩

theorem ety_of {W : World} {n : String} (hn : Tryz.prog.globalNamed n = some 1) (h : handlesMet Tryz.prog [(n, Rows.laid_errors_errorType)] W) : Es.Ety W := by
  have rt : (Tryz.prog.cutTypes.find? (·.1 == "internal/reflectlite.rtype")).map (·.2) = some 135 := by kernel_rfl
  have oneRow : ((List.range 223).filter fun t => Tryz.prog.rowNamed t [101, 114, 114, 111, 114]) = [45] := by kernel_rfl
  have size : Tryz.prog.types.size = 223 := by kernel_rfl
  have hhn : (Rows.laid_errors_errorType : DataW Unit).handleName? = some [101, 114, 114, 111, 114] := by kernel_rfl
  obtain ⟨name, u, ty, e1, e2, e3, e4, e5⟩ := h _ (List.mem_singleton.2 rfl)
  obtain rfl := Option.some.inj (hhn.symm.trans e1)
  obtain rfl := Option.some.inj (rt.symm.trans e2)
  have hm : ty ∈ (List.range 223).filter fun t => Tryz.prog.rowNamed t [101, 114, 114, 111, 114] := List.mem_filter.2 ⟨List.mem_range.2 (by rw [← size]; exact e3), e4⟩
  rw [oneRow] at hm
  obtain rfl := List.mem_singleton.1 hm
  have hh : typeHandle Tryz.prog 45 = .pointer (some ⟨10, 45, none⟩) := by kernel_rfl
  rw [hh] at e5
  have := World.var?_cell hn e5 0
  unfold Es.Ety
  simpa using this
end Go.Proofs.YtpjhipekjilejaaGreatDoor.Code
namespace Go.Proofs.YtpjhipekjilejaaGreatDoor.Code
open Go.RowKit
open Go.Proofs.YtpjhipekjilejaaGreatDoor.Atom
set_option linter.unusedVariables false

/-- A row of n small instructions of the call's own, in the block g. -/
structure RowW (w : World) (B g n cap : Nat) : Prop where
  hB : B ≤ g
  hlt : g < w.heap.size
  hcap : n ≤ cap
  hmax : cap ≤ maxLen
  hn : n ≤ 20
  free : ∀ i, w.frozen? ⟨g, i, none⟩ = false
  rows : ∀ j, j < n → ∃ x, Wee x ∧ Bx6 w g (j * 6) x
theorem rowW_of {w : World} {B : Nat} {v : Value} {l : List I} (h : IRow w B v l) (h1 : 1 ≤ l.length) (h2 : l.length ≤ 20) (hw : ∀ x ∈ l, Wee x) : ∃ g cap, v = .slice (some ⟨g, 0, none⟩) l.length cap ∧ RowW w B g l.length cap := by
  rcases h.2 with ⟨_, h0⟩ | ⟨g, cap, cur, hv, hB, hg, ha, hb, _, _⟩
  · omega
  subst hv
  refine ⟨g, cap, rfl, hB, blk_lt hg, ha, hb, h2, fun i => blk_free hg i, fun j hj => ?_⟩
  rcases h.row with e | ⟨g', o', e, hc⟩
  · rw [e] at h1; simp at h1
  · simp only [Option.some.injEq, Addr.mk.injEq, and_true] at e
    obtain ⟨rfl, rfl⟩ := e
    have := hc j hj
    rw [Nat.zero_add] at this
    exact ⟨l[j], hw _ (List.getElem_mem hj), this⟩
theorem Bx6.same {w w' : World} {B o : Nat} {x : I} (h : Bx6 w B o x) (hb : w'.heap[B]? = w.heap[B]?) : Bx6 w' B o x := by
  have k : ∀ i v, w.cell? ⟨B, i, none⟩ = some v → w'.cell? ⟨B, i, none⟩ = some v := fun i v hv => (World.cell?_of_block (w := w) hb).trans hv
  exact ⟨k _ _ h.c0, k _ _ h.c1, k _ _ h.c2, k _ _ h.c3, k _ _ h.c4, k _ _ h.c5⟩
theorem RowW.same {w w' : World} {B g n cap : Nat} (h : RowW w B g n cap) (hs : w.heap.size ≤ w'.heap.size) (hb : w'.heap[g]? = w.heap[g]?) : RowW w' B g n cap :=
  ⟨h.hB, Nat.lt_of_lt_of_le h.hlt hs, h.hcap, h.hmax, h.hn, fun i => (World.frozen?_of_block (w := w) hb).trans (h.free i), fun j hj => by
    obtain ⟨x, hx, hc⟩ := h.rows j hj
    exact ⟨x, hx, hc.same hb⟩⟩
theorem RowW.drawn {cb : Nat} {ao : Option Addr} {len cp : Nat} {zs : List Int} {w w' : World} {B g n cap : Nat} (h : RowW w B g n cap) (d : Drawn cb ao len cp zs w w') (hc : cb < B) : RowW w' B g n cap :=
  h.same d.2.size (d.2.block g h.hlt (by have := h.hB; omega))
theorem RowW.below {w w' : World} {B g n cap : Nat} (h : RowW w B g n cap) (d : Below w.heap.size w w') : RowW w' B g n cap :=
  h.same d.size (d.block g h.hlt)
theorem RowW.less {w : World} {B g n cap k : Nat} (h : RowW w B g n cap) (hk : k ≤ n) : RowW w B g k cap :=
  ⟨h.hB, h.hlt, Nat.le_trans hk h.hcap, h.hmax, Nat.le_trans hk h.hn, h.free, fun j hj => h.rows j (by omega)⟩
theorem RowW.set {w : World} {B g n cap : Nat} (h : RowW w B g n cap) (k i : Nat) (hk : k < n) (hi : i < 6) (v : Value) (f : I → I)
    (hf : ∀ x, Wee x → Wee (f x)) (hv : ∀ x, insV (f x) = (insV x).setIfInBounds i v) : RowW (w.setCell ⟨g, k * 6 + i, none⟩ v) B g n cap := by
  refine ⟨h.hB, by simp [World.setCell]; exact h.hlt, h.hcap, h.hmax, h.hn, fun i => by rw [World.frozen?_setCell]; exact h.free i, fun j hj => ?_⟩
  obtain ⟨x, hx, hc⟩ := h.rows j hj
  by_cases hjk : j = k
  · subst hjk
    refine ⟨f x, hf x hx, ?_⟩
    have cells : ∀ m, m < 6 → w.cell? ⟨g, j * 6 + m, none⟩ = (insV x)[m]? := fun m hm => by
      rcases (show m = 0 ∨ m = 1 ∨ m = 2 ∨ m = 3 ∨ m = 4 ∨ m = 5 by omega) with rfl | rfl | rfl | rfl | rfl | rfl
      · exact hc.c0
      · exact hc.c1
      · exact hc.c2
      · exact hc.c3
      · exact hc.c4
      · exact hc.c5
    have hsz : (insV x).size = 6 := rfl
    have cells' : ∀ m, m < 6 → (w.setCell ⟨g, j * 6 + i, none⟩ v).cell? ⟨g, j * 6 + m, none⟩ = (insV (f x))[m]? := fun m hm => by
      rw [hv, Array.getElem?_setIfInBounds]
      by_cases hmi : i = m
      · subst hmi
        rw [if_pos rfl, if_pos (by omega)]
        exact World.cell?_setCell_same w _ _ (u := ((insV x)[i]'(by omega))) (by rw [cells i hm]; exact Array.getElem?_eq_getElem _)
      · rw [if_neg hmi, World.cell?_setCell_other (h := by simp <;> omega), cells m hm]
    exact ⟨cells' 0 (by omega), cells' 1 (by omega), cells' 2 (by omega), cells' 3 (by omega), cells' 4 (by omega), cells' 5 (by omega)⟩
  · refine ⟨x, hx, ?_⟩
    have k' : ∀ m u, m < 6 → w.cell? ⟨g, j * 6 + m, none⟩ = some u → (w.setCell ⟨g, k * 6 + i, none⟩ v).cell? ⟨g, j * 6 + m, none⟩ = some u := fun m u hm hu => by
      rw [World.cell?_setCell_other (h := by simp <;> omega)]; exact hu
    exact ⟨k' 0 _ (by omega) hc.c0, k' 1 _ (by omega) hc.c1, k' 2 _ (by omega) hc.c2, k' 3 _ (by omega) hc.c3, k' 4 _ (by omega) hc.c4, k' 5 _ (by omega) hc.c5⟩

/-- What l8Any answers. -/
def AnyP (cb : Nat) (ao : Option Addr) (len cap : Nat) (zs : List Int) (w : World) (e : Ending) (w' : World) : Prop :=
  ∃ (g n vc : Nat), e = .returned (.slice (some ⟨g, 0, none⟩) n vc) ∧ RowW w' w.heap.size g n vc ∧ Drawn cb ao len cap zs w w'

set_option maxHeartbeats 4000000 in
theorem any_any (cb : Nat) (ao : Option Addr) (len cap : Nat) (zs : List Int) (w : World) (hc : Cur cb ao len cap zs w) :
    Calls Tryz.prog 20 #[.pointer (some ⟨cb, 0, none⟩)] w (AnyP cb ao len cap zs w) := by
  have hcb := cur_lt hc
  have HC : Hid (Cur cb ao len cap zs w) := hc
  have HCB : Hid (cb < w.heap.size) := hcb
  clear hc hcb
  go_enter Tryz.func20, Tryz.ntmps20
  go_wp2_with (go_at_call 34; fail)
  refine (code_any cb ao len cap zs _ HC.out).mono ?_
  rintro e w1 ⟨⟨v, l, rfl, hrow, hl1, hl2, hwl, hcdB⟩, hd1⟩
  clear hcdB
  obtain ⟨g, vc, rfl, hW⟩ := rowW_of hrow hl1 hl2 hwl
  generalize l.length = n at hl1 hl2 hW ⊢
  have HW1 : Hid (RowW w1 w.heap.size g n vc) := hW
  have HD1 : Hid (Drawn cb ao len cap zs w w1) := hd1
  have HNC : Hid (n ≤ vc ∧ vc ≤ maxLen ∧ cb < g ∧ w.heap.size ≤ g) := ⟨hW.hcap, hW.hmax, by have := hW.hB; have := HCB.out; omega, hW.hB⟩
  clear hrow hwl hd1 hW HC
  go_wp2_with (go_at_call 35; fail)
  refine (below_any cb ao len cap zs _ HD1.out.1 (n : Int) (by omega) (by omega)).mono ?_
  rintro e w2 ⟨y, rfl, hy0, hy1, hd2⟩
  obtain ⟨k, hk, rfl⟩ : ∃ k : Nat, k < n ∧ y = (k : Int) := ⟨y.toNat, by omega, by omega⟩
  have HW2 : Hid (RowW w2 w.heap.size g n vc) := HW1.out.drawn hd2 HCB.out
  have HD2 : Hid (Drawn cb ao len cap zs w w2) := drawn_trans HD1.out hd2
  clear hd2 hy0 hy1 HW1 HD1
  go_wp2_with (go_at_call 35; fail)
  refine (below_any cb ao len cap zs _ HD2.out.1 12 (by decide) (by decide)).mono ?_
  rintro e w3 ⟨t, rfl, ht0, ht1, hd3⟩
  have HW3 : Hid (RowW w3 w.heap.size g n vc) := HW2.out.drawn hd3 HCB.out
  have HD3 : Hid (Drawn cb ao len cap zs w w3) := drawn_trans HD2.out hd3
  clear hd3 HW2 HD2
  have hki : (k : Int) < (n : Int) := by omega
  have e2 : IntKind.i64.wrap (k : Int) = (k : Int) := by rw [IntKind.wrap_i64]; omega
  by_cases q0 : t = 0
  · subst q0
    go_wp2_with (go_at_call 35; fail)
    refine (below_any cb ao len cap zs _ HD3.out.1 23 (by decide) (by decide)).mono ?_
    rintro e w4 ⟨z, rfl, hz0, hz1, hd4⟩
    have hzz : -2000000 ≤ z ∧ z ≤ 2000000 := by omega
    have HW4 : Hid (RowW w4 w.heap.size g n vc) := HW3.out.drawn hd4 HCB.out
    have HD4 : Hid (Drawn cb ao len cap zs w w4) := drawn_trans HD3.out hd4
    clear hd4 HW3 HD3
    obtain ⟨x, hx, hbx⟩ := HW4.out.rows k hk
    have c0 := hbx.c0
    have c1 := hbx.c1
    have c4 := hbx.c4
    have c5 := hbx.c5
    have fz := HW4.out.free
    have HW5 : Hid (RowW (w4.setCell ⟨g, k * 6 + 0, none⟩ (.int .i64 z)) w.heap.size g n vc) := HW4.out.set k 0 hk (by decide) _ (fun x => { x with op := z }) (fun x hx => ⟨hzz, hx.a, hx.b, hx.c, hx.n, hx.s⟩) (fun x => rfl)
    have HD5 : Hid (Drawn cb ao len cap zs w (w4.setCell ⟨g, k * 6 + 0, none⟩ (.int .i64 z))) := drawn_put HD4.out HNC.out.2.2.1 HNC.out.2.2.2 _ _
    clear hbx hx
    go_wp2_with fail
    go_ret
    exact ⟨g, n, vc, rfl, HW5.out, HD5.out⟩
  by_cases q1 : t = 1
  · subst q1
    go_wp2_with (go_at_call 40; fail)
    refine (int_any cb ao len cap zs (w3.alloc (.cells #[.int .i64 (-1), .int .i64 7, .int .i64 8] 3)) (HD3.out.1.alloc _) w3.heap.size [-1, 7, 8] (by have := cur_lt HD3.out.1; omega) (by simp) (by simp) ?_).mono ?_
    · intro j hj
      rw [World.cell?_alloc_new]
      rcases (show j = 0 ∨ j = 1 ∨ j = 2 by simp at hj; omega) with rfl | rfl | rfl <;> rfl
    rintro e w4 ⟨z, rfl, hz, hd4⟩
    have hz0 : -2000000 ≤ z ∧ z ≤ 2000000 := by simp at hz; omega
    have HW4 : Hid (RowW w4 w.heap.size g n vc) := (HW3.out.below ((Below.refl _ w3).alloc (Nat.le_refl _) _)).drawn hd4 HCB.out
    have HD4 : Hid (Drawn cb ao len cap zs w w4) := drawn_trans (drawn_below HD3.out ((Below.refl _ w3).alloc (Nat.le_refl _) _)) hd4
    clear hd4 hz HW3 HD3
    obtain ⟨x, hx, hbx⟩ := HW4.out.rows k hk
    have c0 := hbx.c0
    have c1 := hbx.c1
    have c4 := hbx.c4
    have c5 := hbx.c5
    have fz := HW4.out.free
    have HW5 : Hid (RowW (w4.setCell ⟨g, k * 6 + 1, none⟩ (.int .i64 z)) w.heap.size g n vc) := HW4.out.set k 1 hk (by decide) _ (fun x => { x with a := z }) (fun x hx => ⟨hx.op, hz0, hx.b, hx.c, hx.n, hx.s⟩) (fun x => rfl)
    have HD5 : Hid (Drawn cb ao len cap zs w (w4.setCell ⟨g, k * 6 + 1, none⟩ (.int .i64 z))) := drawn_put HD4.out HNC.out.2.2.1 HNC.out.2.2.2 _ _
    clear hbx hx
    go_wp2_with fail
    go_ret
    exact ⟨g, n, vc, rfl, HW5.out, HD5.out⟩
  by_cases q2 : t = 2
  · subst q2
    go_wp2_with (go_at_call 40; fail)
    refine (int_any cb ao len cap zs (w3.alloc (.cells #[.int .i64 (-1), .int .i64 200, .int .i64 8] 3)) (HD3.out.1.alloc _) w3.heap.size [-1, 200, 8] (by have := cur_lt HD3.out.1; omega) (by simp) (by simp) ?_).mono ?_
    · intro j hj
      rw [World.cell?_alloc_new]
      rcases (show j = 0 ∨ j = 1 ∨ j = 2 by simp at hj; omega) with rfl | rfl | rfl <;> rfl
    rintro e w4 ⟨z, rfl, hz, hd4⟩
    have hz0 : -2000000 ≤ z ∧ z ≤ 2000000 := by simp at hz; omega
    have HW4 : Hid (RowW w4 w.heap.size g n vc) := (HW3.out.below ((Below.refl _ w3).alloc (Nat.le_refl _) _)).drawn hd4 HCB.out
    have HD4 : Hid (Drawn cb ao len cap zs w w4) := drawn_trans (drawn_below HD3.out ((Below.refl _ w3).alloc (Nat.le_refl _) _)) hd4
    clear hd4 hz HW3 HD3
    obtain ⟨x, hx, hbx⟩ := HW4.out.rows k hk
    have c0 := hbx.c0
    have c1 := hbx.c1
    have c4 := hbx.c4
    have c5 := hbx.c5
    have fz := HW4.out.free
    have HW5 : Hid (RowW (w4.setCell ⟨g, k * 6 + 4, none⟩ (.int .i64 z)) w.heap.size g n vc) := HW4.out.set k 4 hk (by decide) _ (fun x => { x with n := z }) (fun x hx => ⟨hx.op, hx.a, hx.b, hx.c, hz0, hx.s⟩) (fun x => rfl)
    have HD5 : Hid (Drawn cb ao len cap zs w (w4.setCell ⟨g, k * 6 + 4, none⟩ (.int .i64 z))) := drawn_put HD4.out HNC.out.2.2.1 HNC.out.2.2.2 _ _
    clear hbx hx
    go_wp2_with fail
    go_ret
    exact ⟨g, n, vc, rfl, HW5.out, HD5.out⟩
  by_cases q3 : t = 3
  · subst q3
    go_wp2_with (go_at_call 36; fail)
    refine (str_any cb ao len cap zs (w3.alloc (.cells #[.string ⟨#[]⟩, .string ⟨#[65]⟩, .string ⟨#[120]⟩] 9)) (HD3.out.1.alloc _) w3.heap.size [⟨#[]⟩, ⟨#[65]⟩, ⟨#[120]⟩] (by have := cur_lt HD3.out.1; omega) (by simp) (by simp) ?_).mono ?_
    · intro j hj
      rw [World.cell?_alloc_new]
      rcases (show j = 0 ∨ j = 1 ∨ j = 2 by simp at hj; omega) with rfl | rfl | rfl <;> rfl
    rintro e w4 ⟨z, rfl, hz, hd4⟩
    have HZ0 : Hid (z.size ≤ 1000) := by
      show z.size ≤ 1000
      simp only [List.mem_cons, List.not_mem_nil, or_false] at hz; rcases hz with rfl | rfl | rfl <;> decide
    have HW4 : Hid (RowW w4 w.heap.size g n vc) := (HW3.out.below ((Below.refl _ w3).alloc (Nat.le_refl _) _)).drawn hd4 HCB.out
    have HD4 : Hid (Drawn cb ao len cap zs w w4) := drawn_trans (drawn_below HD3.out ((Below.refl _ w3).alloc (Nat.le_refl _) _)) hd4
    clear hd4 hz HW3 HD3
    obtain ⟨x, hx, hbx⟩ := HW4.out.rows k hk
    have c0 := hbx.c0
    have c1 := hbx.c1
    have c4 := hbx.c4
    have c5 := hbx.c5
    have fz := HW4.out.free
    have HW5 : Hid (RowW (w4.setCell ⟨g, k * 6 + 5, none⟩ (.string z)) w.heap.size g n vc) := HW4.out.set k 5 hk (by decide) _ (fun x => { x with s := z }) (fun x hx => ⟨hx.op, hx.a, hx.b, hx.c, hx.n, HZ0.out⟩) (fun x => rfl)
    have HD5 : Hid (Drawn cb ao len cap zs w (w4.setCell ⟨g, k * 6 + 5, none⟩ (.string z))) := drawn_put HD4.out HNC.out.2.2.1 HNC.out.2.2.2 _ _
    clear hbx hx
    go_wp2_with fail
    go_ret
    exact ⟨g, n, vc, rfl, HW5.out, HD5.out⟩
  by_cases q4 : t = 4
  · subst q4
    have n1 := HNC.out.1
    have n2 := HNC.out.2.1
    have hkc : (k : Int) ≤ (vc : Int) := by omega
    have HW5 : Hid (RowW w3 w.heap.size g k vc) := HW3.out.less (by omega)
    go_wp2_with fail
    go_ret
    exact ⟨g, k, vc, by simp, HW5.out, HD3.out⟩
  · have r0 : (t == 0) = false := beq_eq_false_iff_ne.2 q0
    have r1 : (t == 1) = false := beq_eq_false_iff_ne.2 q1
    have r2 : (t == 2) = false := beq_eq_false_iff_ne.2 q2
    have r3 : (t == 3) = false := beq_eq_false_iff_ne.2 q3
    have r4 : (t == 4) = false := beq_eq_false_iff_ne.2 q4
    go_wp2_with fail
    go_ret
    exact ⟨g, n, vc, rfl, HW3.out, HD3.out⟩
end Go.Proofs.YtpjhipekjilejaaGreatDoor.Code
namespace Go.Proofs.YtpjhipekjilejaaGreatDoor.By
open Go.RowKit
set_option linter.unusedVariables false

theorem bigB_any (ao : Option Addr) (len cap : Nat) (w : World) (hm : len ≤ maxLen) :
    Calls Tryz.prog 5 #[.slice ao len cap] w fun e w' => e = .returned (.bool (decide (1048576 < len))) ∧ w' = w := by
  unfold maxLen at hm
  by_cases h : 1048576 < len
  · go_enter Tryz.func5, Tryz.ntmps5
    go_wp2_with fail
    go_ret
    exact ⟨by simp [h]; omega, rfl⟩
  · go_enter Tryz.func5, Tryz.ntmps5
    go_wp2_with fail
    go_ret
    exact ⟨by simp [h]; omega, rfl⟩

set_option maxHeartbeats 1000000 in
theorem belowBig_any (cb : Nat) (ao : Option Addr) (len cap : Nat) (zs : List Int) (w : World) (hc : Cur cb ao len cap zs w) :
    Calls Tryz.prog 35 #[.pointer (some ⟨cb, 0, none⟩), .int .i64 10000] w fun e w' => ∃ x : Int, e = .returned (.int .i64 x) ∧ Drawn cb ao len cap zs w w' := by
  have HC : Hid (Cur cb ao len cap zs w) := hc
  clear hc
  go_enter Tryz.func35, Tryz.ntmps35
  go_wp2_with fail
  refine (byte_any cb ao len cap zs _ HC.out).mono ?_
  rintro e w1 ⟨x, rfl, hx0, hx1, hc1, ht1⟩
  have HD1 : Hid (Drawn cb ao len cap zs w w1) := ⟨hc1, ht1⟩
  clear hc1 ht1
  go_wp2_with fail
  refine (byte_any cb ao len cap zs _ HD1.out.1).mono ?_
  rintro e w2 ⟨y, rfl, hy0, hy1, hc1, ht1⟩
  have HD2 : Hid (Drawn cb ao len cap zs w w2) := ⟨hc1, HD1.out.2.trans ht1⟩
  clear hc1 ht1
  go_wp2_with fail
  refine (byte_any cb ao len cap zs _ HD2.out.1).mono ?_
  rintro e w3 ⟨z, rfl, hz0, hz1, hc1, ht1⟩
  have HD3 : Hid (Drawn cb ao len cap zs w w3) := ⟨hc1, HD2.out.2.trans ht1⟩
  clear hc1 ht1
  go_wp2_with fail
  go_ret
  exact ⟨_, rfl, HD3.out⟩

/-- A row of bytes drawn: it lies behind the cursor. -/
structure DrB (cb : Nat) (ao : Option Addr) (len cap : Nat) (zs : List Int) (w wr : World) (v : Value) (B : List UInt8) : Prop where
  own : OwB wr w.heap.size v B
  cur : Cur cb ao len cap zs wr
  turn : Turn cb w wr
theorem turn_grownR {cb : Nat} {a w w' : World} {row : Option Nat} (h : Turn cb a w) (hg : w.grownBy w' row) (hr : ∀ k, row = some k → a.heap.size ≤ k) : Turn cb a w' :=
  ⟨hg.os.trans h.os, hg.tape.trans h.tape, hg.output.trans h.output, Nat.le_trans h.size hg.size, fun k hk hn => (hg.block k (Nat.lt_of_lt_of_le hk h.size) (fun e => by have := hr k e.symm; omega)).trans (h.block k hk hn)⟩
theorem cur_kept {cb : Nat} {ao : Option Addr} {len cap : Nat} {zs : List Int} {w w' : World} (h : Cur cb ao len cap zs w) (hs : ∀ b, b ≤ cb → w'.heap[b]? = w.heap[b]?) : Cur cb ao len cap zs w' := by
  have e : ∀ b o v, b ≤ cb → w.cell? ⟨b, o, none⟩ = some v → w'.cell? ⟨b, o, none⟩ = some v := fun b o v hb hc => by
    rw [World.cell?_of_block (w := w) (hs b hb)]; exact hc
  obtain ⟨i, hi, h1⟩ := h.c1
  obtain ⟨x, h2⟩ := h.c2
  refine ⟨e _ _ _ (Nat.le_refl _) h.c0, ⟨i, hi, e _ _ _ (Nat.le_refl _) h1⟩, ⟨x, e _ _ _ (Nat.le_refl _) h2⟩, fun o => by rw [World.frozen?_of_block (w := w) (hs cb (Nat.le_refl _))]; exact h.free o, fun hn => ?_, h.rng, h.small⟩
  obtain ⟨b, off, e1, e2, e3⟩ := h.code hn
  exact ⟨b, off, e1, e2, fun j hj => e _ _ _ (Nat.le_of_lt e2) (e3 j hj)⟩
theorem DrB.more {cb : Nat} {ao : Option Addr} {len cap : Nat} {zs : List Int} {w wr w3 : World} {v v3 : Value} {B : List UInt8} {x : Int} {c : UInt8} (h : DrB cb ao len cap zs w wr v B) (hcb : cb < w.heap.size) (hx : x = ((c.toNat : Nat) : Int))
    (hown : w3.ownsRow w.heap.size 5 1 v3 (B.length + 1) (bcs B ++ [.int .u8 x])) (hgr : (wr.alloc (.cells #[.int .u8 x] 5)).grownBy w3 v.ownBlock) : DrB cb ao len cap zs w w3 v3 (B ++ [c]) := by
  have hs := h.turn.size
  refine ⟨owB_byte hown hx, ?_, turn_grownR (h.turn.alloc _) hgr (fun k hk => (World.ownsRow.lt h.own k hk).1)⟩
  refine cur_kept h.cur fun b hb => ?_
  rw [hgr.block b (by rw [World.size_alloc]; omega) (fun e => by have := (World.ownsRow.lt h.own b e.symm).1; omega)]
  show (wr.heap.push _)[b]? = _
  rw [Array.getElem?_push, if_neg (by omega)]
theorem DrB.drawn {cb : Nat} {ao : Option Addr} {len cap : Nat} {zs : List Int} {w wr w2 : World} {v : Value} {B : List UInt8} (h : DrB cb ao len cap zs w wr v B) (hcb : cb < w.heap.size) (hd : Drawn cb ao len cap zs wr w2) : DrB cb ao len cap zs w w2 v B := by
  refine ⟨?_, hd.1, h.turn.trans hd.2⟩
  refine World.ownsRow.kept (row := some cb) h.own ⟨hd.2.os, hd.2.tape, hd.2.output, hd.2.size, fun k hk hn => hd.2.block k hk (fun e => hn (by rw [e]))⟩ ?_
  cases hv : v.ownBlock with
  | none => exact .inl rfl
  | some k => exact .inr (fun e => by injection e with e; have := (World.ownsRow.lt h.own k hv).1; omega)
theorem byte_of {x : Int} (h0 : 0 ≤ x) (h1 : x ≤ 255) : x = (((UInt8.ofNat x.toNat).toNat : Nat) : Int) := by rw [toNat_of (by omega)]; omega

end Go.Proofs.YtpjhipekjilejaaGreatDoor.By
namespace Go.Proofs.YtpjhipekjilejaaGreatDoor.Cb
open Go.RowKit
open Go.Proofs.YtpjhipekjilejaaGreatDoor.By
open Go.Proofs.YtpjhipekjilejaaGreatDoor.Code (I codeB specOk RowI SmI Bx6 Wee codeT textC parseP Sur dat)
set_option linter.unusedVariables false

theorem drawText_any (ao : Option Addr) (len cap : Nat) (zs : List Int) (w : World) (hr : IsRow w ao len cap zs) (hsm : len ≤ 1048576) :
    Calls Tryz.prog 6 #[.slice ao len cap] w fun e w' => ∃ (g vc : Nat) (l : List I), e = .returned (.slice (some ⟨g, 0, none⟩) l.length vc) ∧ RowI w' (some ⟨g, 0, none⟩) l ∧ l.length ≤ 20 ∧ (∀ x ∈ l, Wee x) ∧ Below w.heap.size w w' := by
  have HR : Hid (IsRow w ao len cap zs) := hr
  clear hr
  go_enter Tryz.func6, Tryz.ntmps6
  go_wp2_with fail
  refine (new_any w ao len cap zs HR.out hsm).mono ?_
  rintro e w1 ⟨rfl, hcur, hb1, hsz⟩
  have HC1 : Hid (Cur w.heap.size ao len cap zs w1 ∧ Below w.heap.size w w1) := ⟨hcur, hb1⟩
  clear hcur hb1 hsz
  go_wp2_with fail
  refine (Code.any_any w.heap.size ao len cap zs w1 HC1.out.1).mono ?_
  rintro e w2 ⟨g, n, vc, rfl, hrow, hd2⟩
  have HB2 : Hid (Below w.heap.size w w2) := Turn.below HC1.out.2 HC1.out.2.size hd2.2 (Nat.le_refl _)
  haveI : Inhabited I := ⟨Code.zeroI⟩
  obtain ⟨f, hf⟩ := Code.choose_below hrow.rows
  have HL : Hid (∃ l : List I, l.length = n ∧ RowI w2 (some ⟨g, 0, none⟩) l ∧ l.length ≤ 20 ∧ ∀ x ∈ l, Wee x) := by
    refine ⟨(List.range n).map f, by simp, .inr ⟨g, 0, rfl, fun j hj => ?_⟩, by simp; exact hrow.hn, fun x hx => ?_⟩
    · have hj2 : j < n := by simpa using hj
      simp only [List.getElem_map, List.getElem_range, Nat.zero_add]
      exact (hf j hj2).2
    · obtain ⟨j, hj, rfl⟩ := List.mem_map.1 hx
      exact (hf j (by simpa using hj)).1
  clear hrow hd2 hf
  go_wp2_with fail
  go_ret
  obtain ⟨l, rfl, h1, h2, h3⟩ := HL.out
  exact ⟨g, vc, l, rfl, h1, h2, h3, HB2.out⟩

set_option maxHeartbeats 2000000 in
set_option maxRecDepth 100000 in
theorem codes_walk (w : World) (ao : Option Addr) (len cap : Nat) (zs : List Int) (hr : IsRow w ao len cap zs) (hlc : len ≤ cap) (hcm : cap ≤ maxLen) (hU : Sur w) :
    Calls Tryz.prog 3 #[.slice ao len cap] w fun e w' => e = .returned (.bool true) ∧ Below w.heap.size w w' := by
  have HR : Hid (IsRow w ao len cap zs) := hr
  have HU : Hid (Sur w) := hU
  have HBG : Hid (∀ w', Calls Tryz.prog 5 #[.slice ao len cap] w' fun e w'' => e = .returned (.bool (decide (1048576 < len))) ∧ w'' = w') := fun w' => bigB_any ao len cap w' (Nat.le_trans hlc hcm)
  clear hr hlc hcm hU
  by_cases hbig : 1048576 < len
  · have hd : decide (1048576 < len) = true := by simpa using hbig
    rw [hd] at HBG
    go_enter Tryz.func3, Tryz.ntmps3
    go_wp2_with (go_at_call 5; refine (HBG.out _).mono ?_; rintro e w' ⟨rfl, rfl⟩)
    go_ret
    exact ⟨rfl, Below.refl _ _⟩
  · have hd : decide (1048576 < len) = false := by simpa using hbig
    rw [hd] at HBG
    have HSM : Hid (len ≤ 1048576) := by show _ ≤ _; omega
    clear hd hbig
    go_enter Tryz.func3, Tryz.ntmps3
    go_wp2_with (go_at_call 5; refine (HBG.out _).mono ?_; rintro e w' ⟨rfl, hw'⟩; obtain rfl := hw'.symm)
    refine (drawText_any ao len cap zs w HR.out HSM.out).mono ?_
    rintro e w1 ⟨g, vc, l, rfl, hrow, hl20, hwee, hb1⟩
    have HW1 : Hid (Below w.heap.size w w1 ∧ RowI w1 (some ⟨g, 0, none⟩) l) := ⟨hb1, hrow⟩
    have HWE : Hid (∀ x ∈ l, Wee x) := hwee
    have HS1 : Hid (SmI 1048576 l ∧ SmI maxLen l) := ⟨fun x hx => Nat.le_trans (hwee x hx).s (by omega), fun x hx => Nat.le_trans (hwee x hx).s (by unfold maxLen; omega)⟩
    clear hrow hwee hb1
    have HU1 := HU.out.below HW1.out.1
    have HUU : Hid (Sur w1) := HU1
    clear HU1
    go_wp2_with fail
    refine (Code.implCodeText_any l (some ⟨g, 0, none⟩) vc w1 HW1.out.2 HS1.out.1 (fun x hx => Code.wee_in64 (HWE.out x hx)) (by omega) HUU.out.shp HUU.out.pow HUU.out.ety).mono ?_
    rintro e w2 ⟨rfl, hb2⟩
    have HW2 : Hid (Below w.heap.size w w2 ∧ RowI w2 (some ⟨g, 0, none⟩) l ∧ Sur w2) := ⟨join8 HW1.out.1 hb2, HW1.out.2.below hb2, HUU.out.below hb2⟩
    clear hb2
    obtain ⟨T, hT⟩ : ∃ T : ByteArray, (⟨(textC l).toArray⟩ : ByteArray) = T := ⟨_, rfl⟩
    have HT : Hid ((⟨(textC l).toArray⟩ : ByteArray) = T) := hT
    rw [hT]
    clear hT
    go_wp2_with fail
    refine (implPutC_any l (some ⟨g, 0, none⟩) vc w2 HW2.out.2.1 HS1.out.2 (by omega) HW2.out.2.2.shp HW2.out.2.2.pow HW2.out.2.2.ety).mono ?_
    rintro e w3 ⟨g3, c3, rfl, ho3, hb3⟩
    have HW3 : Hid (Below w.heap.size w w3 ∧ RowI w3 (some ⟨g, 0, none⟩) l ∧ Sur w3) := ⟨join8 HW2.out.1 hb3, HW2.out.2.1.below hb3, HW2.out.2.2.below hb3⟩
    have HO3 : Hid (OwB w3 w2.heap.size (.slice (some ⟨g3, 0, none⟩) (putC l).length c3) (putC l)) := ho3
    clear ho3 hb3
    obtain ⟨P, hP⟩ : ∃ P, putC l = P := ⟨_, rfl⟩
    have HP : Hid (putC l = P) := hP
    rw [hP] at HO3 ⊢
    clear hP
    cases hcb : codeB l with
    | false =>
      have hP0 : P = [] := by rw [← HP.out]; exact putC_no hcb
      have hT0 : T = ⟨#[]⟩ := by rw [← HT.out]; unfold Code.textC; rw [hcb]; rfl
      have HCO : Hid (∀ w', w' = w3 → Calls Tryz.prog 9 #[.slice (some ⟨g, 0, none⟩) l.length vc] w' fun e w'' => e = .returned (.bool false) ∧ Below w'.heap.size w' w'') := fun w' h => by
        subst h
        have := Code.specCode_any l (some ⟨g, 0, none⟩) vc w' HW3.out.2.1 HS1.out.2 (by omega)
        rw [hcb] at this; exact this
      have HCI : Hid (∀ w', Below w3.heap.size w3 w' → Calls Tryz.prog 10 #[.slice (some ⟨g, 0, none⟩) l.length vc] w' fun e w'' => e = .returned (.bool false) ∧ Below w'.heap.size w' w'') := fun w' h => by
        have hu := HW3.out.2.2.below h
        have := Code.implCode_any l (some ⟨g, 0, none⟩) vc w' (HW3.out.2.1.below h) HS1.out.2 (by omega) hu.shp hu.pow hu.ety
        rw [hcb] at this; exact this
      subst hP0
      subst hT0
      clear hcb
      go_wp2_with fail
      refine (HCO.out _ rfl).mono ?_
      rintro e w4 ⟨rfl, hb4⟩
      have HB4 : Hid (Below w.heap.size w w4 ∧ Below w3.heap.size w3 w4) := ⟨join8 HW3.out.1 hb4, hb4⟩
      clear hb4
      go_wp2_with (go_at_call 10; refine (HCI.out _ HB4.out.2).mono ?_; rintro e w5 ⟨rfl, hb5⟩; have HB5 : Hid (Below w.heap.size w w5) := join8 HB4.out.1 hb5; clear hb5)
      go_ret
      exact ⟨rfl, HB5.out⟩
    | true =>
      have hPc : P = codeBy l := by rw [← HP.out]; exact putC_yes hcb
      have hTc : T = ⟨(codeT l).toArray⟩ := by rw [← HT.out]; unfold Code.textC; rw [hcb]; rfl
      have HGP : Hid (getC P = some l) := by show _ = _; rw [hPc]; exact get_code hcb
      have HPL : Hid (P.length ≤ 7204) := by show _ ≤ _; rw [hPc]; exact codeBy_len hcb
      have HSZ : Hid (T.size ≤ 1048576 ∧ dat T = codeT l) := by
        have h1 := Code.codeT_wee l HWE.out
        rw [hTc]
        refine ⟨?_, by simp [Code.dat]⟩
        simp [ByteArray.size]; omega
      have HPP : Hid (parseP (codeT l) = some l) := Code.parse_text hcb
      have HCO : Hid (∀ w', w' = w3 → Calls Tryz.prog 9 #[.slice (some ⟨g, 0, none⟩) l.length vc] w' fun e w'' => e = .returned (.bool true) ∧ Below w'.heap.size w' w'') := fun w' h => by
        subst h
        have := Code.specCode_any l (some ⟨g, 0, none⟩) vc w' HW3.out.2.1 HS1.out.2 (by omega)
        rw [hcb] at this; exact this
      have HCI : Hid (∀ w', Below w3.heap.size w3 w' → Calls Tryz.prog 10 #[.slice (some ⟨g, 0, none⟩) l.length vc] w' fun e w'' => e = .returned (.bool true) ∧ Below w'.heap.size w' w'') := fun w' h => by
        have hu := HW3.out.2.2.below h
        have := Code.implCode_any l (some ⟨g, 0, none⟩) vc w' (HW3.out.2.1.below h) HS1.out.2 (by omega) hu.shp hu.pow hu.ety
        rw [hcb] at this; exact this
      have hpc : P.length ≤ c3 := by
        rcases HO3.out.2 with ⟨e, _⟩ | ⟨_, cc, _, e, _, _, hl, _⟩
        · cases e
        · injection e with _ _ e; omega
      clear hPc hTc hcb
      go_wp2_with fail
      refine (HCO.out _ rfl).mono ?_
      rintro e w4 ⟨rfl, hb4⟩
      have HB4 : Hid (Below w.heap.size w w4 ∧ Below w3.heap.size w3 w4) := ⟨join8 HW3.out.1 hb4, hb4⟩
      clear hb4
      go_wp2_with fail
      refine (Code.implParse_any T w4 HSZ.out.1 (HU.out.below HB4.out.1)).mono ?_
      rw [HSZ.out.2, HPP.out]
      rintro e w5 ⟨⟨vb, vd, l2, rfl, hrow2, hor⟩, hb5⟩
      obtain rfl : l = l2 := by
        rcases hor with h | h
        · exact Option.some.inj h
        · cases h.1
      have HB5 : Hid (Below w.heap.size w w5 ∧ Below w3.heap.size w3 w5 ∧ RowI w5 vb l) := ⟨join8 HB4.out.1 hb5, join8 HB4.out.2 hb5, hrow2.row⟩
      clear hrow2 hor hb5
      go_wp2_with fail
      have hu5 := HU.out.below HB5.out.1
      refine (implGetC_any (some ⟨g3, 0, none⟩) c3 P w5 (HO3.out.at.1.below HB5.out.2.1).rd (by have := HPL.out; omega) hpc hu5.shp hu5.pow hu5.ety).mono ?_
      rintro e w6 (⟨l3, g6, hg6, rfl, hf6⟩ | ⟨hno, _⟩)
      rotate_left
      · rw [HGP.out] at hno; cases hno
      obtain rfl : l = l3 := Option.some.inj (HGP.out.symm.trans hg6)
      have hb6 := hf6.below
      have HB6 : Hid (Below w.heap.size w w6 ∧ Below w3.heap.size w3 w6 ∧ RowI w6 vb l ∧ RowI w6 (some ⟨g6, 0, none⟩) l) := ⟨join8 HB5.out.1 hb6, join8 HB5.out.2.1 hb6, HB5.out.2.2.below hb6, hf6.row⟩
      clear hf6 hg6 hb6 hu5
      have HSC : Hid (∀ (va : Option Addr) (c : Nat) w', Below w3.heap.size w3 w' → RowI w' va l → Calls Tryz.prog 13 #[.slice va l.length c, .slice (some ⟨g, 0, none⟩) l.length vc] w' fun e w'' => e = .returned (.bool true) ∧ Below w'.heap.size w' w'') := fun va c w' h hv => Code.sameCode_same l va (some ⟨g, 0, none⟩) c vc w' hv (HW3.out.2.1.below h) (by omega)
      go_wp2_with fail
      refine (HSC.out vb vd w6 HB6.out.2.1 HB6.out.2.2.1).mono ?_
      rintro e w7 ⟨rfl, hb7⟩
      have HB7 : Hid (Below w.heap.size w w7 ∧ Below w3.heap.size w3 w7 ∧ RowI w7 (some ⟨g6, 0, none⟩) l) := ⟨join8 HB6.out.1 hb7, join8 HB6.out.2.1 hb7, HB6.out.2.2.2.below hb7⟩
      clear hb7
      go_wp2_with fail
      refine (HSC.out (some ⟨g6, 0, none⟩) l.length w7 HB7.out.2.1 HB7.out.2.2).mono ?_
      rintro e w8 ⟨rfl, hb8⟩
      have HB8 : Hid (Below w.heap.size w w8 ∧ Below w3.heap.size w3 w8) := ⟨join8 HB7.out.1 hb8, join8 HB7.out.2.1 hb8⟩
      clear hb8
      go_wp2_with fail
      refine (HCI.out w8 HB8.out.2).mono ?_
      rintro e w9 ⟨rfl, hb9⟩
      have HB9 : Hid (Below w.heap.size w w9) := join8 HB8.out.1 hb9
      clear hb9
      go_wp2_with fail
      go_ret
      exact ⟨rfl, HB9.out⟩
end Go.Proofs.YtpjhipekjilejaaGreatDoor.Cb
namespace Go.Proofs.YtpjhipekjilejaaGreatDoor.fnCodes
open Go.ChangeShapes Go.WideShapes Go.ChangeAt Go.RowKit
open Go.Proofs.YtpjhipekjilejaaGreatDoor.Code
set_option linter.unusedVariables false

theorem err_cell {W : World} {n nm : String} {d : DataW Unit} {rest : List (String × DataW Unit)} {g : Nat} {t : TypeId} {ms : Array (String × TypeId)} (h : laidMet Tryz.prog ((n, .iface nm d) :: rest) W) (hn : Tryz.prog.globalNamed n = some g) (ht : (Tryz.prog.globals[g]?).map (·.type) = some t) (hu : Tryz.prog.underlying t = some (.interface ms)) :
    ∃ ev, W.cell? ⟨g, 0, none⟩ = some ev ∧ (ev = .nilIface ∨ ∃ te pe, ev = .iface te pe) := by
  obtain ⟨ps, ⟨g0, t0, cs0, f0, p0, q0, hg0, ht0, hv0, hd0, _, _⟩, _, _⟩ := h
  obtain rfl := Option.some.inj (hn.symm.trans hg0)
  obtain rfl := Option.some.inj (ht.symm.trans ht0)
  obtain ⟨f', u, v, hcs, _, _⟩ := iface_of_trod hu hd0
  have hc : cs0 = #[.iface u v] := by cases cs0; simp_all
  subst hc
  have := World.var?_cell hn hv0 0
  exact ⟨.iface u v, by simpa using this, .inr ⟨u, v, rfl⟩⟩
theorem laid_of {W : World} (h : laidMetH Tryz.prog Rows.fnCodesRow.laid W) : (Shp W ∧ Pow W) ∧ Es.Ety W ∧ (∃ ev, W.cell? ⟨4, 0, none⟩ = some ev ∧ (ev = .nilIface ∨ ∃ te pe, ev = .iface te pe)) ∧ (∃ ev, W.cell? ⟨5, 0, none⟩ = some ev ∧ (ev = .nilIface ∨ ∃ te pe, ev = .iface te pe)) := by
  have h' : laidMet Tryz.prog [("math/bits.deBruijn32tab", Rows.laid_math_bits_deBruijn32tab), ("math/bits.deBruijn64tab", Rows.laid_math_bits_deBruijn64tab), ("internal/strconv.uint64pow10", Rows.laid_internal_strconv_uint64pow10), ("unicode/utf8.acceptRanges", Rows.laid_unicode_utf8_acceptRanges), ("strconv.ErrRange", Rows.laid_strconv_ErrRange), ("strconv.ErrSyntax", Rows.laid_strconv_ErrSyntax), ("loop.example/g00248/impl.shapes", Rows.laid_loop_example_g00248_impl_shapes), ("unicode/utf8.first", Rows.laid_unicode_utf8_first)] W ∧ handlesMet Tryz.prog [("errors.errorType", Rows.laid_errors_errorType)] W := h
  have h3 := laidMet.tail (laidMet.tail h'.1)
  have h5 := laidMet.tail (laidMet.tail h3)
  have h6 := laidMet.tail h5
  exact ⟨⟨shp_of_met (laidMet.tail h6), pow_of_met h3⟩, ety_of (by kernel_rfl) h'.2, err_cell h6 (by kernel_rfl) (by kernel_rfl) Tryz.underlying45, err_cell h5 (by kernel_rfl) (by kernel_rfl) Tryz.underlying45⟩
theorem shp_of {W : World} (h : laidMetH Tryz.prog Rows.fnCodesRow.laid W) : Shp W := (laid_of h).1.1
theorem sur_of {W : World} (h : laidMetH Tryz.prog Rows.fnCodesRow.laid W) (hs : W.ShapedOpen Tryz.prog) : Sur W :=
  ⟨(laid_of h).1.1, (laid_of h).1.2, ⟨cell_of_shapedOpen_int (t := 3) (zero := #[.int .i64 0]) hs (of_decide_eq_true (by kernel_rfl)) (by kernel_rfl) rfl (by kernel_rfl) (by kernel_rfl) Tryz.underlying3, (laid_of h).2.2.1, (laid_of h).2.2.2⟩, (laid_of h).2.1⟩

/-- The heap that the variables' own initialisers leave, and the table that is pinned by name, meet the condition. -/
theorem door_met (os : Os) (args : Array Value) : laidMetH Tryz.prog Rows.fnCodesRow.laid (((World.doorLaid Tryz.prog 400 os).layVars Tryz.prog (Rows.fnCodesRow.laid.filter fun x => x.2.handleName?.isNone)).forCall (fun _ _ => 0) ⟨#[], args, []⟩).memory := by
  refine laidMetH_of_parts3 (fuel := 8) ?_ (by kernel_rfl) (by kernel_rfl)
  generalize hl : (Rows.fnCodesRow.laid.filter fun x => x.2.handleName?.isNone) = L
  have e1 : (L.filter fun x => (L.map (·.1)).contains x.1) = L := List.filter_eq_self.2 fun x hx => List.contains_iff_mem.2 (List.mem_map.2 ⟨x, hx, rfl⟩)
  have e2 : (L.filter fun x => !(L.map (·.1)).contains x.1) = [] := List.filter_eq_nil_iff.2 fun x hx => by rw [List.contains_iff_mem.2 (List.mem_map.2 ⟨x, hx, rfl⟩)]; simp
  have f1 : (World.doorLaid Tryz.prog 400 os).layFits Tryz.prog L [] = true := by subst hl; kernel_rfl
  have f2 : (World.doorLaid Tryz.prog 400 os).layIfaces Tryz.prog L ((World.doorLaid Tryz.prog 400 os).layVars Tryz.prog L) = true := by subst hl; kernel_rfl
  have h : laidMet Tryz.prog L ((World.doorLaid Tryz.prog 400 os).layVars Tryz.prog L) := laidMet_layVars (w0 := World.doorLaid Tryz.prog 400 os) (L.map (·.1)) [] (by rw [e1]) (by rw [e1]; exact f1) (by rw [e1]; exact f2) (by rw [e2]; exact LaidIn.none)
  exact h.of_heap (by simp [World.memory, World.forCall, Input.heap])

theorem row_len {w : World} {a : Option Addr} {len cap : Nat} {zs : List Int} (h : IsRow w a len cap zs) : len ≤ cap ∧ cap ≤ maxLen := by
  rcases h with ⟨_, rfl, rfl, _⟩ | ⟨_, _, h1, h2, _⟩
  · exact ⟨Nat.le_refl _, Nat.zero_le _⟩
  · exact ⟨h1, h2⟩

set_option maxRecDepth 100000 in
theorem core {H : Type} {enc : TypeId × Value → H} (W : World) (base : Nat) (args : Array Value) (ds gs : List (DataW H)) (before : List MemPlace)
    (hval0 : ∀ (j : Nat) t v, Tryz.f3.params[j]? = some t → args[j]? = some v → Value.okWide Tryz.prog W .any base t v)
    (hW : DataW.Whole enc Tryz.prog Tryz.f3.params.toList Rows.fnCodesSpec.vars false W args.toList ds gs before)
    (hL : laidMetH Tryz.prog Rows.fnCodesRow.laid W) (hsh : W.ShapedOpen Tryz.prog) :
    Calls Tryz.prog 3 args W fun e W' => ∃ v, e = .returned v ∧ Rows.fnCodesSpec.post enc Tryz.prog Tryz.f3 false true false false W args v W' := by
  have hval : ∀ (j : Nat) t v, Tryz.f3.params[j]? = some t → args[j]? = some v → Value.okWide Tryz.prog W .any base t v := hval0
  have hW' := hW
  obtain ⟨p, q, hA0, hV, rfl, hfz, hnd⟩ := hW
  have hA : DataW.TrodAll enc Tryz.prog W 0 (fun _ => true) true Tryz.f3.params.toList args.toList ds p := hA0
  rw [Tryz.params3] at hA hval
  obtain ⟨v0, vs0, d0, ds0, p0, q0, hargs, rfl, rfl, h0, r0⟩ := trodAll_cons hA
  obtain ⟨rfl, rfl, rfl⟩ := trodAll_nil r0
  obtain rfl : args = #[v0] := by cases args; simp_all
  have k0 := h0
  have lt0 : ∀ x ∈ p0, x.block < W.heap.size := by obtain ⟨m, hm⟩ := k0; exact DataW.trod_lt m _ _ _ hm
  obtain ⟨a0, len0, cap0, rfl⟩ := okWide_slice Tryz.underlying22 (hval 0 22 v0 rfl rfl)
  obtain ⟨z0, w0⟩ : ∃ zs, IsRow W a0 len0 cap0 zs := by
    obtain ⟨fuel, hf⟩ := h0
    rcases open_ints Tryz.underlying22 Tryz.underlying5 (by kernel_rfl) hf with ⟨hcs, _⟩ | ⟨x, l, c, zs, hcs, _, hl, hm, hz, _, hcell, hwz⟩
    · simp [Value.cells] at hcs
      obtain ⟨rfl, rfl, rfl⟩ := hcs
      exact ⟨[], .inl ⟨rfl, rfl, rfl, rfl⟩⟩
    · simp [Value.cells] at hcs
      obtain ⟨rfl, rfl, rfl⟩ := hcs
      exact ⟨zs, .inr ⟨_, rfl, hl, hm, by simpa using hz, hcell, hwz⟩⟩
  have hS := shp_of hL
  clear hA0 hval0
  refine (Cb.codes_walk W a0 len0 cap0 z0 w0 (row_len w0).1 (row_len w0).2 (sur_of hL hsh)).mono fun e W' ⟨he, bel⟩ => ?_
  subst he
  obtain ⟨q', hv'⟩ := vars_after (by kernel_rfl) hS hV bel
  have hg : ∃ g, gs = [g] := by
    obtain ⟨g, t, cs, fuel, d, p, e, _⟩ := trodVars_one hV
    exact ⟨d, e⟩
  obtain ⟨g, rfl⟩ := hg
  exact ⟨_, rfl, _, _, _, [], _, q', hW', trodAll_mk1 (shut_bool Tryz.underlying4 _), (trodAll_cons_mk (Below.trod laidOut (by kernel_rfl) (of_decide_eq_true (by kernel_rfl)) k0 bel lt0) trodAll_mk0), hv', bel.frame _, fun h => by cases h⟩

set_option maxRecDepth 100000 in
theorem lifted (os : Os) (started : os.Started) (H : Type) (enc : TypeId × Value → H) :
    ReturnsInHanded {} Tryz.checked os 3 .any (fun w args => (Rows.fnCodesSpec.pre enc Tryz.prog Tryz.f3 [] false w args ∧ laidMetH Tryz.prog Rows.fnCodesRow.laid w) ∧ sizedMet enc Tryz.prog Tryz.f3 (OpenSpec.ofChange Rows.fnCodesSpec) false w args)
      (Rows.fnCodesSpec.post enc Tryz.prog Tryz.f3 false true false false) := by
  refine returnsInHanded_of_calls own started (by kernel_rfl)
    (ChangeSpec.witness_shaped (enc := enc) (C := Tryz.checked) (os := os) (X := fun w _ => laidMetH Tryz.prog Rows.fnCodesRow.laid w) false ((World.doorLaid Tryz.prog 400 os).layVars Tryz.prog (Rows.fnCodesRow.laid.filter fun x => x.2.handleName?.isNone)) #[.slice none 0 0] 8 (World.layVars_os _ _ _) (World.shaped_of_ZipB (by kernel_rfl) (by kernel_rfl)) (by kernel_rfl) (by kernel_rfl) (by kernel_rfl) (door_met os _)) ?_
  intro w tape i _ hsh _ hok hpre _
  obtain ⟨_, _, _, fn', hfn', _, _, _, _, hval0⟩ := hok
  obtain rfl : fn' = Tryz.f3 := Option.some.inj (hfn'.symm.trans Tryz.func3)
  obtain ⟨⟨⟨ds, gs, before, hw, _⟩, hx⟩, _⟩ := hpre
  refine (core (w.forCall tape i) w.heap.size i.args ds gs before hval0 (DataW.Whole.of_heap (w' := w.forCall tape i) (by rfl) hw) (laidMetH.of_heap (show (w.forCall tape i).memory.heap = (w.forCall tape i).heap from rfl) hx) hsh).mono fun e W' ⟨v, he, hp⟩ => ?_
  subst he
  exact ChangeSpec.post_blind hp

theorem over : Rows.fnCodesRow.holds Tryz.pinned (OpenSpec.ofChange Rows.fnCodesSpec) :=
  OpenClaim.holds_of_wide 3 Tryz.f3 rfl rfl rfl rfl rfl rfl rfl ⟨rfl, rfl, rfl, rfl, rfl⟩ rfl rfl rfl rfl rfl (by kernel_rfl) Tryz.func3 (by kernel_rfl)
    (of_decide_eq_true (by kernel_rfl)) (by unfold Func.isWrapper; first | (rw [if_pos (by decide +kernel)]; kernel_rfl) | (rw [if_neg (by decide +kernel)]; exact ⟨rfl, rfl⟩))
    (fun os started H enc _ => lifted os started H enc)
end Go.Proofs.YtpjhipekjilejaaGreatDoor.fnCodes
namespace Go.Proofs.YtpjhipekjilejaaGreatDoor
theorem fnCodes_holds : Rows.FnCodesCardSaid :=
  Claim7.holds_tied_plain_at .later [] [.data, .data, .data, .data, .handle, .sentinel, .sentinel, .data, .pinned] true Rows.fnCodesCard.stood.harness true
    fnCodes.over (fun _ h => by cases h) (by kernel_rfl) (fun _ h => by cases h) fnCodes_row_tie rfl ⟨rfl, rfl⟩ (by kernel_rfl) rfl
    (fun f fn hf hfn => by
      obtain rfl : f = 3 := Option.some.inj ((show Tryz.prog.funcNamed Rows.fnCodesRow.func = some 3 by kernel_rfl).symm.trans hf) |>.symm
      obtain rfl : fn = Tryz.f3 := (Option.some.inj (Tryz.func3.symm.trans hfn)).symm
      exact ⟨by kernel_rfl, fun j t ht => by
        rw [Tryz.params3] at ht
        have hm : t ∈ [22] := by simpa using Array.mem_of_getElem? ht
        have hall : ([22].all fun u => !Tryz.prog.wantsStandIn u) = true := by kernel_rfl
        exact (show Tryz.prog.wantsStandIn t = false by simpa using List.all_eq_true.1 hall t hm)⟩)
    (by kernel_rfl)
#print axioms fnCodes_holds
end Go.Proofs.YtpjhipekjilejaaGreatDoor
