/-
  A row of instructions that came in, opened; what is laid, for the laws on code.
-/
import Derived.Test.YtcpodedmeeihhaaDoorCkB
import Derived.Test.YtcpodedmeeihhaaDoorCkC
import Derived.Test.YtcpodedmeeihhaaDoorCoN
import Derived.Test.YtcpodedmeeihhaaDoorCtD
import Derived.LaidHandle
import Derived.Deep.Slices
namespace Go.Proofs.YtcpodedmeeihhaaDoor.Code
open Go.ChangeShapes Go.WideShapes Go.ChangeAt Go.RowKit
set_option linter.unusedVariables false

set_option maxRecDepth 100000 in
theorem ins_of_trod {H : Type} {enc : TypeId × Value → H} {W : World} {base : Nat} {sp : Nat → Bool} {held : Bool} {fuel : Nat} {l : List Value} {x : DataW H × List MemPlace}
    (h : DataW.trod enc Tryd.prog W base sp held fuel 39 l = some x) : ∃ y : I, l = insL y ∧ y.s.size ≤ maxLen ∧ In64 y := by
  obtain ⟨xs, n, _, _, hl, hlen, hf⟩ := DataW.trod_struct Tryd.underlying39 h
  have c6 : Tryd.prog.cellsOf 39 = 6 := by kernel_rfl
  have c1 : Tryd.prog.cellsOf 3 = 1 := by kernel_rfl
  have cs1 : Tryd.prog.cellsOf 9 = 1 := by kernel_rfl
  rw [c6] at hl
  match l, hl with
  | [v0, v1, v2, v3, v4, v5], _ =>
    have hl' : xs.length = 6 := hlen
    have g : ∀ i, i < 6 → xs[i]? = some (xs.getD i (.nil, [])) := fun i hi => by
      rw [List.getD_eq_getElem?_getD, List.getElem?_eq_getElem (by omega)]; rfl
    have k0 : DataW.trod enc Tryd.prog W base sp held n 3 ((([v0, v1, v2, v3, v4, v5] : List Value).drop 0).take (Tryd.prog.cellsOf 3)) = some (xs.getD 0 (.nil, [])) := (hf 0 _ rfl).trans (g 0 (by omega))
    have k1 : DataW.trod enc Tryd.prog W base sp held n 3 ((([v0, v1, v2, v3, v4, v5] : List Value).drop 1).take (Tryd.prog.cellsOf 3)) = some (xs.getD 1 (.nil, [])) := (hf 1 _ rfl).trans (g 1 (by omega))
    have k2 : DataW.trod enc Tryd.prog W base sp held n 3 ((([v0, v1, v2, v3, v4, v5] : List Value).drop 2).take (Tryd.prog.cellsOf 3)) = some (xs.getD 2 (.nil, [])) := (hf 2 _ rfl).trans (g 2 (by omega))
    have k3 : DataW.trod enc Tryd.prog W base sp held n 3 ((([v0, v1, v2, v3, v4, v5] : List Value).drop 3).take (Tryd.prog.cellsOf 3)) = some (xs.getD 3 (.nil, [])) := (hf 3 _ rfl).trans (g 3 (by omega))
    have k4 : DataW.trod enc Tryd.prog W base sp held n 3 ((([v0, v1, v2, v3, v4, v5] : List Value).drop 4).take (Tryd.prog.cellsOf 3)) = some (xs.getD 4 (.nil, [])) := (hf 4 _ rfl).trans (g 4 (by omega))
    have k5 : DataW.trod enc Tryd.prog W base sp held n 9 ((([v0, v1, v2, v3, v4, v5] : List Value).drop 5).take (Tryd.prog.cellsOf 9)) = some (xs.getD 5 (.nil, [])) := (hf 5 _ rfl).trans (g 5 (by omega))
    simp only [c1, cs1, List.drop, List.take] at k0 k1 k2 k3 k4 k5
    obtain ⟨o, e0, _, w0⟩ := DataW.trod_int Tryd.underlying3 k0
    obtain ⟨a, e1, _, w1⟩ := DataW.trod_int Tryd.underlying3 k1
    obtain ⟨b, e2, _, w2⟩ := DataW.trod_int Tryd.underlying3 k2
    obtain ⟨c, e3, _, w3⟩ := DataW.trod_int Tryd.underlying3 k3
    obtain ⟨m, e4, _, w4⟩ := DataW.trod_int Tryd.underlying3 k4
    obtain ⟨s, e5, _, hs⟩ := DataW.trod_string Tryd.underlying9 k5
    simp only [List.cons.injEq, and_true] at e0 e1 e2 e3 e4 e5
    exact ⟨⟨o, a, b, c, m, s⟩, by rw [e0, e1, e2, e3, e4, e5]; rfl, hs, ⟨in64_of w1, in64_of w2, in64_of w3, in64_of w4⟩⟩

theorem choose_below {α : Type} [Inhabited α] {n : Nat} {p : Nat → α → Prop} (h : ∀ i, i < n → ∃ a, p i a) : ∃ f : Nat → α, ∀ i, i < n → p i (f i) := by
  classical
  exact ⟨fun i => if hi : i < n then (h i hi).choose else default, fun i hi => by simp only [dif_pos hi]; exact (h i hi).choose_spec⟩

set_option maxRecDepth 100000 in
theorem open_insS {H : Type} {enc : TypeId × Value → H} {W : World} {r : Reach} {b0 base : Nat} {sp : Nat → Bool} {held : Bool} {v : Value} {d : DataW H} {p : List MemPlace}
    (hv : Value.okWide Tryd.prog W r b0 22 v) (h : DataW.Trod enc Tryd.prog W base sp held 22 v d p) :
    ∃ (l : List I) (ao : Option Addr) (cap : Nat), v = .slice ao l.length cap ∧ RowI W ao l ∧ SmI maxLen l ∧ (∀ x ∈ l, In64 x) ∧ l.length ≤ maxLen := by
  obtain ⟨a0, len, cap, rfl⟩ := okWide_slice Tryd.underlying22 hv
  obtain ⟨fuel, hf⟩ := h
  have c6 : Tryd.prog.cellsOf 39 = 6 := by kernel_rfl
  rcases DataW.trod_slice Tryd.underlying22 hf with ⟨hcs, _⟩ | ⟨a, len', cap', elems, rest, n, _, hcs, _, _, hlc, hm, hel, hat, _, _⟩
  · simp [Value.cells] at hcs
    obtain ⟨rfl, rfl, rfl⟩ := hcs
    exact ⟨[], none, 0, rfl, .inl rfl, (by intro x hx; cases hx), (by intro x hx; cases hx), by simp⟩
  · simp [Value.cells] at hcs
    obtain ⟨rfl, rfl, rfl⟩ := hcs
    rw [c6] at hat
    have one : ∀ i, i < len → ∃ y : I, W.cells? base (a.add (i * 6)) 6 = some (insL y) ∧ y.s.size ≤ maxLen ∧ In64 y := by
      intro i hi
      have ha := hat i hi
      rw [List.getElem?_eq_getElem (by omega)] at ha
      obtain ⟨cs', h1, h2⟩ := Option.bind_eq_some_iff.1 ha
      obtain ⟨y, rfl, hs, hI⟩ := ins_of_trod h2
      exact ⟨y, h1, hs, hI⟩
    haveI : Inhabited I := ⟨zeroI⟩
    obtain ⟨T, hT⟩ := choose_below one
    have hll : ((List.range len).map T).length = len := by simp
    have hget : ∀ j (hj : j < ((List.range len).map T).length), ((List.range len).map T)[j] = T j := fun j hj => by simp
    refine ⟨(List.range len).map T, some a, cap, by rw [hll], ?_, fun x hx => ?_, fun x hx => ?_, by rw [hll]; omega⟩
    · by_cases h0 : len = 0
      · subst h0; exact .inl rfl
      · obtain ⟨bk, off, spot⟩ := a
        have hsp : spot = none := by
          obtain ⟨hc, _⟩ := hT 0 (by omega)
          obtain ⟨_, _, hcell⟩ := World.cells?_some hc
          have h' := World.cell?_spot (hcell 0 (by omega))
          simpa [Addr.add] using h'
        subst hsp
        refine .inr ⟨bk, off, rfl, fun j hj => ?_⟩
        rw [hget j hj]
        obtain ⟨hc, _⟩ := hT j (by rw [hll] at hj; exact hj)
        obtain ⟨_, _, hcell⟩ := World.cells?_some hc
        have ad : ∀ i, ((⟨bk, off, none⟩ : Addr).add (j * 6)).add i = ⟨bk, off + j * 6 + i, none⟩ := by
          intro i
          unfold Addr.add
          by_cases h1 : j * 6 = 0 <;> by_cases h2 : i = 0 <;> simp [h1, h2]
        have k0 := hcell 0 (by omega)
        have k1 := hcell 1 (by omega)
        have k2 := hcell 2 (by omega)
        have k3 := hcell 3 (by omega)
        have k4 := hcell 4 (by omega)
        have k5 := hcell 5 (by omega)
        rw [ad] at k0 k1 k2 k3 k4 k5
        exact ⟨by simpa [insL] using k0, by simpa [insL] using k1, by simpa [insL] using k2, by simpa [insL] using k3, by simpa [insL] using k4, by simpa [insL] using k5⟩
    · obtain ⟨i, hi, rfl⟩ := List.mem_map.1 hx
      exact (hT i (List.mem_range.1 hi)).2.1
    · obtain ⟨i, hi, rfl⟩ := List.mem_map.1 hx
      exact (hT i (List.mem_range.1 hi)).2.2

theorem ety_of {W : World} {n : String} (hn : Tryd.prog.globalNamed n = some 0) (h : handlesMet Tryd.prog [(n, Rows.laid_errors_errorType)] W) : Es.Ety W := by
  have rt : (Tryd.prog.cutTypes.find? (·.1 == "internal/reflectlite.rtype")).map (·.2) = some 103 := by kernel_rfl
  have oneRow : ((List.range 165).filter fun t => Tryd.prog.rowNamed t [101, 114, 114, 111, 114]) = [61] := by kernel_rfl
  have size : Tryd.prog.types.size = 165 := by kernel_rfl
  have hhn : (Rows.laid_errors_errorType : DataW Unit).handleName? = some [101, 114, 114, 111, 114] := by kernel_rfl
  obtain ⟨name, u, ty, e1, e2, e3, e4, e5⟩ := h _ (List.mem_singleton.2 rfl)
  obtain rfl := Option.some.inj (hhn.symm.trans e1)
  obtain rfl := Option.some.inj (rt.symm.trans e2)
  have hm : ty ∈ (List.range 165).filter fun t => Tryd.prog.rowNamed t [101, 114, 114, 111, 114] := List.mem_filter.2 ⟨List.mem_range.2 (by rw [← size]; exact e3), e4⟩
  rw [oneRow] at hm
  obtain rfl := List.mem_singleton.1 hm
  have hh : typeHandle Tryd.prog 61 = .pointer (some ⟨5, 61, none⟩) := by kernel_rfl
  rw [hh] at e5
  have := World.var?_cell hn e5 0
  unfold Es.Ety
  simpa using this
end Go.Proofs.YtcpodedmeeihhaaDoor.Code
