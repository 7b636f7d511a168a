/-
  Timers that came in, opened.
-/
import Derived.Test.YtljfjaoebbmfgaaTrA
import Derived.Test.YtljfjaoebbmfgaaTmJ
namespace Go.Proofs.Ytljfjaoebbmfgaa.Tr
open Go.ChangeShapes Go.WideShapes Go.ChangeAt Go.RowKit
set_option linter.unusedVariables false

theorem cellsTimer11 : Try.prog.cellsOf 39 = 6 := by kernel_rfl
theorem choose_below {α : Type} [Inhabited α] {n : Nat} {p : Nat → α → Prop} (h : ∀ i, i < n → ∃ a, p i a) : ∃ f : Nat → α, ∀ i, i < n → p i (f i) := by
  classical
  exact ⟨fun i => if hi : i < n then (h i hi).choose else default, fun i hi => by simp only [dif_pos hi]; exact (h i hi).choose_spec⟩
section
variable {H : Type} {enc : TypeId × Value → H} {w : World} {base : Nat} {sp : Nat → Bool} {held : Bool}
set_option maxRecDepth 100000 in
theorem timer_of_trod {fuel : Nat} {l : List Value} {x : DataW H × List MemPlace} (h : DataW.trod enc Try.prog w base sp held fuel 39 l = some x) :
    ∃ (y : Sd) (k n : Int) (s : ByteArray) (ao : Option Addr) (len cap : Nat), l = [.int .i64 y.kind, .int .i64 y.pid, .int .i64 k, .int .i64 n, .string s, .slice ao len cap] ∧ RepV 0 w y.t (.agg #[.int .i64 k, .int .i64 n, .string s, .slice ao len cap]) := by
  obtain ⟨xs, n, _, _, hl, hlen, hf⟩ := DataW.trod_struct Try.underlying39 h
  rw [cellsTimer11] at hl
  match l, hl, xs, hlen with
  | [v0, v1, v2, v3, v4, v5], _, [y0, y1, y2], _ =>
    have k0 : DataW.trod enc Try.prog w base sp held n 3 ((([v0, v1, v2, v3, v4, v5] : List Value).drop 0).take (Try.prog.cellsOf 3)) = some y0 := hf 0 _ rfl
    have k1 : DataW.trod enc Try.prog w base sp held n 3 ((([v0, v1, v2, v3, v4, v5] : List Value).drop 1).take (Try.prog.cellsOf 3)) = some y1 := hf 1 _ rfl
    have k2 : DataW.trod enc Try.prog w base sp held n 37 ((([v0, v1, v2, v3, v4, v5] : List Value).drop 2).take (Try.prog.cellsOf 37)) = some y2 := hf 2 _ rfl
    rw [cellsInt] at k0 k1
    rw [cellsTm] at k2
    have g0 : DataW.trod enc Try.prog w base sp held n 3 [v0] = some y0 := k0
    have g1 : DataW.trod enc Try.prog w base sp held n 3 [v1] = some y1 := k1
    have g2 : DataW.trod enc Try.prog w base sp held n 37 [v2, v3, v4, v5] = some y2 := k2
    obtain ⟨kind, e0, _, _⟩ := DataW.trod_int Try.underlying3 g0
    obtain ⟨pid, e1, _, _⟩ := DataW.trod_int Try.underlying3 g1
    obtain ⟨t, tk, tn, ts, tao, tlen, tcap, e2, hv⟩ := rep_of_trod n _ _ g2
    simp only [List.cons.injEq, and_true] at e0 e1 e2
    obtain ⟨rfl, rfl, rfl, rfl⟩ := e2
    subst e0 e1
    exact ⟨⟨kind, pid, t⟩, tk, tn, ts, tao, tlen, tcap, rfl, hv⟩
theorem ad_at (bk off i : Nat) (s j : Nat) : ((⟨bk, off, none⟩ : Addr).add (i * s)).add j = ⟨bk, off + i * s + j, none⟩ := by
  unfold Addr.add
  by_cases h1 : i * s = 0 <;> by_cases h2 : j = 0 <;> simp [h1, h2]
set_option maxRecDepth 100000 in
theorem open_timerS (fuel : Nat) (v : Value) (x : DataW H × List MemPlace) (h : DataW.trod enc Try.prog w base sp held fuel 22 [v] = some x) :
    ∃ (l : List Sd) (ao : Option Addr) (cap : Nat), v = .slice ao l.length cap ∧ RowS w ao l ∧ l.length ≤ maxLen := by
  rcases DataW.trod_slice Try.underlying22 h with ⟨e3, _⟩ | ⟨a, len, cap, elems, rest, m', hm', e3, _, hb, hlc, hcm, hel, hat, _, _⟩
  · simp only [List.cons.injEq, and_true] at e3
    subst e3
    exact ⟨[], none, 0, rfl, .inl rfl, Nat.zero_le _⟩
  · simp only [List.cons.injEq, and_true] at e3
    subst e3
    rw [cellsTimer11] at hat
    have one : ∀ i, i < len → ∃ y : Sd, ∃ (k n : Int) (s : ByteArray) (ao : Option Addr) (ln cp : Nat), w.cells? base (a.add (i * 6)) 6 = some [.int .i64 y.kind, .int .i64 y.pid, .int .i64 k, .int .i64 n, .string s, .slice ao ln cp] ∧ RepV 0 w y.t (.agg #[.int .i64 k, .int .i64 n, .string s, .slice ao ln cp]) := by
      intro i hi
      have ha := hat i hi
      rw [List.getElem?_eq_getElem (by omega)] at ha
      obtain ⟨cs', h1, h2⟩ := Option.bind_eq_some_iff.1 ha
      obtain ⟨y, k, n, s, ao, ln, cp, rfl, hr⟩ := timer_of_trod h2
      exact ⟨y, k, n, s, ao, ln, cp, h1, hr⟩
    haveI : Inhabited Sd := ⟨⟨0, 0, .mk 0 0 ByteArray.empty []⟩⟩
    obtain ⟨T, hT⟩ := choose_below one
    have hll : ((List.range len).map T).length = len := by simp
    have hget : ∀ j (hj : j < ((List.range len).map T).length), ((List.range len).map T)[j] = T j := fun j hj => by simp
    refine ⟨(List.range len).map T, some a, cap, by rw [hll], ?_, by rw [hll]; omega⟩
    by_cases h0 : len = 0
    · subst h0; exact .inl rfl
    · obtain ⟨bk, off, spot⟩ := a
      have hsp : spot = none := by
        obtain ⟨k, n, s, ao, ln, cp, hc, _⟩ := hT 0 (by omega)
        obtain ⟨_, _, hcell⟩ := World.cells?_some hc
        have h' := World.cell?_spot (hcell 0 (by omega))
        simpa [Addr.add] using h'
      subst hsp
      refine .inr ⟨bk, off, rfl, fun j hj => ?_⟩
      rw [hget j hj]
      obtain ⟨k, n, s, ao, ln, cp, hc, hr⟩ := hT j (by rw [hll] at hj; exact hj)
      obtain ⟨_, _, hcell⟩ := World.cells?_some hc
      have k0 := hcell 0 (by omega)
      have k1 := hcell 1 (by omega)
      have k2 := hcell 2 (by omega)
      have k3 := hcell 3 (by omega)
      have k4 := hcell 4 (by omega)
      have k5 := hcell 5 (by omega)
      rw [ad_at] at k0 k1 k2 k3 k4 k5
      exact ⟨by simpa using k0, by simpa using k1, repT_of (by simpa using k2) (by simpa using k3) (by simpa using k4) (by simpa using k5) hr⟩
end
end Go.Proofs.Ytljfjaoebbmfgaa.Tr
