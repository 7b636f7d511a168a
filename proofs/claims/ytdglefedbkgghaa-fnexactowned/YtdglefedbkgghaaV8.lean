/-
  A system on heaps that came in, opened.
  (Ahead of it, in this text: Whatever term the law is handed lies in memory as a tree. An actor that came in, opened. Instructions and what was said, opened, without the variables of the program.)
-/
import Derived.Test.YtdglefedbkgghaaTmA
import Derived.Test.YtdglefedbkgghaaRows
import Derived.ProofKit
import Derived.Deep.Slices
import Derived.Test.YtdglefedbkgghaaAcC
import Derived.SliceStrings
import Derived.OpenShut
import Derived.ChangeOld
import Derived.Test.YtdglefedbkgghaaV1
import Derived.Test.YtdglefedbkgghaaV3
namespace Go.Proofs.Ytdglefedbkgghaa
open Go.RowKit Go.ChangeShapes Go.WideShapes Go.Deep

theorem cellsTm : Try.prog.cellsOf 78 = 4 := by kernel_rfl
theorem cellsTms : Try.prog.cellsOf 76 = 1 := by kernel_rfl
theorem cellsStr : Try.prog.cellsOf 9 = 1 := by kernel_rfl
theorem cellsInt : Try.prog.cellsOf 3 = 1 := by kernel_rfl

/-- Four cells that are a term, the term told. -/
theorem repT_of {w : World} {t : Tm} {b off : Nat} {k n : Int} {s : ByteArray} {ao : Option Addr} {len cap : Nat}
    (h0 : w.cell? ⟨b, off, none⟩ = some (.int .i64 k)) (h1 : w.cell? ⟨b, off + 1, none⟩ = some (.int .i64 n)) (h2 : w.cell? ⟨b, off + 2, none⟩ = some (.string s)) (h3 : w.cell? ⟨b, off + 3, none⟩ = some (.slice ao len cap))
    (hv : RepV 0 w t (.agg #[.int .i64 k, .int .i64 n, .string s, .slice ao len cap])) : RepT 0 w t b off := by
  obtain ⟨k', n', s', l'⟩ := t
  obtain ⟨ao', cap', e, hs, hl, hc, hr⟩ := hv
  simp only [Value.agg.injEq, Array.mk.injEq, List.cons.injEq, and_true, Value.int.injEq, Value.string.injEq, Value.slice.injEq, true_and] at e
  obtain ⟨rfl, rfl, rfl, rfl, rfl, rfl⟩ := e
  rw [RepT]
  exact ⟨h0, h1, h2, hs, ao, cap, h3, hl, hc, hr⟩

section
variable {H : Type} {enc : TypeId × Value → H} {w : World} {base : Nat} {spare : Nat → Bool} {held : Bool}

set_option maxRecDepth 100000 in
theorem rep_of_trod (fuel : Nat) : ∀ (cs : List Value) (x : DataW H × List MemPlace), DataW.trod enc Try.prog w base spare held fuel 78 cs = some x →
    ∃ (t : Tm) (k n : Int) (s : ByteArray) (ao : Option Addr) (len cap : Nat), cs = [.int .i64 k, .int .i64 n, .string s, .slice ao len cap] ∧ RepV 0 w t (.agg #[.int .i64 k, .int .i64 n, .string s, .slice ao len cap]) := by
  induction fuel using Nat.strongRecOn with
  | ind fuel ih =>
    intro cs x h
    obtain ⟨xs, m, hfu, _, hl, hlen, hf⟩ := DataW.trod_struct Try.underlying78 h
    rw [cellsTm] at hl
    match cs, hl, xs, hlen with
    | [v0, v1, v2, v3], _, [y0, y1, y2, y3], _ =>
      have h0 : DataW.trod enc Try.prog w base spare held m 3 (([v0, v1, v2, v3].drop 0).take (Try.prog.cellsOf 3)) = some y0 := hf 0 _ rfl
      rw [cellsInt] at h0
      have g0 : DataW.trod enc Try.prog w base spare held m 3 [v0] = some y0 := h0
      have h1 : DataW.trod enc Try.prog w base spare held m 3 (([v0, v1, v2, v3].drop 1).take (Try.prog.cellsOf 3)) = some y1 := hf 1 _ rfl
      rw [cellsInt] at h1
      have g1 : DataW.trod enc Try.prog w base spare held m 3 [v1] = some y1 := h1
      have h2 : DataW.trod enc Try.prog w base spare held m 9 (([v0, v1, v2, v3].drop 2).take (Try.prog.cellsOf 9)) = some y2 := hf 2 _ rfl
      rw [cellsStr] at h2
      have g2 : DataW.trod enc Try.prog w base spare held m 9 [v2] = some y2 := h2
      have h3 : DataW.trod enc Try.prog w base spare held m 76 (([v0, v1, v2, v3].drop 3).take (Try.prog.cellsOf 76)) = some y3 := hf 3 _ rfl
      rw [cellsTms] at h3
      have g3 : DataW.trod enc Try.prog w base spare held m 76 [v3] = some y3 := h3
      obtain ⟨k, e0, _, _⟩ := DataW.trod_int Try.underlying3 g0
      obtain ⟨n, e1, _, _⟩ := DataW.trod_int Try.underlying3 g1
      obtain ⟨s, e2, _, hs⟩ := DataW.trod_string Try.underlying9 g2
      simp only [List.cons.injEq, and_true] at e0 e1 e2
      subst e0 e1 e2
      rcases DataW.trod_slice Try.underlying76 g3 with ⟨e3, _⟩ | ⟨a, len, cap, elems, rest, m', hm', e3, _, hb, hlc, hcm, hel, hat, _, _⟩
      · simp only [List.cons.injEq, and_true] at e3
        subst e3
        exact ⟨.mk k n s [], k, n, s, none, 0, 0, rfl, none, 0, rfl, hs, Nat.le_refl _, Nat.zero_le _, by rw [RepL]; trivial⟩
      · simp only [List.cons.injEq, and_true] at e3
        subst e3
        rw [cellsTm] at hat
        have one : ∀ i, i < len → ∃ (t : Tm), ∃ (k n : Int) (s : ByteArray) (ao : Option Addr) (ln cp : Nat), w.cells? base (a.add (i * 4)) 4 = some [.int .i64 k, .int .i64 n, .string s, .slice ao ln cp] ∧
            RepV 0 w t (.agg #[.int .i64 k, .int .i64 n, .string s, .slice ao ln cp]) := by
          intro i hi
          have ha := hat i hi
          rw [List.getElem?_eq_getElem (by omega)] at ha
          obtain ⟨cs', h1, h2⟩ := Option.bind_eq_some_iff.1 ha
          obtain ⟨t, k', n', s', ao', ln, cp, rfl, hv⟩ := ih m' (by omega) cs' _ h2
          exact ⟨t, k', n', s', ao', ln, cp, h1, hv⟩
        have hin : Inhabited Tm := ⟨.mk 0 0 ByteArray.empty []⟩
        obtain ⟨T, hT⟩ := choose_lt one
        have hll : ((List.range len).map T).length = len := by simp
        refine ⟨.mk k n s ((List.range len).map T), k, n, s, some a, len, cap, rfl, some a, cap, by rw [hll], hs, by rw [hll]; exact hlc, hcm, ?_⟩
        by_cases h0 : len = 0
        · subst h0
          show RepL 0 w [] _
          rw [RepL]; trivial
        · obtain ⟨bk, off, spot⟩ := a
          have hsp : spot = none := by
            obtain ⟨k', n', s', ao', ln, cp, hc, _⟩ := hT 0 (by omega)
            obtain ⟨_, _, hcell⟩ := World.cells?_some hc
            have := hcell 0 (by omega)
            have h' := World.cell?_spot this
            simpa [Addr.add] using h'
          subst hsp
          refine RepL.mk (Nat.zero_le _) _ off (fun i hi => ?_)
          have hi' : i < len := by simpa using hi
          obtain ⟨k', n', s', ao', ln, cp, hc, hv⟩ := hT i hi'
          obtain ⟨_, _, hcell⟩ := World.cells?_some hc
          have ad : ∀ j, ((⟨bk, off, none⟩ : Addr).add (i * 4)).add j = ⟨bk, off + i * 4 + j, none⟩ := by
            intro j
            unfold Addr.add
            by_cases h1 : i * 4 = 0 <;> by_cases h2 : j = 0 <;> simp [h1, h2]
          have c0 := hcell 0 (by omega)
          have c1 := hcell 1 (by omega)
          have c2 := hcell 2 (by omega)
          have c3 := hcell 3 (by omega)
          rw [ad] at c0 c1 c2 c3
          have e : ((List.range len).map T)[i] = T i := by simp
          rw [e]
          exact repT_of (by simpa using c0) (by simpa using c1) (by simpa using c2) (by simpa using c3) hv

set_option maxRecDepth 100000 in
theorem terms_open (fuel : Nat) (v : Value) (x : DataW H × List MemPlace) (h : DataW.trod enc Try.prog w base spare held fuel 76 [v] = some x) :
    ∃ (l : List Tm) (ao : Option Addr) (cap : Nat), v = .slice ao l.length cap ∧ RepL 0 w l ao ∧ l.length ≤ cap ∧ cap ≤ maxLen := by
  rcases DataW.trod_slice Try.underlying76 h with ⟨e3, _⟩ | ⟨a, len, cap, elems, rest, m', hm', e3, _, hb, hlc, hcm, hel, hat, _, _⟩
  · simp only [List.cons.injEq, and_true] at e3
    subst e3
    exact ⟨[], none, 0, rfl, by rw [RepL]; trivial, Nat.le_refl _, Nat.zero_le _⟩
  · simp only [List.cons.injEq, and_true] at e3
    subst e3
    rw [cellsTm] at hat
    have one : ∀ i, i < len → ∃ (t : Tm), ∃ (k n : Int) (s : ByteArray) (ao : Option Addr) (ln cp : Nat), w.cells? base (a.add (i * 4)) 4 = some [.int .i64 k, .int .i64 n, .string s, .slice ao ln cp] ∧
        RepV 0 w t (.agg #[.int .i64 k, .int .i64 n, .string s, .slice ao ln cp]) := by
      intro i hi
      have ha := hat i hi
      rw [List.getElem?_eq_getElem (by omega)] at ha
      obtain ⟨cs', h1, h2⟩ := Option.bind_eq_some_iff.1 ha
      obtain ⟨t, k', n', s', ao', ln, cp, rfl, hv⟩ := rep_of_trod m' cs' _ h2
      exact ⟨t, k', n', s', ao', ln, cp, h1, hv⟩
    have hin : Inhabited Tm := ⟨.mk 0 0 ByteArray.empty []⟩
    obtain ⟨T, hT⟩ := choose_lt one
    have hll : ((List.range len).map T).length = len := by simp
    refine ⟨(List.range len).map T, some a, cap, by rw [hll], ?_, by rw [hll]; exact hlc, hcm⟩
    by_cases h0 : len = 0
    · subst h0
      show RepL 0 w [] _
      rw [RepL]; trivial
    · obtain ⟨bk, off, spot⟩ := a
      have hsp : spot = none := by
        obtain ⟨k', n', s', ao', ln, cp, hc, _⟩ := hT 0 (by omega)
        obtain ⟨_, _, hcell⟩ := World.cells?_some hc
        have := hcell 0 (by omega)
        have h' := World.cell?_spot this
        simpa [Addr.add] using h'
      subst hsp
      refine RepL.mk (Nat.zero_le _) _ off (fun i hi => ?_)
      have hi' : i < len := by simpa using hi
      obtain ⟨k', n', s', ao', ln, cp, hc, hv⟩ := hT i hi'
      obtain ⟨_, _, hcell⟩ := World.cells?_some hc
      have ad : ∀ j, ((⟨bk, off, none⟩ : Addr).add (i * 4)).add j = ⟨bk, off + i * 4 + j, none⟩ := by
        intro j
        unfold Addr.add
        by_cases h1 : i * 4 = 0 <;> by_cases h2 : j = 0 <;> simp [h1, h2]
      have c0 := hcell 0 (by omega)
      have c1 := hcell 1 (by omega)
      have c2 := hcell 2 (by omega)
      have c3 := hcell 3 (by omega)
      rw [ad] at c0 c1 c2 c3
      have e : ((List.range len).map T)[i] = T i := by simp
      rw [e]
      exact repT_of (by simpa using c0) (by simpa using c1) (by simpa using c2) (by simpa using c3) hv
end
end Go.Proofs.Ytdglefedbkgghaa
namespace Go.Proofs.Ytdglefedbkgghaa
open Go.ChangeShapes Go.WideShapes Go.ChangeAt Go.RowKit
set_option linter.unusedVariables false

theorem cellsInts9 : Try.prog.cellsOf 24 = 1 := by kernel_rfl
set_option maxRecDepth 100000 in
theorem ints_open9 {H : Type} {enc : TypeId × Value → H} {w : World} {base : Nat} {spare : Nat → Bool} {held : Bool} (m : Nat) (v0 : Value) (y0 : DataW H × List MemPlace) (g0 : DataW.trod enc Try.prog w base spare held m 24 [v0] = some y0) :
    ∃ (ao : Option Addr) (N cap : Nat) (f : Nat → Int), v0 = .slice ao N cap ∧ RdI w ao N f ∧ N ≤ cap ∧ cap ≤ maxLen := by
  rcases open_ints Try.underlying24 Try.underlying3 (by kernel_rfl) g0 with ⟨hcs, _⟩ | ⟨a, l, c, zs, hcs, _, hle, hm, hz, _, hcell, hwz⟩
  · simp only [List.cons.injEq, and_true] at hcs
    subst hcs
    exact ⟨none, 0, 0, fun _ => 0, rfl, fun h => absurd rfl h, Nat.le_refl _, Nat.zero_le _⟩
  · simp only [List.cons.injEq, and_true] at hcs
    subst hcs
    refine ⟨some a, l, c, fun j => zs.getD j 0, rfl, fun hn => ?_, hle, hm⟩
    have hzl : l ≤ zs.length := by rw [hz]; split <;> omega
    obtain ⟨b, off, spot⟩ := a
    have q0 := hcell 0 (by omega)
    have hs : spot = none := by simpa [Addr.add] using World.cell?_spot q0
    subst hs
    refine ⟨b, off, rfl, fun j hj => ?_⟩
    have := hcell j (by omega)
    rw [Addr.add_lit] at this
    exact this

end Go.Proofs.Ytdglefedbkgghaa
namespace Go.Proofs.Ytdglefedbkgghaa
open Go.ChangeShapes Go.WideShapes Go.ChangeAt Go.RowKit
open Go.Proofs.Ytdglefedbkgghaa.Code
set_option linter.unusedVariables false

set_option maxRecDepth 100000 in
theorem ins_of_trod {H : Type} {enc : TypeId × Value → H} {W : World} {base : Nat} {sp : Nat → Bool} {held : Bool} {fuel : Nat} {l : List Value} {x : DataW H × List MemPlace}
    (h : DataW.trod enc Try.prog W base sp held fuel 71 l = some x) : ∃ y : I, l = insL y ∧ y.s.size ≤ maxLen := by
  obtain ⟨xs, n, _, _, hl, hlen, hf⟩ := DataW.trod_struct Try.underlying71 h
  have c6 : Try.prog.cellsOf 71 = 6 := by kernel_rfl
  have c1 : Try.prog.cellsOf 3 = 1 := by kernel_rfl
  have cs1 : Try.prog.cellsOf 9 = 1 := by kernel_rfl
  rw [c6] at hl
  match l, hl with
  | [v0, v1, v2, v3, v4, v5], _ =>
    have hl' : xs.length = 6 := hlen
    have g : ∀ i, i < 6 → xs[i]? = some (xs.getD i (.nil, [])) := fun i hi => by
      rw [List.getD_eq_getElem?_getD, List.getElem?_eq_getElem (by omega)]; rfl
    have k0 : DataW.trod enc Try.prog W base sp held n 3 ((([v0, v1, v2, v3, v4, v5] : List Value).drop 0).take (Try.prog.cellsOf 3)) = some (xs.getD 0 (.nil, [])) := (hf 0 _ rfl).trans (g 0 (by omega))
    have k1 : DataW.trod enc Try.prog W base sp held n 3 ((([v0, v1, v2, v3, v4, v5] : List Value).drop 1).take (Try.prog.cellsOf 3)) = some (xs.getD 1 (.nil, [])) := (hf 1 _ rfl).trans (g 1 (by omega))
    have k2 : DataW.trod enc Try.prog W base sp held n 3 ((([v0, v1, v2, v3, v4, v5] : List Value).drop 2).take (Try.prog.cellsOf 3)) = some (xs.getD 2 (.nil, [])) := (hf 2 _ rfl).trans (g 2 (by omega))
    have k3 : DataW.trod enc Try.prog W base sp held n 3 ((([v0, v1, v2, v3, v4, v5] : List Value).drop 3).take (Try.prog.cellsOf 3)) = some (xs.getD 3 (.nil, [])) := (hf 3 _ rfl).trans (g 3 (by omega))
    have k4 : DataW.trod enc Try.prog W base sp held n 3 ((([v0, v1, v2, v3, v4, v5] : List Value).drop 4).take (Try.prog.cellsOf 3)) = some (xs.getD 4 (.nil, [])) := (hf 4 _ rfl).trans (g 4 (by omega))
    have k5 : DataW.trod enc Try.prog W base sp held n 9 ((([v0, v1, v2, v3, v4, v5] : List Value).drop 5).take (Try.prog.cellsOf 9)) = some (xs.getD 5 (.nil, [])) := (hf 5 _ rfl).trans (g 5 (by omega))
    simp only [c1, cs1, List.drop, List.take] at k0 k1 k2 k3 k4 k5
    obtain ⟨o, e0, _, w0⟩ := DataW.trod_int Try.underlying3 k0
    obtain ⟨a, e1, _, w1⟩ := DataW.trod_int Try.underlying3 k1
    obtain ⟨b, e2, _, w2⟩ := DataW.trod_int Try.underlying3 k2
    obtain ⟨c, e3, _, w3⟩ := DataW.trod_int Try.underlying3 k3
    obtain ⟨m, e4, _, w4⟩ := DataW.trod_int Try.underlying3 k4
    obtain ⟨s, e5, _, hs⟩ := DataW.trod_string Try.underlying9 k5
    simp only [List.cons.injEq, and_true] at e0 e1 e2 e3 e4 e5
    exact ⟨⟨o, a, b, c, m, s⟩, by rw [e0, e1, e2, e3, e4, e5]; rfl, hs⟩
theorem choose_below {α : Type} [Inhabited α] {n : Nat} {p : Nat → α → Prop} (h : ∀ i, i < n → ∃ a, p i a) : ∃ f : Nat → α, ∀ i, i < n → p i (f i) := by
  classical
  exact ⟨fun i => if hi : i < n then (h i hi).choose else default, fun i hi => by simp only [dif_pos hi]; exact (h i hi).choose_spec⟩
section
variable {H : Type} {enc : TypeId × Value → H} {w : World} {base : Nat} {sp : Nat → Bool} {held : Bool}
theorem cellsSaid11 : Try.prog.cellsOf 80 = 6 := by kernel_rfl
set_option maxRecDepth 100000 in
theorem said_of_trod {fuel : Nat} {l : List Value} {x : DataW H × List MemPlace} (h : DataW.trod enc Try.prog w base sp held fuel 80 l = some x) :
    ∃ (y : Sd) (k n : Int) (s : ByteArray) (ao : Option Addr) (len cap : Nat), l = [.int .i64 y.kind, .int .i64 y.pid, .int .i64 k, .int .i64 n, .string s, .slice ao len cap] ∧ RepV 0 w y.t (.agg #[.int .i64 k, .int .i64 n, .string s, .slice ao len cap]) := by
  obtain ⟨xs, n, _, _, hl, hlen, hf⟩ := DataW.trod_struct Try.underlying80 h
  rw [cellsSaid11] at hl
  match l, hl, xs, hlen with
  | [v0, v1, v2, v3, v4, v5], _, [y0, y1, y2], _ =>
    have k0 : DataW.trod enc Try.prog w base sp held n 3 ((([v0, v1, v2, v3, v4, v5] : List Value).drop 0).take (Try.prog.cellsOf 3)) = some y0 := hf 0 _ rfl
    have k1 : DataW.trod enc Try.prog w base sp held n 3 ((([v0, v1, v2, v3, v4, v5] : List Value).drop 1).take (Try.prog.cellsOf 3)) = some y1 := hf 1 _ rfl
    have k2 : DataW.trod enc Try.prog w base sp held n 78 ((([v0, v1, v2, v3, v4, v5] : List Value).drop 2).take (Try.prog.cellsOf 78)) = some y2 := hf 2 _ rfl
    rw [cellsInt] at k0 k1
    rw [cellsTm] at k2
    have g0 : DataW.trod enc Try.prog w base sp held n 3 [v0] = some y0 := k0
    have g1 : DataW.trod enc Try.prog w base sp held n 3 [v1] = some y1 := k1
    have g2 : DataW.trod enc Try.prog w base sp held n 78 [v2, v3, v4, v5] = some y2 := k2
    obtain ⟨kind, e0, _, _⟩ := DataW.trod_int Try.underlying3 g0
    obtain ⟨pid, e1, _, _⟩ := DataW.trod_int Try.underlying3 g1
    obtain ⟨t, tk, tn, ts, tao, tlen, tcap, e2, hv⟩ := rep_of_trod n _ _ g2
    simp only [List.cons.injEq, and_true] at e0 e1 e2
    obtain ⟨rfl, rfl, rfl, rfl⟩ := e2
    subst e0 e1
    exact ⟨⟨kind, pid, t⟩, tk, tn, ts, tao, tlen, tcap, rfl, hv⟩
theorem ad_at (bk off i : Nat) (s j : Nat) : ((⟨bk, off, none⟩ : Addr).add (i * s)).add j = ⟨bk, off + i * s + j, none⟩ := by
  unfold Addr.add
  by_cases h1 : i * s = 0 <;> by_cases h2 : j = 0 <;> simp [h1, h2]
set_option maxRecDepth 100000 in
theorem open_saidS (fuel : Nat) (v : Value) (x : DataW H × List MemPlace) (h : DataW.trod enc Try.prog w base sp held fuel 28 [v] = some x) :
    ∃ (l : List Sd) (ao : Option Addr) (cap : Nat), v = .slice ao l.length cap ∧ RowS w ao l ∧ l.length ≤ maxLen := by
  rcases DataW.trod_slice Try.underlying28 h with ⟨e3, _⟩ | ⟨a, len, cap, elems, rest, m', hm', e3, _, hb, hlc, hcm, hel, hat, _, _⟩
  · simp only [List.cons.injEq, and_true] at e3
    subst e3
    exact ⟨[], none, 0, rfl, .inl rfl, Nat.zero_le _⟩
  · simp only [List.cons.injEq, and_true] at e3
    subst e3
    rw [cellsSaid11] at hat
    have one : ∀ i, i < len → ∃ y : Sd, ∃ (k n : Int) (s : ByteArray) (ao : Option Addr) (ln cp : Nat), w.cells? base (a.add (i * 6)) 6 = some [.int .i64 y.kind, .int .i64 y.pid, .int .i64 k, .int .i64 n, .string s, .slice ao ln cp] ∧ RepV 0 w y.t (.agg #[.int .i64 k, .int .i64 n, .string s, .slice ao ln cp]) := by
      intro i hi
      have ha := hat i hi
      rw [List.getElem?_eq_getElem (by omega)] at ha
      obtain ⟨cs', h1, h2⟩ := Option.bind_eq_some_iff.1 ha
      obtain ⟨y, k, n, s, ao, ln, cp, rfl, hr⟩ := said_of_trod h2
      exact ⟨y, k, n, s, ao, ln, cp, h1, hr⟩
    haveI : Inhabited Sd := ⟨⟨0, 0, .mk 0 0 ByteArray.empty []⟩⟩
    obtain ⟨T, hT⟩ := choose_below one
    have hll : ((List.range len).map T).length = len := by simp
    have hget : ∀ j (hj : j < ((List.range len).map T).length), ((List.range len).map T)[j] = T j := fun j hj => by simp
    refine ⟨(List.range len).map T, some a, cap, by rw [hll], ?_, by rw [hll]; omega⟩
    by_cases h0 : len = 0
    · subst h0; exact .inl rfl
    · obtain ⟨bk, off, spot⟩ := a
      have hsp : spot = none := by
        obtain ⟨k, n, s, ao, ln, cp, hc, _⟩ := hT 0 (by omega)
        obtain ⟨_, _, hcell⟩ := World.cells?_some hc
        have h' := World.cell?_spot (hcell 0 (by omega))
        simpa [Addr.add] using h'
      subst hsp
      refine .inr ⟨bk, off, rfl, fun j hj => ?_⟩
      rw [hget j hj]
      obtain ⟨k, n, s, ao, ln, cp, hc, hr⟩ := hT j (by rw [hll] at hj; exact hj)
      obtain ⟨_, _, hcell⟩ := World.cells?_some hc
      have k0 := hcell 0 (by omega)
      have k1 := hcell 1 (by omega)
      have k2 := hcell 2 (by omega)
      have k3 := hcell 3 (by omega)
      have k4 := hcell 4 (by omega)
      have k5 := hcell 5 (by omega)
      rw [ad_at] at k0 k1 k2 k3 k4 k5
      exact ⟨by simpa using k0, by simpa using k1, repT_of (by simpa using k2) (by simpa using k3) (by simpa using k4) (by simpa using k5) hr⟩
end
set_option maxRecDepth 100000 in
theorem insS_of_trod {H : Type} {enc : TypeId × Value → H} {w : World} {base : Nat} {sp : Nat → Bool} {held : Bool} (fuel : Nat) (v : Value) (x : DataW H × List MemPlace) (h : DataW.trod enc Try.prog w base sp held fuel 22 [v] = some x) :
    ∃ (l : List I) (ao : Option Addr) (cap : Nat), v = .slice ao l.length cap ∧ RowI w ao l ∧ SmI maxLen l ∧ l.length ≤ maxLen := by
  have c6 : Try.prog.cellsOf 71 = 6 := by kernel_rfl
  rcases DataW.trod_slice Try.underlying22 h with ⟨e3, _⟩ | ⟨a, len, cap, elems, rest, m', hm', e3, _, hb, hlc, hcm, hel, hat, _, _⟩
  · simp only [List.cons.injEq, and_true] at e3
    subst e3
    exact ⟨[], none, 0, rfl, .inl rfl, (by intro x hx; cases hx), Nat.zero_le _⟩
  · simp only [List.cons.injEq, and_true] at e3
    subst e3
    rw [c6] at hat
    have one : ∀ i, i < len → ∃ y : I, w.cells? base (a.add (i * 6)) 6 = some (insL y) ∧ y.s.size ≤ maxLen := by
      intro i hi
      have ha := hat i hi
      rw [List.getElem?_eq_getElem (by omega)] at ha
      obtain ⟨cs', h1, h2⟩ := Option.bind_eq_some_iff.1 ha
      obtain ⟨y, rfl, hs⟩ := ins_of_trod h2
      exact ⟨y, h1, hs⟩
    haveI : Inhabited I := ⟨zeroI⟩
    obtain ⟨T, hT⟩ := choose_below one
    have hll : ((List.range len).map T).length = len := by simp
    have hget : ∀ j (hj : j < ((List.range len).map T).length), ((List.range len).map T)[j] = T j := fun j hj => by simp
    refine ⟨(List.range len).map T, some a, cap, by rw [hll], ?_, fun x hx => ?_, by rw [hll]; omega⟩
    · by_cases h0 : len = 0
      · subst h0; exact .inl rfl
      · obtain ⟨bk, off, spot⟩ := a
        have hsp : spot = none := by
          obtain ⟨hc, _⟩ := hT 0 (by omega)
          obtain ⟨_, _, hcell⟩ := World.cells?_some hc
          have h' := World.cell?_spot (hcell 0 (by omega))
          simpa [Addr.add] using h'
        subst hsp
        refine .inr ⟨bk, off, rfl, fun j hj => ?_⟩
        rw [hget j hj]
        obtain ⟨hc, _⟩ := hT j (by rw [hll] at hj; exact hj)
        obtain ⟨_, _, hcell⟩ := World.cells?_some hc
        have k0 := hcell 0 (by omega)
        have k1 := hcell 1 (by omega)
        have k2 := hcell 2 (by omega)
        have k3 := hcell 3 (by omega)
        have k4 := hcell 4 (by omega)
        have k5 := hcell 5 (by omega)
        rw [ad_at] at k0 k1 k2 k3 k4 k5
        exact ⟨by simpa [insL] using k0, by simpa [insL] using k1, by simpa [insL] using k2, by simpa [insL] using k3, by simpa [insL] using k4, by simpa [insL] using k5⟩
    · obtain ⟨i, hi, rfl⟩ := List.mem_map.1 hx
      exact (hT i (List.mem_range.1 hi)).2
end Go.Proofs.Ytdglefedbkgghaa
namespace Go.Proofs.Ytdglefedbkgghaa
open Go.ChangeShapes Go.WideShapes Go.ChangeAt Go.RowKit
open Go.Proofs.Ytdglefedbkgghaa.Code
set_option linter.unusedVariables false

section
variable {H : Type} {enc : TypeId × Value → H} {w : World} {base : Nat} {sp : Nat → Bool} {held : Bool}
theorem cellsCell16 : Try.prog.cellsOf 74 = 6 := by kernel_rfl
theorem cellsInt16 : Try.prog.cellsOf 3 = 1 := by kernel_rfl
theorem cellsInts16 : Try.prog.cellsOf 24 = 1 := by kernel_rfl

set_option maxRecDepth 100000 in
theorem cell_of_trod {fuel : Nat} {l : List Value} {x : DataW H × List MemPlace} (h : DataW.trod enc Try.prog w base sp held fuel 74 l = some x) :
    ∃ (c : Ce) (g : Cw), l = [.int .i64 c.pid, .int .i64 c.pc, .slice g.ra c.R g.rc, .slice g.ba c.B g.bc, .slice g.la c.N g.lc, .int .i64 c.h] ∧ CeR w c g ∧ CeM c := by
  obtain ⟨xs, n, _, _, hl, hlen, hf⟩ := DataW.trod_struct Try.underlying74 h
  rw [cellsCell16] at hl
  match l, hl, xs, hlen with
  | [v0, v1, v2, v3, v4, v5], _, [y0, y1, y2, y3, y4, y5], _ =>
    have k0 : DataW.trod enc Try.prog w base sp held n 3 ((([v0, v1, v2, v3, v4, v5] : List Value).drop 0).take (Try.prog.cellsOf 3)) = some y0 := hf 0 _ rfl
    have k1 : DataW.trod enc Try.prog w base sp held n 3 ((([v0, v1, v2, v3, v4, v5] : List Value).drop 1).take (Try.prog.cellsOf 3)) = some y1 := hf 1 _ rfl
    have k2 : DataW.trod enc Try.prog w base sp held n 24 ((([v0, v1, v2, v3, v4, v5] : List Value).drop 2).take (Try.prog.cellsOf 24)) = some y2 := hf 2 _ rfl
    have k3 : DataW.trod enc Try.prog w base sp held n 24 ((([v0, v1, v2, v3, v4, v5] : List Value).drop 3).take (Try.prog.cellsOf 24)) = some y3 := hf 3 _ rfl
    have k4 : DataW.trod enc Try.prog w base sp held n 24 ((([v0, v1, v2, v3, v4, v5] : List Value).drop 4).take (Try.prog.cellsOf 24)) = some y4 := hf 4 _ rfl
    have k5 : DataW.trod enc Try.prog w base sp held n 3 ((([v0, v1, v2, v3, v4, v5] : List Value).drop 5).take (Try.prog.cellsOf 3)) = some y5 := hf 5 _ rfl
    rw [cellsInt16] at k0 k1 k5
    rw [cellsInts16] at k2 k3 k4
    have g0 : DataW.trod enc Try.prog w base sp held n 3 [v0] = some y0 := k0
    have g1 : DataW.trod enc Try.prog w base sp held n 3 [v1] = some y1 := k1
    have g5 : DataW.trod enc Try.prog w base sp held n 3 [v5] = some y5 := k5
    obtain ⟨pid, e0, _, _⟩ := DataW.trod_int Try.underlying3 g0
    obtain ⟨pc, e1, _, _⟩ := DataW.trod_int Try.underlying3 g1
    obtain ⟨ha, e5, _, _⟩ := DataW.trod_int Try.underlying3 g5
    simp only [List.cons.injEq, and_true] at e0 e1 e5
    subst e0 e1 e5
    obtain ⟨ra, R, rc, r, rfl, r0, r1, r2⟩ := ints_open9 n v2 y2 k2
    obtain ⟨ba, B, bc, b, rfl, b0, b1, b2⟩ := ints_open9 n v3 y3 k3
    obtain ⟨la, N, lc, f, rfl, l0, l1, l2⟩ := ints_open9 n v4 y4 k4
    exact ⟨⟨pid, pc, R, r, B, b, N, f, ha⟩, ⟨ra, rc, ba, bc, la, lc⟩, rfl, ⟨r0, b0, l0⟩, Nat.le_trans r1 r2, Nat.le_trans b1 b2, Nat.le_trans l1 l2⟩

set_option maxRecDepth 100000 in
theorem open_cellS (fuel : Nat) (v : Value) (x : DataW H × List MemPlace) (h : DataW.trod enc Try.prog w base sp held fuel 27 [v] = some x) :
    ∃ (l : List Ce) (ao : Option Addr) (cap : Nat), v = .slice ao l.length cap ∧ RowC w ao l ∧ (∀ c ∈ l, CeM c) ∧ l.length ≤ maxLen := by
  rcases DataW.trod_slice Try.underlying27 h with ⟨e3, _⟩ | ⟨a, len, cap, elems, rest, m', hm', e3, _, hb, hlc, hcm, hel, hat, _, _⟩
  · simp only [List.cons.injEq, and_true] at e3
    subst e3
    exact ⟨[], none, 0, rfl, .inl rfl, (by intro x hx; cases hx), Nat.zero_le _⟩
  · simp only [List.cons.injEq, and_true] at e3
    subst e3
    rw [cellsCell16] at hat
    have one : ∀ i, i < len → ∃ c : Ce, (∃ g : Cw, w.cells? base (a.add (i * 6)) 6 = some [.int .i64 c.pid, .int .i64 c.pc, .slice g.ra c.R g.rc, .slice g.ba c.B g.bc, .slice g.la c.N g.lc, .int .i64 c.h] ∧ CeR w c g) ∧ CeM c := by
      intro i hi
      have ha := hat i hi
      rw [List.getElem?_eq_getElem (by omega)] at ha
      obtain ⟨cs', h1, h2⟩ := Option.bind_eq_some_iff.1 ha
      obtain ⟨c, g, rfl, hr, hm⟩ := cell_of_trod h2
      exact ⟨c, ⟨g, h1, hr⟩, hm⟩
    haveI : Inhabited Ce := ⟨⟨0, 0, 0, fun _ => 0, 0, fun _ => 0, 0, fun _ => 0, 0⟩⟩
    obtain ⟨T, hT⟩ := choose_below one
    have hll : ((List.range len).map T).length = len := by simp
    have hget : ∀ j (hj : j < ((List.range len).map T).length), ((List.range len).map T)[j] = T j := fun j hj => by simp
    refine ⟨(List.range len).map T, some a, cap, by rw [hll], ?_, fun c hc => ?_, by rw [hll]; omega⟩
    · by_cases h0 : len = 0
      · subst h0; exact .inl rfl
      · obtain ⟨bk, off, spot⟩ := a
        have hsp : spot = none := by
          obtain ⟨⟨g, hc, _⟩, _⟩ := hT 0 (by omega)
          obtain ⟨_, _, hcell⟩ := World.cells?_some hc
          have h' := World.cell?_spot (hcell 0 (by omega))
          simpa [Addr.add] using h'
        subst hsp
        refine .inr ⟨bk, off, rfl, fun j hj => ?_⟩
        rw [hget j hj]
        obtain ⟨⟨g, hc, hr⟩, _⟩ := hT j (by rw [hll] at hj; exact hj)
        obtain ⟨_, _, hcell⟩ := World.cells?_some hc
        have k0 := hcell 0 (by omega)
        have k1 := hcell 1 (by omega)
        have k2 := hcell 2 (by omega)
        have k3 := hcell 3 (by omega)
        have k4 := hcell 4 (by omega)
        have k5 := hcell 5 (by omega)
        rw [ad_at] at k0 k1 k2 k3 k4 k5
        exact ⟨g, ⟨by simpa using k0, by simpa using k1, by simpa using k2, by simpa using k3, by simpa using k4, by simpa using k5⟩, hr⟩
    · obtain ⟨i, hi, rfl⟩ := List.mem_map.1 hc
      exact (hT i (List.mem_range.1 hi)).2

theorem strs_of_trod (fuel : Nat) (v : Value) (x : DataW H × List MemPlace) (h : DataW.trod enc Try.prog w base sp held fuel 23 [v] = some x) :
    ∃ (L : List ByteArray) (ao : Option Addr) (cap : Nat), v = .slice ao L.length cap ∧ RdT w ao L ∧ (∀ x ∈ L, x.size ≤ maxLen) ∧ L.length ≤ maxLen := by
  rcases open_strings Try.underlying23 Try.underlying9 (by kernel_rfl) h with ⟨hcs, hx⟩ | ⟨a, len, cap, ss, hcs, _, hl, hmm, hz, hx, hcell, hs⟩
  · simp only [List.cons.injEq, and_true] at hcs
    subst hcs
    exact ⟨[], none, 0, rfl, fun h => absurd rfl h, fun x hx => by simp at hx, Nat.zero_le _⟩
  · simp only [List.cons.injEq, and_true] at hcs
    subst hcs
    have hzl : len ≤ ss.length := by rw [hz]; split <;> omega
    have hln : (ss.take len).length = len := by simp; omega
    refine ⟨ss.take len, some a, cap, by rw [hln], fun hn => ?_, fun x hx => hs x (List.mem_of_mem_take hx), by rw [hln]; exact Nat.le_trans hl hmm⟩
    obtain ⟨b, off, spot⟩ := a
    have q0 := hcell 0 (by omega)
    have hsp : spot = none := by simpa [Addr.add] using World.cell?_spot q0
    subst hsp
    refine ⟨b, off, rfl, fun j hj => ?_⟩
    have hj2 : j < ss.length := by omega
    have := hcell j hj2
    rw [Addr.add_lit, List.getD_eq_getElem?_getD, List.getElem?_eq_getElem hj2] at this
    rw [List.getElem_take]
    exact this
end

theorem cellsHeaps16 : Try.prog.cellsOf 30 = 7 := by kernel_rfl
theorem cellsArena16 : Try.prog.cellsOf 26 = 1 := by kernel_rfl
theorem cellsIns16 : Try.prog.cellsOf 22 = 1 := by kernel_rfl
theorem cellsStrs16 : Try.prog.cellsOf 23 = 1 := by kernel_rfl
theorem cellsCells16 : Try.prog.cellsOf 27 = 1 := by kernel_rfl
theorem cellsSaids16 : Try.prog.cellsOf 28 = 1 := by kernel_rfl
set_option maxRecDepth 100000 in
theorem arena_of_trod {H : Type} {enc : TypeId × Value → H} {w : World} {base : Nat} {spare : Nat → Bool} {held : Bool} (fuel : Nat) (v : Value) (x : DataW H × List MemPlace) (h : DataW.trod enc Try.prog w base spare held fuel 26 [v] = some x) :
    ∃ (ao : Option Addr) (N cap : Nat) (f : Nat → Int), v = .slice ao N cap ∧ RdI w ao N f ∧ N ≤ cap ∧ cap ≤ maxLen := by
  obtain ⟨xs, n, _, _, hl, hlen, hf⟩ := DataW.trod_struct Try.underlying26 h
  match xs, hlen with
  | [y0], _ =>
    have k0 : DataW.trod enc Try.prog w base spare held n 24 ((([v] : List Value).drop 0).take (Try.prog.cellsOf 24)) = some y0 := hf 0 _ rfl
    rw [cellsInts16] at k0
    exact ints_open9 n v y0 k0

set_option maxRecDepth 100000 in
theorem open_heaps {H : Type} {enc : TypeId × Value → H} {W : World} {r : Reach} {b0 base : Nat} {sp : Nat → Bool} {held : Bool} {v : Value} {d : DataW H} {p : List MemPlace}
    (hv : Value.okWide Try.prog W r b0 30 v) (h : DataW.Trod enc Try.prog W base sp held 30 v d p) :
    ∃ (a : Hp) (g : Hw), v = hpV a g ∧ HpR W a g ∧ HpM a g := by
  obtain ⟨cs, rfl, hsz⟩ := okWide_struct Try.underlying30 hv
  obtain ⟨fuel, hf⟩ := h
  obtain ⟨xs, n, _, _, hl, hlen, hf⟩ := DataW.trod_struct Try.underlying30 hf
  rw [cellsHeaps16] at hsz
  obtain ⟨l⟩ := cs
  have hl7 : l.length = 7 := hsz
  match l, hl7, xs, hlen with
  | [v0, v1, v2, v3, v4, v5, v6], _, [y0, y1, y2, y3, y4, y5, y6], _ =>
    have k0 : DataW.trod enc Try.prog W base sp held n 22 ((([v0, v1, v2, v3, v4, v5, v6] : List Value).drop 0).take (Try.prog.cellsOf 22)) = some y0 := hf 0 _ rfl
    have k1 : DataW.trod enc Try.prog W base sp held n 23 ((([v0, v1, v2, v3, v4, v5, v6] : List Value).drop 1).take (Try.prog.cellsOf 23)) = some y1 := hf 1 _ rfl
    have k2 : DataW.trod enc Try.prog W base sp held n 26 ((([v0, v1, v2, v3, v4, v5, v6] : List Value).drop 2).take (Try.prog.cellsOf 26)) = some y2 := hf 2 _ rfl
    have k3 : DataW.trod enc Try.prog W base sp held n 27 ((([v0, v1, v2, v3, v4, v5, v6] : List Value).drop 3).take (Try.prog.cellsOf 27)) = some y3 := hf 3 _ rfl
    have k4 : DataW.trod enc Try.prog W base sp held n 3 ((([v0, v1, v2, v3, v4, v5, v6] : List Value).drop 4).take (Try.prog.cellsOf 3)) = some y4 := hf 4 _ rfl
    have k5 : DataW.trod enc Try.prog W base sp held n 28 ((([v0, v1, v2, v3, v4, v5, v6] : List Value).drop 5).take (Try.prog.cellsOf 28)) = some y5 := hf 5 _ rfl
    have k6 : DataW.trod enc Try.prog W base sp held n 3 ((([v0, v1, v2, v3, v4, v5, v6] : List Value).drop 6).take (Try.prog.cellsOf 3)) = some y6 := hf 6 _ rfl
    rw [cellsIns16] at k0
    rw [cellsStrs16] at k1
    rw [cellsArena16] at k2
    rw [cellsCells16] at k3
    rw [cellsInt16] at k4 k6
    rw [cellsSaids16] at k5
    have g0 : DataW.trod enc Try.prog W base sp held n 22 [v0] = some y0 := k0
    have g1 : DataW.trod enc Try.prog W base sp held n 23 [v1] = some y1 := k1
    have g2 : DataW.trod enc Try.prog W base sp held n 26 [v2] = some y2 := k2
    have g3 : DataW.trod enc Try.prog W base sp held n 27 [v3] = some y3 := k3
    have g4 : DataW.trod enc Try.prog W base sp held n 3 [v4] = some y4 := k4
    have g5 : DataW.trod enc Try.prog W base sp held n 28 [v5] = some y5 := k5
    have g6 : DataW.trod enc Try.prog W base sp held n 3 [v6] = some y6 := k6
    obtain ⟨next, e4, _, _⟩ := DataW.trod_int Try.underlying3 g4
    obtain ⟨room, e6, _, _⟩ := DataW.trod_int Try.underlying3 g6
    simp only [List.cons.injEq, and_true] at e4 e6
    subst e4 e6
    obtain ⟨code, ca, cc, rfl, hc, hcs, hc1⟩ := insS_of_trod n v0 y0 g0
    obtain ⟨atoms, ta, tc, rfl, ht, hts, ht1⟩ := strs_of_trod n v1 y1 g1
    obtain ⟨ra, N, rc, f, rfl, ha, ha1, ha2⟩ := arena_of_trod n v2 y2 g2
    obtain ⟨cells, ea, ec, rfl, he, hes, he1⟩ := open_cellS n v3 y3 g3
    obtain ⟨out, oa, oc, rfl, ho, ho1⟩ := open_saidS n v5 y5 g5
    exact ⟨⟨code, atoms, N, f, cells, next, out, room⟩, ⟨ca, cc, ta, tc, ra, rc, ea, ec, oa, oc⟩, rfl, ⟨hc, ht, ha, he, ho⟩, ⟨hcs, hc1, ht1, hts, Nat.le_trans ha1 ha2, he1, hes, ho1⟩⟩
end Go.Proofs.Ytdglefedbkgghaa
