/-
  Whatever term the law is handed lies in memory as a tree.
-/
import Derived.Test.YtabgfaafpgholaaW1
import Derived.Test.YtabgfaafpgholaaRows
import Derived.ProofKit
import Derived.Deep.Slices
namespace Go.Proofs.Ytabgfaafpgholaa
open Go.RowKit Go.ChangeShapes Go.WideShapes Go.Deep

theorem cellsTm : Try.prog.cellsOf 28 = 4 := by kernel_rfl
theorem cellsTms : Try.prog.cellsOf 26 = 1 := by kernel_rfl
theorem cellsStr : Try.prog.cellsOf 9 = 1 := by kernel_rfl
theorem cellsInt : Try.prog.cellsOf 3 = 1 := by kernel_rfl

/-- Four cells that are a term, the term told. -/
theorem repT_of {w : World} {t : Tm} {b off : Nat} {k n : Int} {s : ByteArray} {ao : Option Addr} {len cap : Nat}
    (h0 : w.cell? ⟨b, off, none⟩ = some (.int .i64 k)) (h1 : w.cell? ⟨b, off + 1, none⟩ = some (.int .i64 n)) (h2 : w.cell? ⟨b, off + 2, none⟩ = some (.string s)) (h3 : w.cell? ⟨b, off + 3, none⟩ = some (.slice ao len cap))
    (hv : RepV 0 w t (.agg #[.int .i64 k, .int .i64 n, .string s, .slice ao len cap])) : RepT 0 w t b off := by
  obtain ⟨k', n', s', l'⟩ := t
  obtain ⟨ao', cap', e, hs, hl, hc, hr⟩ := hv
  simp only [Value.agg.injEq, Array.mk.injEq, List.cons.injEq, and_true, Value.int.injEq, Value.string.injEq, Value.slice.injEq, true_and] at e
  obtain ⟨rfl, rfl, rfl, rfl, rfl, rfl⟩ := e
  rw [RepT]
  exact ⟨h0, h1, h2, hs, ao, cap, h3, hl, hc, hr⟩

section
variable {H : Type} {enc : TypeId × Value → H} {w : World} {base : Nat} {spare : Nat → Bool} {held : Bool}

set_option maxRecDepth 100000 in
theorem rep_of_trod (fuel : Nat) : ∀ (cs : List Value) (x : DataW H × List MemPlace), DataW.trod enc Try.prog w base spare held fuel 28 cs = some x →
    ∃ (t : Tm) (k n : Int) (s : ByteArray) (ao : Option Addr) (len cap : Nat), cs = [.int .i64 k, .int .i64 n, .string s, .slice ao len cap] ∧ RepV 0 w t (.agg #[.int .i64 k, .int .i64 n, .string s, .slice ao len cap]) := by
  induction fuel using Nat.strongRecOn with
  | ind fuel ih =>
    intro cs x h
    obtain ⟨xs, m, hfu, _, hl, hlen, hf⟩ := DataW.trod_struct Try.underlying28 h
    rw [cellsTm] at hl
    match cs, hl, xs, hlen with
    | [v0, v1, v2, v3], _, [y0, y1, y2, y3], _ =>
      have h0 : DataW.trod enc Try.prog w base spare held m 3 (([v0, v1, v2, v3].drop 0).take (Try.prog.cellsOf 3)) = some y0 := hf 0 _ rfl
      rw [cellsInt] at h0
      have g0 : DataW.trod enc Try.prog w base spare held m 3 [v0] = some y0 := h0
      have h1 : DataW.trod enc Try.prog w base spare held m 3 (([v0, v1, v2, v3].drop 1).take (Try.prog.cellsOf 3)) = some y1 := hf 1 _ rfl
      rw [cellsInt] at h1
      have g1 : DataW.trod enc Try.prog w base spare held m 3 [v1] = some y1 := h1
      have h2 : DataW.trod enc Try.prog w base spare held m 9 (([v0, v1, v2, v3].drop 2).take (Try.prog.cellsOf 9)) = some y2 := hf 2 _ rfl
      rw [cellsStr] at h2
      have g2 : DataW.trod enc Try.prog w base spare held m 9 [v2] = some y2 := h2
      have h3 : DataW.trod enc Try.prog w base spare held m 26 (([v0, v1, v2, v3].drop 3).take (Try.prog.cellsOf 26)) = some y3 := hf 3 _ rfl
      rw [cellsTms] at h3
      have g3 : DataW.trod enc Try.prog w base spare held m 26 [v3] = some y3 := h3
      obtain ⟨k, e0, _, _⟩ := DataW.trod_int Try.underlying3 g0
      obtain ⟨n, e1, _, _⟩ := DataW.trod_int Try.underlying3 g1
      obtain ⟨s, e2, _, hs⟩ := DataW.trod_string Try.underlying9 g2
      simp only [List.cons.injEq, and_true] at e0 e1 e2
      subst e0 e1 e2
      rcases DataW.trod_slice Try.underlying26 g3 with ⟨e3, _⟩ | ⟨a, len, cap, elems, rest, m', hm', e3, _, hb, hlc, hcm, hel, hat, _, _⟩
      · simp only [List.cons.injEq, and_true] at e3
        subst e3
        exact ⟨.mk k n s [], k, n, s, none, 0, 0, rfl, none, 0, rfl, hs, Nat.le_refl _, Nat.zero_le _, by rw [RepL]; trivial⟩
      · simp only [List.cons.injEq, and_true] at e3
        subst e3
        rw [cellsTm] at hat
        have one : ∀ i, i < len → ∃ (t : Tm), ∃ (k n : Int) (s : ByteArray) (ao : Option Addr) (ln cp : Nat), w.cells? base (a.add (i * 4)) 4 = some [.int .i64 k, .int .i64 n, .string s, .slice ao ln cp] ∧
            RepV 0 w t (.agg #[.int .i64 k, .int .i64 n, .string s, .slice ao ln cp]) := by
          intro i hi
          have ha := hat i hi
          rw [List.getElem?_eq_getElem (by omega)] at ha
          obtain ⟨cs', h1, h2⟩ := Option.bind_eq_some_iff.1 ha
          obtain ⟨t, k', n', s', ao', ln, cp, rfl, hv⟩ := ih m' (by omega) cs' _ h2
          exact ⟨t, k', n', s', ao', ln, cp, h1, hv⟩
        have hin : Inhabited Tm := ⟨.mk 0 0 ByteArray.empty []⟩
        obtain ⟨T, hT⟩ := choose_lt one
        have hll : ((List.range len).map T).length = len := by simp
        refine ⟨.mk k n s ((List.range len).map T), k, n, s, some a, len, cap, rfl, some a, cap, by rw [hll], hs, by rw [hll]; exact hlc, hcm, ?_⟩
        by_cases h0 : len = 0
        · subst h0
          show RepL 0 w [] _
          rw [RepL]; trivial
        · obtain ⟨bk, off, spot⟩ := a
          have hsp : spot = none := by
            obtain ⟨k', n', s', ao', ln, cp, hc, _⟩ := hT 0 (by omega)
            obtain ⟨_, _, hcell⟩ := World.cells?_some hc
            have := hcell 0 (by omega)
            have h' := World.cell?_spot this
            simpa [Addr.add] using h'
          subst hsp
          refine RepL.mk (Nat.zero_le _) _ off (fun i hi => ?_)
          have hi' : i < len := by simpa using hi
          obtain ⟨k', n', s', ao', ln, cp, hc, hv⟩ := hT i hi'
          obtain ⟨_, _, hcell⟩ := World.cells?_some hc
          have ad : ∀ j, ((⟨bk, off, none⟩ : Addr).add (i * 4)).add j = ⟨bk, off + i * 4 + j, none⟩ := by
            intro j
            unfold Addr.add
            by_cases h1 : i * 4 = 0 <;> by_cases h2 : j = 0 <;> simp [h1, h2]
          have c0 := hcell 0 (by omega)
          have c1 := hcell 1 (by omega)
          have c2 := hcell 2 (by omega)
          have c3 := hcell 3 (by omega)
          rw [ad] at c0 c1 c2 c3
          have e : ((List.range len).map T)[i] = T i := by simp
          rw [e]
          exact repT_of (by simpa using c0) (by simpa using c1) (by simpa using c2) (by simpa using c3) hv

set_option maxRecDepth 100000 in
theorem terms_open (fuel : Nat) (v : Value) (x : DataW H × List MemPlace) (h : DataW.trod enc Try.prog w base spare held fuel 26 [v] = some x) :
    ∃ (l : List Tm) (ao : Option Addr) (cap : Nat), v = .slice ao l.length cap ∧ RepL 0 w l ao ∧ l.length ≤ cap ∧ cap ≤ maxLen := by
  rcases DataW.trod_slice Try.underlying26 h with ⟨e3, _⟩ | ⟨a, len, cap, elems, rest, m', hm', e3, _, hb, hlc, hcm, hel, hat, _, _⟩
  · simp only [List.cons.injEq, and_true] at e3
    subst e3
    exact ⟨[], none, 0, rfl, by rw [RepL]; trivial, Nat.le_refl _, Nat.zero_le _⟩
  · simp only [List.cons.injEq, and_true] at e3
    subst e3
    rw [cellsTm] at hat
    have one : ∀ i, i < len → ∃ (t : Tm), ∃ (k n : Int) (s : ByteArray) (ao : Option Addr) (ln cp : Nat), w.cells? base (a.add (i * 4)) 4 = some [.int .i64 k, .int .i64 n, .string s, .slice ao ln cp] ∧
        RepV 0 w t (.agg #[.int .i64 k, .int .i64 n, .string s, .slice ao ln cp]) := by
      intro i hi
      have ha := hat i hi
      rw [List.getElem?_eq_getElem (by omega)] at ha
      obtain ⟨cs', h1, h2⟩ := Option.bind_eq_some_iff.1 ha
      obtain ⟨t, k', n', s', ao', ln, cp, rfl, hv⟩ := rep_of_trod m' cs' _ h2
      exact ⟨t, k', n', s', ao', ln, cp, h1, hv⟩
    have hin : Inhabited Tm := ⟨.mk 0 0 ByteArray.empty []⟩
    obtain ⟨T, hT⟩ := choose_lt one
    have hll : ((List.range len).map T).length = len := by simp
    refine ⟨(List.range len).map T, some a, cap, by rw [hll], ?_, by rw [hll]; exact hlc, hcm⟩
    by_cases h0 : len = 0
    · subst h0
      show RepL 0 w [] _
      rw [RepL]; trivial
    · obtain ⟨bk, off, spot⟩ := a
      have hsp : spot = none := by
        obtain ⟨k', n', s', ao', ln, cp, hc, _⟩ := hT 0 (by omega)
        obtain ⟨_, _, hcell⟩ := World.cells?_some hc
        have := hcell 0 (by omega)
        have h' := World.cell?_spot this
        simpa [Addr.add] using h'
      subst hsp
      refine RepL.mk (Nat.zero_le _) _ off (fun i hi => ?_)
      have hi' : i < len := by simpa using hi
      obtain ⟨k', n', s', ao', ln, cp, hc, hv⟩ := hT i hi'
      obtain ⟨_, _, hcell⟩ := World.cells?_some hc
      have ad : ∀ j, ((⟨bk, off, none⟩ : Addr).add (i * 4)).add j = ⟨bk, off + i * 4 + j, none⟩ := by
        intro j
        unfold Addr.add
        by_cases h1 : i * 4 = 0 <;> by_cases h2 : j = 0 <;> simp [h1, h2]
      have c0 := hcell 0 (by omega)
      have c1 := hcell 1 (by omega)
      have c2 := hcell 2 (by omega)
      have c3 := hcell 3 (by omega)
      rw [ad] at c0 c1 c2 c3
      have e : ((List.range len).map T)[i] = T i := by simp
      rw [e]
      exact repT_of (by simpa using c0) (by simpa using c1) (by simpa using c2) (by simpa using c3) hv
end
end Go.Proofs.Ytabgfaafpgholaa
