/-
  At every heap, every list of atoms and every term that memory can hold, right or not, the program's PutTerm answers as the specification's: the same words, the same atoms, the same word, or the same refusal; it writes into no argument, and its answer owns its memory. The law FnExactPutTerm returns true and its arguments read as before. No condition.
  (Ahead of it, in this text: Whatever term the law is handed lies in memory as a tree.)
-/
import Derived.Test.YtabgfaafpgholaaTmA
import Derived.Test.YtabgfaafpgholaaRows
import Derived.ProofKit
import Derived.Deep.Slices
import Derived.Test.YtabgfaafpgholaaV12
import Derived.OpenShut
import Derived.ChangeOld
import Derived.SliceStrings
import Derived.ShutString
namespace Go.Proofs.Ytabgfaafpgholaa
open Go.RowKit Go.ChangeShapes Go.WideShapes Go.Deep

theorem cellsTm : Try.prog.cellsOf 28 = 4 := by kernel_rfl
theorem cellsTms : Try.prog.cellsOf 26 = 1 := by kernel_rfl
theorem cellsStr : Try.prog.cellsOf 9 = 1 := by kernel_rfl
theorem cellsInt : Try.prog.cellsOf 3 = 1 := by kernel_rfl

/-- Four cells that are a term, the term told. -/
theorem repT_of {w : World} {t : Tm} {b off : Nat} {k n : Int} {s : ByteArray} {ao : Option Addr} {len cap : Nat}
    (h0 : w.cell? ⟨b, off, none⟩ = some (.int .i64 k)) (h1 : w.cell? ⟨b, off + 1, none⟩ = some (.int .i64 n)) (h2 : w.cell? ⟨b, off + 2, none⟩ = some (.string s)) (h3 : w.cell? ⟨b, off + 3, none⟩ = some (.slice ao len cap))
    (hv : RepV 0 w t (.agg #[.int .i64 k, .int .i64 n, .string s, .slice ao len cap])) : RepT 0 w t b off := by
  obtain ⟨k', n', s', l'⟩ := t
  obtain ⟨ao', cap', e, hs, hl, hc, hr⟩ := hv
  simp only [Value.agg.injEq, Array.mk.injEq, List.cons.injEq, and_true, Value.int.injEq, Value.string.injEq, Value.slice.injEq, true_and] at e
  obtain ⟨rfl, rfl, rfl, rfl, rfl, rfl⟩ := e
  rw [RepT]
  exact ⟨h0, h1, h2, hs, ao, cap, h3, hl, hc, hr⟩

section
variable {H : Type} {enc : TypeId × Value → H} {w : World} {base : Nat} {spare : Nat → Bool} {held : Bool}

set_option maxRecDepth 100000 in
theorem rep_of_trod (fuel : Nat) : ∀ (cs : List Value) (x : DataW H × List MemPlace), DataW.trod enc Try.prog w base spare held fuel 28 cs = some x →
    ∃ (t : Tm) (k n : Int) (s : ByteArray) (ao : Option Addr) (len cap : Nat), cs = [.int .i64 k, .int .i64 n, .string s, .slice ao len cap] ∧ RepV 0 w t (.agg #[.int .i64 k, .int .i64 n, .string s, .slice ao len cap]) := by
  induction fuel using Nat.strongRecOn with
  | ind fuel ih =>
    intro cs x h
    obtain ⟨xs, m, hfu, _, hl, hlen, hf⟩ := DataW.trod_struct Try.underlying28 h
    rw [cellsTm] at hl
    match cs, hl, xs, hlen with
    | [v0, v1, v2, v3], _, [y0, y1, y2, y3], _ =>
      have h0 : DataW.trod enc Try.prog w base spare held m 3 (([v0, v1, v2, v3].drop 0).take (Try.prog.cellsOf 3)) = some y0 := hf 0 _ rfl
      rw [cellsInt] at h0
      have g0 : DataW.trod enc Try.prog w base spare held m 3 [v0] = some y0 := h0
      have h1 : DataW.trod enc Try.prog w base spare held m 3 (([v0, v1, v2, v3].drop 1).take (Try.prog.cellsOf 3)) = some y1 := hf 1 _ rfl
      rw [cellsInt] at h1
      have g1 : DataW.trod enc Try.prog w base spare held m 3 [v1] = some y1 := h1
      have h2 : DataW.trod enc Try.prog w base spare held m 9 (([v0, v1, v2, v3].drop 2).take (Try.prog.cellsOf 9)) = some y2 := hf 2 _ rfl
      rw [cellsStr] at h2
      have g2 : DataW.trod enc Try.prog w base spare held m 9 [v2] = some y2 := h2
      have h3 : DataW.trod enc Try.prog w base spare held m 26 (([v0, v1, v2, v3].drop 3).take (Try.prog.cellsOf 26)) = some y3 := hf 3 _ rfl
      rw [cellsTms] at h3
      have g3 : DataW.trod enc Try.prog w base spare held m 26 [v3] = some y3 := h3
      obtain ⟨k, e0, _, _⟩ := DataW.trod_int Try.underlying3 g0
      obtain ⟨n, e1, _, _⟩ := DataW.trod_int Try.underlying3 g1
      obtain ⟨s, e2, _, hs⟩ := DataW.trod_string Try.underlying9 g2
      simp only [List.cons.injEq, and_true] at e0 e1 e2
      subst e0 e1 e2
      rcases DataW.trod_slice Try.underlying26 g3 with ⟨e3, _⟩ | ⟨a, len, cap, elems, rest, m', hm', e3, _, hb, hlc, hcm, hel, hat, _, _⟩
      · simp only [List.cons.injEq, and_true] at e3
        subst e3
        exact ⟨.mk k n s [], k, n, s, none, 0, 0, rfl, none, 0, rfl, hs, Nat.le_refl _, Nat.zero_le _, by rw [RepL]; trivial⟩
      · simp only [List.cons.injEq, and_true] at e3
        subst e3
        rw [cellsTm] at hat
        have one : ∀ i, i < len → ∃ (t : Tm), ∃ (k n : Int) (s : ByteArray) (ao : Option Addr) (ln cp : Nat), w.cells? base (a.add (i * 4)) 4 = some [.int .i64 k, .int .i64 n, .string s, .slice ao ln cp] ∧
            RepV 0 w t (.agg #[.int .i64 k, .int .i64 n, .string s, .slice ao ln cp]) := by
          intro i hi
          have ha := hat i hi
          rw [List.getElem?_eq_getElem (by omega)] at ha
          obtain ⟨cs', h1, h2⟩ := Option.bind_eq_some_iff.1 ha
          obtain ⟨t, k', n', s', ao', ln, cp, rfl, hv⟩ := ih m' (by omega) cs' _ h2
          exact ⟨t, k', n', s', ao', ln, cp, h1, hv⟩
        have hin : Inhabited Tm := ⟨.mk 0 0 ByteArray.empty []⟩
        obtain ⟨T, hT⟩ := choose_lt one
        have hll : ((List.range len).map T).length = len := by simp
        refine ⟨.mk k n s ((List.range len).map T), k, n, s, some a, len, cap, rfl, some a, cap, by rw [hll], hs, by rw [hll]; exact hlc, hcm, ?_⟩
        by_cases h0 : len = 0
        · subst h0
          show RepL 0 w [] _
          rw [RepL]; trivial
        · obtain ⟨bk, off, spot⟩ := a
          have hsp : spot = none := by
            obtain ⟨k', n', s', ao', ln, cp, hc, _⟩ := hT 0 (by omega)
            obtain ⟨_, _, hcell⟩ := World.cells?_some hc
            have := hcell 0 (by omega)
            have h' := World.cell?_spot this
            simpa [Addr.add] using h'
          subst hsp
          refine RepL.mk (Nat.zero_le _) _ off (fun i hi => ?_)
          have hi' : i < len := by simpa using hi
          obtain ⟨k', n', s', ao', ln, cp, hc, hv⟩ := hT i hi'
          obtain ⟨_, _, hcell⟩ := World.cells?_some hc
          have ad : ∀ j, ((⟨bk, off, none⟩ : Addr).add (i * 4)).add j = ⟨bk, off + i * 4 + j, none⟩ := by
            intro j
            unfold Addr.add
            by_cases h1 : i * 4 = 0 <;> by_cases h2 : j = 0 <;> simp [h1, h2]
          have c0 := hcell 0 (by omega)
          have c1 := hcell 1 (by omega)
          have c2 := hcell 2 (by omega)
          have c3 := hcell 3 (by omega)
          rw [ad] at c0 c1 c2 c3
          have e : ((List.range len).map T)[i] = T i := by simp
          rw [e]
          exact repT_of (by simpa using c0) (by simpa using c1) (by simpa using c2) (by simpa using c3) hv

set_option maxRecDepth 100000 in
theorem terms_open (fuel : Nat) (v : Value) (x : DataW H × List MemPlace) (h : DataW.trod enc Try.prog w base spare held fuel 26 [v] = some x) :
    ∃ (l : List Tm) (ao : Option Addr) (cap : Nat), v = .slice ao l.length cap ∧ RepL 0 w l ao ∧ l.length ≤ cap ∧ cap ≤ maxLen := by
  rcases DataW.trod_slice Try.underlying26 h with ⟨e3, _⟩ | ⟨a, len, cap, elems, rest, m', hm', e3, _, hb, hlc, hcm, hel, hat, _, _⟩
  · simp only [List.cons.injEq, and_true] at e3
    subst e3
    exact ⟨[], none, 0, rfl, by rw [RepL]; trivial, Nat.le_refl _, Nat.zero_le _⟩
  · simp only [List.cons.injEq, and_true] at e3
    subst e3
    rw [cellsTm] at hat
    have one : ∀ i, i < len → ∃ (t : Tm), ∃ (k n : Int) (s : ByteArray) (ao : Option Addr) (ln cp : Nat), w.cells? base (a.add (i * 4)) 4 = some [.int .i64 k, .int .i64 n, .string s, .slice ao ln cp] ∧
        RepV 0 w t (.agg #[.int .i64 k, .int .i64 n, .string s, .slice ao ln cp]) := by
      intro i hi
      have ha := hat i hi
      rw [List.getElem?_eq_getElem (by omega)] at ha
      obtain ⟨cs', h1, h2⟩ := Option.bind_eq_some_iff.1 ha
      obtain ⟨t, k', n', s', ao', ln, cp, rfl, hv⟩ := rep_of_trod m' cs' _ h2
      exact ⟨t, k', n', s', ao', ln, cp, h1, hv⟩
    have hin : Inhabited Tm := ⟨.mk 0 0 ByteArray.empty []⟩
    obtain ⟨T, hT⟩ := choose_lt one
    have hll : ((List.range len).map T).length = len := by simp
    refine ⟨(List.range len).map T, some a, cap, by rw [hll], ?_, by rw [hll]; exact hlc, hcm⟩
    by_cases h0 : len = 0
    · subst h0
      show RepL 0 w [] _
      rw [RepL]; trivial
    · obtain ⟨bk, off, spot⟩ := a
      have hsp : spot = none := by
        obtain ⟨k', n', s', ao', ln, cp, hc, _⟩ := hT 0 (by omega)
        obtain ⟨_, _, hcell⟩ := World.cells?_some hc
        have := hcell 0 (by omega)
        have h' := World.cell?_spot this
        simpa [Addr.add] using h'
      subst hsp
      refine RepL.mk (Nat.zero_le _) _ off (fun i hi => ?_)
      have hi' : i < len := by simpa using hi
      obtain ⟨k', n', s', ao', ln, cp, hc, hv⟩ := hT i hi'
      obtain ⟨_, _, hcell⟩ := World.cells?_some hc
      have ad : ∀ j, ((⟨bk, off, none⟩ : Addr).add (i * 4)).add j = ⟨bk, off + i * 4 + j, none⟩ := by
        intro j
        unfold Addr.add
        by_cases h1 : i * 4 = 0 <;> by_cases h2 : j = 0 <;> simp [h1, h2]
      have c0 := hcell 0 (by omega)
      have c1 := hcell 1 (by omega)
      have c2 := hcell 2 (by omega)
      have c3 := hcell 3 (by omega)
      rw [ad] at c0 c1 c2 c3
      have e : ((List.range len).map T)[i] = T i := by simp
      rw [e]
      exact repT_of (by simpa using c0) (by simpa using c1) (by simpa using c2) (by simpa using c3) hv
end
end Go.Proofs.Ytabgfaafpgholaa
namespace Go.Proofs.Ytabgfaafpgholaa.fnExactPutTerm
open Go.RowKit Go.ChangeShapes Go.WideShapes Go.ChangeAt
set_option linter.unusedVariables false

theorem own : ownKnob Try.prog.godebug = none := by kernel_rfl
theorem laidOut : laidOutB Try.prog = true := by kernel_rfl
theorem cellsHeap : Try.prog.cellsOf 24 = 1 := by kernel_rfl
theorem cellsInts : Try.prog.cellsOf 22 = 1 := by kernel_rfl
theorem ints_open {H : Type} {enc : TypeId × Value → H} {w : World} {base : Nat} {spare : Nat → Bool} {held : Bool} (m : Nat) (v0 : Value) (y0 : DataW H × List MemPlace) (g0 : DataW.trod enc Try.prog w base spare held m 22 [v0] = some y0) :
    ∃ (ao : Option Addr) (N cap : Nat) (f : Nat → Int), v0 = .slice ao N cap ∧ RdI w ao N f ∧ N ≤ cap ∧ cap ≤ maxLen ∧ ∀ j, f j ≤ 9223372036854775807 := by
  rcases open_ints Try.underlying22 Try.underlying3 (by kernel_rfl) g0 with ⟨hcs, _⟩ | ⟨a, l, c, zs, hcs, _, hle, hm, hz, _, hcell, hwz⟩
  · simp only [List.cons.injEq, and_true] at hcs
    subst hcs
    exact ⟨none, 0, 0, fun _ => 0, rfl, fun h => absurd rfl h, Nat.le_refl _, Nat.zero_le _, fun _ => (by show (0 : Int) ≤ _; decide)⟩
  · simp only [List.cons.injEq, and_true] at hcs
    subst hcs
    refine ⟨some a, l, c, fun j => zs.getD j 0, rfl, fun hn => ?_, hle, hm, fun j => ?_⟩
    · have hzl : l ≤ zs.length := by rw [hz]; split <;> omega
      obtain ⟨b, off, spot⟩ := a
      have q0 := hcell 0 (by omega)
      have hs : spot = none := by simpa [Addr.add] using World.cell?_spot q0
      subst hs
      refine ⟨b, off, rfl, fun j hj => ?_⟩
      have := hcell j (by omega)
      rw [Addr.add_lit] at this
      exact this
    · show zs.getD j 0 ≤ _
      by_cases hj : j < zs.length
      · have e : zs.getD j 0 = zs[j] := by simp [hj]
        rw [e]
        exact i64_le (hwz _ (List.getElem_mem hj))
      · have e : zs.getD j 0 = 0 := by simp [hj]
        rw [e]; decide
set_option maxRecDepth 100000 in
theorem heap_open {H : Type} {enc : TypeId × Value → H} {w : World} {base : Nat} {spare : Nat → Bool} {held : Bool} (fuel : Nat) (cs : List Value) (x : DataW H × List MemPlace) (h : DataW.trod enc Try.prog w base spare held fuel 24 cs = some x) :
    ∃ (ao : Option Addr) (N cap : Nat) (f : Nat → Int), cs = [.slice ao N cap] ∧ RdI w ao N f ∧ N ≤ cap ∧ cap ≤ maxLen ∧ ∀ j, f j ≤ 9223372036854775807 := by
  obtain ⟨xs, m, hfu, _, hl, hlen, hf⟩ := DataW.trod_struct Try.underlying24 h
  rw [cellsHeap] at hl
  match cs, hl, xs, hlen with
  | [v0], _, [y0], _ =>
    have h0 : DataW.trod enc Try.prog w base spare held m 22 (([v0].drop 0).take (Try.prog.cellsOf 22)) = some y0 := hf 0 _ rfl
    rw [cellsInts] at h0
    have g0 : DataW.trod enc Try.prog w base spare held m 22 [v0] = some y0 := h0
    obtain ⟨ao, N, cap, f, rfl, h1, h2, h3, h4⟩ := ints_open m v0 y0 g0
    exact ⟨ao, N, cap, f, rfl, h1, h2, h3, h4⟩

set_option maxRecDepth 100000 in
theorem lifted (os : Os) (started : os.Started) (H : Type) (enc : TypeId × Value → H) :
    ReturnsInHanded {} Try.checked os 3 .any (Rows.fnExactPutTermSpec.pre6 enc Try.prog Try.f3 Rows.fnExactPutTermRow.domain false) (Rows.fnExactPutTermSpec.post enc Try.prog Try.f3 false true false false) := by
  refine returnsInHanded_of_change (C := Try.checked) own started (by kernel_rfl) Try.func3
    (ChangeSpec.witness6 (enc := enc) (C := Try.checked) false ⟨#[], #[.agg #[.slice none 0 0], .slice none 0 0, .agg #[.int .i64 0, .int .i64 0, .string ByteArray.empty, .slice none 0 0]], []⟩ 8 (by kernel_rfl) (by kernel_rfl) (by kernel_rfl) (by kernel_rfl)) ?_
  intro W base args ds gs before hval0 hW hcnd _
  have hval : ∀ (j : Nat) t v, Try.f3.params[j]? = some t → args[j]? = some v → Value.okWide Try.prog W .any base t v := hval0
  have hW' := hW
  obtain ⟨p, q, hA0, hV, rfl, hfz, hnd⟩ := hW
  have hA : DataW.TrodAll enc Try.prog W 0 (fun _ => true) true Try.f3.params.toList args.toList ds p := hA0
  rw [Try.params3] at hA hval
  obtain ⟨v0, vs0, d0, ds0, p0, q0, hargs, rfl, rfl, h0, r0⟩ := trodAll_cons hA
  obtain ⟨v1, vs1, d1, ds1, p1, q1, rfl, rfl, rfl, h1, r1⟩ := trodAll_cons r0
  obtain ⟨v2, vs2, d2, ds2, p2, q2, rfl, rfl, rfl, h2, r2⟩ := trodAll_cons r1
  obtain ⟨rfl, rfl, rfl⟩ := trodAll_nil r2
  obtain rfl : args = #[v0, v1, v2] := by cases args; simp_all
  obtain ⟨rfl, rfl⟩ := trodVars_none hV
  obtain ⟨cs, rfl, hsz0⟩ := okWide_struct Try.underlying24 (hval 0 24 v0 rfl rfl)
  obtain ⟨av, len, acap, rfl⟩ := okWide_slice Try.underlying25 (hval 1 25 v1 rfl rfl)
  obtain ⟨cs2, rfl, hsz2⟩ := okWide_struct Try.underlying28 (hval 2 28 v2 rfl rfl)
  have k2 := h2
  have lt2 : ∀ x ∈ p2, x.block < W.heap.size := by obtain ⟨m, hm⟩ := k2; exact DataW.trod_lt m _ _ _ hm
  obtain ⟨t, hv⟩ : ∃ t, RepV 0 W t (.agg cs2) := by
    obtain ⟨fuel, hf⟩ := h2
    obtain ⟨t, k, n, s, ao, len, cap, e, hv⟩ := rep_of_trod fuel _ _ hf
    have e' : cs2 = #[.int .i64 k, .int .i64 n, .string s, .slice ao len cap] := by
      obtain ⟨l⟩ := cs2
      simpa [Value.cells] using e
    exact ⟨t, by rw [e']; exact hv⟩
  have k0 := h0
  have k1 := h1
  have lt0 : ∀ x ∈ p0, x.block < W.heap.size := by obtain ⟨m, hm⟩ := k0; exact DataW.trod_lt m _ _ _ hm
  have lt1 : ∀ x ∈ p1, x.block < W.heap.size := by obtain ⟨m, hm⟩ := k1; exact DataW.trod_lt m _ _ _ hm
  obtain ⟨ao, N, cap, f, rfl, hr, hle, hm, hfb⟩ : ∃ (ao : Option Addr) (N cap : Nat) (f : Nat → Int), cs = #[.slice ao N cap] ∧ RdI W ao N f ∧ N ≤ cap ∧ cap ≤ maxLen ∧ ∀ j, f j ≤ 9223372036854775807 := by
    obtain ⟨fuel, hf⟩ := h0
    obtain ⟨ao, N, cap, f, e, h1, h2, h3, h4⟩ := heap_open fuel _ _ hf
    refine ⟨ao, N, cap, f, ?_, h1, h2, h3, h4⟩
    obtain ⟨l⟩ := cs
    simpa [Value.cells] using e
  obtain ⟨L, hL, hrT, hsz, hmL⟩ : ∃ L : List ByteArray, len = L.length ∧ RdT W av L ∧ (∀ x ∈ L, x.size ≤ maxLen) ∧ L.length ≤ maxLen := by
    obtain ⟨fuel, hf⟩ := h1
    rcases open_strings Try.underlying25 Try.underlying9 (by kernel_rfl) hf with ⟨hcs, hx⟩ | ⟨a, len2, cap2, ss, hcs, _, hl, hmm, hz, hx, hcell, hs⟩
    · have e : (Value.slice av len acap) = .slice none 0 0 := by simpa [Value.cells] using hcs
      cases e
      exact ⟨[], rfl, fun h => absurd rfl h, fun x hx => by simp at hx, Nat.zero_le _⟩
    · have e : (Value.slice av len acap) = .slice (some a) len2 cap2 := by simpa [Value.cells] using hcs
      cases e
      have hzl : len ≤ ss.length := by rw [hz]; split <;> omega
      have hln : (ss.take len).length = len := by simp; omega
      refine ⟨ss.take len, hln.symm, fun hn => ?_, fun x hx => hs x (List.mem_of_mem_take hx), by rw [hln]; exact Nat.le_trans hl hmm⟩
      obtain ⟨b, off, spot⟩ := a
      have q0 := hcell 0 (by omega)
      have hsp : spot = none := by simpa [Addr.add] using World.cell?_spot q0
      subst hsp
      refine ⟨b, off, rfl, fun j hj => ?_⟩
      have hj2 : j < ss.length := by omega
      have := hcell j hj2
      rw [Addr.add_lit, List.getD_eq_getElem?_getD, List.getElem?_eq_getElem hj2] at this
      rw [List.getElem_take]
      exact this
  subst hL
  clear hA0 hval0
  refine (walk ao N cap f av acap L t _ W hr (Nat.le_trans hle hm) hrT hmL hsz hv).mono fun e W' ⟨he, bel⟩ => ?_
  subst he
  exact ⟨_, rfl, _, _, _, [], _, [], hW', trodAll_mk1 (shut_bool Try.underlying4 _), (trodAll_cons_mk (Below.trod laidOut (by kernel_rfl) (of_decide_eq_true (by kernel_rfl)) k0 bel lt0) (trodAll_cons_mk (Below.trod laidOut (by kernel_rfl) (of_decide_eq_true (by kernel_rfl)) k1 bel lt1) (trodAll_cons_mk (Below.trod laidOut (by kernel_rfl) (of_decide_eq_true (by kernel_rfl)) k2 bel lt2) trodAll_mk0))), rfl, bel.frame _, fun h => by cases h⟩

theorem over : Rows.fnExactPutTermRow.holds Try.pinned (OpenSpec.ofChange Rows.fnExactPutTermSpec) :=
  OpenClaim.holds_of_wide 3 Try.f3 rfl rfl rfl rfl rfl rfl rfl ⟨rfl, rfl, rfl, rfl, rfl⟩ rfl rfl rfl rfl rfl (by kernel_rfl) Try.func3 (by kernel_rfl)
    (of_decide_eq_true (by kernel_rfl)) (by unfold Func.isWrapper; first | (rw [if_pos (by decide +kernel)]; kernel_rfl) | (rw [if_neg (by decide +kernel)]; exact ⟨rfl, rfl⟩))
    (fun os started H enc _ => lifted os started H enc)
end Go.Proofs.Ytabgfaafpgholaa.fnExactPutTerm
namespace Go.Proofs.Ytabgfaafpgholaa
theorem fnExactPutTerm_holds : Rows.FnExactPutTermSaid := fnExactPutTerm.over
#print axioms fnExactPutTerm_holds
end Go.Proofs.Ytabgfaafpgholaa
