/-
  At every list of instructions and every term that memory can hold, right or not, the program's PlainNew answers as the specification's: the same refusal, or a new system of the same text, whose memory is its own; it writes into no argument. The law FnExactPlainNew returns true and its arguments read as before. The program's variable shapes, three tables and the type of error of Go's library hold what their initialisers lay: the card ties them.
  (Ahead of it, in this text: Whatever term the law is handed lies in memory as a tree. What is laid: where the program's variable shapes reads as its initialiser lays it, it holds the table; it reads the same behind a call that turns nothing old. An instruction that came in, opened; what the frames of the laws on code share. What is laid, for the laws on texts. A row of instructions that came in, opened; what is laid, for the laws on code.)
-/
import Derived.Test.YtjibnlpjpbileaaGreatDoorTmA
import Derived.Test.YtjibnlpjpbileaaGreatDoorRows
import Derived.ProofKit
import Derived.Deep.Slices
import Derived.Test.YtjibnlpjpbileaaGreatDoorCoI
import Derived.Test.YtjibnlpjpbileaaGreatDoorTie
import Derived.Test.YtjibnlpjpbileaaGreatDoorCards
import Derived.Lib.LaidTab
import Derived.LaidMore
import Derived.OpenShut
import Derived.Deep.Strs
import Derived.ChangeVars
import Derived.Stop.Joined
import Derived.Stop.LaidErr
import Derived.SevenTiedAt
import Derived.Test.YtjibnlpjpbileaaGreatDoorU1
import Derived.Test.YtjibnlpjpbileaaGreatDoorCtC
import Derived.LaidHandle
import Derived.Test.YtjibnlpjpbileaaGreatDoorU12
namespace Go.Proofs.YtjibnlpjpbileaaGreatDoor
open Go.RowKit Go.ChangeShapes Go.WideShapes Go.Deep

theorem cellsTm : Tryz.prog.cellsOf 25 = 4 := by kernel_rfl
theorem cellsTms : Tryz.prog.cellsOf 23 = 1 := by kernel_rfl
theorem cellsStr : Tryz.prog.cellsOf 9 = 1 := by kernel_rfl
theorem cellsInt : Tryz.prog.cellsOf 3 = 1 := by kernel_rfl

/-- Four cells that are a term, the term told. -/
theorem repT_of {w : World} {t : Tm} {b off : Nat} {k n : Int} {s : ByteArray} {ao : Option Addr} {len cap : Nat}
    (h0 : w.cell? ⟨b, off, none⟩ = some (.int .i64 k)) (h1 : w.cell? ⟨b, off + 1, none⟩ = some (.int .i64 n)) (h2 : w.cell? ⟨b, off + 2, none⟩ = some (.string s)) (h3 : w.cell? ⟨b, off + 3, none⟩ = some (.slice ao len cap))
    (hv : RepV 0 w t (.agg #[.int .i64 k, .int .i64 n, .string s, .slice ao len cap])) : RepT 0 w t b off := by
  obtain ⟨k', n', s', l'⟩ := t
  obtain ⟨ao', cap', e, hs, hl, hc, hr⟩ := hv
  simp only [Value.agg.injEq, Array.mk.injEq, List.cons.injEq, and_true, Value.int.injEq, Value.string.injEq, Value.slice.injEq, true_and] at e
  obtain ⟨rfl, rfl, rfl, rfl, rfl, rfl⟩ := e
  rw [RepT]
  exact ⟨h0, h1, h2, hs, ao, cap, h3, hl, hc, hr⟩

section
variable {H : Type} {enc : TypeId × Value → H} {w : World} {base : Nat} {spare : Nat → Bool} {held : Bool}

set_option maxRecDepth 100000 in
theorem rep_of_trod (fuel : Nat) : ∀ (cs : List Value) (x : DataW H × List MemPlace), DataW.trod enc Tryz.prog w base spare held fuel 25 cs = some x →
    ∃ (t : Tm) (k n : Int) (s : ByteArray) (ao : Option Addr) (len cap : Nat), cs = [.int .i64 k, .int .i64 n, .string s, .slice ao len cap] ∧ RepV 0 w t (.agg #[.int .i64 k, .int .i64 n, .string s, .slice ao len cap]) := by
  induction fuel using Nat.strongRecOn with
  | ind fuel ih =>
    intro cs x h
    obtain ⟨xs, m, hfu, _, hl, hlen, hf⟩ := DataW.trod_struct Tryz.underlying25 h
    rw [cellsTm] at hl
    match cs, hl, xs, hlen with
    | [v0, v1, v2, v3], _, [y0, y1, y2, y3], _ =>
      have h0 : DataW.trod enc Tryz.prog w base spare held m 3 (([v0, v1, v2, v3].drop 0).take (Tryz.prog.cellsOf 3)) = some y0 := hf 0 _ rfl
      rw [cellsInt] at h0
      have g0 : DataW.trod enc Tryz.prog w base spare held m 3 [v0] = some y0 := h0
      have h1 : DataW.trod enc Tryz.prog w base spare held m 3 (([v0, v1, v2, v3].drop 1).take (Tryz.prog.cellsOf 3)) = some y1 := hf 1 _ rfl
      rw [cellsInt] at h1
      have g1 : DataW.trod enc Tryz.prog w base spare held m 3 [v1] = some y1 := h1
      have h2 : DataW.trod enc Tryz.prog w base spare held m 9 (([v0, v1, v2, v3].drop 2).take (Tryz.prog.cellsOf 9)) = some y2 := hf 2 _ rfl
      rw [cellsStr] at h2
      have g2 : DataW.trod enc Tryz.prog w base spare held m 9 [v2] = some y2 := h2
      have h3 : DataW.trod enc Tryz.prog w base spare held m 23 (([v0, v1, v2, v3].drop 3).take (Tryz.prog.cellsOf 23)) = some y3 := hf 3 _ rfl
      rw [cellsTms] at h3
      have g3 : DataW.trod enc Tryz.prog w base spare held m 23 [v3] = some y3 := h3
      obtain ⟨k, e0, _, _⟩ := DataW.trod_int Tryz.underlying3 g0
      obtain ⟨n, e1, _, _⟩ := DataW.trod_int Tryz.underlying3 g1
      obtain ⟨s, e2, _, hs⟩ := DataW.trod_string Tryz.underlying9 g2
      simp only [List.cons.injEq, and_true] at e0 e1 e2
      subst e0 e1 e2
      rcases DataW.trod_slice Tryz.underlying23 g3 with ⟨e3, _⟩ | ⟨a, len, cap, elems, rest, m', hm', e3, _, hb, hlc, hcm, hel, hat, _, _⟩
      · simp only [List.cons.injEq, and_true] at e3
        subst e3
        exact ⟨.mk k n s [], k, n, s, none, 0, 0, rfl, none, 0, rfl, hs, Nat.le_refl _, Nat.zero_le _, by rw [RepL]; trivial⟩
      · simp only [List.cons.injEq, and_true] at e3
        subst e3
        rw [cellsTm] at hat
        have one : ∀ i, i < len → ∃ (t : Tm), ∃ (k n : Int) (s : ByteArray) (ao : Option Addr) (ln cp : Nat), w.cells? base (a.add (i * 4)) 4 = some [.int .i64 k, .int .i64 n, .string s, .slice ao ln cp] ∧
            RepV 0 w t (.agg #[.int .i64 k, .int .i64 n, .string s, .slice ao ln cp]) := by
          intro i hi
          have ha := hat i hi
          rw [List.getElem?_eq_getElem (by omega)] at ha
          obtain ⟨cs', h1, h2⟩ := Option.bind_eq_some_iff.1 ha
          obtain ⟨t, k', n', s', ao', ln, cp, rfl, hv⟩ := ih m' (by omega) cs' _ h2
          exact ⟨t, k', n', s', ao', ln, cp, h1, hv⟩
        have hin : Inhabited Tm := ⟨.mk 0 0 ByteArray.empty []⟩
        obtain ⟨T, hT⟩ := choose_lt one
        have hll : ((List.range len).map T).length = len := by simp
        refine ⟨.mk k n s ((List.range len).map T), k, n, s, some a, len, cap, rfl, some a, cap, by rw [hll], hs, by rw [hll]; exact hlc, hcm, ?_⟩
        by_cases h0 : len = 0
        · subst h0
          show RepL 0 w [] _
          rw [RepL]; trivial
        · obtain ⟨bk, off, spot⟩ := a
          have hsp : spot = none := by
            obtain ⟨k', n', s', ao', ln, cp, hc, _⟩ := hT 0 (by omega)
            obtain ⟨_, _, hcell⟩ := World.cells?_some hc
            have := hcell 0 (by omega)
            have h' := World.cell?_spot this
            simpa [Addr.add] using h'
          subst hsp
          refine RepL.mk (Nat.zero_le _) _ off (fun i hi => ?_)
          have hi' : i < len := by simpa using hi
          obtain ⟨k', n', s', ao', ln, cp, hc, hv⟩ := hT i hi'
          obtain ⟨_, _, hcell⟩ := World.cells?_some hc
          have ad : ∀ j, ((⟨bk, off, none⟩ : Addr).add (i * 4)).add j = ⟨bk, off + i * 4 + j, none⟩ := by
            intro j
            unfold Addr.add
            by_cases h1 : i * 4 = 0 <;> by_cases h2 : j = 0 <;> simp [h1, h2]
          have c0 := hcell 0 (by omega)
          have c1 := hcell 1 (by omega)
          have c2 := hcell 2 (by omega)
          have c3 := hcell 3 (by omega)
          rw [ad] at c0 c1 c2 c3
          have e : ((List.range len).map T)[i] = T i := by simp
          rw [e]
          exact repT_of (by simpa using c0) (by simpa using c1) (by simpa using c2) (by simpa using c3) hv

set_option maxRecDepth 100000 in
theorem terms_open (fuel : Nat) (v : Value) (x : DataW H × List MemPlace) (h : DataW.trod enc Tryz.prog w base spare held fuel 23 [v] = some x) :
    ∃ (l : List Tm) (ao : Option Addr) (cap : Nat), v = .slice ao l.length cap ∧ RepL 0 w l ao ∧ l.length ≤ cap ∧ cap ≤ maxLen := by
  rcases DataW.trod_slice Tryz.underlying23 h with ⟨e3, _⟩ | ⟨a, len, cap, elems, rest, m', hm', e3, _, hb, hlc, hcm, hel, hat, _, _⟩
  · simp only [List.cons.injEq, and_true] at e3
    subst e3
    exact ⟨[], none, 0, rfl, by rw [RepL]; trivial, Nat.le_refl _, Nat.zero_le _⟩
  · simp only [List.cons.injEq, and_true] at e3
    subst e3
    rw [cellsTm] at hat
    have one : ∀ i, i < len → ∃ (t : Tm), ∃ (k n : Int) (s : ByteArray) (ao : Option Addr) (ln cp : Nat), w.cells? base (a.add (i * 4)) 4 = some [.int .i64 k, .int .i64 n, .string s, .slice ao ln cp] ∧
        RepV 0 w t (.agg #[.int .i64 k, .int .i64 n, .string s, .slice ao ln cp]) := by
      intro i hi
      have ha := hat i hi
      rw [List.getElem?_eq_getElem (by omega)] at ha
      obtain ⟨cs', h1, h2⟩ := Option.bind_eq_some_iff.1 ha
      obtain ⟨t, k', n', s', ao', ln, cp, rfl, hv⟩ := rep_of_trod m' cs' _ h2
      exact ⟨t, k', n', s', ao', ln, cp, h1, hv⟩
    have hin : Inhabited Tm := ⟨.mk 0 0 ByteArray.empty []⟩
    obtain ⟨T, hT⟩ := choose_lt one
    have hll : ((List.range len).map T).length = len := by simp
    refine ⟨(List.range len).map T, some a, cap, by rw [hll], ?_, by rw [hll]; exact hlc, hcm⟩
    by_cases h0 : len = 0
    · subst h0
      show RepL 0 w [] _
      rw [RepL]; trivial
    · obtain ⟨bk, off, spot⟩ := a
      have hsp : spot = none := by
        obtain ⟨k', n', s', ao', ln, cp, hc, _⟩ := hT 0 (by omega)
        obtain ⟨_, _, hcell⟩ := World.cells?_some hc
        have := hcell 0 (by omega)
        have h' := World.cell?_spot this
        simpa [Addr.add] using h'
      subst hsp
      refine RepL.mk (Nat.zero_le _) _ off (fun i hi => ?_)
      have hi' : i < len := by simpa using hi
      obtain ⟨k', n', s', ao', ln, cp, hc, hv⟩ := hT i hi'
      obtain ⟨_, _, hcell⟩ := World.cells?_some hc
      have ad : ∀ j, ((⟨bk, off, none⟩ : Addr).add (i * 4)).add j = ⟨bk, off + i * 4 + j, none⟩ := by
        intro j
        unfold Addr.add
        by_cases h1 : i * 4 = 0 <;> by_cases h2 : j = 0 <;> simp [h1, h2]
      have c0 := hcell 0 (by omega)
      have c1 := hcell 1 (by omega)
      have c2 := hcell 2 (by omega)
      have c3 := hcell 3 (by omega)
      rw [ad] at c0 c1 c2 c3
      have e : ((List.range len).map T)[i] = T i := by simp
      rw [e]
      exact repT_of (by simpa using c0) (by simpa using c1) (by simpa using c2) (by simpa using c3) hv
end
end Go.Proofs.YtjibnlpjpbileaaGreatDoor
namespace Go.Proofs.YtjibnlpjpbileaaGreatDoor.Code
open Go.ChangeShapes Go.WideShapes Go.ChangeAt Go.RowKit
set_option linter.unusedVariables false

def rowD {H : Type} (k : Nat) : DataW H := .agg [.lit (.int .i64 ((k : Int) + 1)), .lit (.string (word (k + 1))), Lib.tabData .i64 [nm (k + 1) 0, nm (k + 1) 1, nm (k + 1) 2]]
theorem shapesD : (Rows.laid_loop_example_g00248_impl_shapes : DataW Unit) = .agg ((List.range 20).map rowD) := by kernel_rfl

set_option maxRecDepth 100000 in
theorem row_of_trod {H : Type} {enc : TypeId × Value → H} {w : World} {base : Nat} {sp : Nat → Bool} {held : Bool} {fuel : Nat} {cs : List Value} {k : Nat} {p : List MemPlace}
    (h : DataW.trod enc Tryz.prog w base sp held fuel 222 cs = some (rowD k, p)) : cs = rowL k := by
  obtain ⟨y0, y1, y2, n, hx, hl, h0, h1, h2⟩ := Deep.trod_struct3 Tryz.underlying222 h
  have c5 : Tryz.prog.cellsOf 222 = 5 := by kernel_rfl
  have c1 : Tryz.prog.cellsOf 3 = 1 := by kernel_rfl
  have cs1 : Tryz.prog.cellsOf 9 = 1 := by kernel_rfl
  have c3 : Tryz.prog.cellsOf 220 = 3 := by kernel_rfl
  have cl : Tryz.prog.cellsOf 218 = 1 := by kernel_rfl
  rw [c5] at hl
  match cs, hl with
  | [a, b, c, d, e], _ =>
    simp only [c1, cs1, c3] at h0 h1 h2
    simp only [List.drop, List.take] at h0 h1 h2
    obtain ⟨o, e0, f0, _⟩ := DataW.trod_int Tryz.underlying3 h0
    obtain ⟨u, e1, f1, _⟩ := DataW.trod_string Tryz.underlying9 h1
    simp only [Prod.mk.injEq, rowD, DataW.agg.injEq, List.cons.injEq] at hx
    obtain ⟨⟨g0, g1, g2, _⟩, _⟩ := hx
    rw [f0] at g0
    rw [f1] at g1
    have h2' : DataW.trod enc Tryz.prog w base sp held n 220 [c, d, e] = some (Lib.tabData .i64 [nm (k + 1) 0, nm (k + 1) 1, nm (k + 1) 2], y2.2) := by
      rw [h2, g2]
    have e2 := Lib.cells_of_tab Tryz.underlying220 (by kernel_rfl : Tryz.prog.underlying 218 = some (.int .i64)) cl c3 h2'
    simp only [DataW.lit.injEq, Lit.int.injEq, Lit.string.injEq, true_and] at g0 g1
    simp only [List.cons.injEq, and_true] at e0 e1
    rw [e0, e1, ← g0]
    simp only [List.map, List.cons.injEq, and_true] at e2
    obtain ⟨rfl, rfl, rfl⟩ := e2
    have hu : u = wordT (k + 1) := by
      unfold wordT
      rw [g1]
    rw [hu]; rfl

theorem chunks {f : Nat → List Value} : ∀ (n : Nat) (cs : List Value), cs.length = 5 * n → (∀ j, j < n → (cs.drop (j * 5)).take 5 = f j) → cs = (List.range n).flatMap f
  | 0, cs, h, _ => by simpa using h
  | n + 1, cs, h, hf => by
    have h1 := chunks (f := f) n (cs.take (5 * n)) (by simp; omega) (fun j hj => by
      rw [← hf j (by omega), List.drop_take, List.take_take]
      congr 1; omega)
    have h2 := hf n (by omega)
    rw [List.take_of_length_le (by simp; omega)] at h2
    rw [List.range_succ, List.flatMap_append, ← h1]
    simp only [List.flatMap_cons, List.flatMap_nil, List.append_nil]
    rw [← h2, Nat.mul_comm n 5, List.take_append_drop]

theorem shp_of_trod {H : Type} {enc : TypeId × Value → H} {W : World} {base : Nat} {sp : Nat → Bool} {held : Bool} {fuel : Nat} {cs : Array Value} {n : String} {p : List MemPlace}
    (hg : Tryz.prog.globalNamed n = some 1) (hv : W.var? Tryz.prog n = some cs) (h : DataW.trod enc Tryz.prog W base sp held fuel 264 cs.toList = some (.agg ((List.range 20).map rowD), p)) : Shp W := by
  obtain ⟨xs, m, _, hx, hl, hlen, hel⟩ := DataW.trod_array Tryz.underlying264 h
  have c5 : Tryz.prog.cellsOf 222 = 5 := by kernel_rfl
  have c100 : Tryz.prog.cellsOf 264 = 100 := by kernel_rfl
  rw [c100] at hl
  simp only [Prod.mk.injEq, DataW.agg.injEq] at hx
  have hcs : cs.toList = (List.range 20).flatMap rowL := by
    refine chunks 20 _ hl fun j hj => ?_
    have h1 := hel j hj
    rw [c5, List.getElem?_eq_getElem (by omega)] at h1
    have h2 : (xs[j]'(by omega)).1 = rowD j := by
      have := congrArg (fun l => l[j]?) hx.1
      simp only [List.getElem?_map, List.getElem?_range hj, List.getElem?_eq_getElem (show j < xs.length by omega), Option.map_some, Option.some.injEq] at this
      exact this.symm
    exact row_of_trod (p := (xs[j]'(by omega)).2) (by rw [h1, ← h2])
  have hcs' : cs = tabV := by
    unfold tabV; rw [← hcs]
  subst hcs'
  unfold World.var? at hv
  rw [hg] at hv
  simp only [Option.bind_some] at hv
  split at hv
  · rename_i c t f hh
    obtain rfl := Option.some.inj hv
    exact ⟨_, _, hh⟩
  · cases hv

theorem own : ownKnob Tryz.prog.godebug = none := by kernel_rfl
theorem laidOut : laidOutB Tryz.prog = true := by kernel_rfl

/-- The variable reads behind as it read ahead. -/
theorem vars_after {H : Type} {enc : TypeId × Value → H} {W W' : World} {n : String} {gs : List (DataW H)} {q : List MemPlace} (hn : Tryz.prog.globalNamed n = some 1) (hS : Shp W)
    (hV : DataW.TrodVars enc Tryz.prog W (fun _ => true) [n] gs q) (bel : Below W.heap.size W W') : ∃ q', DataW.TrodVars enc Tryz.prog W' (fun b => decide (b < W.heap.size)) [n] gs q' := by
  obtain ⟨g, t, cs, fuel, d, p, rfl, h1, h2, h3, h4, rfl⟩ := trodVars_one hV
  obtain rfl := Option.some.inj (hn.symm.trans h1)
  obtain rfl := Option.some.inj ((show (Tryz.prog.globals[1]?).map (·.type) = some 264 by kernel_rfl).symm.trans h2)
  have tr : DataW.Trod enc Tryz.prog W 0 (fun _ => true) true 264 (.agg cs) d p := ⟨fuel, by simpa [Value.cells] using h4⟩
  obtain ⟨fuel', h'⟩ := Below.trod laidOut (by kernel_rfl) (of_decide_eq_true (by kernel_rfl)) tr bel (DataW.trod_lt fuel _ _ _ h4)
  have h5 : W'.var? Tryz.prog n = some cs := by
    unfold World.var? at h3 ⊢
    rw [hn] at h3 ⊢
    simp only [Option.bind_some] at h3 ⊢
    rw [bel.block _ hS.lt]; exact h3
  exact ⟨_, trodVars_mk1 h1 h2 h5 (by simpa [Value.cells] using h')⟩
end Go.Proofs.YtjibnlpjpbileaaGreatDoor.Code
namespace Go.Proofs.YtjibnlpjpbileaaGreatDoor.Code
open Go.ChangeShapes Go.WideShapes Go.ChangeAt Go.RowKit
set_option linter.unusedVariables false

set_option maxRecDepth 100000 in
theorem open_ins {H : Type} {enc : TypeId × Value → H} {W : World} {r : Reach} {b0 base : Nat} {sp : Nat → Bool} {held : Bool} {v : Value} {d : DataW H} {p : List MemPlace}
    (hv : Value.okWide Tryz.prog W r b0 57 v) (h : DataW.Trod enc Tryz.prog W base sp held 57 v d p) :
    ∃ (op a b c n : Int) (s : ByteArray), v = .agg #[.int .i64 op, .int .i64 a, .int .i64 b, .int .i64 c, .int .i64 n, .string s] ∧ s.size ≤ maxLen ∧ (Lit.int .i64 op).wf = true ∧ (Lit.int .i64 a).wf = true ∧ (Lit.int .i64 b).wf = true ∧ (Lit.int .i64 c).wf = true ∧ (Lit.int .i64 n).wf = true := by
  obtain ⟨cs, rfl, hsz⟩ := okWide_struct Tryz.underlying57 hv
  obtain ⟨fuel, hf⟩ := h
  obtain ⟨xs, n, _, _, hl, hlen, hf⟩ := DataW.trod_struct Tryz.underlying57 hf
  have c6 : Tryz.prog.cellsOf 57 = 6 := by kernel_rfl
  have c1 : Tryz.prog.cellsOf 3 = 1 := by kernel_rfl
  have cs1 : Tryz.prog.cellsOf 9 = 1 := by kernel_rfl
  rw [c6] at hsz
  obtain ⟨l⟩ := cs
  have hl6 : l.length = 6 := hsz
  match l, hl6 with
  | [v0, v1, v2, v3, v4, v5], _ =>
    have hl' : xs.length = 6 := hlen
    have g : ∀ i, i < 6 → xs[i]? = some (xs.getD i (.nil, [])) := fun i hi => by
      rw [List.getD_eq_getElem?_getD, List.getElem?_eq_getElem (by omega)]; rfl
    have k0 : DataW.trod enc Tryz.prog W base sp held n 3 ((([v0, v1, v2, v3, v4, v5] : List Value).drop 0).take (Tryz.prog.cellsOf 3)) = some (xs.getD 0 (.nil, [])) := (hf 0 _ rfl).trans (g 0 (by omega))
    have k1 : DataW.trod enc Tryz.prog W base sp held n 3 ((([v0, v1, v2, v3, v4, v5] : List Value).drop 1).take (Tryz.prog.cellsOf 3)) = some (xs.getD 1 (.nil, [])) := (hf 1 _ rfl).trans (g 1 (by omega))
    have k2 : DataW.trod enc Tryz.prog W base sp held n 3 ((([v0, v1, v2, v3, v4, v5] : List Value).drop 2).take (Tryz.prog.cellsOf 3)) = some (xs.getD 2 (.nil, [])) := (hf 2 _ rfl).trans (g 2 (by omega))
    have k3 : DataW.trod enc Tryz.prog W base sp held n 3 ((([v0, v1, v2, v3, v4, v5] : List Value).drop 3).take (Tryz.prog.cellsOf 3)) = some (xs.getD 3 (.nil, [])) := (hf 3 _ rfl).trans (g 3 (by omega))
    have k4 : DataW.trod enc Tryz.prog W base sp held n 3 ((([v0, v1, v2, v3, v4, v5] : List Value).drop 4).take (Tryz.prog.cellsOf 3)) = some (xs.getD 4 (.nil, [])) := (hf 4 _ rfl).trans (g 4 (by omega))
    have k5 : DataW.trod enc Tryz.prog W base sp held n 9 ((([v0, v1, v2, v3, v4, v5] : List Value).drop 5).take (Tryz.prog.cellsOf 9)) = some (xs.getD 5 (.nil, [])) := (hf 5 _ rfl).trans (g 5 (by omega))
    simp only [c1, cs1, List.drop, List.take] at k0 k1 k2 k3 k4 k5
    obtain ⟨o, e0, _, w0⟩ := DataW.trod_int Tryz.underlying3 k0
    obtain ⟨a, e1, _, w1⟩ := DataW.trod_int Tryz.underlying3 k1
    obtain ⟨b, e2, _, w2⟩ := DataW.trod_int Tryz.underlying3 k2
    obtain ⟨c, e3, _, w3⟩ := DataW.trod_int Tryz.underlying3 k3
    obtain ⟨m, e4, _, w4⟩ := DataW.trod_int Tryz.underlying3 k4
    obtain ⟨s, e5, _, hs⟩ := DataW.trod_string Tryz.underlying9 k5
    simp only [List.cons.injEq, and_true] at e0 e1 e2 e3 e4 e5
    exact ⟨o, a, b, c, m, s, by rw [e0, e1, e2, e3, e4, e5], hs, w0, w1, w2, w3, w4⟩
end Go.Proofs.YtjibnlpjpbileaaGreatDoor.Code
namespace Go.Proofs.YtjibnlpjpbileaaGreatDoor.Code
open Go.ChangeShapes Go.WideShapes Go.ChangeAt Go.RowKit
set_option linter.unusedVariables false

theorem in64_of {n : Int} (h : (Lit.int .i64 n).wf = true) : -9223372036854775808 ≤ n ∧ n ≤ 9223372036854775807 := bounds_i64 h
theorem powData : (Rows.laid_internal_strconv_uint64pow10 : DataW Unit) = Lib.tabData .u64 Lib.pow10Tab := by kernel_rfl
theorem shp_of_met {W : World} {n : String} {rest : List (String × DataW Unit)} (h : laidMet Tryz.prog ((n, Rows.laid_loop_example_g00248_impl_shapes) :: rest) W) (hn : Tryz.prog.globalNamed n = some 1 := by kernel_rfl) : Shp W := by
  obtain ⟨ps, ⟨g0, t0, cs0, f0, p0, q0, hg0, ht0, hv0, hd0, _, _⟩, _, _⟩ := h
  obtain rfl := Option.some.inj (hn.symm.trans hg0)
  obtain rfl := Option.some.inj ((show (Tryz.prog.globals[1]?).map (·.type) = some 264 by kernel_rfl).symm.trans ht0)
  rw [shapesD] at hd0
  exact shp_of_trod hg0 hv0 hd0
theorem pow_of_met {W : World} {rest : List (String × DataW Unit)} (h : laidMet Tryz.prog (("internal/strconv.uint64pow10", Rows.laid_internal_strconv_uint64pow10) :: rest) W) : Pow W := by
  rw [powData] at h
  exact Lib.tabIs_of_head (g := 2) (t := 281) (e := 193) (n := 20) (by kernel_rfl) (by kernel_rfl) (by kernel_rfl) (by kernel_rfl) (by kernel_rfl) (by kernel_rfl) h
end Go.Proofs.YtjibnlpjpbileaaGreatDoor.Code
namespace Go.Proofs.YtjibnlpjpbileaaGreatDoor.Code
open Go.ChangeShapes Go.WideShapes Go.ChangeAt Go.RowKit
set_option linter.unusedVariables false

set_option maxRecDepth 100000 in
theorem ins_of_trod {H : Type} {enc : TypeId × Value → H} {W : World} {base : Nat} {sp : Nat → Bool} {held : Bool} {fuel : Nat} {l : List Value} {x : DataW H × List MemPlace}
    (h : DataW.trod enc Tryz.prog W base sp held fuel 57 l = some x) : ∃ y : I, l = insL y ∧ y.s.size ≤ maxLen ∧ In64 y := by
  obtain ⟨xs, n, _, _, hl, hlen, hf⟩ := DataW.trod_struct Tryz.underlying57 h
  have c6 : Tryz.prog.cellsOf 57 = 6 := by kernel_rfl
  have c1 : Tryz.prog.cellsOf 3 = 1 := by kernel_rfl
  have cs1 : Tryz.prog.cellsOf 9 = 1 := by kernel_rfl
  rw [c6] at hl
  match l, hl with
  | [v0, v1, v2, v3, v4, v5], _ =>
    have hl' : xs.length = 6 := hlen
    have g : ∀ i, i < 6 → xs[i]? = some (xs.getD i (.nil, [])) := fun i hi => by
      rw [List.getD_eq_getElem?_getD, List.getElem?_eq_getElem (by omega)]; rfl
    have k0 : DataW.trod enc Tryz.prog W base sp held n 3 ((([v0, v1, v2, v3, v4, v5] : List Value).drop 0).take (Tryz.prog.cellsOf 3)) = some (xs.getD 0 (.nil, [])) := (hf 0 _ rfl).trans (g 0 (by omega))
    have k1 : DataW.trod enc Tryz.prog W base sp held n 3 ((([v0, v1, v2, v3, v4, v5] : List Value).drop 1).take (Tryz.prog.cellsOf 3)) = some (xs.getD 1 (.nil, [])) := (hf 1 _ rfl).trans (g 1 (by omega))
    have k2 : DataW.trod enc Tryz.prog W base sp held n 3 ((([v0, v1, v2, v3, v4, v5] : List Value).drop 2).take (Tryz.prog.cellsOf 3)) = some (xs.getD 2 (.nil, [])) := (hf 2 _ rfl).trans (g 2 (by omega))
    have k3 : DataW.trod enc Tryz.prog W base sp held n 3 ((([v0, v1, v2, v3, v4, v5] : List Value).drop 3).take (Tryz.prog.cellsOf 3)) = some (xs.getD 3 (.nil, [])) := (hf 3 _ rfl).trans (g 3 (by omega))
    have k4 : DataW.trod enc Tryz.prog W base sp held n 3 ((([v0, v1, v2, v3, v4, v5] : List Value).drop 4).take (Tryz.prog.cellsOf 3)) = some (xs.getD 4 (.nil, [])) := (hf 4 _ rfl).trans (g 4 (by omega))
    have k5 : DataW.trod enc Tryz.prog W base sp held n 9 ((([v0, v1, v2, v3, v4, v5] : List Value).drop 5).take (Tryz.prog.cellsOf 9)) = some (xs.getD 5 (.nil, [])) := (hf 5 _ rfl).trans (g 5 (by omega))
    simp only [c1, cs1, List.drop, List.take] at k0 k1 k2 k3 k4 k5
    obtain ⟨o, e0, _, w0⟩ := DataW.trod_int Tryz.underlying3 k0
    obtain ⟨a, e1, _, w1⟩ := DataW.trod_int Tryz.underlying3 k1
    obtain ⟨b, e2, _, w2⟩ := DataW.trod_int Tryz.underlying3 k2
    obtain ⟨c, e3, _, w3⟩ := DataW.trod_int Tryz.underlying3 k3
    obtain ⟨m, e4, _, w4⟩ := DataW.trod_int Tryz.underlying3 k4
    obtain ⟨s, e5, _, hs⟩ := DataW.trod_string Tryz.underlying9 k5
    simp only [List.cons.injEq, and_true] at e0 e1 e2 e3 e4 e5
    exact ⟨⟨o, a, b, c, m, s⟩, by rw [e0, e1, e2, e3, e4, e5]; rfl, hs, ⟨in64_of w1, in64_of w2, in64_of w3, in64_of w4⟩⟩

theorem choose_below {α : Type} [Inhabited α] {n : Nat} {p : Nat → α → Prop} (h : ∀ i, i < n → ∃ a, p i a) : ∃ f : Nat → α, ∀ i, i < n → p i (f i) := by
  classical
  exact ⟨fun i => if hi : i < n then (h i hi).choose else default, fun i hi => by simp only [dif_pos hi]; exact (h i hi).choose_spec⟩

set_option maxRecDepth 100000 in
theorem open_insS {H : Type} {enc : TypeId × Value → H} {W : World} {r : Reach} {b0 base : Nat} {sp : Nat → Bool} {held : Bool} {v : Value} {d : DataW H} {p : List MemPlace}
    (hv : Value.okWide Tryz.prog W r b0 22 v) (h : DataW.Trod enc Tryz.prog W base sp held 22 v d p) :
    ∃ (l : List I) (ao : Option Addr) (cap : Nat), v = .slice ao l.length cap ∧ RowI W ao l ∧ SmI maxLen l ∧ (∀ x ∈ l, In64 x) ∧ l.length ≤ maxLen := by
  obtain ⟨a0, len, cap, rfl⟩ := okWide_slice Tryz.underlying22 hv
  obtain ⟨fuel, hf⟩ := h
  have c6 : Tryz.prog.cellsOf 57 = 6 := by kernel_rfl
  rcases DataW.trod_slice Tryz.underlying22 hf with ⟨hcs, _⟩ | ⟨a, len', cap', elems, rest, n, _, hcs, _, _, hlc, hm, hel, hat, _, _⟩
  · simp [Value.cells] at hcs
    obtain ⟨rfl, rfl, rfl⟩ := hcs
    exact ⟨[], none, 0, rfl, .inl rfl, (by intro x hx; cases hx), (by intro x hx; cases hx), by simp⟩
  · simp [Value.cells] at hcs
    obtain ⟨rfl, rfl, rfl⟩ := hcs
    rw [c6] at hat
    have one : ∀ i, i < len → ∃ y : I, W.cells? base (a.add (i * 6)) 6 = some (insL y) ∧ y.s.size ≤ maxLen ∧ In64 y := by
      intro i hi
      have ha := hat i hi
      rw [List.getElem?_eq_getElem (by omega)] at ha
      obtain ⟨cs', h1, h2⟩ := Option.bind_eq_some_iff.1 ha
      obtain ⟨y, rfl, hs, hI⟩ := ins_of_trod h2
      exact ⟨y, h1, hs, hI⟩
    haveI : Inhabited I := ⟨zeroI⟩
    obtain ⟨T, hT⟩ := choose_below one
    have hll : ((List.range len).map T).length = len := by simp
    have hget : ∀ j (hj : j < ((List.range len).map T).length), ((List.range len).map T)[j] = T j := fun j hj => by simp
    refine ⟨(List.range len).map T, some a, cap, by rw [hll], ?_, fun x hx => ?_, fun x hx => ?_, by rw [hll]; omega⟩
    · by_cases h0 : len = 0
      · subst h0; exact .inl rfl
      · obtain ⟨bk, off, spot⟩ := a
        have hsp : spot = none := by
          obtain ⟨hc, _⟩ := hT 0 (by omega)
          obtain ⟨_, _, hcell⟩ := World.cells?_some hc
          have h' := World.cell?_spot (hcell 0 (by omega))
          simpa [Addr.add] using h'
        subst hsp
        refine .inr ⟨bk, off, rfl, fun j hj => ?_⟩
        rw [hget j hj]
        obtain ⟨hc, _⟩ := hT j (by rw [hll] at hj; exact hj)
        obtain ⟨_, _, hcell⟩ := World.cells?_some hc
        have ad : ∀ i, ((⟨bk, off, none⟩ : Addr).add (j * 6)).add i = ⟨bk, off + j * 6 + i, none⟩ := by
          intro i
          unfold Addr.add
          by_cases h1 : j * 6 = 0 <;> by_cases h2 : i = 0 <;> simp [h1, h2]
        have k0 := hcell 0 (by omega)
        have k1 := hcell 1 (by omega)
        have k2 := hcell 2 (by omega)
        have k3 := hcell 3 (by omega)
        have k4 := hcell 4 (by omega)
        have k5 := hcell 5 (by omega)
        rw [ad] at k0 k1 k2 k3 k4 k5
        exact ⟨by simpa [insL] using k0, by simpa [insL] using k1, by simpa [insL] using k2, by simpa [insL] using k3, by simpa [insL] using k4, by simpa [insL] using k5⟩
    · obtain ⟨i, hi, rfl⟩ := List.mem_map.1 hx
      exact (hT i (List.mem_range.1 hi)).2.1
    · obtain ⟨i, hi, rfl⟩ := List.mem_map.1 hx
      exact (hT i (List.mem_range.1 hi)).2.2

theorem ety_of {W : World} {n : String} (hn : Tryz.prog.globalNamed n = some 0) (h : handlesMet Tryz.prog [(n, Rows.laid_errors_errorType)] W) : Es.Ety W := by
  have rt : (Tryz.prog.cutTypes.find? (·.1 == "internal/reflectlite.rtype")).map (·.2) = some 251 := by kernel_rfl
  have oneRow : ((List.range 312).filter fun t => Tryz.prog.rowNamed t [101, 114, 114, 111, 114]) = [140] := by kernel_rfl
  have size : Tryz.prog.types.size = 312 := by kernel_rfl
  have hhn : (Rows.laid_errors_errorType : DataW Unit).handleName? = some [101, 114, 114, 111, 114] := by kernel_rfl
  obtain ⟨name, u, ty, e1, e2, e3, e4, e5⟩ := h _ (List.mem_singleton.2 rfl)
  obtain rfl := Option.some.inj (hhn.symm.trans e1)
  obtain rfl := Option.some.inj (rt.symm.trans e2)
  have hm : ty ∈ (List.range 312).filter fun t => Tryz.prog.rowNamed t [101, 114, 114, 111, 114] := List.mem_filter.2 ⟨List.mem_range.2 (by rw [← size]; exact e3), e4⟩
  rw [oneRow] at hm
  obtain rfl := List.mem_singleton.1 hm
  have hh : typeHandle Tryz.prog 140 = .pointer (some ⟨5, 140, none⟩) := by kernel_rfl
  rw [hh] at e5
  have := World.var?_cell hn e5 0
  unfold Es.Ety
  simpa using this
end Go.Proofs.YtjibnlpjpbileaaGreatDoor.Code
namespace Go.Proofs.YtjibnlpjpbileaaGreatDoor.fnExactPlainNew
open Go.ChangeShapes Go.WideShapes Go.ChangeAt Go.RowKit
open Go.Proofs.YtjibnlpjpbileaaGreatDoor.Code
set_option linter.unusedVariables false

theorem laid_of {W : World} (h : laidMetH Tryz.prog Rows.fnExactPlainNewRow.laid W) : (Shp W ∧ Pow W) ∧ Es.Ety W := by
  have h' : laidMet Tryz.prog [("math/bits.deBruijn32tab", Rows.laid_math_bits_deBruijn32tab), ("math/bits.deBruijn64tab", Rows.laid_math_bits_deBruijn64tab), ("internal/strconv.uint64pow10", Rows.laid_internal_strconv_uint64pow10), ("loop.example/g00248/impl.shapes", Rows.laid_loop_example_g00248_impl_shapes)] W ∧ handlesMet Tryz.prog [("errors.errorType", Rows.laid_errors_errorType)] W := h
  have h3 := laidMet.tail (laidMet.tail h'.1)
  exact ⟨⟨shp_of_met (laidMet.tail h3), pow_of_met h3⟩, ety_of (by kernel_rfl) h'.2⟩
theorem shp_of {W : World} (h : laidMetH Tryz.prog Rows.fnExactPlainNewRow.laid W) : Shp W := (laid_of h).1.1

/-- The heap that the variables' own initialisers leave meets the condition. -/
theorem door_met (os : Os) (args : Array Value) : laidMetH Tryz.prog Rows.fnExactPlainNewRow.laid ((World.doorLaid Tryz.prog 400 os).forCall (fun _ _ => 0) ⟨#[], args, []⟩).memory :=
  laidMetH_of_parts3 (fuel := 8) (laidMet_of_run' 8 (by kernel_rfl) (by kernel_rfl)) (by kernel_rfl) (by kernel_rfl)


set_option maxRecDepth 100000 in
theorem lifted (os : Os) (started : os.Started) (H : Type) (enc : TypeId × Value → H) :
    ReturnsInHanded {} Tryz.checked os 3 .any (fun w args => (Rows.fnExactPlainNewSpec.pre enc Tryz.prog Tryz.f3 [] false w args ∧ laidMetH Tryz.prog Rows.fnExactPlainNewRow.laid w) ∧ sizedMet enc Tryz.prog Tryz.f3 (OpenSpec.ofChange Rows.fnExactPlainNewSpec) false w args)
      (Rows.fnExactPlainNewSpec.post enc Tryz.prog Tryz.f3 false true false false) := by
  refine returnsInHanded_of_change_and (C := Tryz.checked) (X := fun w _ => laidMetH Tryz.prog Rows.fnExactPlainNewRow.laid w) (fun _ _ _ hh h => h.of_heap hh) own started (by kernel_rfl) Tryz.func3
    (ChangeSpec.witness_shaped (enc := enc) (C := Tryz.checked) (os := os) (X := fun w _ => laidMetH Tryz.prog Rows.fnExactPlainNewRow.laid w) false (World.doorLaid Tryz.prog 400 os) #[.slice none 0 0, .agg #[.int .i64 0, .int .i64 0, .string ByteArray.empty, .slice none 0 0]] 8 rfl (World.shaped_of_RefB (by kernel_rfl) (by kernel_rfl)) (by kernel_rfl) (by kernel_rfl) (by kernel_rfl) (door_met os _)) ?_
  intro W base args ds gs before hval0 hW _ _ hL _
  have hval : ∀ (j : Nat) t v, Tryz.f3.params[j]? = some t → args[j]? = some v → Value.okWide Tryz.prog W .any base t v := hval0
  have hW' := hW
  obtain ⟨p, q, hA0, hV, rfl, hfz, hnd⟩ := hW
  have hA : DataW.TrodAll enc Tryz.prog W 0 (fun _ => true) true Tryz.f3.params.toList args.toList ds p := hA0
  rw [Tryz.params3] at hA hval
  obtain ⟨v0, vs0, d0, ds0, p0, q0, hargs, rfl, rfl, h0, r0⟩ := trodAll_cons hA
  obtain ⟨v1, vs1, d1, ds1, p1, q1, rfl, rfl, rfl, h1, r1⟩ := trodAll_cons r0
  obtain ⟨rfl, rfl, rfl⟩ := trodAll_nil r1
  obtain rfl : args = #[v0, v1] := by cases args; simp_all
  have k0 := h0
  have lt0 : ∀ x ∈ p0, x.block < W.heap.size := by obtain ⟨m, hm⟩ := k0; exact DataW.trod_lt m _ _ _ hm
  have k1 := h1
  have lt1 : ∀ x ∈ p1, x.block < W.heap.size := by obtain ⟨m, hm⟩ := k1; exact DataW.trod_lt m _ _ _ hm
  obtain ⟨l, ao, cap, rfl, hr, hs, _, hl⟩ := open_insS (hval 0 22 v0 rfl rfl) h0
  obtain ⟨cs, rfl, hsz⟩ := okWide_struct Tryz.underlying25 (hval 1 25 v1 rfl rfl)
  obtain ⟨t, hv⟩ : ∃ t, RepV 0 W t (.agg cs) := by
    obtain ⟨fuel, hf⟩ := h1
    obtain ⟨t, k, n, s, ao, len, cap, e, hv⟩ := rep_of_trod fuel _ _ hf
    have e' : cs = #[.int .i64 k, .int .i64 n, .string s, .slice ao len cap] := by
      obtain ⟨l⟩ := cs
      simpa [Value.cells] using e
    exact ⟨t, by rw [e']; exact hv⟩
  have hS := shp_of hL
  clear hA0 hval0
  refine (walkNew l ao cap t _ W hr hs hl hv hS (laid_of hL).1.2 (laid_of hL).2).mono fun e W' ⟨he, bel⟩ => ?_
  subst he
  obtain ⟨q', hv'⟩ := vars_after (by kernel_rfl) hS hV bel
  have hg : ∃ g, gs = [g] := by
    obtain ⟨g, t, cs, fuel, d, p, e, _⟩ := trodVars_one hV
    exact ⟨d, e⟩
  obtain ⟨g, rfl⟩ := hg
  exact ⟨_, rfl, _, _, _, [], _, q', hW', trodAll_mk1 (shut_bool Tryz.underlying4 _), (trodAll_cons_mk (Below.trod laidOut (by kernel_rfl) (of_decide_eq_true (by kernel_rfl)) k0 bel lt0) (trodAll_cons_mk (Below.trod laidOut (by kernel_rfl) (of_decide_eq_true (by kernel_rfl)) k1 bel lt1) trodAll_mk0)), hv', bel.frame _, fun h => by cases h⟩

theorem over : Rows.fnExactPlainNewRow.holds Tryz.pinned (OpenSpec.ofChange Rows.fnExactPlainNewSpec) :=
  OpenClaim.holds_of_wide 3 Tryz.f3 rfl rfl rfl rfl rfl rfl rfl ⟨rfl, rfl, rfl, rfl, rfl⟩ rfl rfl rfl rfl rfl (by kernel_rfl) Tryz.func3 (by kernel_rfl)
    (of_decide_eq_true (by kernel_rfl)) (by unfold Func.isWrapper; first | (rw [if_pos (by decide +kernel)]; kernel_rfl) | (rw [if_neg (by decide +kernel)]; exact ⟨rfl, rfl⟩))
    (fun os started H enc _ => lifted os started H enc)
end Go.Proofs.YtjibnlpjpbileaaGreatDoor.fnExactPlainNew
namespace Go.Proofs.YtjibnlpjpbileaaGreatDoor
theorem fnExactPlainNew_holds : Rows.FnExactPlainNewCardSaid :=
  Claim7.holds_tied_plain_at .later [] [.data, .data, .data, .handle, .data] true Rows.fnExactPlainNewCard.stood.harness true
    fnExactPlainNew.over (fun _ h => by cases h) (by kernel_rfl) (fun _ h => by cases h) fnExactPlainNew_row_tie rfl ⟨rfl, rfl⟩ (by kernel_rfl) rfl
    (fun f fn hf hfn => by
      obtain rfl : f = 3 := Option.some.inj ((show Tryz.prog.funcNamed Rows.fnExactPlainNewRow.func = some 3 by kernel_rfl).symm.trans hf) |>.symm
      obtain rfl : fn = Tryz.f3 := (Option.some.inj (Tryz.func3.symm.trans hfn)).symm
      exact ⟨by kernel_rfl, fun j t ht => by
        rw [Tryz.params3] at ht
        have hm : t ∈ [22, 25] := by simpa using Array.mem_of_getElem? ht
        have hall : ([22, 25].all fun u => !Tryz.prog.wantsStandIn u) = true := by kernel_rfl
        exact (show Tryz.prog.wantsStandIn t = false by simpa using List.all_eq_true.1 hall t hm)⟩)
    (by kernel_rfl)
#print axioms fnExactPlainNew_holds
end Go.Proofs.YtjibnlpjpbileaaGreatDoor
