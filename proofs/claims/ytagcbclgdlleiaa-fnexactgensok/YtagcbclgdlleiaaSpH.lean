/-
  The specification's ReadTerm.
  Both kinds of HeapOk.
-/
import Derived.Test.YtagcbclgdlleiaaSpF
namespace Go.Proofs.Ytagcbclgdlleiaa
open Go.RowKit
set_option linter.unusedVariables false

theorem sread_yes {E : Env} {d : Nat} (hc : ReadC E d) {w : World} {left : Nat} {x : Int} (hs : Sr E left false w) (hl : left ≤ 100) (hx : x ≤ 9223372036854775807) {t : Tm} {y : Nat} (he : rT false E.H d x left = some (t, y)) :
    Calls Try.prog 47 #[.pointer (some ⟨E.rb, 0, none⟩), .int .i64 x, .int .i64 d] w fun e w' => ∃ a b c d' e' f, e = .returned (.agg #[.int .i64 a, .int .i64 b, .string c, .slice d' e' f]) ∧ RpV (fun b => w.heap.size ≤ b) w' t (.agg #[.int .i64 a, .int .i64 b, .string c, .slice d' e' f]) ∧ Turn E.rb w w' ∧ Sr E y false w' := by
  refine (hc w left x hs hl hx).mono ?_
  rintro e w' ⟨t', v, rfl, hv, ht, ⟨y', hy, hs'⟩ | ⟨hn, _⟩⟩
  · rw [he] at hy
    simp only [Option.some.injEq, Prod.mk.injEq] at hy
    obtain ⟨rfl, rfl⟩ := hy
    obtain ⟨a, b, c, d', e', f, rfl⟩ := hv.form
    exact ⟨a, b, c, d', e', f, rfl, hv, ht, hs'⟩
  · rw [he] at hn; cases hn
theorem sread_no {E : Env} {d : Nat} (hc : ReadC E d) {w : World} {left : Nat} {x : Int} (hs : Sr E left false w) (hl : left ≤ 100) (hx : x ≤ 9223372036854775807) (he : rT false E.H d x left = none) :
    Calls Try.prog 47 #[.pointer (some ⟨E.rb, 0, none⟩), .int .i64 x, .int .i64 d] w fun e w' => ∃ a b c d' e' f, e = .returned (.agg #[.int .i64 a, .int .i64 b, .string c, .slice d' e' f]) ∧ Turn E.rb w w' ∧ ∃ z : Int, Sr E z true w' := by
  refine (hc w left x hs hl hx).mono ?_
  rintro e w' ⟨t', v, rfl, hv, ht, ⟨y', hy, hs'⟩ | ⟨hn, z, hs'⟩⟩
  · rw [he] at hy; cases hy
  · obtain ⟨a, b, c, d', e', f, rfl⟩ := hv.form
    exact ⟨a, b, c, d', e', f, rfl, ht, z, hs'⟩
abbrev E2 (E : Env) (w : World) : Env := { E with rb := w.heap.size + 1 }
theorem sread_in {E : Env} {w : World} (h : Src E w) (W : World) (hW : ((w.alloc (.cells #[.int .i64 0, .int .i64 0, .string ⟨#[]⟩, .slice none 0 0] 42)).alloc (.cells #[.slice E.wv E.H.N E.cap, .slice E.av E.H.A.length E.acap, .int .i64 100, .bool false] 78)) = W) :
    Sr (E2 E w) 100 false W ∧ (∀ o, W.cell? ⟨w.heap.size, o, none⟩ = (#[.int .i64 0, .int .i64 0, .string ⟨#[]⟩, .slice none 0 0] : Array Value)[o]?) ∧ (∀ o, W.frozen? ⟨w.heap.size, o, none⟩ = false) ∧ W.heap.size = w.heap.size + 2 ∧ Below w.heap.size w W := by
  have s1 : (w.alloc (.cells #[.int .i64 0, .int .i64 0, .string ⟨#[]⟩, .slice none 0 0] 42)).heap.size = w.heap.size + 1 := World.size_alloc _ _
  have b1 : Below w.heap.size w (w.alloc (.cells #[.int .i64 0, .int .i64 0, .string ⟨#[]⟩, .slice none 0 0] 42)) := (Below.refl _ _).alloc (Nat.le_refl _) _
  have q1 : ∀ o, (w.alloc (.cells #[.int .i64 0, .int .i64 0, .string ⟨#[]⟩, .slice none 0 0] 42)).cell? ⟨w.heap.size, o, none⟩ = (#[.int .i64 0, .int .i64 0, .string ⟨#[]⟩, .slice none 0 0] : Array Value)[o]? := fun o => World.cell?_alloc_new w _ _ o
  have f1 : ∀ o, (w.alloc (.cells #[.int .i64 0, .int .i64 0, .string ⟨#[]⟩, .slice none 0 0] 42)).frozen? ⟨w.heap.size, o, none⟩ = false := fun o => World.frozen?_alloc_new w _ _ o
  generalize (w.alloc (.cells #[.int .i64 0, .int .i64 0, .string ⟨#[]⟩, .slice none 0 0] 42)) = w1 at *
  have k2 : Below w1.heap.size w1 (w1.alloc (.cells #[.slice E.wv E.H.N E.cap, .slice E.av E.H.A.length E.acap, .int .i64 100, .bool false] 78)) := (Below.refl _ _).alloc (Nat.le_refl _) _
  have q2 : ∀ o, (w1.alloc (.cells #[.slice E.wv E.H.N E.cap, .slice E.av E.H.A.length E.acap, .int .i64 100, .bool false] 78)).cell? ⟨w.heap.size + 1, o, none⟩ = (#[.slice E.wv E.H.N E.cap, .slice E.av E.H.A.length E.acap, .int .i64 100, .bool false] : Array Value)[o]? := fun o => by rw [← s1]; exact World.cell?_alloc_new w1 _ _ o
  have f2 : ∀ o, (w1.alloc (.cells #[.slice E.wv E.H.N E.cap, .slice E.av E.H.A.length E.acap, .int .i64 100, .bool false] 78)).frozen? ⟨w.heap.size + 1, o, none⟩ = false := fun o => by rw [← s1]; exact World.frozen?_alloc_new w1 _ _ o
  have s2 : (w1.alloc (.cells #[.slice E.wv E.H.N E.cap, .slice E.av E.H.A.length E.acap, .int .i64 100, .bool false] 78)).heap.size = w.heap.size + 2 := by rw [World.size_alloc, s1]
  rw [hW] at k2 q2 f2 s2
  have hb : Below w.heap.size w W := b1.trans (k2.mono (by omega))
  have hs := h.below hb
  refine ⟨⟨q2 0, q2 1, q2 2, q2 3, f2, ⟨hs.ok, hs.wl, hs.al, hs.ws, hs.ats, hs.cp, hs.big, hs.txt⟩, fun hn => ?_, fun hn => ?_⟩, fun o => ?_, fun o => ?_, s2, hb⟩
  · have : E.b < w.heap.size := World.block_lt_of_cell? w _ (h.ws 0 (by show 0 < E.H.N; have : E.H.N ≠ 0 := hn; omega))
    show E.b ≠ w.heap.size + 1
    omega
  · have : E.ab < w.heap.size := World.block_lt_of_cell? w _ (h.ats 0 (by have : E.H.A.length ≠ 0 := hn; omega))
    show E.ab ≠ w.heap.size + 1
    omega
  · rw [k2.cell (p := ⟨w.heap.size, o, none⟩) (by show w.heap.size < _; omega)]; exact q1 o
  · rw [k2.frozen (p := ⟨w.heap.size, o, none⟩) (by show w.heap.size < _; omega)]; exact f1 o

/-- What both kinds of ReadTerm answer. -/
def ReadP (E : Env) (w : World) (x : Int) (e : Ending) (w' : World) : Prop :=
  ∃ a b c d' e' f, e = .returned (.tuple #[.agg #[.int .i64 a, .int .i64 b, .string c, .slice d' e' f], .bool (readT E.H x).isSome]) ∧ Below w.heap.size w w' ∧
    ((∃ t, readT E.H x = some t ∧ RpV (fun b => w.heap.size ≤ b) w' t (.agg #[.int .i64 a, .int .i64 b, .string c, .slice d' e' f])) ∨ (readT E.H x = none ∧ Value.agg #[.int .i64 a, .int .i64 b, .string c, .slice d' e' f] = zT))
theorem readT_spec {H : Hp} (ho : H.ok) (x : Int) : (∀ t y, rT false H 6 x 100 = some (t, y) → readT H x = if (look t 6 100).isSome then some t else none) ∧ (rT false H 6 x 100 = none → readT H x = none) := by
  have key := read_one ho x
  refine ⟨fun t y h => ?_, fun h => ?_⟩
  · unfold readT
    cases hq : rT true H 6 x 100 with
    | none =>
      split
      · rename_i hl
        have := (key t y).2 ⟨h, hl⟩
        rw [hq] at this; cases this
      · rfl
    | some p =>
      obtain ⟨t', y'⟩ := p
      obtain ⟨h1, h2⟩ := (key t' y').1 hq
      rw [h] at h1
      simp only [Option.some.injEq, Prod.mk.injEq] at h1
      obtain ⟨rfl, rfl⟩ := h1
      rw [if_pos h2]; rfl
  · unfold readT
    cases hq : rT true H 6 x 100 with
    | none => rfl
    | some p =>
      obtain ⟨t', y'⟩ := p
      have := ((key t' y').1 hq).1
      rw [h] at this; cases this

end Go.Proofs.Ytagcbclgdlleiaa

namespace Go.Proofs.Ytagcbclgdlleiaa
open Go.RowKit
set_option linter.unusedVariables false

/-! ### The atoms -/
def atomI (L : List ByteArray) (i : Nat) : Bool := Atom.atomB (L.getD i ByteArray.empty) && decide (idx L (L.getD i ByteArray.empty) = i)
def atomsTo (L : List ByteArray) (n : Nat) : Bool := (List.range n).all (atomI L)
def atomsB (L : List ByteArray) : Bool := decide (L.length ≤ 200) && atomsTo L L.length
theorem atomsTo_succ (L : List ByteArray) (n : Nat) : atomsTo L (n + 1) = (atomsTo L n && atomI L n) := by
  unfold atomsTo
  rw [List.range_succ, List.all_append, List.all_cons, List.all_nil, Bool.and_true]
theorem atomsTo_bad (L : List ByteArray) (i n : Nat) (hi : i < n) (h : atomI L i = false) : atomsTo L n = false := by
  unfold atomsTo
  rw [List.all_eq_false]
  exact ⟨i, List.mem_range.2 hi, by rw [h]; simp⟩
theorem getD_lt (L : List ByteArray) (i : Nat) (h : i < L.length) : L.getD i ByteArray.empty = L[i] := by simp [h]

set_option maxHeartbeats 1000000 in
theorem specAtoms_any (b o cap : Nat) (av : Option Addr) (L : List ByteArray) (w : World) (hav : L.length ≠ 0 → av = some ⟨b, o, none⟩) (hr : Txt w b o L) (hN : L.length ≤ 1048576) (hs : ∀ s, s ∈ L → s.size ≤ maxLen) :
    Calls Try.prog 16 #[.slice av L.length cap] w fun e w' => e = .returned (.bool (atomsB L)) ∧ w' = w := by
  have HR : Hid (Txt w b o L) := hr
  have HS : Hid (∀ s, s ∈ L → s.size ≤ maxLen) := hs
  have HAV : Hid (L.length ≠ 0 → av = some ⟨b, o, none⟩) := hav
  have HN : Hid (L.length ≤ 1048576) := hN
  clear hr hs hav
  go_enter Try.func16, Try.ntmps16
  go_wp2_with fail
  go_loop [3] (fun i => ∃ m : Nat, m ≤ L.length ∧ i = .int .i64 m ∧ atomsTo L m = true) (fun i => L.length - (intOf i).toNat)
  case atStart => exact ⟨0, Nat.zero_le _, rfl, rfl⟩
  case round =>
    obtain ⟨m, hm, rfl, ha⟩ := hrel
    have HA : Hid (atomsTo L m = true) := ha
    clear ha
    by_cases hlt : m < L.length
    · have q := HR.out m hlt
      have HSM : Hid (L[m].size ≤ maxLen) := HS.out _ (List.getElem_mem hlt)
      have HI : Hid (atomI L m = (Atom.atomB L[m] && decide (idx L L[m] = m))) := by show _ = _; unfold atomI; rw [getD_lt L m hlt]
      obtain rfl := HAV.out (by omega)
      generalize L[m] = s at *
      cases h1 : Atom.atomB s with
      | false =>
        have H1 : Hid (Atom.atomB s = false) := h1
        have HE : Hid (atomsB L = false) := by show _ = _; unfold atomsB; rw [atomsTo_bad L m _ hlt (by rw [HI.out, h1]; rfl), Bool.and_false]
        clear h1
        go_wp2_with (first | (go_at_call 25; refine (Atom.spec_any s _ HSM.out).mono ?_; rintro e w' ⟨rfl, rfl⟩; rw [H1.out]))
        go_ret
        exact ⟨ret_bool HE.out.symm, rfl⟩
      | true =>
        have H1 : Hid (Atom.atomB s = true) := h1
        by_cases h2 : idx L s = m
        · have H2 : Hid (idx L s = m) := h2
          have HE : Hid (atomsTo L (m + 1) = true) := by show _ = _; rw [atomsTo_succ, HA.out, HI.out, h1, h2]; simp
          clear h1 h2
          go_wp2_with (first | (go_at_call 25; refine (Atom.spec_any s _ HSM.out).mono ?_; rintro e w' ⟨rfl, rfl⟩; rw [H1.out]) | (go_at_call 26; refine (specAtomAt_any b o cap L s _ HR.out HN.out).mono ?_; rintro e w' ⟨rfl, rfl⟩; rw [H2.out]))
          go_round
          case rel => exact ⟨m + 1, by omega, by go_num, HE.out⟩
          case measure => simp [intOf]; omega
        · have HE : Hid (atomsB L = false) := by show _ = _; unfold atomsB; rw [atomsTo_bad L m _ hlt (by rw [HI.out, h1]; simp [h2]), Bool.and_false]
          obtain ⟨z, hz⟩ : ∃ z, idx L s = z := ⟨_, rfl⟩
          have H2 : Hid (idx L s = z) := hz
          have hzz : (z != (m : Int)) = true := by rw [hz] at h2; simpa using h2
          clear h1 h2 hz
          go_wp2_with (first | (go_at_call 25; refine (Atom.spec_any s _ HSM.out).mono ?_; rintro e w' ⟨rfl, rfl⟩; rw [H1.out]) | (go_at_call 26; refine (specAtomAt_any b o cap L s _ HR.out HN.out).mono ?_; rintro e w' ⟨rfl, rfl⟩; rw [H2.out]))
          go_ret
          exact ⟨ret_bool HE.out.symm, rfl⟩
    · have hml : m = L.length := by omega
      have HE : Hid (atomsB L = decide ((L.length : Int) ≤ 200)) := by
        show _ = _
        unfold atomsB
        rw [← hml, HA.out, Bool.and_true, hml, decide_eq_decide]
        omega
      clear hml
      go_wp2_with fail
      go_ret
      exact ⟨ret_bool HE.out.symm, rfl⟩
set_option maxHeartbeats 1000000 in
theorem implAtoms_any (b o cap : Nat) (av : Option Addr) (L : List ByteArray) (w : World) (hav : L.length ≠ 0 → av = some ⟨b, o, none⟩) (hr : Txt w b o L) (hN : L.length ≤ 1048576) (hs : ∀ s, s ∈ L → s.size ≤ maxLen) :
    Calls Try.prog 20 #[.slice av L.length cap] w fun e w' => e = .returned (.bool (atomsB L)) ∧ Below w.heap.size w w' := by
  have HR : Hid (Txt w b o L) := hr
  have HS : Hid (∀ s, s ∈ L → s.size ≤ maxLen) := hs
  have HAV : Hid (L.length ≠ 0 → av = some ⟨b, o, none⟩) := hav
  have HN : Hid (L.length ≤ 1048576) := hN
  clear hr hs hav
  by_cases hl : L.length ≤ 200
  · have hd : decide ((200 : Int) < (L.length : Int)) = false := by simp; omega
    go_enter Try.func20, Try.ntmps20
    go_wp2_with fail
    go_loopw [10] (fun i wr => ∃ m : Nat, m ≤ L.length ∧ i = .int .i64 m ∧ atomsTo L m = true ∧ Below w.heap.size w wr) (fun i _ => L.length - (intOf i).toNat)
    case atStart => exact ⟨0, Nat.zero_le _, rfl, rfl, Below.refl _ _⟩
    case round =>
      obtain ⟨m, hm, rfl, ha, hb⟩ := hrel
      have HA : Hid (atomsTo L m = true) := ha
      have HB : Hid (Below w.heap.size w wr) := hb
      clear ha hb
      by_cases hlt : m < L.length
      · have q := HR.out.below HB.out m hlt
        have HSM : Hid (L[m].size ≤ maxLen) := HS.out _ (List.getElem_mem hlt)
        have HI : Hid (atomI L m = (Atom.atomB L[m] && decide (idx L L[m] = m))) := by show _ = _; unfold atomI; rw [getD_lt L m hlt]
        obtain rfl := HAV.out (by omega)
        generalize L[m] = s at *
        cases h1 : Atom.atomB s with
        | false =>
          have H1 : Hid (Atom.atomB s = false) := h1
          have HE : Hid (atomsB L = false) := by show _ = _; unfold atomsB; rw [atomsTo_bad L m _ hlt (by rw [HI.out, h1]; rfl), Bool.and_false]
          clear h1
          go_wp2_with (first | (go_at_call 34; refine (atom_below s _ HSM.out).mono ?_; rintro e w5 ⟨rfl, hb5⟩; rw [H1.out]; have HB5 : Hid (Below w.heap.size w w5) := HB.out.trans (hb5.mono HB.out.size); clear hb5))
          go_ret
          exact ⟨ret_bool HE.out.symm, HB5.out⟩
        | true =>
          have H1 : Hid (Atom.atomB s = true) := h1
          by_cases h2 : idx L s = m
          · have H2 : Hid (idx L s = m) := h2
            have HE : Hid (atomsTo L (m + 1) = true) := by show _ = _; rw [atomsTo_succ, HA.out, HI.out, h1, h2]; simp
            clear h1 h2
            go_wp2_with (first | (go_at_call 34; refine (atom_below s _ HSM.out).mono ?_; rintro e w5 ⟨rfl, hb5⟩; rw [H1.out]; have HB5 : Hid (Below w.heap.size w w5) := HB.out.trans (hb5.mono HB.out.size); clear hb5) | (go_at_call 35; refine (implAtomAt_any b o cap L s _ (HR.out.below HB5.out) HN.out).mono ?_; rintro e w' ⟨rfl, hw'⟩; obtain rfl := hw'.symm; rw [H2.out]))
            go_roundw
            case rel => exact ⟨m + 1, by omega, by go_num, HE.out, HB5.out⟩
            case measure => simp [intOf]; omega
          · have HE : Hid (atomsB L = false) := by show _ = _; unfold atomsB; rw [atomsTo_bad L m _ hlt (by rw [HI.out, h1]; simp [h2]), Bool.and_false]
            obtain ⟨z, hz⟩ : ∃ z, idx L s = z := ⟨_, rfl⟩
            have H2 : Hid (idx L s = z) := hz
            have hzz : (z != (m : Int)) = true := by rw [hz] at h2; simpa using h2
            clear h1 h2 hz
            go_wp2_with (first | (go_at_call 34; refine (atom_below s _ HSM.out).mono ?_; rintro e w5 ⟨rfl, hb5⟩; rw [H1.out]; have HB5 : Hid (Below w.heap.size w w5) := HB.out.trans (hb5.mono HB.out.size); clear hb5) | (go_at_call 35; refine (implAtomAt_any b o cap L s _ (HR.out.below HB5.out) HN.out).mono ?_; rintro e w' ⟨rfl, hw'⟩; obtain rfl := hw'.symm; rw [H2.out]))
            go_ret
            exact ⟨ret_bool HE.out.symm, HB5.out⟩
      · have hml : m = L.length := by omega
        have HE : Hid (atomsB L = true) := by
          show _ = _
          unfold atomsB
          rw [← hml, HA.out, Bool.and_true, hml]
          simp [hl]
        clear hml
        go_wp2_with fail
        go_ret
        exact ⟨ret_bool HE.out.symm, HB.out⟩
  · have hd : decide ((200 : Int) < (L.length : Int)) = true := by simp; omega
    have HE : Hid (atomsB L = false) := by show _ = _; unfold atomsB; simp [hl]
    go_enter Try.func20, Try.ntmps20
    go_wp2_with fail
    go_ret
    exact ⟨ret_bool HE.out.symm, Below.refl _ _⟩
end Go.Proofs.Ytagcbclgdlleiaa
