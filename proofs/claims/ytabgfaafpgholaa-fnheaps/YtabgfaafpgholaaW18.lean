/-
  A heap that was made by putting is right: its atoms are, and what each root leads to reads back.
  (Ahead of it, in this text: The specification's ReadTerm.
  Both kinds of HeapOk.)
-/
import Derived.Test.YtabgfaafpgholaaW17
import Derived.Test.YtabgfaafpgholaaW16
import Derived.Test.YtabgfaafpgholaaW13
namespace Go.Proofs.Ytabgfaafpgholaa
open Go.RowKit
set_option linter.unusedVariables false

abbrev E2 (E : Env) (w : World) : Env := { E with rb := w.heap.size + 1 }
/-- What both kinds of ReadTerm answer. -/
def ReadP (E : Env) (w : World) (x : Int) (e : Ending) (w' : World) : Prop :=
  ∃ a b c d' e' f, e = .returned (.tuple #[.agg #[.int .i64 a, .int .i64 b, .string c, .slice d' e' f], .bool (readT E.H x).isSome]) ∧ Below w.heap.size w w' ∧
    ((∃ t, readT E.H x = some t ∧ RpV (fun b => w.heap.size ≤ b) w' t (.agg #[.int .i64 a, .int .i64 b, .string c, .slice d' e' f])) ∨ (readT E.H x = none ∧ Value.agg #[.int .i64 a, .int .i64 b, .string c, .slice d' e' f] = zT))
theorem readT_spec {H : Hp} (ho : H.ok) (x : Int) : (∀ t y, rT false H 6 x 100 = some (t, y) → readT H x = if (look t 6 100).isSome then some t else none) ∧ (rT false H 6 x 100 = none → readT H x = none) := by
  have key := read_one ho x
  refine ⟨fun t y h => ?_, fun h => ?_⟩
  · unfold readT
    cases hq : rT true H 6 x 100 with
    | none =>
      split
      · rename_i hl
        have := (key t y).2 ⟨h, hl⟩
        rw [hq] at this; cases this
      · rfl
    | some p =>
      obtain ⟨t', y'⟩ := p
      obtain ⟨h1, h2⟩ := (key t' y').1 hq
      rw [h] at h1
      simp only [Option.some.injEq, Prod.mk.injEq] at h1
      obtain ⟨rfl, rfl⟩ := h1
      rw [if_pos h2]; rfl
  · unfold readT
    cases hq : rT true H 6 x 100 with
    | none => rfl
    | some p =>
      obtain ⟨t', y'⟩ := p
      have := ((key t' y').1 hq).1
      rw [h] at this; cases this

end Go.Proofs.Ytabgfaafpgholaa

namespace Go.Proofs.Ytabgfaafpgholaa
open Go.RowKit
set_option linter.unusedVariables false

/-! ### The atoms -/
def atomI (L : List ByteArray) (i : Nat) : Bool := Atom.atomB (L.getD i ByteArray.empty) && decide (idx L (L.getD i ByteArray.empty) = i)
def atomsTo (L : List ByteArray) (n : Nat) : Bool := (List.range n).all (atomI L)
def atomsB (L : List ByteArray) : Bool := decide (L.length ≤ 200) && atomsTo L L.length
theorem atomsTo_succ (L : List ByteArray) (n : Nat) : atomsTo L (n + 1) = (atomsTo L n && atomI L n) := by
  unfold atomsTo
  rw [List.range_succ, List.all_append, List.all_cons, List.all_nil, Bool.and_true]
theorem atomsTo_bad (L : List ByteArray) (i n : Nat) (hi : i < n) (h : atomI L i = false) : atomsTo L n = false := by
  unfold atomsTo
  rw [List.all_eq_false]
  exact ⟨i, List.mem_range.2 hi, by rw [h]; simp⟩
theorem getD_lt (L : List ByteArray) (i : Nat) (h : i < L.length) : L.getD i ByteArray.empty = L[i] := by simp [h]

set_option maxHeartbeats 1000000 in
theorem implAtoms_any (b o cap : Nat) (av : Option Addr) (L : List ByteArray) (w : World) (hav : L.length ≠ 0 → av = some ⟨b, o, none⟩) (hr : Txt w b o L) (hN : L.length ≤ 1048576) (hs : ∀ s, s ∈ L → s.size ≤ maxLen) :
    Calls Try.prog 57 #[.slice av L.length cap] w fun e w' => e = .returned (.bool (atomsB L)) ∧ Below w.heap.size w w' := by
  have HR : Hid (Txt w b o L) := hr
  have HS : Hid (∀ s, s ∈ L → s.size ≤ maxLen) := hs
  have HAV : Hid (L.length ≠ 0 → av = some ⟨b, o, none⟩) := hav
  have HN : Hid (L.length ≤ 1048576) := hN
  clear hr hs hav
  by_cases hl : L.length ≤ 200
  · have hd : decide ((200 : Int) < (L.length : Int)) = false := by simp; omega
    go_enter Try.func57, Try.ntmps57
    go_wp2_with fail
    go_loopw [10] (fun i wr => ∃ m : Nat, m ≤ L.length ∧ i = .int .i64 m ∧ atomsTo L m = true ∧ Below w.heap.size w wr) (fun i _ => L.length - (intOf i).toNat)
    case atStart => exact ⟨0, Nat.zero_le _, rfl, rfl, Below.refl _ _⟩
    case round =>
      obtain ⟨m, hm, rfl, ha, hb⟩ := hrel
      have HA : Hid (atomsTo L m = true) := ha
      have HB : Hid (Below w.heap.size w wr) := hb
      clear ha hb
      by_cases hlt : m < L.length
      · have q := HR.out.below HB.out m hlt
        have HSM : Hid (L[m].size ≤ maxLen) := HS.out _ (List.getElem_mem hlt)
        have HI : Hid (atomI L m = (Atom.atomB L[m] && decide (idx L L[m] = m))) := by show _ = _; unfold atomI; rw [getD_lt L m hlt]
        obtain rfl := HAV.out (by omega)
        generalize L[m] = s at *
        cases h1 : Atom.atomB s with
        | false =>
          have H1 : Hid (Atom.atomB s = false) := h1
          have HE : Hid (atomsB L = false) := by show _ = _; unfold atomsB; rw [atomsTo_bad L m _ hlt (by rw [HI.out, h1]; rfl), Bool.and_false]
          clear h1
          go_wp2_with (first | (go_at_call 76; refine (atom_below s _ HSM.out).mono ?_; rintro e w5 ⟨rfl, hb5⟩; rw [H1.out]; have HB5 : Hid (Below w.heap.size w w5) := HB.out.trans (hb5.mono HB.out.size); clear hb5))
          go_ret
          exact ⟨ret_bool HE.out.symm, HB5.out⟩
        | true =>
          have H1 : Hid (Atom.atomB s = true) := h1
          by_cases h2 : idx L s = m
          · have H2 : Hid (idx L s = m) := h2
            have HE : Hid (atomsTo L (m + 1) = true) := by show _ = _; rw [atomsTo_succ, HA.out, HI.out, h1, h2]; simp
            clear h1 h2
            go_wp2_with (first | (go_at_call 76; refine (atom_below s _ HSM.out).mono ?_; rintro e w5 ⟨rfl, hb5⟩; rw [H1.out]; have HB5 : Hid (Below w.heap.size w w5) := HB.out.trans (hb5.mono HB.out.size); clear hb5) | (go_at_call 77; refine (implAtomAt_any b o cap L s _ (HR.out.below HB5.out) HN.out).mono ?_; rintro e w' ⟨rfl, hw'⟩; obtain rfl := hw'.symm; rw [H2.out]))
            go_roundw
            case rel => exact ⟨m + 1, by omega, by go_num, HE.out, HB5.out⟩
            case measure => simp [intOf]; omega
          · have HE : Hid (atomsB L = false) := by show _ = _; unfold atomsB; rw [atomsTo_bad L m _ hlt (by rw [HI.out, h1]; simp [h2]), Bool.and_false]
            obtain ⟨z, hz⟩ : ∃ z, idx L s = z := ⟨_, rfl⟩
            have H2 : Hid (idx L s = z) := hz
            have hzz : (z != (m : Int)) = true := by rw [hz] at h2; simpa using h2
            clear h1 h2 hz
            go_wp2_with (first | (go_at_call 76; refine (atom_below s _ HSM.out).mono ?_; rintro e w5 ⟨rfl, hb5⟩; rw [H1.out]; have HB5 : Hid (Below w.heap.size w w5) := HB.out.trans (hb5.mono HB.out.size); clear hb5) | (go_at_call 77; refine (implAtomAt_any b o cap L s _ (HR.out.below HB5.out) HN.out).mono ?_; rintro e w' ⟨rfl, hw'⟩; obtain rfl := hw'.symm; rw [H2.out]))
            go_ret
            exact ⟨ret_bool HE.out.symm, HB5.out⟩
      · have hml : m = L.length := by omega
        have HE : Hid (atomsB L = true) := by
          show _ = _
          unfold atomsB
          rw [← hml, HA.out, Bool.and_true, hml]
          simp [hl]
        clear hml
        go_wp2_with fail
        go_ret
        exact ⟨ret_bool HE.out.symm, HB.out⟩
  · have hd : decide ((200 : Int) < (L.length : Int)) = true := by simp; omega
    have HE : Hid (atomsB L = false) := by show _ = _; unfold atomsB; simp [hl]
    go_enter Try.func57, Try.ntmps57
    go_wp2_with fail
    go_ret
    exact ⟨ret_bool HE.out.symm, Below.refl _ _⟩
end Go.Proofs.Ytabgfaafpgholaa
namespace Go.Proofs.Ytabgfaafpgholaa
open Go.RowKit
set_option linter.unusedVariables false

/-- Words and atoms, as what is read from. -/
def hpL (xs : List Int) (A : List ByteArray) : Hp := ⟨xs.length, fun j => xs.getD j 0, A⟩
theorem atomI_le {A : List ByteArray} {n i : Nat} (h : atomsTo A n = true) (hi : i < n) : atomI A i = true := by
  unfold atomsTo at h
  rw [List.all_eq_true] at h
  exact h i (List.mem_range.2 hi)
theorem idx_app {A : List ByteArray} {s u : ByteArray} (h : 0 ≤ idx A u) : idx (A ++ [s]) u = idx A u := by
  rcases idx_cases A u with ⟨e, _⟩ | ⟨m, hm, e1, e2, e3⟩
  · rw [e] at h; cases h
  · rw [e1]
    exact idx_at m (by rw [List.length_append]; simp; omega) (by rw [List.getElem_append_left hm]; exact e2) (fun j hj => by rw [List.getElem_append_left (by omega)]; exact e3 j hj)
theorem atomsB_addL {A : List ByteArray} {s : ByteArray} (h : atomsB A = true) : atomsB (addL A s) = true := by
  unfold addL
  split
  · rename_i ha
    unfold atomsB at h ⊢
    rw [Bool.and_eq_true] at h ⊢
    have ha' : idx A s = -1 ∧ Atom.atomB s = true ∧ A.length < 200 := by
      unfold adds at ha
      simp only [Bool.and_eq_true, decide_eq_true_eq] at ha
      refine ⟨?_, ?_, ?_⟩
      all_goals simp_all
    obtain ⟨h1, h2, h3⟩ := ha'
    refine ⟨by rw [List.length_append]; simp; omega, ?_⟩
    unfold atomsTo
    rw [List.all_eq_true]
    intro i hi
    have hi' : i < A.length + 1 := by have := List.mem_range.1 hi; rw [List.length_append] at this; simpa using this
    rcases Nat.lt_or_ge i A.length with hlt | hge
    · have h9 := atomI_le h.2 hlt
      unfold atomI at h9 ⊢
      have e : (A ++ [s]).getD i ByteArray.empty = A.getD i ByteArray.empty := by simp [List.getD, List.getElem?_append_left hlt]
      rw [Bool.and_eq_true, decide_eq_true_eq] at h9
      rw [e, Bool.and_eq_true, decide_eq_true_eq]
      exact ⟨h9.1, by rw [idx_app (by rw [h9.2]; omega)]; exact h9.2⟩
    · have hie : i = A.length := by omega
      subst hie
      unfold atomI
      have e : (A ++ [s]).getD A.length ByteArray.empty = s := by simp [List.getD]
      rw [e, Bool.and_eq_true, decide_eq_true_eq]
      refine ⟨h2, idx_at A.length (by rw [List.length_append]; simp) (by simp) (fun j hj => ?_)⟩
      rw [List.getElem_append_left hj]
      rcases idx_cases A s with ⟨_, e3⟩ | ⟨m, hm, e1, _⟩
      · exact e3 j hj
      · rw [h1] at e1; omega
  · exact h
mutual
theorem ptT_atoms : ∀ (t : Tm) (a : Nat) (A : List ByteArray) (ns : List Int) (A' : List ByteArray) (w : Int), atomsB A = true → ptT t a A = some (ns, A', w) → atomsB A' = true
  | .mk k n s l, a, A, ns, A', w, hA, h => by
    rw [ptT] at h
    have same : ∀ {x : List Int} {y : Int}, some (x, A, y) = some (ns, A', w) → atomsB A' = true := fun h => by
      simp only [Option.some.injEq, Prod.mk.injEq] at h
      rw [← h.2.1]; exact hA
    split at h
    · exact same h
    split at h
    · exact same h
    split at h
    · split at h
      · cases h
      · simp only [Option.some.injEq, Prod.mk.injEq] at h
        rw [← h.2.1]; exact atomsB_addL hA
    split at h
    · exact same h
    split at h
    · split at h
      · cases h
      · rename_i ws ns' A1 hp
        simp only [Option.some.injEq, Prod.mk.injEq] at h
        rw [← h.2.1]; exact ptL_atoms l _ A ws ns' A1 hA hp
    split at h
    · exact same h
    · split at h
      · cases h
      · rename_i ws ns' A1 hp
        simp only [Option.some.injEq, Prod.mk.injEq] at h
        rw [← h.2.1]; exact ptL_atoms l _ A ws ns' A1 hA hp
theorem ptL_atoms : ∀ (l : List Tm) (a : Nat) (A : List ByteArray) (ws ns : List Int) (A' : List ByteArray), atomsB A = true → ptL l a A = some (ws, ns, A') → atomsB A' = true
  | [], a, A, ws, ns, A', hA, h => by
    rw [ptL] at h
    simp only [Option.some.injEq, Prod.mk.injEq] at h
    rw [← h.2.2]; exact hA
  | t :: r, a, A, ws, ns, A', hA, h => by
    rw [ptL] at h
    split at h
    · cases h
    · rename_i ns1 A1 w1 hp
      split at h
      · cases h
      · rename_i ws2 ns2 A2 hp2
        simp only [Option.some.injEq, Prod.mk.injEq] at h
        rw [← h.2.2]; exact ptL_atoms r _ _ ws2 ns2 A2 (ptT_atoms t a A ns1 A1 w1 hA hp) hp2
end
mutual
theorem ptT_cntA : ∀ (t : Tm) (a : Nat) (A : List ByteArray) (ns : List Int) (A' : List ByteArray) (w : Int), ptT t a A = some (ns, A', w) → A'.length ≤ A.length + nT t
  | .mk k n s l, a, A, ns, A', w, h => by
    rw [ptT] at h
    rw [nT]
    have same : ∀ {x : List Int} {y : Int}, some (x, A, y) = some (ns, A', w) → A'.length ≤ A.length + (1 + nL l) := fun h => by
      simp only [Option.some.injEq, Prod.mk.injEq] at h
      rw [← h.2.1]; omega
    split at h
    · exact same h
    split at h
    · exact same h
    split at h
    · split at h
      · cases h
      · simp only [Option.some.injEq, Prod.mk.injEq] at h
        have := addL_len A s
        rw [← h.2.1]; omega
    split at h
    · exact same h
    split at h
    · split at h
      · cases h
      · rename_i ws ns' A1 hp
        simp only [Option.some.injEq, Prod.mk.injEq] at h
        have := ptL_cntA l _ A ws ns' A1 hp
        rw [← h.2.1]; omega
    split at h
    · exact same h
    · split at h
      · cases h
      · rename_i ws ns' A1 hp
        simp only [Option.some.injEq, Prod.mk.injEq] at h
        have := ptL_cntA l _ A ws ns' A1 hp
        rw [← h.2.1]; omega
theorem ptL_cntA : ∀ (l : List Tm) (a : Nat) (A : List ByteArray) (ws ns : List Int) (A' : List ByteArray), ptL l a A = some (ws, ns, A') → A'.length ≤ A.length + nL l
  | [], a, A, ws, ns, A', h => by
    rw [ptL] at h
    simp only [Option.some.injEq, Prod.mk.injEq] at h
    rw [← h.2.2]; omega
  | t :: r, a, A, ws, ns, A', h => by
    rw [ptL] at h
    rw [nL]
    split at h
    · cases h
    · rename_i ns1 A1 w1 hp
      split at h
      · cases h
      · rename_i ws2 ns2 A2 hp2
        simp only [Option.some.injEq, Prod.mk.injEq] at h
        have h1 := ptT_cntA t a A ns1 A1 w1 hp
        have h2 := ptL_cntA r _ _ ws2 ns2 A2 hp2
        rw [← h.2.2]; omega
end
theorem shape_kA {k n : Int} {s : ByteArray} {m : Nat} (h : shapeB k n s m = true) : ((k = 1 ∨ k = 2 ∨ k = 3 ∨ k = 6) ∧ m = 0) ∨ k = 4 ∨ k = 5 := by
  by_cases k1 : k = 1
  · subst k1; simp [shapeB] at h; exact .inl ⟨by omega, by omega⟩
  by_cases k2 : k = 2
  · subst k2; simp [shapeB] at h; exact .inl ⟨by omega, by omega⟩
  by_cases k3 : k = 3
  · subst k3; simp [shapeB] at h; exact .inl ⟨by omega, by omega⟩
  by_cases k4 : k = 4
  · exact .inr (.inl k4)
  by_cases k5 : k = 5
  · exact .inr (.inr k5)
  by_cases k6 : k = 6
  · subst k6; simp [shapeB] at h; exact .inl ⟨by omega, by omega⟩
  · exfalso; simp [shapeB, k1, k2, k3, k4, k5, k6] at h
mutual
theorem goodKA : ∀ {t : Tm}, goodT t → AllK t
  | .mk k n s l, h => by
    rw [goodT] at h
    rw [AllK]
    refine ⟨?_, goodKLA h.2⟩
    rcases shape_kA h.1 with ⟨h1, h2⟩ | h1 | h1
    · exact .inl ⟨h1, List.eq_nil_of_length_eq_zero h2⟩
    · exact .inr (.inl h1)
    · exact .inr (.inr h1)
theorem goodKLA : ∀ {l : List Tm}, goodL l → AllKL l
  | [], _ => by rw [AllKL]; trivial
  | t :: r, h => by rw [goodL] at h; rw [AllKL]; exact ⟨goodKA h.1, goodKLA h.2⟩
end
/-- What was put on words and atoms that are few reads back, and what read before reads still. -/
theorem put_reads {xs ns : List Int} {A A' : List ByteArray} {t : Tm} {x : Int} (hp : PtR t xs A = some (ns, A', x)) (hA : A.length ≤ 1048000) :
    readT (hpL (xs ++ ns) A') x = some t ∧ Ext (hpL xs A) (hpL (xs ++ ns) A') ∧ A'.length ≤ A.length + 100 ∧ (xs ++ ns).length ≤ 2000 := by
  unfold PtR at hp
  split at hp
  · rename_i hc
    obtain ⟨g1, g2, g3⟩ := look_b hc.1
    obtain ⟨h1, B, rfl⟩ := ptT_len t _ A ns A' x (goodKA g1) hp
    have hcnt : (A ++ B).length ≤ A.length + 100 := by
      have := ptT_cntA t _ A ns (A ++ B) x hp
      omega
    obtain ⟨y, hy⟩ := Option.isSome_iff_exists.1 hc.1
    have hlen : (xs ++ ns).length ≤ 2000 := by rw [List.length_append]; omega
    refine ⟨?_, ⟨by show xs.length ≤ (xs ++ ns).length; rw [List.length_append]; omega, fun j hj => ?_, ⟨B, rfl⟩⟩, hcnt, hlen⟩
    · have h9 := back_T (H := hpL (xs ++ ns) (A ++ B)) ⟨by show (xs ++ ns).length ≤ 1048576; omega, by show (A ++ B).length ≤ 1048576; omega⟩ t xs.length A ns (A ++ B) x 6 100 y (goodKA g1) hy hp (fun j hj => by
        show (xs ++ ns).getD (xs.length + j) 0 = ns[j]
        simp [List.getD, hj]) (by show xs.length + ns.length ≤ (xs ++ ns).length; rw [List.length_append]; omega) ⟨[], by simp [hpL]⟩
      unfold readT
      rw [h9]
      rfl
    · show (xs ++ ns).getD j 0 = xs.getD j 0
      have hj' : j < xs.length := hj
      simp [List.getD, List.getElem?_append_left hj']
  · cases hp
/-- The heap is right. -/
def RDH (xs : List Int) (A : List ByteArray) (ws : List Int) : Prop := atomsB A = true ∧ ∀ x ∈ ws, ∃ t, readT (hpL xs A) x = some t
theorem RDH.nil : RDH [] [] [] := ⟨by decide, fun x hx => by cases hx⟩
theorem RDH.put {xs ns : List Int} {A A' : List ByteArray} {ws : List Int} {t : Tm} {x : Int} (h : RDH xs A ws) (hp : PtR t xs A = some (ns, A', x)) : RDH (xs ++ ns) A' (ws ++ [x]) := by
  have hA : A.length ≤ 200 := by
    have := h.1
    unfold atomsB at this
    rw [Bool.and_eq_true, decide_eq_true_eq] at this
    exact this.1
  obtain ⟨r1, r2, _, _⟩ := put_reads hp (by omega)
  refine ⟨?_, fun y hy => ?_⟩
  · unfold PtR at hp
    split at hp
    · exact ptT_atoms t _ A ns A' x h.1 hp
    · cases hp
  · rcases List.mem_append.1 hy with hy | hy
    · obtain ⟨u, hu⟩ := h.2 y hy
      exact ⟨u, ext_readT r2 hu⟩
    · have : y = x := by simpa using hy
      subst this
      exact ⟨t, r1⟩
/-- Both: sizes, and right. -/
def BWR (xs : List Int) (A : List ByteArray) (ws : List Int) : Prop := BW xs A ws ∧ RDH xs A ws
theorem BWR.nil : BWR [] [] [] := ⟨BW.nil, RDH.nil⟩
theorem BWR.put {xs ns : List Int} {A A' : List ByteArray} {ws : List Int} {t : Tm} {x : Int} (h : BWR xs A ws) (hp : PtR t xs A = some (ns, A', x)) : BWR (xs ++ ns) A' (ws ++ [x]) := ⟨h.1.put hp, h.2.put hp⟩
end Go.Proofs.Ytabgfaafpgholaa
