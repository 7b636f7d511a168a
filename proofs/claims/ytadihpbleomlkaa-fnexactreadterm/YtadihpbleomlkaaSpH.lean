/-
  Both kinds of HeapOk.
-/
import Derived.Test.YtadihpbleomlkaaSpG
namespace Go.Proofs.Ytadihpbleomlkaa
open Go.RowKit
set_option linter.unusedVariables false

set_option maxHeartbeats 1000000 in
theorem specReadP (E : Env) (w : World) (h : Src E w) (x : Int) (hx : x ≤ 9223372036854775807) :
    Calls Try.prog 25 #[.agg #[.slice E.wv E.H.N E.cap], .slice E.av E.H.A.length E.acap, .int .i64 x] w (ReadP E w x) := by
  have HS : Hid (Src E w) := h
  have HX : Hid (x ≤ 9223372036854775807) := hx
  clear h hx
  unfold ReadP
  generalize hRR : readT E.H x = RR
  have HRR : Hid (readT E.H x = RR) := hRR
  clear hRR
  go_enter Try.func25, Try.ntmps25
  go_wp2_with fail
  generalize hW : (w.alloc (.cells #[.slice E.wv E.H.N E.cap] 32)).alloc (.cells #[.int .i64 0, .int .i64 0, .string ⟨#[]⟩, .slice none 0 0] 39) = W
  have hk1 : Below w.heap.size w (w.alloc (.cells #[.slice E.wv E.H.N E.cap] 32)) := (Below.refl _ _).alloc (Nat.le_refl _) _
  have hz1 : (w.alloc (.cells #[.slice E.wv E.H.N E.cap] 32)).heap.size = w.heap.size + 1 := World.size_alloc _ _
  generalize (w.alloc (.cells #[.slice E.wv E.H.N E.cap] 32)) = w1 at *
  have hb2 : Below w.heap.size w W := by rw [← hW]; exact hk1.alloc (by omega) _
  have hz2 : W.heap.size = w.heap.size + 2 := by rw [← hW, World.size_alloc, hz1]
  have q2 : ∀ o, W.cell? ⟨w.heap.size + 1, o, none⟩ = (#[.int .i64 0, .int .i64 0, .string ⟨#[]⟩, .slice none 0 0] : Array Value)[o]? := fun o => by rw [← hW, ← hz1]; exact World.cell?_alloc_new w1 _ _ o
  have f2 : ∀ o, W.frozen? ⟨w.heap.size + 1, o, none⟩ = false := fun o => by rw [← hW, ← hz1]; exact World.frozen?_alloc_new w1 _ _ o
  have HB2 : Hid (Below w.heap.size w W) := hb2
  clear hW hk1 hz1 hb2
  refine (l5Term_any E W (HS.out.below HB2.out) x HX.out).mono ?_
  rintro e w5 ⟨va, vb, vc, vd, ve, vf, rfl, hb5, hd5⟩
  rw [HRR.out] at hd5 ⊢
  have q5 : ∀ o, w5.cell? ⟨w.heap.size + 1, o, none⟩ = (#[.int .i64 0, .int .i64 0, .string ⟨#[]⟩, .slice none 0 0] : Array Value)[o]? := fun o => by rw [hb5.cell (p := ⟨w.heap.size + 1, o, none⟩) (by show w.heap.size + 1 < _; omega)]; exact q2 o
  have f5 : ∀ o, w5.frozen? ⟨w.heap.size + 1, o, none⟩ = false := fun o => by rw [hb5.frozen (p := ⟨w.heap.size + 1, o, none⟩) (by show w.heap.size + 1 < _; omega)]; exact f2 o
  have HB5 : Hid (Below w.heap.size w w5) := HB2.out.trans (hb5.mono (by omega))
  have HD5 : Hid ((∃ t, RR = some t ∧ RpV (fun b => W.heap.size ≤ b) w5 t (.agg #[.int .i64 va, .int .i64 vb, .string vc, .slice vd ve vf])) ∨ (RR = none ∧ Value.agg #[.int .i64 va, .int .i64 vb, .string vc, .slice vd ve vf] = zT)) := hd5
  clear hb5 hd5 q2 f2
  go_wp2_with fail
  refine bodyPost_ret (v := .tuple #[.agg #[.int .i64 va, .int .i64 vb, .string vc, .slice vd ve vf], .bool RR.isSome]) (by simp [results, Try.results25, go_sem, q5]) rfl ⟨va, vb, vc, vd, ve, vf, rfl, lay4_below HB5.out (by omega) _ _ _ _, ?_⟩
  rcases HD5.out with ⟨t, ht, hv⟩ | hn
  · refine .inl ⟨t, ht, Moves.repV (S := fun b => W.heap.size ≤ b) (fun b' o' v' hb' hc' => ?_) hv⟩
    have : W.heap.size ≤ b' := hb'
    exact ⟨by show w.heap.size ≤ b'; omega, (lay4_cell (by omega)).trans hc'⟩
  · exact .inr hn

/-! ### The atoms -/
def atomI (L : List ByteArray) (i : Nat) : Bool := Atom.atomB (L.getD i ByteArray.empty) && decide (idx L (L.getD i ByteArray.empty) = i)
def atomsTo (L : List ByteArray) (n : Nat) : Bool := (List.range n).all (atomI L)
def atomsB (L : List ByteArray) : Bool := decide (L.length ≤ 200) && atomsTo L L.length
theorem atomsTo_succ (L : List ByteArray) (n : Nat) : atomsTo L (n + 1) = (atomsTo L n && atomI L n) := by
  unfold atomsTo
  rw [List.range_succ, List.all_append, List.all_cons, List.all_nil, Bool.and_true]
theorem atomsTo_bad (L : List ByteArray) (i n : Nat) (hi : i < n) (h : atomI L i = false) : atomsTo L n = false := by
  unfold atomsTo
  rw [List.all_eq_false]
  exact ⟨i, List.mem_range.2 hi, by rw [h]; simp⟩
theorem getD_lt (L : List ByteArray) (i : Nat) (h : i < L.length) : L.getD i ByteArray.empty = L[i] := by simp [h]

set_option maxHeartbeats 1000000 in
theorem specAtoms_any (b o cap : Nat) (av : Option Addr) (L : List ByteArray) (w : World) (hav : L.length ≠ 0 → av = some ⟨b, o, none⟩) (hr : Txt w b o L) (hN : L.length ≤ 1048576) (hs : ∀ s, s ∈ L → s.size ≤ maxLen) :
    Calls Try.prog 60 #[.slice av L.length cap] w fun e w' => e = .returned (.bool (atomsB L)) ∧ w' = w := by
  have HR : Hid (Txt w b o L) := hr
  have HS : Hid (∀ s, s ∈ L → s.size ≤ maxLen) := hs
  have HAV : Hid (L.length ≠ 0 → av = some ⟨b, o, none⟩) := hav
  have HN : Hid (L.length ≤ 1048576) := hN
  clear hr hs hav
  go_enter Try.func60, Try.ntmps60
  go_wp2_with fail
  go_loop [3] (fun i => ∃ m : Nat, m ≤ L.length ∧ i = .int .i64 m ∧ atomsTo L m = true) (fun i => L.length - (intOf i).toNat)
  case atStart => exact ⟨0, Nat.zero_le _, rfl, rfl⟩
  case round =>
    obtain ⟨m, hm, rfl, ha⟩ := hrel
    have HA : Hid (atomsTo L m = true) := ha
    clear ha
    by_cases hlt : m < L.length
    · have q := HR.out m hlt
      have HSM : Hid (L[m].size ≤ maxLen) := HS.out _ (List.getElem_mem hlt)
      have HI : Hid (atomI L m = (Atom.atomB L[m] && decide (idx L L[m] = m))) := by show _ = _; unfold atomI; rw [getD_lt L m hlt]
      obtain rfl := HAV.out (by omega)
      generalize L[m] = s at *
      cases h1 : Atom.atomB s with
      | false =>
        have H1 : Hid (Atom.atomB s = false) := h1
        have HE : Hid (atomsB L = false) := by show _ = _; unfold atomsB; rw [atomsTo_bad L m _ hlt (by rw [HI.out, h1]; rfl), Bool.and_false]
        clear h1
        go_wp2_with (first | (go_at_call 86; refine (Atom.spec_any s _ HSM.out).mono ?_; rintro e w' ⟨rfl, rfl⟩; rw [H1.out]))
        go_ret
        exact ⟨ret_bool HE.out.symm, rfl⟩
      | true =>
        have H1 : Hid (Atom.atomB s = true) := h1
        by_cases h2 : idx L s = m
        · have H2 : Hid (idx L s = m) := h2
          have HE : Hid (atomsTo L (m + 1) = true) := by show _ = _; rw [atomsTo_succ, HA.out, HI.out, h1, h2]; simp
          clear h1 h2
          go_wp2_with (first | (go_at_call 86; refine (Atom.spec_any s _ HSM.out).mono ?_; rintro e w' ⟨rfl, rfl⟩; rw [H1.out]) | (go_at_call 87; refine (specAtomAt_any b o cap L s _ HR.out HN.out).mono ?_; rintro e w' ⟨rfl, rfl⟩; rw [H2.out]))
          go_round
          case rel => exact ⟨m + 1, by omega, by go_num, HE.out⟩
          case measure => simp [intOf]; omega
        · have HE : Hid (atomsB L = false) := by show _ = _; unfold atomsB; rw [atomsTo_bad L m _ hlt (by rw [HI.out, h1]; simp [h2]), Bool.and_false]
          obtain ⟨z, hz⟩ : ∃ z, idx L s = z := ⟨_, rfl⟩
          have H2 : Hid (idx L s = z) := hz
          have hzz : (z != (m : Int)) = true := by rw [hz] at h2; simpa using h2
          clear h1 h2 hz
          go_wp2_with (first | (go_at_call 86; refine (Atom.spec_any s _ HSM.out).mono ?_; rintro e w' ⟨rfl, rfl⟩; rw [H1.out]) | (go_at_call 87; refine (specAtomAt_any b o cap L s _ HR.out HN.out).mono ?_; rintro e w' ⟨rfl, rfl⟩; rw [H2.out]))
          go_ret
          exact ⟨ret_bool HE.out.symm, rfl⟩
    · have hml : m = L.length := by omega
      have HE : Hid (atomsB L = decide ((L.length : Int) ≤ 200)) := by
        show _ = _
        unfold atomsB
        rw [← hml, HA.out, Bool.and_true, hml, decide_eq_decide]
        omega
      clear hml
      go_wp2_with fail
      go_ret
      exact ⟨ret_bool HE.out.symm, rfl⟩
set_option maxHeartbeats 1000000 in
theorem implAtoms_any (b o cap : Nat) (av : Option Addr) (L : List ByteArray) (w : World) (hav : L.length ≠ 0 → av = some ⟨b, o, none⟩) (hr : Txt w b o L) (hN : L.length ≤ 1048576) (hs : ∀ s, s ∈ L → s.size ≤ maxLen) :
    Calls Try.prog 61 #[.slice av L.length cap] w fun e w' => e = .returned (.bool (atomsB L)) ∧ Below w.heap.size w w' := by
  have HR : Hid (Txt w b o L) := hr
  have HS : Hid (∀ s, s ∈ L → s.size ≤ maxLen) := hs
  have HAV : Hid (L.length ≠ 0 → av = some ⟨b, o, none⟩) := hav
  have HN : Hid (L.length ≤ 1048576) := hN
  clear hr hs hav
  by_cases hl : L.length ≤ 200
  · have hd : decide ((200 : Int) < (L.length : Int)) = false := by simp; omega
    go_enter Try.func61, Try.ntmps61
    go_wp2_with fail
    go_loopw [10] (fun i wr => ∃ m : Nat, m ≤ L.length ∧ i = .int .i64 m ∧ atomsTo L m = true ∧ Below w.heap.size w wr) (fun i _ => L.length - (intOf i).toNat)
    case atStart => exact ⟨0, Nat.zero_le _, rfl, rfl, Below.refl _ _⟩
    case round =>
      obtain ⟨m, hm, rfl, ha, hb⟩ := hrel
      have HA : Hid (atomsTo L m = true) := ha
      have HB : Hid (Below w.heap.size w wr) := hb
      clear ha hb
      by_cases hlt : m < L.length
      · have q := HR.out.below HB.out m hlt
        have HSM : Hid (L[m].size ≤ maxLen) := HS.out _ (List.getElem_mem hlt)
        have HI : Hid (atomI L m = (Atom.atomB L[m] && decide (idx L L[m] = m))) := by show _ = _; unfold atomI; rw [getD_lt L m hlt]
        obtain rfl := HAV.out (by omega)
        generalize L[m] = s at *
        cases h1 : Atom.atomB s with
        | false =>
          have H1 : Hid (Atom.atomB s = false) := h1
          have HE : Hid (atomsB L = false) := by show _ = _; unfold atomsB; rw [atomsTo_bad L m _ hlt (by rw [HI.out, h1]; rfl), Bool.and_false]
          clear h1
          go_wp2_with (first | (go_at_call 88; refine (atom_below s _ HSM.out).mono ?_; rintro e w5 ⟨rfl, hb5⟩; rw [H1.out]; have HB5 : Hid (Below w.heap.size w w5) := HB.out.trans (hb5.mono HB.out.size); clear hb5))
          go_ret
          exact ⟨ret_bool HE.out.symm, HB5.out⟩
        | true =>
          have H1 : Hid (Atom.atomB s = true) := h1
          by_cases h2 : idx L s = m
          · have H2 : Hid (idx L s = m) := h2
            have HE : Hid (atomsTo L (m + 1) = true) := by show _ = _; rw [atomsTo_succ, HA.out, HI.out, h1, h2]; simp
            clear h1 h2
            go_wp2_with (first | (go_at_call 88; refine (atom_below s _ HSM.out).mono ?_; rintro e w5 ⟨rfl, hb5⟩; rw [H1.out]; have HB5 : Hid (Below w.heap.size w w5) := HB.out.trans (hb5.mono HB.out.size); clear hb5) | (go_at_call 89; refine (implAtomAt_any b o cap L s _ (HR.out.below HB5.out) HN.out).mono ?_; rintro e w' ⟨rfl, hw'⟩; obtain rfl := hw'.symm; rw [H2.out]))
            go_roundw
            case rel => exact ⟨m + 1, by omega, by go_num, HE.out, HB5.out⟩
            case measure => simp [intOf]; omega
          · have HE : Hid (atomsB L = false) := by show _ = _; unfold atomsB; rw [atomsTo_bad L m _ hlt (by rw [HI.out, h1]; simp [h2]), Bool.and_false]
            obtain ⟨z, hz⟩ : ∃ z, idx L s = z := ⟨_, rfl⟩
            have H2 : Hid (idx L s = z) := hz
            have hzz : (z != (m : Int)) = true := by rw [hz] at h2; simpa using h2
            clear h1 h2 hz
            go_wp2_with (first | (go_at_call 88; refine (atom_below s _ HSM.out).mono ?_; rintro e w5 ⟨rfl, hb5⟩; rw [H1.out]; have HB5 : Hid (Below w.heap.size w w5) := HB.out.trans (hb5.mono HB.out.size); clear hb5) | (go_at_call 89; refine (implAtomAt_any b o cap L s _ (HR.out.below HB5.out) HN.out).mono ?_; rintro e w' ⟨rfl, hw'⟩; obtain rfl := hw'.symm; rw [H2.out]))
            go_ret
            exact ⟨ret_bool HE.out.symm, HB5.out⟩
      · have hml : m = L.length := by omega
        have HE : Hid (atomsB L = true) := by
          show _ = _
          unfold atomsB
          rw [← hml, HA.out, Bool.and_true, hml]
          simp [hl]
        clear hml
        go_wp2_with fail
        go_ret
        exact ⟨ret_bool HE.out.symm, HB.out⟩
  · have hd : decide ((200 : Int) < (L.length : Int)) = true := by simp; omega
    have HE : Hid (atomsB L = false) := by show _ = _; unfold atomsB; simp [hl]
    go_enter Try.func61, Try.ntmps61
    go_wp2_with fail
    go_ret
    exact ⟨ret_bool HE.out.symm, Below.refl _ _⟩
end Go.Proofs.Ytadihpbleomlkaa
