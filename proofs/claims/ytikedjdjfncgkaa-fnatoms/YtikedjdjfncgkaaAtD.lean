/-
  A drawn list of atoms and one more: what DrawAddAtom answers, and that the law of atoms holds of it.
-/
import Derived.Test.YtikedjdjfncgkaaAtC
namespace Go.Proofs.Ytikedjdjfncgkaa
open Go.RowKit
set_option linter.unusedVariables false

theorem Cur.same {cb : Nat} {ao : Option Addr} {len cap : Nat} {zs : List Int} {w w' : World} (h : Cur cb ao len cap zs w) (hs : ∀ b, b ≤ cb → w'.heap[b]? = w.heap[b]?) : Cur cb ao len cap zs w' := by
  have e : ∀ b o, b ≤ cb → w'.cell? ⟨b, o, none⟩ = w.cell? ⟨b, o, none⟩ := fun b o hb => World.cell?_of_block (w := w) (hs b hb)
  obtain ⟨i, hi, h1⟩ := h.c1
  obtain ⟨x, h2⟩ := h.c2
  refine ⟨by rw [e _ _ (Nat.le_refl _)]; exact h.c0, ⟨i, hi, by rw [e _ _ (Nat.le_refl _)]; exact h1⟩, ⟨x, by rw [e _ _ (Nat.le_refl _)]; exact h2⟩, fun o => by rw [World.frozen?_of_block (w := w) (hs cb (Nat.le_refl _))]; exact h.free o, fun hn => ?_, h.rng, h.small⟩
  obtain ⟨b, off, e1, e2, e3⟩ := h.code hn
  exact ⟨b, off, e1, e2, fun j hj => by rw [e _ _ (Nat.le_of_lt e2)]; exact e3 j hj⟩

theorem dec_all (u : Nat) : ∀ b ∈ Lib.decDigits u, 48 ≤ b.toNat ∧ b.toNat ≤ 57 := by
  induction u using Nat.strongRecOn with
  | ind u ih =>
    intro b hb
    by_cases hu : u < 10
    · rw [Lib.decDigits_one hu] at hb
      obtain rfl : b = UInt8.ofNat (48 + u) := by simpa using hb
      simp; omega
    · rw [Lib.decDigits, dif_neg (by omega : ¬ u < 10)] at hb
      rcases List.mem_append.1 hb with h | h
      · exact ih (u / 10) (by omega) b h
      · obtain rfl : b = UInt8.ofNat (48 + u % 10) := by simpa using h
        simp; omega
theorem dec_len {u : Nat} (h : u < 1000) : (Lib.decDigits u).length ≤ 3 := by
  by_cases h1 : u < 10
  · rw [Lib.decDigits_one h1]; simp
  · rw [Lib.decDigits, dif_neg (by omega : ¬ u < 10), List.length_append]
    by_cases h2 : u / 10 < 10
    · rw [Lib.decDigits_one h2]; simp
    · rw [Lib.decDigits, dif_neg (by omega : ¬ u / 10 < 10), List.length_append, Lib.decDigits_one (by omega : u / 10 / 10 < 10)]; simp
theorem x_atom {A : List UInt8} (h : ∀ b ∈ A, 48 ≤ b.toNat ∧ b.toNat ≤ 57) (hl : A.length ≤ 3) : Atom.atomB (⟨#[120]⟩ ++ ⟨A.toArray⟩) = true := by
  have e : (⟨#[120]⟩ ++ ⟨A.toArray⟩ : ByteArray) = ⟨(120 :: A).toArray⟩ := ByteArray.mk_append_mk [120] A
  rw [e]
  have hs : (⟨(120 :: A).toArray⟩ : ByteArray).size = A.length + 1 := by show (120 :: A).toArray.size = _; simp
  unfold Atom.atomB
  rw [hs, Bool.and_eq_true]
  refine ⟨?_, by simp; omega⟩
  unfold Atom.allTo
  rw [List.all_eq_true]
  intro i hi
  rw [List.mem_range] at hi
  show Atom.chOk i ((120 :: A).getD i 0).toNat = true
  cases i with
  | zero => rfl
  | succ j =>
    have hj : j < A.length := by omega
    have : (120 :: A).getD (j + 1) 0 = A[j] := by simp [hj]
    rw [this]
    have hb := h _ (List.getElem_mem hj)
    exact Atom.chOk_true (.inr ⟨by omega, hb.1, hb.2⟩)
def lenV : Value → Nat
  | .slice _ n _ => n
  | _ => 0

set_option maxHeartbeats 2000000 in
set_option maxRecDepth 100000 in
theorem drawAdd_any (w : World) (ao : Option Addr) (len cap : Nat) (zs : List Int) (hr : IsRow w ao len cap zs) (hsm : len ≤ 1048576) :
    Calls Try.prog 32 #[.slice ao len cap] w fun e w' => ∃ (v : Value) (L : List ByteArray) (s : ByteArray), e = .returned (.tuple #[v, .string s]) ∧ Row1 w' w.heap.size v L ∧ AllA L ∧ L.length ≤ 200 ∧ s.size ≤ maxLen ∧ Below w.heap.size w w' := by
  have HR : Hid (IsRow w ao len cap zs) := hr
  clear hr
  obtain ⟨i0, hi, hz0, hz1, hz2⟩ := info_parts infoStr1
  have HI : Hid (Try.prog.info? 9 = some i0 ∧ i0.zero = some (.string ByteArray.empty) ∧ i0.size = 1 ∧ i0.bytes = 16) := ⟨hi, hz0, hz1, hz2⟩
  clear hi hz0 hz1 hz2
  go_enter Try.func32, Try.ntmps32
  go_wp2_with fail
  refine (new_any _ ao len cap zs HR.out hsm).mono ?_
  rintro e w1 ⟨rfl, hc1, hb1, hz1⟩
  have HC : Hid (Cur w.heap.size ao len cap zs w1) := hc1
  have HB : Hid (Below w.heap.size w w1 ∧ w.heap.size < w1.heap.size) := ⟨hb1, by omega⟩
  clear hc1 hb1 hz1
  go_wp2_with fail
  refine (atoms_any w.heap.size ao len cap zs w1 HC.out HB.out.2).mono ?_
  rintro e w2 ⟨v2, L2, rfl, hrow2, ha2, hl2, hd2⟩
  have HS2 : Hid (Row1 w2 w1.heap.size v2 L2 ∧ AllA L2 ∧ Drawn w.heap.size ao len cap zs w1 w2) := ⟨hrow2, ha2, hd2⟩
  clear hrow2 ha2 hd2
  go_wp2_with fail
  refine (once_any w.heap.size ao len cap zs w2 HS2.out.2.2.1 20 (by decide) (by decide)).mono ?_
  rintro e w3 ⟨u, rfl, hd3⟩
  have HS3 : Hid (Row1 w3 w1.heap.size v2 L2 ∧ AllA L2 ∧ Drawn w.heap.size ao len cap zs w1 w3) := ⟨HS2.out.1.turn hd3.2 HB.out.2, HS2.out.2.1, HS2.out.2.2.andD hd3⟩
  clear hd3 HS2
  have FIN : Hid (∀ (wr : World) (L : List ByteArray) (v : Value), Row1 wr w1.heap.size v L → Drawn w.heap.size ao len cap zs w1 wr →
      Calls Try.prog 69 #[.pointer (some ⟨w.heap.size, 0, none⟩), .slice (some ⟨wr.heap.size, 0, none⟩) 5 5] (wr.alloc (.cells #[.string ⟨#[111, 107]⟩, .string ⟨#[97]⟩, .string ⟨#[110, 101, 119]⟩, .string ⟨#[]⟩, .string ⟨#[65]⟩] 9)) fun e w' => ∃ s, e = .returned (.string s) ∧ s.size ≤ maxLen ∧ Row1 w' w.heap.size v L ∧ Below w.heap.size w w') := fun wr L v hrow hd => by
    refine (str_any w.heap.size ao len cap zs _ (hd.1.alloc _) wr.heap.size [⟨#[111, 107]⟩, ⟨#[97]⟩, ⟨#[110, 101, 119]⟩, ⟨#[]⟩, ⟨#[65]⟩] (by have := HB.out.2; have := hd.2.size; omega) (by simp) (by simp) ?_).mono ?_
    · exact news_strs wr [⟨#[111, 107]⟩, ⟨#[97]⟩, ⟨#[110, 101, 119]⟩, ⟨#[]⟩, ⟨#[65]⟩] _
    rintro e w5 ⟨s, rfl, hs, hd5⟩
    refine ⟨s, rfl, ?_, ?_, ?_⟩
    · simp only [List.mem_cons, List.not_mem_nil, or_false] at hs
      rcases hs with rfl | rfl | rfl | rfl | rfl <;> decide
    · obtain ⟨g, cc, rfl, ho⟩ := hrow
      exact (Row1.turn ⟨g, cc, rfl, ho.alloc _⟩ hd5.2 HB.out.2).mono (by have := HB.out.2; omega)
    · have h1 : Below w.heap.size w wr := Turn.below HB.out.1 (by have := HB.out.2; omega) hd.2 (Nat.le_refl _)
      have h2 := h1.alloc h1.size (.cells #[.string ⟨#[111, 107]⟩, .string ⟨#[97]⟩, .string ⟨#[110, 101, 119]⟩, .string ⟨#[]⟩, .string ⟨#[65]⟩] 9)
      exact Turn.below h2 h2.size hd5.2 (Nat.le_refl _)
  cases u with
  | false =>
    obtain ⟨g, cc, rfl, ho⟩ := HS3.out.1
    clear ho
    go_wp2_with fail
    refine (FIN.out w3 L2 _ HS3.out.1 HS3.out.2.2).mono ?_
    rintro e w5 ⟨s, rfl, hs, hrow, hb⟩
    have HF : Hid (Row1 w5 w.heap.size (.slice (some ⟨g, 0, none⟩) L2.length cc) L2 ∧ s.size ≤ maxLen ∧ Below w.heap.size w w5) := ⟨hrow, hs, hb⟩
    clear hs hrow hb
    go_wp2_with fail
    exact bodyPost_ret (v := .tuple #[.slice (some ⟨g, 0, none⟩) L2.length cc, .string s]) (by simp [results, Try.results32, go_sem]) rfl ⟨_, L2, s, rfl, HF.out.1, HS3.out.2.1, by omega, HF.out.2.1, HF.out.2.2⟩
  | true =>
    go_wp2_with fail
    go_loopw [5] (fun l wr => ∃ L : List ByteArray, Row1 wr w1.heap.size l L ∧ AllA L ∧ L.length ≤ 200 ∧ Drawn w.heap.size ao len cap zs w1 wr) (fun l _ => 200 - lenV l)
    case atStart => exact ⟨L2, HS3.out.1, HS3.out.2.1, by omega, HS3.out.2.2⟩
    case round =>
      obtain ⟨L, hrow, ha, hl, hd⟩ := hrel
      obtain ⟨g, cc, rfl, ho⟩ := hrow
      have HO : Hid (Row1 wr w1.heap.size (.slice (some ⟨g, 0, none⟩) L.length cc) L ∧ AllA L ∧ Drawn w.heap.size ao len cap zs w1 wr) := ⟨⟨g, cc, rfl, ho⟩, ha, hd⟩
      clear ho ha hd
      go_wp2_with fail
      refine (below_any w.heap.size ao len cap zs wr HO.out.2.2.1 2 (by decide) (by decide)).mono ?_
      rintro e w4 ⟨x, rfl, hx0, hx1, hd4⟩
      have HO4 : Hid (Row1 w4 w1.heap.size (.slice (some ⟨g, 0, none⟩) L.length cc) L ∧ AllA L ∧ Drawn w.heap.size ao len cap zs w1 w4) := ⟨HO.out.1.turn hd4.2 HB.out.2, HO.out.2.1, HO.out.2.2.andD hd4⟩
      clear hd4 HO
      by_cases hlt : (L.length : Int) < 199 + x
      · go_wp2_with fail
        refine (num_any (L.length : Int) (by omega) (by omega) w4).mono ?_
        rintro e w5 ⟨rfl, hb5⟩
        have hit : Lib.itoa (L.length : Int) = Lib.decDigits L.length := by
          unfold Lib.itoa
          rw [if_neg (by omega)]; simp
        rw [hit]
        clear hit
        have HXA : Hid (Atom.atomB (⟨#[120]⟩ ++ ⟨(Lib.decDigits L.length).toArray⟩) = true) := x_atom (dec_all _) (dec_len (by omega))
        have hAl := dec_len (u := L.length) (by omega)
        generalize Lib.decDigits L.length = A at *
        have HO5 : Hid (w5.ownsRow w1.heap.size 9 1 (.slice (some ⟨g, 0, none⟩) L.length cc) L.length (L.map Value.string) ∧ Drawn w.heap.size ao len cap zs w1 w5) := by
          obtain ⟨g', cc', e', ho'⟩ := HO4.out.1
          cases e'
          have hg5 : w4.grownBy w5 none := ⟨hb5.os, hb5.tape, hb5.output, hb5.size, fun k hk _ => hb5.block k hk⟩
          exact ⟨ho'.kept hg5 (.inr (by simp [Value.ownBlock])), HO4.out.2.2.belowD hb5⟩
        obtain ⟨s, hs⟩ : ∃ s, s = (⟨#[120]⟩ ++ ⟨A.toArray⟩ : ByteArray) := ⟨_, rfl⟩
        have HSS : Hid (s = (⟨#[120]⟩ ++ ⟨A.toArray⟩ : ByteArray)) := hs
        have HO6 : Hid ((w5.alloc (.cells #[.string (⟨#[120]⟩ ++ ⟨A.toArray⟩)] 9)).ownsRow w1.heap.size 9 1 (.slice (some ⟨g, 0, none⟩) L.length cc) L.length (L.map Value.string)) := HO5.out.1.alloc _
        have HL6 : Hid ([Value.string (⟨#[120]⟩ ++ ⟨A.toArray⟩)].length = 1 * 1) := rfl
        have C3 : Hid (L.length + 1 ≤ maxLen) := by show _ ≤ _; unfold maxLen; omega
        have C4 : Hid ((L.length + 1) * 16 ≤ 140737488355328) := by show _ ≤ _; omega
        have hz5 := HO5.out.2.2.size
        have HB6 : Hid (w1.heap.size ≤ (w5.alloc (.cells #[.string (⟨#[120]⟩ ++ ⟨A.toArray⟩)] 9)).heap.size) := by show _ ≤ _; rw [World.size_alloc]; omega
        clear hs hb5 hz5
        go_wp2_with (at_builtin; refine wpList_append_own_at _ rfl _ _ 46 rfl w1.heap.size 9 i0 (.string ByteArray.empty) 1 16 undStrs1 HI.out.1 HI.out.2.1 HI.out.2.2.1 HI.out.2.2.2 rfl Nat.zero_lt_one _ L.length _ rfl HO6.out ⟨_, 0, none⟩ 1 1 [.string (⟨#[120]⟩ ++ ⟨A.toArray⟩)] rfl HL6.out (src1 _ _ _) (one1 _) C3.out C4.out HB6.out ?_; intro v7 w7 hown7 hgr7 hnn7 hat7)
        have hrow7 : Row1 w7 w1.heap.size v7 (L ++ [⟨#[120]⟩ ++ ⟨A.toArray⟩]) := row_of (by rw [List.map_append]; exact hown7) (fun e => by have := (hnn7.1 e).1; cases this)
        have HR7 : Hid (Row1 w7 w1.heap.size v7 (L ++ [⟨#[120]⟩ ++ ⟨A.toArray⟩])) := hrow7
        have hd7 : Drawn w.heap.size ao len cap zs w1 w7 := by
          have hb6 : Below w5.heap.size w5 (w5.alloc (.cells #[.string (⟨#[120]⟩ ++ ⟨A.toArray⟩)] 9)) := (Below.refl _ _).alloc (Nat.le_refl _) _
          have hd6 := HO5.out.2.belowD hb6
          have hg7 : ∀ k, k < w1.heap.size → w7.heap[k]? = (w5.alloc (.cells #[.string (⟨#[120]⟩ ++ ⟨A.toArray⟩)] 9)).heap[k]? := fun k hk => hgr7.block k (Nat.lt_of_lt_of_le hk hd6.2.size) (fun e => by
            have := (HO6.out.lt g rfl).1
            have e2 : some k = some g := e
            injection e2 with e2
            omega)
          refine ⟨hd6.1.same fun b hb => ?_, ⟨hgr7.os.trans hd6.2.os, hgr7.tape.trans hd6.2.tape, hgr7.output.trans hd6.2.output, Nat.le_trans hd6.2.size hgr7.size, fun k hk hn => (hg7 k hk).trans (hd6.2.block k hk hn)⟩⟩
          exact hg7 b (by have := HB.out.2; omega)
        have HD7 : Hid (Drawn w.heap.size ao len cap zs w1 w7) := hd7
        have HA7 : Hid (AllA (L ++ [⟨#[120]⟩ ++ ⟨A.toArray⟩])) := fun x hx => by
          rcases List.mem_append.1 hx with h | h
          · exact HO4.out.2.1 x h
          · obtain rfl : x = ⟨#[120]⟩ ++ ⟨A.toArray⟩ := by simpa using h
            exact HXA.out
        have HV7 : Hid (lenV v7 = L.length + 1) := by
          obtain ⟨g', cc', e', _⟩ := hrow7
          show lenV v7 = _
          rw [e']; simp [lenV]
        clear hrow7 hd7 hown7 hgr7 hnn7 hat7
        go_roundw
        case rel => exact ⟨_, HR7.out, HA7.out, by simp; omega, HD7.out⟩
        case measure => show 200 - lenV v7 < 200 - L.length; rw [HV7.out]; omega
      · go_wp2_with fail
        refine (FIN.out w4 L _ HO4.out.1 HO4.out.2.2).mono ?_
        rintro e w5 ⟨s, rfl, hs, hrow, hb⟩
        have HF : Hid (Row1 w5 w.heap.size (.slice (some ⟨g, 0, none⟩) L.length cc) L ∧ s.size ≤ maxLen ∧ Below w.heap.size w w5) := ⟨hrow, hs, hb⟩
        clear hs hrow hb
        go_wp2_with fail
        exact bodyPost_ret (v := .tuple #[.slice (some ⟨g, 0, none⟩) L.length cc, .string s]) (by simp [results, Try.results32, go_sem]) rfl ⟨_, L, s, rfl, HF.out.1, HO4.out.2.1, hl, HF.out.2.1, HF.out.2.2⟩
end Go.Proofs.Ytikedjdjfncgkaa
