/-
  Drawn atoms: what l4Atoms and DrawAddAtom answer.
-/
import Derived.Test.YtikedjdjfncgkaaNuA
import Derived.Test.YtikedjdjfncgkaaSgD
namespace Go.Proofs.Ytikedjdjfncgkaa
open Go.RowKit
set_option linter.unusedVariables false

set_option maxHeartbeats 1000000 in
theorem str_any (cb : Nat) (ao : Option Addr) (len cap : Nat) (zs : List Int) (w : World) (hc : Cur cb ao len cap zs w) (g : Nat) (l : List ByteArray) (hg : g ≠ cb) (hl0 : 1 ≤ l.length) (hl1 : l.length ≤ 256) (hcell : ∀ j, j < l.length → w.cell? ⟨g, j, none⟩ = some (.string (l.getD j ByteArray.empty))) :
    Calls Try.prog 69 #[.pointer (some ⟨cb, 0, none⟩), .slice (some ⟨g, 0, none⟩) l.length l.length] w fun e w' => ∃ x, e = .returned (.string x) ∧ x ∈ l ∧ Drawn cb ao len cap zs w w' := by
  have HC : Hid (Cur cb ao len cap zs w) := hc
  have HL : Hid (∀ j, j < l.length → w.cell? ⟨g, j, none⟩ = some (.string (l.getD j ByteArray.empty))) := hcell
  clear hc hcell
  go_enter Try.func69, Try.ntmps69
  go_wp2_with fail
  refine (below_any cb ao len cap zs _ HC.out l.length (by omega) (by omega)).mono ?_
  rintro e w1 ⟨x, rfl, hx0, hx1, hd⟩
  have HD : Hid (Drawn cb ao len cap zs w w1) := hd
  clear hd
  obtain ⟨j, rfl⟩ : ∃ j : Nat, x = j := ⟨x.toNat, by omega⟩
  have hj : j < l.length := by omega
  have q := HD.out.2.cell hg (HL.out j hj)
  have HM : Hid (l.getD j ByteArray.empty ∈ l) := by
    show l.getD j ByteArray.empty ∈ l
    rw [List.getD_eq_getElem?_getD, List.getElem?_eq_getElem hj]; exact List.getElem_mem hj
  generalize l.getD j ByteArray.empty = y at *
  go_wp2_with fail
  go_ret
  exact ⟨_, rfl, HM.out, HD.out⟩

/-- A list of strings that is written out. -/
theorem news_strs (w : World) (l : List ByteArray) (t : TypeId) : ∀ j, j < l.length → (w.alloc (.cells (l.map Value.string).toArray t)).cell? ⟨w.heap.size, j, none⟩ = some (.string (l.getD j ByteArray.empty)) := by
  intro j hj
  rw [World.cell?_alloc_new]
  simp [hj]
theorem Turn.grown {cb : Nat} {w w' : World} (t : Turn cb w w') : w.grownBy w' (some cb) := ⟨t.os, t.tape, t.output, t.size, fun k hk hn => t.block k hk (fun e => hn (by rw [e]))⟩
theorem Row1.turn {cb base : Nat} {w w' : World} {v : Value} {L : List ByteArray} (h : Row1 w base v L) (t : Turn cb w w') (hc : cb < base) : Row1 w' base v L := by
  obtain ⟨g, cc, rfl, ho⟩ := h
  refine ⟨g, cc, rfl, ho.kept t.grown (.inr fun e => ?_)⟩
  have := (ho.lt g rfl).1
  simp only [Value.ownBlock, Option.some.injEq] at e
  omega
theorem Row1.mono {base base' : Nat} {w : World} {v : Value} {L : List ByteArray} (h : Row1 w base v L) (hb : base' ≤ base) : Row1 w base' v L := by
  obtain ⟨g, cc, rfl, ho⟩ := h
  exact ⟨g, cc, rfl, ⟨ho.1, ho.2.imp id fun ⟨g, cap, cur, h1, h2, h3⟩ => ⟨g, cap, cur, h1, Nat.le_trans hb h2, h3⟩⟩⟩
def AllA (L : List ByteArray) : Prop := ∀ x ∈ L, Atom.atomB x = true
theorem AllA.add {L : List ByteArray} (h : AllA L) (s : ByteArray) : AllA (addL L s) := by
  unfold addL
  split
  · rename_i ha
    intro x hx
    rcases List.mem_append.1 hx with h1 | h1
    · exact h x h1
    · obtain rfl : x = s := by simpa using h1
      simp only [adds, Bool.and_eq_true] at ha
      exact ha.1.2
  · exact h
theorem Drawn.belowD {cb : Nat} {ao : Option Addr} {len cap : Nat} {zs : List Int} {w w1 w2 : World} (h : Drawn cb ao len cap zs w w1) (hb : Below w1.heap.size w1 w2) : Drawn cb ao len cap zs w w2 := ⟨h.1.below hb, h.2.trans (Turn.of_below hb)⟩
theorem Drawn.andD {cb : Nat} {ao : Option Addr} {len cap : Nat} {zs : List Int} {w w1 w2 : World} (h : Drawn cb ao len cap zs w w1) (k : Drawn cb ao len cap zs w1 w2) : Drawn cb ao len cap zs w w2 := ⟨k.1, h.2.trans k.2⟩

set_option maxHeartbeats 2000000 in
set_option maxRecDepth 100000 in
theorem atoms_any (cb : Nat) (ao : Option Addr) (len cap : Nat) (zs : List Int) (w : World) (hc : Cur cb ao len cap zs w) (hcb : cb < w.heap.size) :
    Calls Try.prog 66 #[.pointer (some ⟨cb, 0, none⟩)] w fun e w' => ∃ v L, e = .returned v ∧ Row1 w' w.heap.size v L ∧ AllA L ∧ L.length ≤ 3 ∧ Drawn cb ao len cap zs w w' := by
  have HC : Hid (Cur cb ao len cap zs w) := hc
  clear hc
  have HB0 : Hid (Below w.heap.size w (w.alloc (.cells #[] 9))) := (Below.refl _ _).alloc (Nat.le_refl _) _
  have HR0 : Hid (Row1 (w.alloc (.cells #[] 9)) w.heap.size (.slice (some ⟨w.heap.size, 0, none⟩) 0 0) []) := ⟨_, _, rfl, World.ownsRow_made w #[] 0 (Nat.le_refl _) (Nat.zero_le _) rfl⟩
  go_enter Try.func66, Try.ntmps66
  go_wp2_with fail
  refine (below_any cb ao len cap zs _ (HC.out.below HB0.out) 4 (by decide) (by decide)).mono ?_
  rintro e w1 ⟨x, rfl, hx0, hx1, hd⟩
  obtain ⟨n, rfl⟩ : ∃ n : Nat, x = n := ⟨x.toNat, by omega⟩
  have HD1 : Hid (Drawn cb ao len cap zs w w1) := ⟨hd.1, (Turn.of_below HB0.out).trans hd.2⟩
  have HR1 : Hid (Row1 w1 w.heap.size (.slice (some ⟨w.heap.size, 0, none⟩) 0 0) []) := HR0.out.turn hd.2 hcb
  clear hd
  go_wp2_with fail
  go_loopw [3, 4] (fun o i wr => ∃ (L : List ByteArray) (m : Nat), Row1 wr w.heap.size o L ∧ i = .int .i64 m ∧ AllA L ∧ L.length + m ≤ 3 ∧ Drawn cb ao len cap zs w wr) (fun _ i _ => (intOf i).toNat)
  case atStart => exact ⟨[], n, HR1.out, rfl, fun x hx => by simp at hx, by simp; omega, HD1.out⟩
  case round =>
    obtain ⟨L, m, hrow, rfl, ha, hl, hd⟩ := hrel
    obtain ⟨g, cc, rfl, ho⟩ := hrow
    have HO : Hid (Row1 wr w.heap.size (.slice (some ⟨g, 0, none⟩) L.length cc) L) := ⟨g, cc, rfl, ho⟩
    have HA : Hid (AllA L) := ha
    have HD : Hid (Drawn cb ao len cap zs w wr) := hd
    clear ho ha hd
    by_cases hm : m = 0
    · subst hm
      go_wp2_with fail
      go_ret
      exact ⟨_, L, rfl, HO.out, HA.out, by omega, HD.out⟩
    · have hm1 : (0 : Int) < m := by omega
      obtain ⟨n', hn'⟩ : ∃ n', m = n' + 1 := ⟨m - 1, by omega⟩
      have hw1 : IntKind.i64.wrap ((m : Int) - 1) = ((m - 1 : Nat) : Int) := by rw [IntKind.wrap_i64]; omega
      have HW1 : Hid (((m : Int) - 1) = ((m - 1 : Nat) : Int)) := by show _ = _; omega
      have HH : Hid (m = n' + 1) := hn'
      clear hn' hw1
      have hz := HD.out.2.size
      have HZ : Hid (w.heap.size ≤ wr.heap.size) := hz
      go_wp2_with fail
      refine (str_any cb ao len cap zs _ (HD.out.1.alloc _) wr.heap.size [⟨#[111, 107]⟩, ⟨#[97]⟩, ⟨#[98]⟩, ⟨#[115, 116, 111, 112]⟩] (by omega) (by simp) (by simp) ?_).mono ?_
      · exact news_strs wr [⟨#[111, 107]⟩, ⟨#[97]⟩, ⟨#[98]⟩, ⟨#[115, 116, 111, 112]⟩] _
      rintro e w2 ⟨s, rfl, hs, hd2⟩
      have HS : Hid (s.size ≤ maxLen) := by
        show s.size ≤ maxLen
        simp only [List.mem_cons, List.not_mem_nil, or_false] at hs
        rcases hs with rfl | rfl | rfl | rfl <;> decide
      have hbA : Below wr.heap.size wr (wr.alloc (.cells ([⟨#[111, 107]⟩, ⟨#[97]⟩, ⟨#[98]⟩, ⟨#[115, 116, 111, 112]⟩].map Value.string).toArray 9)) := (Below.refl _ _).alloc (Nat.le_refl _) _
      have HD2 : Hid (Drawn cb ao len cap zs w w2) := (HD.out.belowD hbA).andD hd2
      have hrow2 : Row1 w2 w.heap.size (.slice (some ⟨g, 0, none⟩) L.length cc) L := by
        obtain ⟨g', cc', e', ho'⟩ := HO.out
        cases e'
        exact Row1.turn ⟨g, cc, rfl, ho'.alloc _⟩ hd2.2 hcb
      have hL3 : L.length ≤ 1048576 := by omega
      have HT2 : Hid (Txt w2 g 0 L ∧ g < w2.heap.size) := by
        obtain ⟨g', cc', e', ho'⟩ := hrow2
        cases e'
        exact ⟨(own_txt ho').1, (own_txt ho').2.2.1⟩
      have HZ2 : Hid (w.heap.size ≤ w2.heap.size) := HD2.out.2.size
      clear hs hbA hd2 hrow2
      go_wp2_with fail
      refine (specAdd_any g 0 cc L s w2 HT2.out.1 hL3 HS.out (fun _ => HT2.out.2)).mono ?_
      rintro e w3 ⟨v3, rfl, hrow3, hb3⟩
      have HR3 : Hid (Row1 w3 w.heap.size v3 (addL L s)) := hrow3.mono HZ2.out
      have HA3 : Hid (AllA (addL L s) ∧ (addL L s).length ≤ L.length + 1) := ⟨HA.out.add s, addL_len L s⟩
      have HD3 : Hid (Drawn cb ao len cap zs w w3) := HD2.out.belowD hb3
      clear hrow3 hb3
      generalize addK L s = kk
      go_wp2_with fail
      go_roundw
      case rel => exact ⟨addL L s, m - 1, HR3.out, by first | rfl | (rw [HW1.out]) | (congr 1; exact HW1.out), HA3.out.1, by have := HA3.out.2; omega, HD3.out⟩
      case measure => simp [intOf]; omega
end Go.Proofs.Ytikedjdjfncgkaa
