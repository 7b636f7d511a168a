/-
  What both kinds of AddAtom answer: a list of its own, and a place.
-/
import Derived.Test.YtabgfaafpgholaaSgA
import Derived.Maps.AppendAt
import Derived.Laws.CopyOwn
import Derived.Laws.OwnMore
namespace Go.Proofs.Ytabgfaafpgholaa
open Go.RowKit
set_option linter.unusedVariables false

/-- Is s to be added? -/
def adds (L : List ByteArray) (s : ByteArray) : Bool := decide (idx L s = -1) && Atom.atomB s && decide (L.length < 200)
def addL (L : List ByteArray) (s : ByteArray) : List ByteArray := if adds L s then L ++ [s] else L
def addK (L : List ByteArray) (s : ByteArray) : Int := if adds L s then L.length else idx L s
theorem addL_len (L : List ByteArray) (s : ByteArray) : (addL L s).length ≤ L.length + 1 := by unfold addL; split <;> simp
theorem adds_yes {L : List ByteArray} {s : ByteArray} (h1 : idx L s = -1) (h2 : Atom.atomB s = true) (h3 : L.length < 200) : adds L s = true := by simp [adds, h1, h2, h3]
theorem adds_no1 {L : List ByteArray} {s : ByteArray} (h1 : idx L s ≠ -1) : adds L s = false := by simp [adds, h1]
theorem adds_no2 {L : List ByteArray} {s : ByteArray} (h2 : Atom.atomB s = false) : adds L s = false := by simp [adds, h2]
theorem adds_no3 {L : List ByteArray} {s : ByteArray} (h3 : ¬ L.length < 200) : adds L s = false := by simp [adds, h3]

theorem info_parts {e : TypeId} {z : Value} {n b : Nat} (h : (Try.prog.info? e).map (fun i => (i.zero, i.size, i.bytes)) = some (some z, n, b)) : ∃ i, Try.prog.info? e = some i ∧ i.zero = some z ∧ i.size = n ∧ i.bytes = b := by
  obtain ⟨i, hi, hh⟩ := Option.map_eq_some_iff.1 h
  simp only [Prod.mk.injEq] at hh
  exact ⟨i, hi, hh.1, hh.2.1, hh.2.2⟩

/-- v is L, in a block of its own from base on. -/
def Row1 (w : World) (base : Nat) (v : Value) (L : List ByteArray) : Prop := ∃ g cc, v = .slice (some ⟨g, 0, none⟩) L.length cc ∧ w.ownsRow base 9 1 v L.length (L.map Value.string)
theorem row_of {w : World} {base : Nat} {v : Value} {n : Nat} {L : List ByteArray} (h : w.ownsRow base 9 1 v n (L.map Value.string)) (hn : v ≠ .slice none 0 0) : Row1 w base v L := by
  have hl : n = L.length := by have := h.1; simp at this; omega
  subst hl
  rcases h.2 with ⟨h0, _⟩ | ⟨g, cap, cur, h1, _⟩
  · exact absurd h0 hn
  · exact ⟨g, cap, h1, h⟩
theorem own_txt {w : World} {base g cc : Nat} {L : List ByteArray} (h : w.ownsRow base 9 1 (.slice (some ⟨g, 0, none⟩) L.length cc) L.length (L.map Value.string)) : Txt w g 0 L ∧ base ≤ g ∧ g < w.heap.size ∧ (∀ x, w.frozen? ⟨g, x, none⟩ = false) := by
  refine ⟨fun j hj => ?_, (h.lt g rfl).1, (h.lt g rfl).2, fun x => h.frozenAt x⟩
  have := h.cellAt j (by omega)
  rw [Nat.zero_add, this]
  simp [hj]

theorem srcT {w : World} {b o : Nat} {L : List ByteArray} (h : Txt w b o L) : ∀ j u, (L.map Value.string)[j]? = some u → w.cell? ((⟨b, o, none⟩ : Addr).add j) = some u := fun j u hu => by
  rw [Addr.add_lit]
  rw [List.getElem?_map] at hu
  by_cases hj : j < L.length
  · rw [List.getElem?_eq_getElem hj] at hu
    cases hu
    exact h j hj
  · rw [List.getElem?_eq_none (by omega)] at hu
    cases hu
theorem oneT (L : List ByteArray) : ∀ u ∈ L.map Value.string, u.oneCell' = true := fun u hu => by
  obtain ⟨j, _, rfl⟩ := List.mem_map.1 hu
  rfl
theorem infoStr1 : (Try.prog.info? 9).map (fun i => (i.zero, i.size, i.bytes)) = some (some (.string ByteArray.empty), 1, 16) := by kernel_rfl
theorem undStrs1 : Try.prog.underlying 25 = some (.slice 9) := by kernel_rfl
theorem src1 (w : World) (s : ByteArray) (t : TypeId) : ∀ j u, [Value.string s][j]? = some u → (w.alloc (.cells #[.string s] t)).cell? ((⟨w.heap.size, 0, none⟩ : Addr).add j) = some u := fun j u hu => by
  rw [Addr.add_lit, Nat.zero_add, World.cell?_alloc_new]
  simpa using hu
theorem one1 (s : ByteArray) : ∀ u ∈ [Value.string s], u.oneCell' = true := fun u hu => by
  obtain rfl : u = .string s := by simpa using hu
  rfl

set_option maxHeartbeats 2000000 in
set_option maxRecDepth 100000 in
theorem specAdd_any (b o cap : Nat) (L : List ByteArray) (s : ByteArray) (w : World) (hr : Txt w b o L) (hN : L.length ≤ 1048576) (hs : s.size ≤ maxLen) (hbw : L.length = 0 → b < w.heap.size) :
    Calls Try.prog 67 #[.slice (some ⟨b, o, none⟩) L.length cap, .string s] w fun e w' => ∃ v, e = .returned (.tuple #[v, .int .i64 (addK L s)]) ∧ Row1 w' w.heap.size v (addL L s) ∧ Below w.heap.size w w' := by
  have HR : Hid (Txt w b o L) := hr
  have HS : Hid (s.size ≤ maxLen) := hs
  clear hr hs
  obtain ⟨i0, hi, hz0, hz1, hz2⟩ := info_parts infoStr1
  have HI : Hid (Try.prog.info? 9 = some i0 ∧ i0.zero = some (.string ByteArray.empty) ∧ i0.size = 1 ∧ i0.bytes = 16) := ⟨hi, hz0, hz1, hz2⟩
  clear hi hz0 hz1 hz2
  have hB1 : Below w.heap.size w (w.alloc (.cells #[] 9)) := (Below.refl _ _).alloc (Nat.le_refl _) _
  have HO : Hid ((w.alloc (.cells #[] 9)).ownsRow w.heap.size 9 1 (.slice (some ⟨w.heap.size, 0, none⟩) 0 0) 0 []) := World.ownsRow_made w #[] 0 (Nat.le_refl _) (Nat.zero_le _) rfl
  have HL : Hid ((L.map Value.string).length = L.length * 1) := by show _ = _; simp
  have HC : Hid (∀ j u, (L.map Value.string)[j]? = some u → (w.alloc (.cells #[] 9)).cell? ((⟨b, o, none⟩ : Addr).add j) = some u) := srcT (HR.out.below hB1)
  have HB1 : Hid (Below w.heap.size w (w.alloc (.cells #[] 9))) := hB1
  have C3 : Hid (0 + L.length ≤ maxLen) := by show _ ≤ _; unfold maxLen; omega
  have C4 : Hid ((0 + L.length) * 16 ≤ 140737488355328) := by show _ ≤ _; omega
  have C5 : Hid (w.heap.size ≤ (w.alloc (.cells #[] 9)).heap.size) := hB1.size
  clear hB1
  have hK := idx_lt L s
  have hK0 := idx_ge L s
  have HAL : Hid (∀ x : List ByteArray, addL L s = x → x = addL L s) := fun x h => h.symm
  go_enter Try.func67, Try.ntmps67
  go_wp2_with (at_builtin; refine wpList_append_own_at _ rfl _ _ 25 rfl w.heap.size 9 i0 (.string ByteArray.empty) 1 16 undStrs1 HI.out.1 HI.out.2.1 HI.out.2.2.1 HI.out.2.2.2 rfl Nat.zero_lt_one _ 0 [] rfl HO.out ⟨b, o, none⟩ L.length cap (L.map Value.string) rfl HL.out HC.out (oneT L) C3.out C4.out C5.out ?_; intro v2 w2 hown2 hgr2 hnn2 hat2)
  have hrow : Row1 w2 w.heap.size v2 L := row_of (by rw [Nat.zero_add, List.nil_append] at hown2; exact hown2) (fun e => by have := (hnn2.1 e).1; cases this)
  have hb2 : Below w.heap.size w w2 := HB1.out.grown hgr2 HB1.out.size (fun k hk => by have e : some w.heap.size = some k := hk; injection e with e; omega)
  have HB2 : Hid (Below w.heap.size w w2) := hb2
  obtain ⟨g, cc, rfl, hown⟩ := hrow
  have HOW : Hid (w2.ownsRow w.heap.size 9 1 (.slice (some ⟨g, 0, none⟩) L.length cc) L.length (L.map Value.string)) := hown
  clear hown hown2 hgr2 hnn2 hat2 hb2
  refine (specAtomAt_any b o cap L s _ (HR.out.below HB2.out) hN).mono ?_
  rintro e w3 ⟨rfl, rfl⟩
  have HN : Hid (L.length ≤ 1048576) := hN
  by_cases hk : idx L s = -1
  · rw [hk] at hK hK0 ⊢
    have HK : Hid (idx L s = -1) := hk
    clear hk
    cases ha : Atom.atomB s with
    | false =>
      have HA : Hid (Atom.atomB s = false) := ha
      clear ha
      go_wp2_with (go_at_call 92; refine (Atom.spec_any _ _ HS.out).mono ?_; rintro e w' ⟨rfl, rfl⟩; rw [HA.out])
      have e0 : adds L s = false := adds_no2 HA.out
      refine bodyPost_ret (v := .tuple #[.slice (some ⟨g, 0, none⟩) L.length cc, .int .i64 (-1)]) (by simp [results, Try.results67, go_sem]) rfl ⟨.slice (some ⟨g, 0, none⟩) L.length cc, ?_, ?_, HB2.out⟩
      · rw [addK, e0, if_neg (by simp), HK.out]
      · rw [addL, e0, if_neg (by simp)]; exact ⟨g, cc, rfl, HOW.out⟩
    | true =>
      have HA : Hid (Atom.atomB s = true) := ha
      clear ha
      by_cases hl : L.length < 200
      · have e0 : adds L s = true := adds_yes HK.out HA.out hl
        have HE0 : Hid (adds L s = true) := e0
        have HO4 : Hid ((w3.alloc (.cells #[.string s] 9)).ownsRow w.heap.size 9 1 (.slice (some ⟨g, 0, none⟩) L.length cc) L.length (L.map Value.string)) := HOW.out.alloc _
        have HL4 : Hid ([Value.string s].length = 1 * 1) := rfl
        have C34 : Hid (L.length + 1 ≤ maxLen) := by show _ ≤ _; unfold maxLen; omega
        have C44 : Hid ((L.length + 1) * 16 ≤ 140737488355328) := by show _ ≤ _; omega
        have HB4 : Hid (Below w.heap.size w (w3.alloc (.cells #[.string s] 9))) := HB2.out.alloc HB2.out.size _
        clear e0
        go_wp2_with (first | (go_at_call 92; refine (Atom.spec_any _ _ HS.out).mono ?_; rintro e w' ⟨rfl, rfl⟩; rw [HA.out]) | (at_builtin; refine wpList_append_own_at _ rfl _ _ 25 rfl w.heap.size 9 i0 (.string ByteArray.empty) 1 16 undStrs1 HI.out.1 HI.out.2.1 HI.out.2.2.1 HI.out.2.2.2 rfl Nat.zero_lt_one _ L.length _ rfl HO4.out ⟨_, 0, none⟩ 1 1 [.string s] rfl HL4.out (src1 _ s _) (one1 s) C34.out C44.out HB4.out.size ?_; intro v5 w5 hown5 hgr5 hnn5 hat5))
        have hrow : Row1 w5 w.heap.size v5 (L ++ [s]) := row_of (by rw [List.map_append]; exact hown5) (fun e => by have := (hnn5.1 e).1; cases this)
        have hb5 : Below w.heap.size w w5 := HB4.out.grown hgr5 HB4.out.size (fun k hk => (HO4.out.lt k hk).1)
        refine bodyPost_ret (v := .tuple #[v5, .int .i64 L.length]) (by simp [results, Try.results67, go_sem]) rfl ⟨v5, ?_, ?_, hb5⟩
        · rw [addK, HE0.out, if_pos rfl]
        · rw [addL, HE0.out, if_pos rfl]; exact hrow
      · have e0 : adds L s = false := adds_no3 hl
        have HE0 : Hid (adds L s = false) := e0
        clear e0
        go_wp2_with (go_at_call 92; refine (Atom.spec_any _ _ HS.out).mono ?_; rintro e w' ⟨rfl, rfl⟩; rw [HA.out])
        refine bodyPost_ret (v := .tuple #[.slice (some ⟨g, 0, none⟩) L.length cc, .int .i64 (-1)]) (by simp [results, Try.results67, go_sem]) rfl ⟨.slice (some ⟨g, 0, none⟩) L.length cc, ?_, ?_, HB2.out⟩
        · rw [addK, HE0.out, if_neg (by simp), HK.out]
        · rw [addL, HE0.out, if_neg (by simp)]; exact ⟨g, cc, rfl, HOW.out⟩
  · have HE0 : Hid (adds L s = false) := adds_no1 hk
    have hp : 0 ≤ idx L s := by omega
    generalize hx : idx L s = x at *
    have HX : Hid (idx L s = x) := hx
    clear hx
    go_wp2_with fail
    refine bodyPost_ret (v := .tuple #[.slice (some ⟨g, 0, none⟩) L.length cc, .int .i64 x]) (by simp [results, Try.results67, go_sem]) rfl ⟨.slice (some ⟨g, 0, none⟩) L.length cc, ?_, ?_, HB2.out⟩
    · rw [addK, HE0.out, if_neg (by simp), HX.out]
    · rw [addL, HE0.out, if_neg (by simp)]; exact ⟨g, cc, rfl, HOW.out⟩
end Go.Proofs.Ytabgfaafpgholaa
