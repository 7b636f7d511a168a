/-
  What a term that is put adds to words and atoms, as reckoning: both kinds of PutTerm are to answer this.
  (Ahead of it, in this text: How many words the specification says that a term needs. What both kinds of AddAtom answer: a list of its own, and a place.)
-/
import Derived.Test.YtabgfaafpgholaaW9
import Derived.Test.YtabgfaafpgholaaW4
import Derived.Maps.AppendAt
import Derived.Laws.CopyOwn
import Derived.Laws.OwnMore
import Derived.Test.YtabgfaafpgholaaW2
namespace Go.Proofs.Ytabgfaafpgholaa
open Go.RowKit
set_option linter.unusedVariables false

def ndO (k : Int) (s : ByteArray) (len : Nat) : Nat := if k = 4 then 1 + len else if k = 5 then 2 * len else if k = 6 then 1 + s.size else 0
mutual
def ndT : Tm → Nat
  | .mk k _ s l => ndO k s l.length + ndL l
def ndL : List Tm → Nat
  | [] => 0
  | t :: r => ndT t + ndL r
end
theorem ndL_take (l : List Tm) (i : Nat) (h : i < l.length) : ndL (l.take (i + 1)) = ndL (l.take i) + ndT l[i] := by
  induction l generalizing i with
  | nil => simp at h
  | cons t r ih =>
    cases i with
    | zero => simp [ndL]
    | succ j =>
      have := ih j (by simpa using h)
      rw [List.take_succ_cons, List.take_succ_cons, ndL, ndL, this]
      simp only [List.getElem_cons_succ]
      omega
theorem ndL_le (l : List Tm) (i : Nat) : ndL (l.take i) ≤ ndL l := by
  induction l generalizing i with
  | nil => simp [ndL]
  | cons t r ih =>
    cases i with
    | zero => simp [ndL]
    | succ j => rw [List.take_succ_cons, ndL, ndL]; have := ih j; omega
def NdC (t : Tm) : Prop := ∀ (B : Nat) (w : World) (v : Value), RepV B w t v → ndT t ≤ 1000000 →
  Calls Try.prog 41 #[v] w fun e w' => e = .returned (.int .i64 (ndT t)) ∧ Below w.heap.size w w'

set_option maxRecDepth 100000 in
set_option maxHeartbeats 4000000 in
theorem nd_of (k n : Int) (s : ByteArray) (l : List Tm) (ih : ∀ t, t ∈ l → NdC t) : NdC (.mk k n s l) := by
  intro B w v hv hm
  obtain ⟨ao, cap, rfl, hs, hl, hc, hr⟩ := hv
  have IH : Hid (∀ t, t ∈ l → NdC t) := ih
  have HR : Hid (RepL B w l ao) := hr
  clear ih hr
  unfold maxLen at hc hs
  rw [ndT] at hm ⊢
  obtain ⟨O, hO⟩ : ∃ O, ndO k s l.length = O := ⟨_, rfl⟩
  rw [hO] at hm ⊢
  have hOL : O + ndL l ≤ 1000000 := hm
  have hk : (k = 4 ∧ O = 1 + l.length) ∨ (k = 5 ∧ O = 2 * l.length) ∨ (k = 6 ∧ O = 1 + s.size) ∨ ((k == 4) = false ∧ (k == 5) = false ∧ (k == 6) = false ∧ O = 0) := by
    unfold ndO at hO
    by_cases h4 : k = 4
    · exact .inl ⟨h4, by rw [if_pos h4] at hO; exact hO.symm⟩
    · rw [if_neg h4] at hO
      by_cases h5 : k = 5
      · exact .inr (.inl ⟨h5, by rw [if_pos h5] at hO; exact hO.symm⟩)
      · rw [if_neg h5] at hO
        by_cases h6 : k = 6
        · exact .inr (.inr (.inl ⟨h6, by rw [if_pos h6] at hO; exact hO.symm⟩))
        · rw [if_neg h6] at hO
          exact .inr (.inr (.inr ⟨by simpa using h4, by simpa using h5, by simpa using h6, hO.symm⟩))
  clear hO hm
  have HRND : Hid (∀ wr, Below w.heap.size w wr → ∀ i (hi : i < l.length), ∃ b off a1 a2 a3 a4 a5 a6, ao = some ⟨b, off, none⟩ ∧ wr.cell? ⟨b, off + i * 4, none⟩ = some (.int .i64 a1) ∧ wr.cell? ⟨b, off + i * 4 + 1, none⟩ = some (.int .i64 a2) ∧ wr.cell? ⟨b, off + i * 4 + 2, none⟩ = some (.string a3) ∧ wr.cell? ⟨b, off + i * 4 + 3, none⟩ = some (.slice a4 a5 a6) ∧ RepV B wr l[i] (.agg #[.int .i64 a1, .int .i64 a2, .string a3, .slice a4 a5 a6])) := fun wr hb i hi => by
    obtain ⟨b, off, e, _, hT⟩ := RepL.at _ _ ((Keeps.below hb B).repL _ _ HR.out) i hi
    generalize l[i] = t at *
    obtain ⟨k', n', s', l'⟩ := t
    rw [RepT] at hT
    obtain ⟨h0, h1, h2, h3, ao', cap', h4, h5, h6, h7⟩ := hT
    exact ⟨b, off, k', n', s', ao', l'.length, cap', e, h0, h1, h2, h4, ao', cap', rfl, h3, h5, h6, h7⟩
  rcases hk with ⟨rfl, hO⟩ | ⟨rfl, hO⟩ | ⟨rfl, hO⟩ | ⟨h4, h5, h6, hO⟩
  all_goals
    have HO : Hid (O = _) := hO
    try have hb1 : l.length ≤ 1000000 := by omega
    try have hb2 : s.size ≤ 1000000 := by omega
    clear hO
    go_enter Try.func41, Try.ntmps41
    go_wp2_with fail
    go_loopw [3, 4] (fun vn vi wr => ∃ i : Nat, i ≤ l.length ∧ vi = .int .i64 i ∧ vn = .int .i64 ((O + ndL (l.take i) : Nat) : Int) ∧ Below (w.heap.size + 1) (w.alloc (.cells #[.int .i64 _, .int .i64 n, .string s, .slice ao l.length cap] 39)) wr) (fun _ vi _ => l.length - (intOf vi).toNat)
    case atStart => exact ⟨0, Nat.zero_le _, rfl, by have := HO.out; simp [ndL]; omega, Below.refl _ _⟩
    case round =>
      obtain ⟨i, hi0, rfl, rfl, hb⟩ := hrel
      obtain ⟨hz, q1, f1⟩ := one_new hb
      have HB : Hid (Below w.heap.size w wr) := ((Below.refl _ _).alloc (Nat.le_refl _) _).trans (hb.mono (Nat.le_succ _))
      have HB1 : Hid (Below (w.heap.size + 1) _ wr) := hb
      clear hb
      have hle := ndL_le l i
      by_cases hlt : i < l.length
      · have htk := ndL_take l i hlt
        have hle2 := ndL_le l (i + 1)
        obtain ⟨b, off, a1, a2, a3, a4, a5, a6, rfl, c0, c1, c2, c3, hv⟩ := HRND.out wr HB.out i hlt
        have HV : Hid (RepV B wr l[i] (.agg #[.int .i64 a1, .int .i64 a2, .string a3, .slice a4 a5 a6])) := hv
        have HT : Hid (NdC l[i]) := IH.out _ (List.getElem_mem hlt)
        have HTK : Hid (O + ndL (l.take (i + 1)) = O + ndL (l.take i) + ndT l[i]) := by show _ = _; omega
        have hnd : ndT l[i] ≤ 1000000 := by omega
        obtain ⟨y, hy⟩ : ∃ y, ndT l[i] = y := ⟨_, rfl⟩
        obtain ⟨z, hz'⟩ : ∃ z, O + ndL (l.take i) = z := ⟨_, rfl⟩
        rw [hy] at HTK hnd
        have hyz : (z : Int) + (y : Int) ≤ 1000000 := by omega
        have HY : Hid (ndT l[i] = y) := hy
        rw [hz'] at HTK ⊢
        clear hv htk hle2 hle hy hz'
        generalize l[i] = t at *
        go_wp2_with (go_at_call 41; refine (HT.out B _ _ HV.out (by rw [HY.out]; exact hnd)).mono ?_; rintro e w5 ⟨rfl, hb5⟩; rw [HY.out]; have HB5 : Hid (Below (w.heap.size + 1) _ w5) := HB1.out.trans (hb5.mono hz); clear hb5)
        go_roundw
        case rel => exact ⟨i + 1, by omega, by go_num, by rw [HTK.out]; exact congrArg (Value.int .i64) (by omega), HB5.out⟩
        case measure => simp [intOf]; omega
      · have hil : i = l.length := by omega
        have HE : Hid (O + ndL (l.take i) = O + ndL l) := by show _ = _; rw [hil]; simp
        clear hil
        go_wp2_with fail
        go_ret
        exact ⟨ret_int (by have := HE.out; omega), HB.out⟩
theorem nd_all : ∀ t, NdC t := Tm.ind fun k n s l ih => nd_of k n s l ih
end Go.Proofs.Ytabgfaafpgholaa
namespace Go.Proofs.Ytabgfaafpgholaa
open Go.RowKit
set_option linter.unusedVariables false

/-- Is s to be added? -/
def adds (L : List ByteArray) (s : ByteArray) : Bool := decide (idx L s = -1) && Atom.atomB s && decide (L.length < 200)
def addL (L : List ByteArray) (s : ByteArray) : List ByteArray := if adds L s then L ++ [s] else L
def addK (L : List ByteArray) (s : ByteArray) : Int := if adds L s then L.length else idx L s
theorem addL_len (L : List ByteArray) (s : ByteArray) : (addL L s).length ≤ L.length + 1 := by unfold addL; split <;> simp
theorem adds_yes {L : List ByteArray} {s : ByteArray} (h1 : idx L s = -1) (h2 : Atom.atomB s = true) (h3 : L.length < 200) : adds L s = true := by simp [adds, h1, h2, h3]
theorem adds_no1 {L : List ByteArray} {s : ByteArray} (h1 : idx L s ≠ -1) : adds L s = false := by simp [adds, h1]
theorem adds_no2 {L : List ByteArray} {s : ByteArray} (h2 : Atom.atomB s = false) : adds L s = false := by simp [adds, h2]
theorem adds_no3 {L : List ByteArray} {s : ByteArray} (h3 : ¬ L.length < 200) : adds L s = false := by simp [adds, h3]

theorem info_parts {e : TypeId} {z : Value} {n b : Nat} (h : (Try.prog.info? e).map (fun i => (i.zero, i.size, i.bytes)) = some (some z, n, b)) : ∃ i, Try.prog.info? e = some i ∧ i.zero = some z ∧ i.size = n ∧ i.bytes = b := by
  obtain ⟨i, hi, hh⟩ := Option.map_eq_some_iff.1 h
  simp only [Prod.mk.injEq] at hh
  exact ⟨i, hi, hh.1, hh.2.1, hh.2.2⟩

/-- v is L, in a block of its own from base on. -/
def Row1 (w : World) (base : Nat) (v : Value) (L : List ByteArray) : Prop := ∃ g cc, v = .slice (some ⟨g, 0, none⟩) L.length cc ∧ w.ownsRow base 9 1 v L.length (L.map Value.string)
theorem row_of {w : World} {base : Nat} {v : Value} {n : Nat} {L : List ByteArray} (h : w.ownsRow base 9 1 v n (L.map Value.string)) (hn : v ≠ .slice none 0 0) : Row1 w base v L := by
  have hl : n = L.length := by have := h.1; simp at this; omega
  subst hl
  rcases h.2 with ⟨h0, _⟩ | ⟨g, cap, cur, h1, _⟩
  · exact absurd h0 hn
  · exact ⟨g, cap, h1, h⟩
theorem own_txt {w : World} {base g cc : Nat} {L : List ByteArray} (h : w.ownsRow base 9 1 (.slice (some ⟨g, 0, none⟩) L.length cc) L.length (L.map Value.string)) : Txt w g 0 L ∧ base ≤ g ∧ g < w.heap.size ∧ (∀ x, w.frozen? ⟨g, x, none⟩ = false) := by
  refine ⟨fun j hj => ?_, (h.lt g rfl).1, (h.lt g rfl).2, fun x => h.frozenAt x⟩
  have := h.cellAt j (by omega)
  rw [Nat.zero_add, this]
  simp [hj]

theorem srcT {w : World} {b o : Nat} {L : List ByteArray} (h : Txt w b o L) : ∀ j u, (L.map Value.string)[j]? = some u → w.cell? ((⟨b, o, none⟩ : Addr).add j) = some u := fun j u hu => by
  rw [Addr.add_lit]
  rw [List.getElem?_map] at hu
  by_cases hj : j < L.length
  · rw [List.getElem?_eq_getElem hj] at hu
    cases hu
    exact h j hj
  · rw [List.getElem?_eq_none (by omega)] at hu
    cases hu
theorem oneT (L : List ByteArray) : ∀ u ∈ L.map Value.string, u.oneCell' = true := fun u hu => by
  obtain ⟨j, _, rfl⟩ := List.mem_map.1 hu
  rfl
theorem infoStr1 : (Try.prog.info? 9).map (fun i => (i.zero, i.size, i.bytes)) = some (some (.string ByteArray.empty), 1, 16) := by kernel_rfl
theorem undStrs1 : Try.prog.underlying 25 = some (.slice 9) := by kernel_rfl
theorem src1 (w : World) (s : ByteArray) (t : TypeId) : ∀ j u, [Value.string s][j]? = some u → (w.alloc (.cells #[.string s] t)).cell? ((⟨w.heap.size, 0, none⟩ : Addr).add j) = some u := fun j u hu => by
  rw [Addr.add_lit, Nat.zero_add, World.cell?_alloc_new]
  simpa using hu
theorem one1 (s : ByteArray) : ∀ u ∈ [Value.string s], u.oneCell' = true := fun u hu => by
  obtain rfl : u = .string s := by simpa using hu
  rfl

set_option maxHeartbeats 2000000 in
set_option maxRecDepth 100000 in
theorem specAdd_any (b o cap : Nat) (L : List ByteArray) (s : ByteArray) (w : World) (hr : Txt w b o L) (hN : L.length ≤ 1048576) (hs : s.size ≤ maxLen) (hbw : L.length = 0 → b < w.heap.size) :
    Calls Try.prog 67 #[.slice (some ⟨b, o, none⟩) L.length cap, .string s] w fun e w' => ∃ v, e = .returned (.tuple #[v, .int .i64 (addK L s)]) ∧ Row1 w' w.heap.size v (addL L s) ∧ Below w.heap.size w w' := by
  have HR : Hid (Txt w b o L) := hr
  have HS : Hid (s.size ≤ maxLen) := hs
  clear hr hs
  obtain ⟨i0, hi, hz0, hz1, hz2⟩ := info_parts infoStr1
  have HI : Hid (Try.prog.info? 9 = some i0 ∧ i0.zero = some (.string ByteArray.empty) ∧ i0.size = 1 ∧ i0.bytes = 16) := ⟨hi, hz0, hz1, hz2⟩
  clear hi hz0 hz1 hz2
  have hB1 : Below w.heap.size w (w.alloc (.cells #[] 9)) := (Below.refl _ _).alloc (Nat.le_refl _) _
  have HO : Hid ((w.alloc (.cells #[] 9)).ownsRow w.heap.size 9 1 (.slice (some ⟨w.heap.size, 0, none⟩) 0 0) 0 []) := World.ownsRow_made w #[] 0 (Nat.le_refl _) (Nat.zero_le _) rfl
  have HL : Hid ((L.map Value.string).length = L.length * 1) := by show _ = _; simp
  have HC : Hid (∀ j u, (L.map Value.string)[j]? = some u → (w.alloc (.cells #[] 9)).cell? ((⟨b, o, none⟩ : Addr).add j) = some u) := srcT (HR.out.below hB1)
  have HB1 : Hid (Below w.heap.size w (w.alloc (.cells #[] 9))) := hB1
  have C3 : Hid (0 + L.length ≤ maxLen) := by show _ ≤ _; unfold maxLen; omega
  have C4 : Hid ((0 + L.length) * 16 ≤ 140737488355328) := by show _ ≤ _; omega
  have C5 : Hid (w.heap.size ≤ (w.alloc (.cells #[] 9)).heap.size) := hB1.size
  clear hB1
  have hK := idx_lt L s
  have hK0 := idx_ge L s
  have HAL : Hid (∀ x : List ByteArray, addL L s = x → x = addL L s) := fun x h => h.symm
  go_enter Try.func67, Try.ntmps67
  go_wp2_with (at_builtin; refine wpList_append_own_at _ rfl _ _ 25 rfl w.heap.size 9 i0 (.string ByteArray.empty) 1 16 undStrs1 HI.out.1 HI.out.2.1 HI.out.2.2.1 HI.out.2.2.2 rfl Nat.zero_lt_one _ 0 [] rfl HO.out ⟨b, o, none⟩ L.length cap (L.map Value.string) rfl HL.out HC.out (oneT L) C3.out C4.out C5.out ?_; intro v2 w2 hown2 hgr2 hnn2 hat2)
  have hrow : Row1 w2 w.heap.size v2 L := row_of (by rw [Nat.zero_add, List.nil_append] at hown2; exact hown2) (fun e => by have := (hnn2.1 e).1; cases this)
  have hb2 : Below w.heap.size w w2 := HB1.out.grown hgr2 HB1.out.size (fun k hk => by have e : some w.heap.size = some k := hk; injection e with e; omega)
  have HB2 : Hid (Below w.heap.size w w2) := hb2
  obtain ⟨g, cc, rfl, hown⟩ := hrow
  have HOW : Hid (w2.ownsRow w.heap.size 9 1 (.slice (some ⟨g, 0, none⟩) L.length cc) L.length (L.map Value.string)) := hown
  clear hown hown2 hgr2 hnn2 hat2 hb2
  refine (specAtomAt_any b o cap L s _ (HR.out.below HB2.out) hN).mono ?_
  rintro e w3 ⟨rfl, rfl⟩
  have HN : Hid (L.length ≤ 1048576) := hN
  by_cases hk : idx L s = -1
  · rw [hk] at hK hK0 ⊢
    have HK : Hid (idx L s = -1) := hk
    clear hk
    cases ha : Atom.atomB s with
    | false =>
      have HA : Hid (Atom.atomB s = false) := ha
      clear ha
      go_wp2_with (go_at_call 92; refine (Atom.spec_any _ _ HS.out).mono ?_; rintro e w' ⟨rfl, rfl⟩; rw [HA.out])
      have e0 : adds L s = false := adds_no2 HA.out
      refine bodyPost_ret (v := .tuple #[.slice (some ⟨g, 0, none⟩) L.length cc, .int .i64 (-1)]) (by simp [results, Try.results67, go_sem]) rfl ⟨.slice (some ⟨g, 0, none⟩) L.length cc, ?_, ?_, HB2.out⟩
      · rw [addK, e0, if_neg (by simp), HK.out]
      · rw [addL, e0, if_neg (by simp)]; exact ⟨g, cc, rfl, HOW.out⟩
    | true =>
      have HA : Hid (Atom.atomB s = true) := ha
      clear ha
      by_cases hl : L.length < 200
      · have e0 : adds L s = true := adds_yes HK.out HA.out hl
        have HE0 : Hid (adds L s = true) := e0
        have HO4 : Hid ((w3.alloc (.cells #[.string s] 9)).ownsRow w.heap.size 9 1 (.slice (some ⟨g, 0, none⟩) L.length cc) L.length (L.map Value.string)) := HOW.out.alloc _
        have HL4 : Hid ([Value.string s].length = 1 * 1) := rfl
        have C34 : Hid (L.length + 1 ≤ maxLen) := by show _ ≤ _; unfold maxLen; omega
        have C44 : Hid ((L.length + 1) * 16 ≤ 140737488355328) := by show _ ≤ _; omega
        have HB4 : Hid (Below w.heap.size w (w3.alloc (.cells #[.string s] 9))) := HB2.out.alloc HB2.out.size _
        clear e0
        go_wp2_with (first | (go_at_call 92; refine (Atom.spec_any _ _ HS.out).mono ?_; rintro e w' ⟨rfl, rfl⟩; rw [HA.out]) | (at_builtin; refine wpList_append_own_at _ rfl _ _ 25 rfl w.heap.size 9 i0 (.string ByteArray.empty) 1 16 undStrs1 HI.out.1 HI.out.2.1 HI.out.2.2.1 HI.out.2.2.2 rfl Nat.zero_lt_one _ L.length _ rfl HO4.out ⟨_, 0, none⟩ 1 1 [.string s] rfl HL4.out (src1 _ s _) (one1 s) C34.out C44.out HB4.out.size ?_; intro v5 w5 hown5 hgr5 hnn5 hat5))
        have hrow : Row1 w5 w.heap.size v5 (L ++ [s]) := row_of (by rw [List.map_append]; exact hown5) (fun e => by have := (hnn5.1 e).1; cases this)
        have hb5 : Below w.heap.size w w5 := HB4.out.grown hgr5 HB4.out.size (fun k hk => (HO4.out.lt k hk).1)
        refine bodyPost_ret (v := .tuple #[v5, .int .i64 L.length]) (by simp [results, Try.results67, go_sem]) rfl ⟨v5, ?_, ?_, hb5⟩
        · rw [addK, HE0.out, if_pos rfl]
        · rw [addL, HE0.out, if_pos rfl]; exact hrow
      · have e0 : adds L s = false := adds_no3 hl
        have HE0 : Hid (adds L s = false) := e0
        clear e0
        go_wp2_with (go_at_call 92; refine (Atom.spec_any _ _ HS.out).mono ?_; rintro e w' ⟨rfl, rfl⟩; rw [HA.out])
        refine bodyPost_ret (v := .tuple #[.slice (some ⟨g, 0, none⟩) L.length cc, .int .i64 (-1)]) (by simp [results, Try.results67, go_sem]) rfl ⟨.slice (some ⟨g, 0, none⟩) L.length cc, ?_, ?_, HB2.out⟩
        · rw [addK, HE0.out, if_neg (by simp), HK.out]
        · rw [addL, HE0.out, if_neg (by simp)]; exact ⟨g, cc, rfl, HOW.out⟩
  · have HE0 : Hid (adds L s = false) := adds_no1 hk
    have hp : 0 ≤ idx L s := by omega
    generalize hx : idx L s = x at *
    have HX : Hid (idx L s = x) := hx
    clear hx
    go_wp2_with fail
    refine bodyPost_ret (v := .tuple #[.slice (some ⟨g, 0, none⟩) L.length cc, .int .i64 x]) (by simp [results, Try.results67, go_sem]) rfl ⟨.slice (some ⟨g, 0, none⟩) L.length cc, ?_, ?_, HB2.out⟩
    · rw [addK, HE0.out, if_neg (by simp), HX.out]
    · rw [addL, HE0.out, if_neg (by simp)]; exact ⟨g, cc, rfl, HOW.out⟩
end Go.Proofs.Ytabgfaafpgholaa
namespace Go.Proofs.Ytabgfaafpgholaa
open Go.RowKit
set_option linter.unusedVariables false

/-- The cells of a list whose heads are these words, from the place at on. -/
def consL : List Int → Nat → List Int
  | [], _ => []
  | [x], _ => [x, 3]
  | x :: y :: r, at' => x :: mkw 5 ((at' : Int) + 2) :: consL (y :: r) (at' + 2)
theorem consL_len : ∀ (ws : List Int) (a : Nat), (consL ws a).length = 2 * ws.length
  | [], a => by simp [consL]
  | [x], a => by simp [consL]
  | x :: y :: r, a => by
    rw [consL, List.length_cons, List.length_cons, consL_len (y :: r) (a + 2)]
    simp only [List.length_cons]
    omega
def bytesI (s : ByteArray) : List Int := s.data.toList.map (fun b => (b.toNat : Int))
theorem bytesI_len (s : ByteArray) : (bytesI s).length = s.size := by
  unfold bytesI
  rw [List.length_map, Array.length_toList]
  rfl
mutual
/-- What is new behind the place at, the atoms, and the word; nothing: an atom has no room. -/
def ptT : Tm → Nat → List ByteArray → Option (List Int × List ByteArray × Int)
  | .mk k n s l, a, A =>
    if k = 1 then some ([], A, mkw 0 (n + 1000000))
    else if k = 3 then some ([], A, mkw 2 n)
    else if k = 2 then (if addK A s < 0 then none else some ([], addL A s, mkw 1 (addK A s)))
    else if k = 6 then some ((s.size : Int) :: bytesI s, A, mkw 6 a)
    else if k = 4 then match ptL l (a + 1 + l.length) A with
      | none => none
      | some (ws, ns, A') => some ((l.length : Int) :: (ws ++ ns), A', mkw 4 a)
    else if l.length = 0 then some ([], A, 3)
    else match ptL l (a + 2 * l.length) A with
      | none => none
      | some (ws, ns, A') => some (consL ws a ++ ns, A', mkw 5 a)
def ptL : List Tm → Nat → List ByteArray → Option (List Int × List Int × List ByteArray)
  | [], _, A => some ([], [], A)
  | t :: r, a, A => match ptT t a A with
    | none => none
    | some (ns, A1, w) => match ptL r (a + ns.length) A1 with
      | none => none
      | some (ws, ns2, A2) => some (w :: ws, ns ++ ns2, A2)
end
mutual
def AllK : Tm → Prop
  | .mk k n s l => ((k = 1 ∨ k = 2 ∨ k = 3 ∨ k = 6) ∧ l = [] ∨ k = 4 ∨ k = 5) ∧ AllKL l
def AllKL : List Tm → Prop
  | [] => True
  | t :: r => AllK t ∧ AllKL r
end
theorem addL_pre (A : List ByteArray) (s : ByteArray) : ∃ B, addL A s = A ++ B := by
  unfold addL
  split
  · exact ⟨[s], rfl⟩
  · exact ⟨[], by simp⟩
mutual
/-- Just so many words are new as NeedOf tells; the atoms that were there stay. -/
theorem ptT_len : ∀ (t : Tm) (a : Nat) (A : List ByteArray) (ns : List Int) (A' : List ByteArray) (w : Int), AllK t → ptT t a A = some (ns, A', w) → ns.length = ndT t ∧ ∃ B, A' = A ++ B
  | .mk k n s l, a, A, ns, A', w, hK, h => by
    rw [AllK] at hK
    rw [ptT] at h
    rw [ndT]
    by_cases k1 : k = 1
    · rw [if_pos k1] at h
      simp only [Option.some.injEq, Prod.mk.injEq] at h
      obtain ⟨rfl, rfl, rfl⟩ := h
      have hl : l = [] := by rcases hK.1 with ⟨_, h⟩ | h | h; exact h; all_goals omega
      subst hl
      exact ⟨by simp [ndO, ndL, k1], [], by simp⟩
    rw [if_neg k1] at h
    by_cases k3 : k = 3
    · rw [if_pos k3] at h
      simp only [Option.some.injEq, Prod.mk.injEq] at h
      obtain ⟨rfl, rfl, rfl⟩ := h
      have hl : l = [] := by rcases hK.1 with ⟨_, h⟩ | h | h; exact h; all_goals omega
      subst hl
      exact ⟨by simp [ndO, ndL, k3], [], by simp⟩
    rw [if_neg k3] at h
    by_cases k2 : k = 2
    · rw [if_pos k2] at h
      split at h
      · cases h
      · simp only [Option.some.injEq, Prod.mk.injEq] at h
        obtain ⟨rfl, rfl, rfl⟩ := h
        have hl : l = [] := by rcases hK.1 with ⟨_, h⟩ | h | h; exact h; all_goals omega
        subst hl
        exact ⟨by simp [ndO, ndL, k2], addL_pre A s⟩
    rw [if_neg k2] at h
    by_cases k6 : k = 6
    · rw [if_pos k6] at h
      simp only [Option.some.injEq, Prod.mk.injEq] at h
      obtain ⟨rfl, rfl, rfl⟩ := h
      have hl : l = [] := by rcases hK.1 with ⟨_, h⟩ | h | h; exact h; all_goals omega
      subst hl
      refine ⟨?_, [], by simp⟩
      rw [List.length_cons, bytesI_len]
      simp [ndO, ndL, k6]
      omega
    rw [if_neg k6] at h
    by_cases k4 : k = 4
    · rw [if_pos k4] at h
      split at h
      · cases h
      · rename_i ws ns' A1 hp
        simp only [Option.some.injEq, Prod.mk.injEq] at h
        obtain ⟨rfl, rfl, rfl⟩ := h
        obtain ⟨h1, h2, h3⟩ := ptL_len l _ A ws ns' A1 hK.2 hp
        refine ⟨?_, h3⟩
        rw [List.length_cons, List.length_append, h1, h2]
        simp [ndO, k4]
        omega
    rw [if_neg k4] at h
    have k5 : k = 5 := by rcases hK.1 with ⟨h, _⟩ | h | h <;> omega
    split at h
    · rename_i hl0
      simp only [Option.some.injEq, Prod.mk.injEq] at h
      obtain ⟨rfl, rfl, rfl⟩ := h
      have hl : l = [] := List.eq_nil_of_length_eq_zero hl0
      subst hl
      exact ⟨by simp [ndO, ndL, k5], [], by simp⟩
    · split at h
      · cases h
      · rename_i ws ns' A1 hp
        simp only [Option.some.injEq, Prod.mk.injEq] at h
        obtain ⟨rfl, rfl, rfl⟩ := h
        obtain ⟨h1, h2, h3⟩ := ptL_len l _ A ws ns' A1 hK.2 hp
        refine ⟨?_, h3⟩
        rw [List.length_append, consL_len, h1, h2]
        simp [ndO, k5]
theorem ptL_len : ∀ (l : List Tm) (a : Nat) (A : List ByteArray) (ws ns : List Int) (A' : List ByteArray), AllKL l → ptL l a A = some (ws, ns, A') → ws.length = l.length ∧ ns.length = ndL l ∧ ∃ B, A' = A ++ B
  | [], a, A, ws, ns, A', _, h => by
    rw [ptL] at h
    simp only [Option.some.injEq, Prod.mk.injEq] at h
    obtain ⟨rfl, rfl, rfl⟩ := h
    exact ⟨rfl, by simp [ndL], [], by simp⟩
  | t :: r, a, A, ws, ns, A', hK, h => by
    rw [AllKL] at hK
    rw [ptL] at h
    split at h
    · cases h
    · rename_i ns1 A1 w1 hp
      split at h
      · cases h
      · rename_i ws2 ns2 A2 hp2
        simp only [Option.some.injEq, Prod.mk.injEq] at h
        obtain ⟨rfl, rfl, rfl⟩ := h
        obtain ⟨a1, B1, rfl⟩ := ptT_len t a A ns1 A1 w1 hK.1 hp
        obtain ⟨b1, b2, B2, rfl⟩ := ptL_len r _ _ ws2 ns2 A2 hK.2 hp2
        exact ⟨by simp [b1], by rw [List.length_append, a1, b2, ndL], B1 ++ B2, by simp⟩
end
end Go.Proofs.Ytabgfaafpgholaa
