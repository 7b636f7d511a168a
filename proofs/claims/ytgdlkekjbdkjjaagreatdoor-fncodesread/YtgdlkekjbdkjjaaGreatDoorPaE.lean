/-
  A text read as code: the specification's ParseCode: it answers parseP.
-/
import Derived.Test.YtgdlkekjbdkjjaaGreatDoorPaD
import Derived.Test.YtgdlkekjbdkjjaaGreatDoorCkC
namespace Go.Proofs.YtgdlkekjbdkjjaaGreatDoor.Code
open Go.RowKit
open Go.Proofs.YtgdlkekjbdkjjaaGreatDoor.Atom
set_option linter.unusedVariables false

def readL : List (List UInt8) → Option (List I)
  | [] => some []
  | p :: ps => if (insP p).2 then (readL ps).map fun l => (insP p).1 :: l else none
def parseP (t : List UInt8) : Option (List I) :=
  if (spl 10 [] t).getLast? = some [] then
    match readL (spl 10 [] t).dropLast with
    | some l => if codeB l then some l else none
    | none => none
  else none

/-- The instructions l stand in a row of the call's own. -/
def IRow (w : World) (B : Nat) (v : Value) (l : List I) : Prop := w.ownsRow B 47 6 v l.length (l.flatMap insL)
theorem IRow.slice {w : World} {B : Nat} {v : Value} {l : List I} (h : IRow w B v l) : ∃ va vc, v = .slice va l.length vc ∧ l.length ≤ vc ∧ vc ≤ maxLen := by
  rcases h.2 with ⟨hv, h0⟩ | ⟨g, cap, cur, hv, _, _, h1, h2, _⟩
  · exact ⟨none, 0, by rw [hv, h0], by omega, Nat.zero_le _⟩
  · exact ⟨_, cap, hv, h1, h2⟩
theorem IRow.kept {w w' : World} {B : Nat} {v : Value} {l : List I} (h : IRow w B v l) (hb : Below w.heap.size w w') : IRow w' B v l :=
  World.ownsRow.kept h ⟨hb.os, hb.tape, hb.output, hb.size, fun k hk _ => hb.block k hk⟩ (row := none) (by cases hv : v.ownBlock with | none => exact .inl rfl | some x => exact .inr (by simp))
theorem IRow.base {w : World} {B B' : Nat} {v : Value} {l : List I} (h : IRow w B v l) (hB : B' ≤ B) : IRow w B' v l := by
  refine ⟨h.1, ?_⟩
  rcases h.2 with hn | ⟨g, cap, cur, hv, hb, rest⟩
  · exact .inl hn
  · exact .inr ⟨g, cap, cur, hv, Nat.le_trans hB hb, rest⟩
theorem flat_at : ∀ (l : List I) (j i : Nat), (hj : j < l.length) → (hi : i < 6) → (l.flatMap insL)[j * 6 + i]? = (insL l[j])[i]?
  | x :: l, 0, i, _, hi => by
    rw [List.flatMap_cons, Nat.zero_mul, Nat.zero_add, List.getElem?_append_left (show i < 6 from hi)]; rfl
  | x :: l, j + 1, i, hj, hi => by
    have hj' : j < l.length := by simpa using hj
    rw [List.flatMap_cons, List.getElem?_append_right (by show 6 ≤ _; omega)]
    have : (j + 1) * 6 + i - (insL x).length = j * 6 + i := by show (j + 1) * 6 + i - 6 = _; omega
    rw [this, flat_at l j i hj' hi]; rfl
theorem flat_len6 (l : List I) : (l.flatMap insL).length = l.length * 6 := by
  induction l with
  | nil => rfl
  | cons x l ih => rw [List.flatMap_cons, List.length_append, ih, List.length_cons]; show 6 + _ = _; omega
theorem IRow.row {w : World} {B : Nat} {va : Option Addr} {n vc : Nat} {l : List I} (h : IRow w B (.slice va n vc) l) : RowI w va l := by
  by_cases hl : l = []
  · exact .inl hl
  rcases h.2 with ⟨_, h0⟩ | ⟨g, cap, cur, hv, hB, hg, h1, _, hs, ht⟩
  · exact absurd (List.length_eq_zero_iff.1 h0) hl
  · simp only [Value.slice.injEq] at hv
    obtain ⟨rfl, _, _⟩ := hv
    refine .inr ⟨g, 0, rfl, fun j hj => ?_⟩
    have hc : ∀ i, i < 6 → w.cell? ⟨g, 0 + j * 6 + i, none⟩ = (insL l[j])[i]? := fun i hi => by
      rw [World.cell?, hg]
      simp only
      have h2 : (cur.toList.take (l.length * 6))[j * 6 + i]? = (l.flatMap insL)[j * 6 + i]? := by rw [ht]
      rw [List.getElem?_take, if_pos (by omega), flat_at l j i hj hi] at h2
      rw [Nat.zero_add]
      simpa using h2
    exact ⟨hc 0 (by omega), hc 1 (by omega), hc 2 (by omega), hc 3 (by omega), hc 4 (by omega), hc 5 (by omega)⟩
theorem iRow_snoc {w : World} {B : Nat} {v : Value} {l : List I} {x : I} (h : w.ownsRow B 47 6 v (l.length + 1) (l.flatMap insL ++ insL x)) : IRow w B v (l ++ [x]) := by
  unfold IRow
  simpa using h
theorem one6 (x : I) : ∀ u ∈ insL x, u.oneCell' = true := fun u hu => by
  simp only [insL, List.mem_cons, List.not_mem_nil, or_false] at hu
  rcases hu with rfl | rfl | rfl | rfl | rfl | rfl <;> rfl
theorem news6 (W : World) (x : I) : ∀ j u, (insL x)[j]? = some u → (W.alloc (.cells #[.int .i64 x.op, .int .i64 x.a, .int .i64 x.b, .int .i64 x.c, .int .i64 x.n, .string x.s] 47)).cell? ((⟨W.heap.size, 0, none⟩ : Addr).add j) = some u := by
  intro j u hj
  have e : (⟨W.heap.size, 0, none⟩ : Addr).add j = ⟨W.heap.size, j, none⟩ := by unfold Addr.add; by_cases h : j = 0 <;> simp [h]
  rw [e, World.cell?_alloc_new, ← hj]
  exact List.getElem?_toArray

theorem readL_snoc : ∀ (ps : List (List UInt8)) (l : List I) (p : List UInt8), readL ps = some l → readL (ps ++ [p]) = if (insP p).2 then some (l ++ [(insP p).1]) else none
  | [], l, p, h => by
    simp only [readL, Option.some.injEq] at h
    subst h
    show readL [p] = _
    rw [readL]
    cases (insP p).2 <;> rfl
  | q :: ps, l, p, h => by
    rw [readL] at h
    cases hq : (insP q).2
    · rw [hq] at h; simp at h
    · rw [hq] at h
      simp only [if_true] at h
      obtain ⟨m, hm, rfl⟩ := Option.map_eq_some_iff.1 h
      rw [List.cons_append, readL, hq, readL_snoc ps m p hm]
      cases (insP p).2 <;> rfl
theorem readL_bad : ∀ (ps : List (List UInt8)) (p : List UInt8) (qs : List (List UInt8)), (insP p).2 = false → readL (ps ++ p :: qs) = none
  | [], p, qs, h => by rw [List.nil_append, readL, h]; rfl
  | q :: ps, p, qs, h => by
    rw [List.cons_append, readL, readL_bad ps p qs h]
    cases (insP q).2 <;> rfl

theorem setAll_small (M : Nat) : ∀ (us : List UInt8) (ws : List (List UInt8)) (x : I) (ok : Bool), x.s.size ≤ M → (∀ p ∈ ws, p.length ≤ M) → (setAll x ok us ws).1.s.size ≤ M
  | [], ws, x, ok, hx, _ => by rw [setAll_nil]; exact hx
  | u :: us, [], x, ok, hx, _ => hx
  | u :: us, p :: ws, x, ok, hx, hw => by
    unfold setAll
    split
    · refine setAll_small M us ws _ _ ?_ (fun q hq => hw q (List.mem_cons_of_mem _ hq))
      have hp := hw p List.mem_cons_self
      unfold setI
      split
      · simpa [ByteArray.size] using hp
      split
      · exact hx
      split
      · exact hx
      split
      · exact hx
      · exact hx
    · exact hx
theorem insW_small (ws : List (List UInt8)) (M : Nat) (hw : ∀ p ∈ ws, p.length ≤ M) : ∀ (m k : Nat), (insW ws k m).1.s.size ≤ M
  | 0, k => Nat.zero_le _
  | m + 1, k => by
    unfold insW
    split
    · exact setAll_small M _ _ _ _ (Nat.zero_le _) (fun q hq => hw q (List.mem_of_mem_tail hq))
    · exact insW_small ws M hw m (k + 1)
theorem insP_small (p : List UInt8) : (insP p).1.s.size ≤ p.length :=
  insW_small _ _ (fun q hq => by have := spl_piece 32 p [] q hq; simpa using this) 20 0
theorem readL_small (M : Nat) : ∀ (ps : List (List UInt8)) (l : List I), (∀ p ∈ ps, p.length ≤ M) → readL ps = some l → SmI M l
  | [], l, _, h => by
    simp only [readL, Option.some.injEq] at h
    subst h
    intro x hx; cases hx
  | p :: ps, l, hp, h => by
    rw [readL] at h
    split at h
    · obtain ⟨m, hm, rfl⟩ := Option.map_eq_some_iff.1 h
      intro x hx
      rcases List.mem_cons.1 hx with rfl | hx
      · exact Nat.le_trans (insP_small p) (hp p List.mem_cons_self)
      · exact readL_small M ps m (fun q hq => hp q (List.mem_cons_of_mem _ hq)) hm x hx
    · cases h

/-- What ParseCode answers. -/
def ParP (o : Option (List I)) (B : Nat) (e : Ending) (w' : World) : Prop :=
  ∃ (va : Option Addr) (vc : Nat) (l : List I), e = .returned (.tuple #[.slice va l.length vc, .bool o.isSome]) ∧ IRow w' B (.slice va l.length vc) l ∧ (o = some l ∨ o = none ∧ l = [])

set_option maxHeartbeats 4000000 in
theorem specParse_any (s : ByteArray) (w : World) (hs : s.size ≤ 1048576) :
    Calls Tryz.prog 7 #[.string s] w fun e w' => ParP (parseP (dat s)) w.heap.size e w' ∧ Below w.heap.size w w' := by
  obtain ⟨i0, hi, hz0, hz1, hz2⟩ := info_parts infoIns
  have HI : Hid (Tryz.prog.info? 47 = some i0 ∧ i0.zero = some (.agg #[.int .i64 0, .int .i64 0, .int .i64 0, .int .i64 0, .int .i64 0, .string ⟨#[]⟩]) ∧ i0.size = 6 ∧ i0.bytes = 56) := ⟨hi, hz0, hz1, hz2⟩
  clear hi hz0 hz1 hz2
  have HN0 : Hid (IRow (w.alloc (.cells #[] 47)) w.heap.size (.slice (some ⟨w.heap.size, 0, none⟩) 0 0) [] ∧ Below w.heap.size w (w.alloc (.cells #[] 47))) :=
    ⟨World.ownsRow_made (base := w.heap.size) (e := 47) (size := 6) w #[] 0 (Nat.le_refl _) (Nat.zero_le _) rfl, (Below.refl _ _).alloc (Nat.le_refl _) _⟩
  go_enter Tryz.func7, Tryz.ntmps7
  go_wp2_with (go_at_call 22; fail)
  refine (split_any s 10 10 rfl _ hs).mono ?_
  rintro e w1 ⟨v, L, rfl, hrow, hL, hb1⟩
  have hLne : L ≠ [] := by
    intro h
    rw [h] at hL
    exact spl_ne 10 _ _ hL.symm
  obtain ⟨wb, vc, hwb, rfl, hcel⟩ := hrow.at hLne
  obtain ⟨m, hm⟩ : ∃ m, L.length = m + 1 := by
    cases L with
    | nil => exact absurd rfl hLne
    | cons a b => exact ⟨b.length, rfl⟩
  have HLL : Hid (L.length ≤ 1048577) := by
    have h1 := spl_len 10 (dat s) []
    rw [← hL, List.length_map, dat_len] at h1
    show _ ≤ _; omega
  have hm1 : m ≤ 1048576 := by have := HLL.out; omega
  have HN1 : Hid (IRow w1 w.heap.size (.slice (some ⟨w.heap.size, 0, none⟩) 0 0) [] ∧ Below w.heap.size w w1) := ⟨HN0.out.1.kept hb1, HN0.out.2.trans (hb1.mono HN0.out.2.size)⟩
  have HCE : Hid (∀ j (hj : j < L.length), w1.cell? ⟨wb, j, none⟩ = some (.string L[j])) := hcel
  have HSW : Hid (∀ j (hj : j < L.length), (L[j]).size ≤ 1048576) := fun j hj => by
    have h1 := spl_piece 10 (dat s) [] (dat L[j]) (by rw [← hL]; exact List.mem_map_of_mem (List.getElem_mem hj))
    rw [dat_len, dat_len] at h1
    simp at h1; omega
  have hml : m < L.length := by omega
  have clast := hcel m hml
  have HPA : Hid (parseP (dat s) = if dat (L[m]'hml) = [] then (match readL ((L.take m).map dat) with | some l => if codeB l then some l else none | none => none) else none) := by
    show _ = _
    unfold parseP
    rw [← hL]
    have e1 : (L.map dat).getLast? = some (dat (L[m]'hml)) := by
      rw [List.getLast?_eq_getElem?, List.length_map, hm, Nat.add_sub_cancel, List.getElem?_map, List.getElem?_eq_getElem hml]; rfl
    have e2 : (L.map dat).dropLast = (L.take m).map dat := by
      rw [List.dropLast_eq_take, List.length_map, hm, Nat.add_sub_cancel, List.map_take]
    rw [e1, e2]
    simp only [Option.some.injEq]
  have HLM : Hid (L.length = m + 1) := hm
  generalize hlast : L[m]'hml = last at clast HPA
  have hemp : last.toList.isEmpty = (dat last).isEmpty := by rw [ByteArray.toList_eq]; rfl
  clear hrow hL hb1 hwb hcel HN0 hlast
  have e1 : IntKind.i64.wrap ((m : Int) + 1 - 1) = (m : Int) := by rw [IntKind.wrap_i64]; omega
  have e2 : IntKind.i64.wrap (m : Int) = (m : Int) := by rw [IntKind.wrap_i64]; omega
  rw [hm]
  clear hm
  by_cases hle : dat last = []
  rotate_left
  · have HNO : Hid (parseP (dat s) = none) := by show _ = _; rw [HPA.out, if_neg hle]
    have hb : last.toList.isEmpty = false := by rw [hemp]; cases h : dat last with | nil => exact absurd h hle | cons a b => rfl
    clear hemp
    go_wp2_with fail
    go_ret2
    refine ⟨⟨some ⟨w.heap.size, 0, none⟩, 0, [], by rw [HNO.out]; rfl, HN1.out.1, .inr ⟨HNO.out, rfl⟩⟩, HN1.out.2⟩
  · have HYE : Hid (parseP (dat s) = (match readL ((L.take m).map dat) with | some l => if codeB l then some l else none | none => none)) := by show _ = _; rw [HPA.out, if_pos hle]
    have hb : last.toList.isEmpty = true := by rw [hemp, hle]; rfl
    have HO0 : Hid (IRow (w1.alloc (.cells #[] 47)) w1.heap.size (.slice (some ⟨w1.heap.size, 0, none⟩) 0 0) [] ∧ Below w1.heap.size w1 (w1.alloc (.cells #[] 47))) :=
      ⟨World.ownsRow_made (base := w1.heap.size) (e := 47) (size := 6) w1 #[] 0 (Nat.le_refl _) (Nat.zero_le _) rfl, (Below.refl _ _).alloc (Nat.le_refl _) _⟩
    clear hemp hle HPA
    go_wp2_with fail
    clear clast hb e1 e2
    go_loopw [7, 8] (fun v iv wr => ∃ (j : Nat) (l : List I), j ≤ m ∧ iv = .int .i64 j ∧ l.length ≤ j ∧ readL ((L.take j).map dat) = some l ∧ IRow wr w1.heap.size v l ∧ Below w1.heap.size w1 wr) (fun v iv wr => m - (intOf iv).toNat)
    case atStart => exact ⟨0, [], Nat.zero_le _, rfl, Nat.le_refl _, rfl, HO0.out.1, HO0.out.2⟩
    case round =>
      obtain ⟨j, l, hj, rfl, hlj, hrd, hrow, hbr⟩ := hrel
      obtain ⟨va, oc, rfl, hoc⟩ := hrow.slice
      have HRD : Hid (readL ((L.take j).map dat) = some l) := hrd
      have HRO : Hid (IRow wr w1.heap.size (.slice va l.length oc) l) := hrow
      have HBR : Hid (Below w1.heap.size w1 wr) := hbr
      clear hrd hrow hbr hoc HO0
      by_cases hlt : j < m
      · have hjL : j < L.length := by have := HLM.out; omega
        have cw := (HBR.out.cell (p := ⟨wb, j, none⟩) (World.block_lt_of_cell? w1 _ (HCE.out j hjL))).trans (HCE.out j hjL)
        have hws := HSW.out j hjL
        have HTK : Hid ((L.take (j + 1)).map dat = (L.take j).map dat ++ [dat L[j]]) := by
          show _ = _
          rw [List.take_succ_eq_append_getElem hjL, List.map_append]; rfl
        have HFL : Hid ((insP (dat L[j])).2 = false → parseP (dat s) = none) := fun h => by
          have e : (L.take m).map dat = (L.take j).map dat ++ dat L[j] :: ((L.take m).drop (j + 1)).map dat := by
            have h1 : j < (L.take m).length := by have := HLM.out; rw [List.length_take]; omega
            rw [← List.map_cons, show (L[j] :: (L.take m).drop (j + 1)) = (L.take m).drop j by rw [List.drop_eq_getElem_cons h1]; simp, ← List.map_append]
            congr 1
            rw [show L.take j = (L.take m).take j by rw [List.take_take, Nat.min_eq_left (by omega)], List.take_append_drop]
          rw [HYE.out, e, readL_bad _ _ _ h]
        have HSN : Hid ((insP (dat L[j])).2 = true → readL ((L.take (j + 1)).map dat) = some (l ++ [(insP (dat L[j])).1])) := fun h => by
          rw [HTK.out, readL_snoc _ _ _ HRD.out, if_pos h]
        generalize L[j] = ln at cw hws HFL HSN
        clear HTK
        have HLI : Hid (∀ w', Calls Tryz.prog 23 #[.string ln] w' fun e w'' => (∃ (op a b c n : Int) (s : ByteArray), e = .returned (.tuple #[.agg #[.int .i64 op, .int .i64 a, .int .i64 b, .int .i64 c, .int .i64 n, .string s], .bool (insP (dat ln)).2]) ∧ (insP (dat ln)).1 = ⟨op, a, b, c, n, s⟩) ∧ Below w'.heap.size w' w'') := fun w' => ins_line ln w' hws
        generalize hP : insP (dat ln) = P at HFL HSN HLI
        obtain ⟨PI, Pq⟩ := P
        clear hP hws
        cases Pq
        · go_wp2_with (go_at_call 23; fail)
          refine (HLI.out _).mono ?_
          rintro e w3 ⟨⟨op, xa, xb, xc, xn, xs, rfl, hPI⟩, hb3⟩
          have HB3 : Hid (Below w1.heap.size w1 w3) := HBR.out.trans (hb3.mono HBR.out.size)
          have HNO : Hid (parseP (dat s) = none) := HFL.out (by trivial)
          clear hb3 hPI
          go_wp2_with fail
          go_ret2
          have hbA := HB3.out.alloc HB3.out.size (.cells #[.int .i64 op, .int .i64 xa, .int .i64 xb, .int .i64 xc, .int .i64 xn, .string xs] 47)
          exact ⟨⟨some ⟨w.heap.size, 0, none⟩, 0, [], by rw [HNO.out]; rfl, HN1.out.1.kept hbA, .inr ⟨HNO.out, rfl⟩⟩, HN1.out.2.trans (hbA.mono HN1.out.2.size)⟩
        · go_wp2_with (go_at_call 23; fail)
          refine (HLI.out _).mono ?_
          rintro e w3 ⟨⟨op, xa, xb, xc, xn, xs, rfl, hPI⟩, hb3⟩
          have hPI' : PI = ⟨op, xa, xb, xc, xn, xs⟩ := hPI
          subst hPI'
          have HB3 : Hid (Below w1.heap.size w1 w3) := HBR.out.trans (hb3.mono HBR.out.size)
          have HR3 : Hid (IRow w3 w1.heap.size (.slice va l.length oc) l) := HRO.out.kept hb3
          have HS3 : Hid (readL ((L.take (j + 1)).map dat) = some (l ++ [⟨op, xa, xb, xc, xn, xs⟩])) := HSN.out (by trivial)
          clear hb3 hPI
          have C3 : Hid (l.length + 1 ≤ maxLen) := by show _ ≤ _; unfold maxLen; omega
          have C4 : Hid ((l.length + 1) * 56 ≤ 140737488355328) := by show _ ≤ _; omega
          obtain ⟨o3, ho3⟩ : ∃ o3 : Obj, o3 = .cells #[.int .i64 op, .int .i64 xa, .int .i64 xb, .int .i64 xc, .int .i64 xn, .string xs] 47 := ⟨_, rfl⟩
          have hz4 : (w3.alloc o3).heap.size = w3.heap.size + 1 := World.size_alloc _ _
          have hb4 := ((Below.refl w3.heap.size w3).alloc (Nat.le_refl _) o3).alloc (by rw [hz4]; omega) o3
          have CR : Hid (IRow ((w3.alloc o3).alloc o3) w1.heap.size (.slice va l.length oc) l) := HR3.out.kept hb4
          have CB : Hid (Below w1.heap.size w1 ((w3.alloc o3).alloc o3)) := HB3.out.trans (hb4.mono HB3.out.size)
          have C1 : Hid (∀ j u, (insL ⟨op, xa, xb, xc, xn, xs⟩)[j]? = some u → ((w3.alloc o3).alloc o3).cell? ((⟨w3.heap.size + 1, 0, none⟩ : Addr).add j) = some u) := fun j u hj => by
            have := news6 (w3.alloc o3) ⟨op, xa, xb, xc, xn, xs⟩ j u hj
            rw [hz4] at this
            rw [ho3] at this ⊢
            exact this
          rw [ho3] at CR CB C1
          have C5 : Hid (w1.heap.size ≤ ((w3.alloc (.cells #[.int .i64 op, .int .i64 xa, .int .i64 xb, .int .i64 xc, .int .i64 xn, .string xs] 47)).alloc (.cells #[.int .i64 op, .int .i64 xa, .int .i64 xb, .int .i64 xc, .int .i64 xn, .string xs] 47)).heap.size) := CB.out.size
          clear hz4 hb4 ho3
          go_wp2_with (at_builtin; refine wpList_append_own _ rfl _ _ 25 rfl w1.heap.size 47 i0 (.agg #[.int .i64 0, .int .i64 0, .int .i64 0, .int .i64 0, .int .i64 0, .string ⟨#[]⟩]) 6 56 undInsS HI.out.1 HI.out.2.1 HI.out.2.2.1 HI.out.2.2.2 rfl (by decide) _ _ _ rfl CR.out ⟨w3.heap.size + 1, 0, none⟩ 1 1 (insL ⟨op, xa, xb, xc, xn, xs⟩) rfl rfl C1.out (one6 _) C3.out C4.out C5.out ?_; intro v2 w5 hown2 hgr2 hnil2)
          have HR5 : Hid (IRow w5 w1.heap.size v2 (l ++ [⟨op, xa, xb, xc, xn, xs⟩])) := iRow_snoc hown2
          have HB5 : Hid (Below w1.heap.size w1 w5) := CB.out.grown hgr2 C5.out (fun k hk => (World.ownsRow.lt CR.out k hk).1)
          clear hown2 hgr2 hnil2
          go_wp2_with fail
          go_roundw
          case rel => exact ⟨j + 1, l ++ [⟨op, xa, xb, xc, xn, xs⟩], by omega, by go_num, by simp; omega, HS3.out, HR5.out, HB5.out⟩
          case measure => simp [intOf]; omega
      · have hjm : j = m := by omega
        have HRM : Hid (readL ((L.take m).map dat) = some l) := by have := HRD.out; rw [hjm] at this; exact this
        have HSM : Hid (SmI maxLen l) := fun x hx => by
          have := readL_small 1048576 _ l (fun p hp => by
            obtain ⟨y, hy, rfl⟩ := List.mem_map.1 hp
            obtain ⟨i, hi, rfl⟩ := List.getElem_of_mem (List.mem_of_mem_take hy)
            rw [dat_len]; exact HSW.out i hi) HRM.out x hx
          exact Nat.le_trans this (by unfold maxLen; omega)
        have HPC : Hid (parseP (dat s) = if codeB l then some l else none) := by show _ = _; rw [HYE.out, HRM.out]
        have HCK : Hid (∀ w', w' = wr → Calls Tryz.prog 24 #[.slice va l.length oc] w' fun e w'' => e = .returned (.bool (codeB l)) ∧ Below w'.heap.size w' w'') := fun w' h => by
          subst h; exact specCode_any l va oc w' HRO.out.row HSM.out (by omega)
        cases hc : codeB l
        · have HNO : Hid (parseP (dat s) = none) := by show _ = _; rw [HPC.out, hc]; rfl
          rw [hc] at HCK
          go_wp2_with (go_at_call 24; refine (HCK.out _ rfl).mono ?_; rintro e w3 ⟨rfl, hb3⟩; have HB3 : Hid (Below w1.heap.size w1 w3) := HBR.out.trans (hb3.mono HBR.out.size); clear hb3)
          go_ret2
          exact ⟨⟨some ⟨w.heap.size, 0, none⟩, 0, [], by rw [HNO.out]; rfl, HN1.out.1.kept HB3.out, .inr ⟨HNO.out, rfl⟩⟩, HN1.out.2.trans (HB3.out.mono HN1.out.2.size)⟩
        · have HYS : Hid (parseP (dat s) = some l) := by show _ = _; rw [HPC.out, hc]; rfl
          rw [hc] at HCK
          go_wp2_with (go_at_call 24; refine (HCK.out _ rfl).mono ?_; rintro e w3 ⟨rfl, hb3⟩; have HB3 : Hid (Below w1.heap.size w1 w3 ∧ IRow w3 w1.heap.size (.slice va l.length oc) l) := ⟨HBR.out.trans (hb3.mono HBR.out.size), HRO.out.kept hb3⟩; clear hb3)
          go_ret2
          exact ⟨⟨va, oc, l, by rw [HYS.out]; rfl, HB3.out.2.base HN1.out.2.size, .inl HYS.out⟩, HN1.out.2.trans (HB3.out.1.mono HN1.out.2.size)⟩
end Go.Proofs.YtgdlkekjbdkjjaaGreatDoor.Code
