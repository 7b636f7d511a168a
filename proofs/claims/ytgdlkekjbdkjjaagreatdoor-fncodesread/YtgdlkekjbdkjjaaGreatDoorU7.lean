/-
  The program's readCode and ParseCode: they answer progP, which is parseP.
-/
import Derived.Test.YtgdlkekjbdkjjaaGreatDoorU6
import Derived.Test.YtgdlkekjbdkjjaaGreatDoorU1
import Derived.Test.YtgdlkekjbdkjjaaGreatDoorCkB
import Derived.Test.YtgdlkekjbdkjjaaGreatDoorEsB
import Derived.Test.YtgdlkekjbdkjjaaGreatDoorCkE
namespace Go.Proofs.YtgdlkekjbdkjjaaGreatDoor.Code
open Go.RowKit
open Go.Proofs.YtgdlkekjbdkjjaaGreatDoor.Atom
set_option linter.unusedVariables false

def vLen : Value → Nat
  | .slice _ n _ => n
  | _ => 0
def ReadP (s : ByteArray) (w : World) (e : Ending) (w' : World) : Prop :=
  ((∃ (v : Value) (l : List I), progP (dat s) = some l ∧ e = .returned (.tuple #[v, .nilIface]) ∧ IRow w' w.heap.size v l) ∨ (progP (dat s) = none ∧ ∃ t : ByteArray, e = .returned (.tuple #[.slice none 0 0, .iface 81 (.string t)]))) ∧ Below w.heap.size w w'
/-- What the road wants of the world. -/
structure Sur (w : World) : Prop where
  shp : Shp w
  pow : Pow w
  glo : Glo w
  ety : Es.Ety w
theorem Sur.below {w w' : World} (h : Sur w) (hb : Below w.heap.size w w') : Sur w' := ⟨h.shp.below hb, h.pow.below hb, h.glo.below hb, h.ety.below hb⟩
theorem readQ_step {t : List UInt8} (m : Nat) (h : t ≠ []) : readQ (m + 1) t = match lineQ (Lib.cut t [10]).1 with | none => none | some x => (readQ m (Lib.cut t [10]).2.1).map fun l => x :: l := by
  rw [readQ, if_neg h]
  cases lineQ (Lib.cut t [10]).1 <;> rfl
theorem readQ_end (m : Nat) {t : List UInt8} (h : m = 0 ∨ t = []) : readQ m t = some [] := by
  rcases h with rfl | rfl
  · rfl
  · cases m <;> rfl
theorem map_snoc (o : Option (List I)) (l : List I) (x : I) : (o.map fun r => x :: r).map (fun r => l ++ r) = o.map fun r => (l ++ [x]) ++ r := by
  cases o <;> simp

set_option maxHeartbeats 4000000 in
theorem readCode_any (s : ByteArray) (w : World) (hs : s.size ≤ 1048576) (hU : Sur w) :
    Calls Tryz.prog 20 #[.string s] w (ReadP s w) := by
  obtain ⟨i0, hi, hz0, hz1, hz2⟩ := info_parts infoIns
  have HI : Hid (Tryz.prog.info? 47 = some i0 ∧ i0.zero = some (.agg #[.int .i64 0, .int .i64 0, .int .i64 0, .int .i64 0, .int .i64 0, .string ⟨#[]⟩]) ∧ i0.size = 6 ∧ i0.bytes = 56) := ⟨hi, hz0, hz1, hz2⟩
  clear hi hz0 hz1 hz2
  have HU : Hid (Sur w) := hU
  clear hU
  have HO0 : Hid (IRow (w.alloc (.cells #[] 47)) w.heap.size (.slice (some ⟨w.heap.size, 0, none⟩) 0 0) [] ∧ Below w.heap.size w (w.alloc (.cells #[] 47))) :=
    ⟨World.ownsRow_made (base := w.heap.size) (e := 47) (size := 6) w #[] 0 (Nat.le_refl _) (Nat.zero_le _) rfl, (Below.refl _ _).alloc (Nat.le_refl _) _⟩
  go_enter Tryz.func20, Tryz.ntmps20
  go_wp2_with fail
  go_loopw [4, 5] (fun v rv wr => ∃ (l : List I) (t : ByteArray), rv = .string t ∧ t.size ≤ 1048576 ∧ l.length ≤ 201 ∧ IRow wr w.heap.size v l ∧ Below w.heap.size w wr ∧ readQ 201 (dat s) = (readQ (201 - l.length) (dat t)).map fun r => l ++ r) (fun v rv wr => 201 - vLen v)
  case atStart => exact ⟨[], s, rfl, hs, Nat.zero_le _, HO0.out.1, HO0.out.2, by cases readQ (201 - ([] : List I).length) (dat s) <;> rfl⟩
  case round =>
    obtain ⟨l, t, rfl, ht, hl, hrow, hbr, hrq⟩ := hrel
    obtain ⟨va, oc, rfl, hoc⟩ := hrow.slice
    have HRO : Hid (IRow wr w.heap.size (.slice va l.length oc) l) := hrow
    have HBR : Hid (Below w.heap.size w wr) := hbr
    have HRQ : Hid (readQ 201 (dat s) = (readQ (201 - l.length) (dat t)).map fun r => l ++ r) := hrq
    clear hrow hbr hrq hoc HO0
    have hemp : t.toList.isEmpty = (dat t).isEmpty := by rw [ByteArray.toList_eq]; rfl
    by_cases hgo : dat t ≠ [] ∧ l.length ≤ 200
    · have hb1 : t.toList.isEmpty = false := by
        rw [hemp]; cases h : dat t with | nil => exact absurd h hgo.1 | cons a b => rfl
      have hl2 : (l.length : Int) ≤ 200 := by have := hgo.2; omega
      have HST : Hid (readQ (201 - l.length) (dat t) = match lineQ (dat (cutA t 10)) with | none => none | some x => (readQ (201 - (l.length + 1)) (dat (cutB t 10))).map fun r => x :: r) := by
        show _ = _
        have ea : dat (cutA t 10) = (Lib.cut (dat t) [10]).1 := by simp [dat, cutA]
        have eb : dat (cutB t 10) = (Lib.cut (dat t) [10]).2.1 := by simp [dat, cutB]
        rw [show 201 - l.length = (201 - (l.length + 1)) + 1 by have := hgo.2; omega, readQ_step _ hgo.1, ea, eb]
      have hA := Nat.le_trans (cutA_size t 10) ht
      have hB := Nat.le_trans (cutB_size t 10) ht
      clear hemp hgo
      go_wp2_with (go_at_call 42; fail)
      refine (cut_any t 10 wr (HU.out.below HBR.out).glo ht).mono ?_
      rintro e w2 ⟨rfl, hb2⟩
      have HB2 : Hid (Below w.heap.size w w2 ∧ IRow w2 w.heap.size (.slice va l.length oc) l) := ⟨HBR.out.trans (hb2.mono HBR.out.size), HRO.out.kept hb2⟩
      clear hb2 HRO HBR
      generalize cutA t 10 = W0 at HST hA ⊢
      generalize cutB t 10 = W1 at HST hB ⊢
      generalize cutQ t 10 = qq
      go_wp2_with (go_at_call 43; fail)
      refine (readIns_any W0 w2 (HU.out.below HB2.out.1).shp (HU.out.below HB2.out.1).glo hA).mono ?_
      rintro e w3 ⟨hor, hb3⟩
      have HB3 : Hid (Below w.heap.size w w3) := HB2.out.1.trans (hb3.mono HB2.out.1.size)
      have HR3 : Hid (IRow w3 w.heap.size (.slice va l.length oc) l) := HB2.out.2.kept hb3
      clear hb3 HB2
      rcases hor with ⟨op, xa, xb, xc, xn, xs, hlq, rfl⟩ | ⟨hlq, op, xa, xb, xc, xn, xs, et, rfl⟩
      · have HS3 : Hid (readQ 201 (dat s) = (readQ (201 - (l ++ [(⟨op, xa, xb, xc, xn, xs⟩ : I)]).length) (dat W1)).map fun r => (l ++ [⟨op, xa, xb, xc, xn, xs⟩]) ++ r) := by
          show _ = _
          rw [HRQ.out, HST.out, hlq]
          simp only
          rw [map_snoc, List.length_append, List.length_singleton]
        clear hlq HST HRQ
        have C3 : Hid (l.length + 1 ≤ maxLen) := by show _ ≤ _; unfold maxLen; omega
        have C4 : Hid ((l.length + 1) * 56 ≤ 140737488355328) := by show _ ≤ _; omega
        obtain ⟨o3, ho3⟩ : ∃ o3 : Obj, o3 = .cells #[.int .i64 op, .int .i64 xa, .int .i64 xb, .int .i64 xc, .int .i64 xn, .string xs] 47 := ⟨_, rfl⟩
        have hz4 : (w3.alloc o3).heap.size = w3.heap.size + 1 := World.size_alloc _ _
        have hb4 := ((Below.refl w3.heap.size w3).alloc (Nat.le_refl _) o3).alloc (by rw [hz4]; omega) o3
        have CR : Hid (IRow ((w3.alloc o3).alloc o3) w.heap.size (.slice va l.length oc) l) := HR3.out.kept hb4
        have CB : Hid (Below w.heap.size w ((w3.alloc o3).alloc o3)) := HB3.out.trans (hb4.mono HB3.out.size)
        have C1 : Hid (∀ j u, (insL ⟨op, xa, xb, xc, xn, xs⟩)[j]? = some u → ((w3.alloc o3).alloc o3).cell? ((⟨w3.heap.size + 1, 0, none⟩ : Addr).add j) = some u) := fun j u hj => by
          have := news6 (w3.alloc o3) ⟨op, xa, xb, xc, xn, xs⟩ j u hj
          rw [hz4] at this
          rw [ho3] at this ⊢
          exact this
        rw [ho3] at CR CB C1
        have C5 : Hid (w.heap.size ≤ ((w3.alloc (.cells #[.int .i64 op, .int .i64 xa, .int .i64 xb, .int .i64 xc, .int .i64 xn, .string xs] 47)).alloc (.cells #[.int .i64 op, .int .i64 xa, .int .i64 xb, .int .i64 xc, .int .i64 xn, .string xs] 47)).heap.size) := CB.out.size
        clear hz4 hb4 ho3
        go_wp2_with (at_builtin; refine wpList_append_own _ rfl _ _ 25 rfl w.heap.size 47 i0 (.agg #[.int .i64 0, .int .i64 0, .int .i64 0, .int .i64 0, .int .i64 0, .string ⟨#[]⟩]) 6 56 undInsS HI.out.1 HI.out.2.1 HI.out.2.2.1 HI.out.2.2.2 rfl (by decide) _ _ _ rfl CR.out ⟨w3.heap.size + 1, 0, none⟩ 1 1 (insL ⟨op, xa, xb, xc, xn, xs⟩) rfl rfl C1.out (one6 _) C3.out C4.out C5.out ?_; intro v2 w5 hown2 hgr2 hnil2)
        have HR5 : Hid (IRow w5 w.heap.size v2 (l ++ [⟨op, xa, xb, xc, xn, xs⟩])) := iRow_snoc hown2
        have HB5 : Hid (Below w.heap.size w w5) := CB.out.grown hgr2 C5.out (fun k hk => (World.ownsRow.lt CR.out k hk).1)
        have HV5 : Hid (vLen v2 = l.length + 1) := by
          obtain ⟨va2, vc2, e2, _⟩ := HR5.out.slice
          show _ = _; rw [e2]; simp [vLen]
        clear hown2 hgr2 hnil2
        go_wp2_with fail
        go_roundw
        case rel => exact ⟨l ++ [⟨op, xa, xb, xc, xn, xs⟩], W1, rfl, hB, by simp; omega, HR5.out, HB5.out, HS3.out⟩
        case measure => rw [HV5.out]; simp [vLen]; omega
      · have HNO : Hid (progP (dat s) = none) := by
          show _ = _
          unfold progP
          rw [HRQ.out, HST.out, hlq]; rfl
        clear hlq HST HRQ
        go_wp2_with fail
        go_ret2
        exact ⟨.inr ⟨HNO.out, _, rfl⟩, HB3.out.alloc HB3.out.size _⟩
    · have HRL : Hid (readQ 201 (dat s) = some l) := by
        show _ = _
        rw [HRQ.out, readQ_end _ (by
          by_cases h : dat t = []
          · exact .inr h
          · exact .inl (by have : ¬ l.length ≤ 200 := fun h2 => hgo ⟨h, h2⟩; omega))]
        simp
      have HSM : Hid (SmI 1048576 l) := fun x hx => Nat.le_trans ((readQ_small 201 _ l HRL.out).1 x hx) (by rw [dat_len]; exact hs)
      have hcond : t.toList.isEmpty = true ∨ (t.toList.isEmpty = false ∧ ¬ (l.length : Int) ≤ 200) := by
        by_cases h : dat t = []
        · exact .inl (by rw [hemp, h]; rfl)
        · exact .inr ⟨by rw [hemp]; cases hh : dat t with | nil => exact absurd hh h | cons a b => rfl, fun h2 => hgo ⟨h, by omega⟩⟩
      have HCK : Hid (∀ w', w' = wr → Calls Tryz.prog 31 #[.slice va l.length oc] w' fun e w'' => ChkP l e ∧ Below w'.heap.size w' w'') := fun w' h => by
        subst h
        exact check_any l va oc w' HRO.out.row (fun x hx => Nat.le_trans (HSM.out x hx) (by unfold maxLen; omega)) (by omega) (HU.out.below HBR.out).shp (HU.out.below HBR.out).pow
      have HPR : Hid (progP (dat s) = if codeB l = true ∧ codeT l = dat s then some l else none) := by
        show _ = _; unfold progP; rw [HRL.out]
      clear hemp hgo HRQ HRL
      have fin : ∀ (P : Prop), P → P := fun _ h => h
      clear fin
      rcases hcond with hb | ⟨hb, hb2⟩
      all_goals
        go_wp2_with (go_at_call 31; fail)
        refine (HCK.out _ rfl).mono ?_
        rintro e w3 ⟨hor, hb3⟩
        have HB3 : Hid (Below w.heap.size w w3) := HBR.out.trans (hb3.mono HBR.out.size)
        have HR3 : Hid (IRow w3 w.heap.size (.slice va l.length oc) l) := HRO.out.kept hb3
        clear hb3
        rcases hor with ⟨hcb, rfl⟩ | ⟨hcb, et, rfl⟩
        · have HTX : Hid (∀ w', w' = w3 → Calls Tryz.prog 12 #[.slice va l.length oc] w' fun e w'' => e = .returned (.string ⟨(codeT l).toArray⟩) ∧ Below w'.heap.size w' w'') := fun w' h => by
            subst h
            have := implCodeText_any l va oc w' HR3.out.row HSM.out (fun x hx => by
              have := fit_of (codeB_all hcb x hx)
              exact ⟨by have := this.a; omega, by have := this.b; omega, by have := this.c; omega, by have := this.n; omega⟩) (by omega) (HU.out.below HB3.out).shp (HU.out.below HB3.out).pow (HU.out.below HB3.out).ety
            unfold textC at this
            rw [if_pos hcb] at this
            exact this
          have HEQ : Hid ((codeT l == s.toList) = decide (codeT l = dat s)) := by
            show _ = _
            rw [Bool.eq_iff_iff, beq_iff_eq, decide_eq_true_eq, ByteArray.toList_eq]
            exact Iff.rfl
          have HCB : Hid (codeB l = true) := hcb
          clear hcb
          go_wp2_with (go_at_call 12; fail)
          refine (HTX.out _ rfl).mono ?_
          rintro e w4 ⟨rfl, hb4⟩
          have HB4 : Hid (Below w.heap.size w w4) := HB3.out.trans (hb4.mono HB3.out.size)
          have HR4 : Hid (IRow w4 w.heap.size (.slice va l.length oc) l) := HR3.out.kept hb4
          clear hb4
          by_cases ht2 : codeT l = dat s
          · have HYE : Hid (progP (dat s) = some l) := by show _ = _; rw [HPR.out, if_pos ⟨HCB.out, ht2⟩]
            have hq := HEQ.out
            rw [decide_eq_true ht2] at hq
            clear ht2
            go_wp2_with fail
            go_ret2
            exact ⟨.inl ⟨_, l, HYE.out, rfl, HR4.out⟩, HB4.out⟩
          · have HNO : Hid (progP (dat s) = none) := by show _ = _; rw [HPR.out, if_neg (fun h => ht2 h.2)]
            have hq := HEQ.out
            rw [decide_eq_false ht2] at hq
            go_wp2_with fail
            go_ret2
            exact ⟨.inr ⟨HNO.out, _, rfl⟩, HB4.out⟩
        · have HNO : Hid (progP (dat s) = none) := by show _ = _; rw [HPR.out, if_neg (fun h => by rw [hcb] at h; cases h.1)]
          clear hcb
          go_wp2_with fail
          go_ret2
          exact ⟨.inr ⟨HNO.out, _, rfl⟩, HB3.out⟩

set_option maxHeartbeats 2000000 in
/-- The program's ParseCode answers parseP, its row its own. -/
theorem implParse_any (s : ByteArray) (w : World) (hs : s.size ≤ 1048576) (hU : Sur w) :
    Calls Tryz.prog 6 #[.string s] w fun e w' => ParP (parseP (dat s)) w.heap.size e w' ∧ Below w.heap.size w w' := by
  have HU : Hid (Sur w) := hU
  clear hU
  go_enter Tryz.func6, Tryz.ntmps6
  go_wp2_with (go_at_call 20; fail)
  refine (readCode_any s w hs HU.out).mono ?_
  rintro e w1 ⟨hor, hb1⟩
  have HB1 : Hid (Below w.heap.size w w1) := hb1
  clear hb1
  rcases hor with ⟨v, l, hp, rfl, hrow⟩ | ⟨hp, t, rfl⟩
  · obtain ⟨va, vc, rfl, _⟩ := hrow.slice
    have HPP : Hid (parseP (dat s) = some l) := by show _ = _; rw [← prog_eq]; exact hp
    have HRO : Hid (IRow w1 w.heap.size (.slice va l.length vc) l) := hrow
    clear hp hrow
    go_wp2_with (go_at_call 21; fail)
    refine (Es.noCode_nil _).mono ?_
    rintro e w2 ⟨rfl, hb2⟩
    have HB2 : Hid (Below w.heap.size w w2 ∧ IRow w2 w.heap.size (.slice va l.length vc) l) := ⟨HB1.out.trans (hb2.mono HB1.out.size), HRO.out.kept hb2⟩
    clear hb2
    go_wp2_with fail
    go_ret2
    exact ⟨⟨va, vc, l, by rw [HPP.out]; rfl, HB2.out.2, .inl HPP.out⟩, HB2.out.1⟩
  · have HPP : Hid (parseP (dat s) = none) := by show _ = _; rw [← prog_eq]; exact hp
    clear hp
    go_wp2_with (go_at_call 21; fail)
    refine (Es.noCode_hit t _ (HU.out.below HB1.out).ety).mono ?_
    rintro e w2 ⟨rfl, hb2⟩
    have HB2 : Hid (Below w.heap.size w w2) := HB1.out.trans (hb2.mono HB1.out.size)
    have HNR : Hid (IRow (w2.alloc (.cells #[] 47)) w2.heap.size (.slice (some ⟨w2.heap.size, 0, none⟩) 0 0) []) := World.ownsRow_made (base := w2.heap.size) (e := 47) (size := 6) w2 #[] 0 (Nat.le_refl _) (Nat.zero_le _) rfl
    clear hb2
    go_wp2_with fail
    go_ret2
    exact ⟨⟨some ⟨w2.heap.size, 0, none⟩, 0, [], by rw [HPP.out]; rfl, HNR.out.base HB2.out.size, .inr ⟨HPP.out, rfl⟩⟩, HB2.out.alloc HB2.out.size _⟩
end Go.Proofs.YtgdlkekjbdkjjaaGreatDoor.Code
