/-
  The program's text of a term, all of it: appendTerm and appendTerms.
-/
import Derived.Test.YtghfhlheenaacabDoorTxF
namespace Go.Proofs.YtghfhlheenaacabDoor
open Go.RowKit Atom
set_option linter.unusedVariables false

def ApT (t : Tm) : Prop := ∀ (w0 : World) (B : Nat) (w : World) (v : Value) (n : Nat) (xs : List Value) (tv : Value), RepV 0 w0 t tv → w0.heap.size ≤ B → B ≤ w.heap.size → Below w0.heap.size w0 w →
  w.ownsRow B 5 1 v n xs → Right t → n + (text t).length ≤ 100000 → Tab B w → Calls Tryd.prog 14 #[v, tv] w (Adds B w n xs (text t))
def ApS (l : List Tm) : Prop := ∀ (w0 : World) (B : Nat) (w : World) (v : Value) (n : Nat) (xs : List Value) (ao : Option Addr) (cap : Nat), RepL 0 w0 l ao → l.length ≤ cap → cap ≤ maxLen → w0.heap.size ≤ B → B ≤ w.heap.size → Below w0.heap.size w0 w →
  w.ownsRow B 5 1 v n xs → n + (texts true l).length ≤ 100000 → Tab B w → Calls Tryd.prog 22 #[v, .slice ao l.length cap] w (Adds B w n xs (texts true l))

set_option maxRecDepth 100000 in
set_option maxHeartbeats 1000000 in
theorem ap_4 (w0 : World) (B : Nat) (w : World) (v : Value) (n : Nat) (xs : List Value) (m : Int) (s : ByteArray) (l : List Tm) (ao : Option Addr) (cap : Nat) (hs : ApS l) (hrep : RepL 0 w0 l ao) (hlc : l.length ≤ cap) (hcm : cap ≤ maxLen) (h0 : w0.heap.size ≤ B) (hB : B ≤ w.heap.size) (hw : Below w0.heap.size w0 w)
    (hown : w.ownsRow B 5 1 v n xs) (hl : n + (texts true l).length + 2 ≤ 100000) (hT : Tab B w) :
    Calls Tryd.prog 14 #[v, .agg #[.int .i64 4, .int .i64 m, .string s, .slice ao l.length cap]] w (Adds B w n xs ([123] ++ texts true l ++ [125])) := by
  obtain ⟨i0, hi, hz0, hz1, hz2⟩ := info_parts infoByte
  have a80 := assert_83_80
  have a81 := assert_83_81
  have a82 := assert_83_82
  have a83 := assert_83_83
  have HO : Hid (w.ownsRow B 5 1 v n xs) := hown
  have HT : Hid (Tab B w) := hT
  have HS : Hid (ApS l) := hs
  have HP : Hid (RepL 0 w0 l ao ∧ l.length ≤ cap ∧ cap ≤ maxLen ∧ w0.heap.size ≤ B ∧ Below w0.heap.size w0 w) := ⟨hrep, hlc, hcm, h0, hw⟩
  clear hown hT hs hrep hlc hcm h0 hw
  go_enter Tryd.func14, Tryd.ntmps14
  go_wp2_with (first | (go_at_call 20; go_in) | (at_builtin; refine wpList_append_own _ rfl (.tmp 38) (.tmp 39) 36 rfl B 5 i0 (.int .u8 0) 1 1 Tryd.underlying36 hi hz0 hz1 hz2 rfl (by decide) v (n) _ rfl (((HO.out.alloc _).alloc _).alloc _) ⟨w.heap.size + 1 + 1, 0, none⟩ 1 1 [Value.int .u8 123] rfl rfl (one_news (by simp)) (by intro u' hu'; simp at hu'; subst hu'; rfl) (by unfold maxLen; omega) (by omega) (by simp; omega) ?_))
  intro v1 w1 ho1 hg1 _
  have HO1 : Hid (w1.ownsRow B 5 1 v1 (n + 1) (xs ++ [Value.int .u8 123])) := ho1
  have HB1 : Hid (Below B w w1) := ((((Below.refl _ _).alloc hB _).alloc (by simp; omega) _).alloc (by simp; omega) _).grown hg1 (by simp; omega) (fun k hk => (HO.out.lt k hk).1)
  have hB1 : B ≤ w1.heap.size := Nat.le_trans hB HB1.out.size
  clear ho1 hg1
  go_wp2_with fail
  refine (HS.out w0 B w1 v1 (n + 1) _ ao cap HP.out.1 HP.out.2.1 HP.out.2.2.1 HP.out.2.2.2.1 hB1 (HP.out.2.2.2.2.trans (HB1.out.mono HP.out.2.2.2.1)) HO1.out (by omega) (HT.out.on HB1.out)).mono ?_
  rintro e w2 ⟨v2, rfl, ho2, hb2⟩
  have HO2 : Hid (w2.ownsRow B 5 1 v2 (n + 1 + (texts true l).length) (xs ++ [Value.int .u8 123] ++ Lib.byteCells (texts true l))) := ho2
  have HB2 : Hid (Below B w w2) := HB1.out.trans hb2
  have hB2 : B ≤ w2.heap.size := Nat.le_trans hB HB2.out.size
  clear ho2 hb2
  obtain ⟨A, hA⟩ : ∃ A, A = texts true l := ⟨_, rfl⟩
  rw [← hA] at HO2 hl
  have HA : Hid (A = texts true l) := hA
  clear hA
  go_wp2_with (at_builtin; refine wpList_append_own _ rfl (.tmp 42) (.tmp 43) 36 rfl B 5 i0 (.int .u8 0) 1 1 Tryd.underlying36 hi hz0 hz1 hz2 rfl (by decide) v2 (n + 1 + A.length) _ rfl (HO2.out.alloc _) ⟨w2.heap.size, 0, none⟩ 1 1 [Value.int .u8 125] rfl rfl (one_news (by simp)) (by intro u' hu'; simp at hu'; subst hu'; rfl) (by unfold maxLen; omega) (by omega) (by simp; omega) ?_)
  intro v3 w3 ho3 hg3 _
  have HO3 : Hid (w3.ownsRow B 5 1 v3 (n + ([123] ++ A ++ [125]).length) (xs ++ Lib.byteCells ([123] ++ A ++ [125]))) := by
    show w3.ownsRow _ _ _ _ _ _
    have e1 : n + ([123] ++ A ++ [125]).length = n + 1 + A.length + 1 := by simp; omega
    have e2 : xs ++ Lib.byteCells ([123] ++ A ++ [125]) = xs ++ [Value.int .u8 123] ++ Lib.byteCells A ++ [Value.int .u8 125] := by simp [Lib.byteCells]
    rw [e1, e2]; simpa using ho3
  have HB3 : Hid (Below B w w3) := (HB2.out.alloc hB2 _).grown hg3 (by simp; omega) (fun k hk => (HO2.out.lt k hk).1)
  clear ho3 hg3
  go_wp2_with fail
  go_ret
  exact ⟨_, rfl, by rw [← HA.out]; exact HO3.out, HB3.out⟩

set_option maxRecDepth 100000 in
set_option maxHeartbeats 1000000 in
theorem ap_5 (w0 : World) (B : Nat) (w : World) (v : Value) (n : Nat) (xs : List Value) (m : Int) (s : ByteArray) (l : List Tm) (ao : Option Addr) (cap : Nat) (hs : ApS l) (hrep : RepL 0 w0 l ao) (hlc : l.length ≤ cap) (hcm : cap ≤ maxLen) (h0 : w0.heap.size ≤ B) (hB : B ≤ w.heap.size) (hw : Below w0.heap.size w0 w)
    (hown : w.ownsRow B 5 1 v n xs) (hl : n + (texts true l).length + 2 ≤ 100000) (hT : Tab B w) :
    Calls Tryd.prog 14 #[v, .agg #[.int .i64 5, .int .i64 m, .string s, .slice ao l.length cap]] w (Adds B w n xs ([91] ++ texts true l ++ [93])) := by
  obtain ⟨i0, hi, hz0, hz1, hz2⟩ := info_parts infoByte
  have a80 := assert_84_80
  have a81 := assert_84_81
  have a82 := assert_84_82
  have a83 := assert_84_83
  have a84 := assert_84_84
  have HO : Hid (w.ownsRow B 5 1 v n xs) := hown
  have HT : Hid (Tab B w) := hT
  have HS : Hid (ApS l) := hs
  have HP : Hid (RepL 0 w0 l ao ∧ l.length ≤ cap ∧ cap ≤ maxLen ∧ w0.heap.size ≤ B ∧ Below w0.heap.size w0 w) := ⟨hrep, hlc, hcm, h0, hw⟩
  clear hown hT hs hrep hlc hcm h0 hw
  go_enter Tryd.func14, Tryd.ntmps14
  go_wp2_with (first | (go_at_call 20; go_in) | (at_builtin; refine wpList_append_own _ rfl (.tmp 48) (.tmp 49) 36 rfl B 5 i0 (.int .u8 0) 1 1 Tryd.underlying36 hi hz0 hz1 hz2 rfl (by decide) v (n) _ rfl (((HO.out.alloc _).alloc _).alloc _) ⟨w.heap.size + 1 + 1, 0, none⟩ 1 1 [Value.int .u8 91] rfl rfl (one_news (by simp)) (by intro u' hu'; simp at hu'; subst hu'; rfl) (by unfold maxLen; omega) (by omega) (by simp; omega) ?_))
  intro v1 w1 ho1 hg1 _
  have HO1 : Hid (w1.ownsRow B 5 1 v1 (n + 1) (xs ++ [Value.int .u8 91])) := ho1
  have HB1 : Hid (Below B w w1) := ((((Below.refl _ _).alloc hB _).alloc (by simp; omega) _).alloc (by simp; omega) _).grown hg1 (by simp; omega) (fun k hk => (HO.out.lt k hk).1)
  have hB1 : B ≤ w1.heap.size := Nat.le_trans hB HB1.out.size
  clear ho1 hg1
  go_wp2_with fail
  refine (HS.out w0 B w1 v1 (n + 1) _ ao cap HP.out.1 HP.out.2.1 HP.out.2.2.1 HP.out.2.2.2.1 hB1 (HP.out.2.2.2.2.trans (HB1.out.mono HP.out.2.2.2.1)) HO1.out (by omega) (HT.out.on HB1.out)).mono ?_
  rintro e w2 ⟨v2, rfl, ho2, hb2⟩
  have HO2 : Hid (w2.ownsRow B 5 1 v2 (n + 1 + (texts true l).length) (xs ++ [Value.int .u8 91] ++ Lib.byteCells (texts true l))) := ho2
  have HB2 : Hid (Below B w w2) := HB1.out.trans hb2
  have hB2 : B ≤ w2.heap.size := Nat.le_trans hB HB2.out.size
  clear ho2 hb2
  obtain ⟨A, hA⟩ : ∃ A, A = texts true l := ⟨_, rfl⟩
  rw [← hA] at HO2 hl
  have HA : Hid (A = texts true l) := hA
  clear hA
  go_wp2_with (at_builtin; refine wpList_append_own _ rfl (.tmp 52) (.tmp 53) 36 rfl B 5 i0 (.int .u8 0) 1 1 Tryd.underlying36 hi hz0 hz1 hz2 rfl (by decide) v2 (n + 1 + A.length) _ rfl (HO2.out.alloc _) ⟨w2.heap.size, 0, none⟩ 1 1 [Value.int .u8 93] rfl rfl (one_news (by simp)) (by intro u' hu'; simp at hu'; subst hu'; rfl) (by unfold maxLen; omega) (by omega) (by simp; omega) ?_)
  intro v3 w3 ho3 hg3 _
  have HO3 : Hid (w3.ownsRow B 5 1 v3 (n + ([91] ++ A ++ [93]).length) (xs ++ Lib.byteCells ([91] ++ A ++ [93]))) := by
    show w3.ownsRow _ _ _ _ _ _
    have e1 : n + ([91] ++ A ++ [93]).length = n + 1 + A.length + 1 := by simp; omega
    have e2 : xs ++ Lib.byteCells ([91] ++ A ++ [93]) = xs ++ [Value.int .u8 91] ++ Lib.byteCells A ++ [Value.int .u8 93] := by simp [Lib.byteCells]
    rw [e1, e2]; simpa using ho3
  have HB3 : Hid (Below B w w3) := (HB2.out.alloc hB2 _).grown hg3 (by simp; omega) (fun k hk => (HO2.out.lt k hk).1)
  clear ho3 hg3
  go_wp2_with fail
  go_ret
  exact ⟨_, rfl, by rw [← HA.out]; exact HO3.out, HB3.out⟩

set_option maxRecDepth 100000 in
set_option maxHeartbeats 1000000 in
theorem apS_of (l : List Tm) (ih : ∀ t, t ∈ l → ApT t) (hr : ∀ t, t ∈ l → Right t) : ApS l := by
  intro w0 B w v n xs ao cap hrep hlc hcm h0 hB hw hown hl hT
  obtain ⟨i0, hi, hz0, hz1, hz2⟩ := info_parts infoByte
  have HO : Hid (w.ownsRow B 5 1 v n xs) := hown
  have HT : Hid (Tab B w) := hT
  have IH : Hid (∀ t, t ∈ l → ApT t ∧ Right t) := fun t ht => ⟨ih t ht, hr t ht⟩
  have HP : Hid (RepL 0 w0 l ao) := hrep
  have HW : Hid (w0.heap.size ≤ B ∧ Below w0.heap.size w0 w) := ⟨h0, hw⟩
  clear hown hT ih hr hrep h0 hw
  unfold maxLen at hcm
  go_enter Tryd.func22, Tryd.ntmps22
  go_wp2_with fail
  go_loopw [0, 9] (fun b i w' => ∃ (j : Nat) (S : List UInt8), j ≤ l.length ∧ i = .int .i64 j ∧ w'.ownsRow B 5 1 b (n + S.length) (xs ++ Lib.byteCells S) ∧ S ++ texts (decide (j = 0)) (l.drop j) = texts true l ∧ Below B w w') (fun _ i _ => l.length - (intOf i).toNat)
  case atStart => exact ⟨0, [], Nat.zero_le _, rfl, by simpa [Lib.byteCells] using HO.out, rfl, Below.refl _ _⟩
  case round =>
    obtain ⟨j, S, hj, rfl, ho, hS, hb⟩ := hrel
    have HO1 : Hid (wr.ownsRow B 5 1 u0 (n + S.length) (xs ++ Lib.byteCells S)) := ho
    have HB1 : Hid (Below B w wr) := hb
    have HS : Hid (S ++ texts (decide (j = 0)) (l.drop j) = texts true l) := hS
    have hSl : n + S.length + (texts (decide (j = 0)) (l.drop j)).length ≤ 100000 := by have := congrArg List.length hS; simp at this; omega
    have hB1 : B ≤ wr.heap.size := Nat.le_trans hB hb.size
    have HW1 : Hid (Below w0.heap.size w0 wr) := HW.out.2.trans (hb.mono HW.out.1)
    clear ho hS hb
    by_cases hlt : j < l.length
    · obtain ⟨bk, off, rfl, hBk, ht⟩ := RepL.at l ao HP.out j hlt
      obtain ⟨tk, tn, ts, tao, tlen, tcap, d0, d1, d2, d3, hv⟩ := ht.cells
      have c0 := Keeps.below HW1.out 0 _ _ _ (Nat.zero_le _) d0
      have c1 := Keeps.below HW1.out 0 _ _ _ (Nat.zero_le _) d1
      have c2 := Keeps.below HW1.out 0 _ _ _ (Nat.zero_le _) d2
      have c3 := Keeps.below HW1.out 0 _ _ _ (Nat.zero_le _) d3
      have HV : Hid (RepV 0 w0 l[j] (.agg #[.int .i64 tk, .int .i64 tn, .string ts, .slice tao tlen tcap])) := hv
      have HA : Hid (ApT l[j] ∧ Right l[j]) := IH.out _ (List.getElem_mem hlt)
      have hD := texts_drop l j hlt (decide (j = 0))
      have HD : Hid (texts (decide (j = 0)) (l.drop j) = (if decide (j = 0) then [] else [44]) ++ text l[j] ++ texts false (l.drop (j + 1))) := hD
      have hlen : n + S.length + 1 + (text l[j]).length ≤ 100001 := by
        rw [hD] at hSl; simp at hSl; omega
      clear hv ht d0 d1 d2 d3 hD
      by_cases h00 : j = 0
      · have hp : ¬ (0 : Int) < (j : Int) := by omega
        have H0 : Hid (j = 0) := h00
        have hl2 : n + S.length + (text l[j]).length ≤ 100000 := by have := HD.out; rw [this] at hSl; simp at hSl; omega
        clear h00
        go_wp2_with fail
        refine (HA.out.1 w0 B _ u0 (n + S.length) _ _ HV.out HW.out.1 (by simp; omega) (HW1.out.alloc HW1.out.size _) (HO1.out.alloc _) HA.out.2 hl2 (HT.out.on (HB1.out.alloc hB1 _))).mono ?_
        rintro e w2 ⟨v2, rfl, ho2, hb2⟩
        have HO2 : Hid (w2.ownsRow B 5 1 v2 (n + (S ++ text l[j]).length) (xs ++ Lib.byteCells (S ++ text l[j]))) := by
          show w2.ownsRow _ _ _ _ _ _
          have e1 : n + (S ++ text l[j]).length = n + S.length + (text l[j]).length := by simp; omega
          have e2 : xs ++ Lib.byteCells (S ++ text l[j]) = xs ++ Lib.byteCells S ++ Lib.byteCells (text l[j]) := by simp [Lib.byteCells]
          rw [e1, e2]; exact ho2
        have HB2 : Hid (Below B w w2) := (HB1.out.alloc hB1 _).trans hb2
        clear ho2 hb2 hl2 hlen hSl
        go_wp2_with fail
        go_roundw
        case rel => exact ⟨j + 1, S ++ text l[j], by omega, by go_num, HO2.out, by rw [← HS.out, HD.out]; simp [H0.out], HB2.out⟩
        case measure => simp [intOf]; omega
      · have hp : (0 : Int) < (j : Int) := by omega
        have H0 : Hid (¬ j = 0) := h00
        have hl2 : n + S.length + 1 + (text l[j]).length ≤ 100000 := by have := HD.out; rw [this] at hSl; simp [h00] at hSl; omega
        clear h00
        go_wp2_with (at_builtin; refine wpList_append_own _ rfl (.tmp 16) (.tmp 17) 36 rfl B 5 i0 (.int .u8 0) 1 1 Tryd.underlying36 hi hz0 hz1 hz2 rfl (by decide) u0 (n + S.length) _ rfl ((HO1.out.alloc _).alloc _) ⟨wr.heap.size + 1, 0, none⟩ 1 1 [Value.int .u8 44] rfl rfl (one_news (by simp)) (by intro u' hu'; simp at hu'; subst hu'; rfl) (by unfold maxLen; omega) (by omega) (by simp; omega) ?_)
        intro v1 w1 ho1 hg1 _
        have HO2 : Hid (w1.ownsRow B 5 1 v1 (n + S.length + 1) (xs ++ Lib.byteCells S ++ [Value.int .u8 44])) := by simpa [Hid] using ho1
        have HB2 : Hid (Below B w w1) := ((HB1.out.alloc hB1 _).alloc (by simp; omega) _).grown hg1 (by simp; omega) (fun k hk => (HO1.out.lt k hk).1)
        have q1 : ∀ o, w1.cell? ⟨wr.heap.size, o, none⟩ = (#[Value.int .i64 tk, .int .i64 tn, .string ts, .slice tao tlen tcap] : Array Value)[o]? := by
          intro o
          rw [hg1.cell_far ⟨wr.heap.size, o, none⟩ (by simp; omega) (by intro hh; exact absurd (HO1.out.lt _ hh.symm).2 (Nat.lt_irrefl _))]
          exact (one_new (hb := (Below.refl _ _).alloc (by simp) _)).2.1 o
        have hB2 : B ≤ w1.heap.size := Nat.le_trans hB HB2.out.size
        clear ho1 hg1 c0 c1 c2 c3
        go_wp2_with fail
        refine (HA.out.1 w0 B w1 v1 (n + S.length + 1) _ _ HV.out HW.out.1 hB2 (HW.out.2.trans (HB2.out.mono HW.out.1)) HO2.out HA.out.2 hl2 (HT.out.on HB2.out)).mono ?_
        rintro e w2 ⟨v2, rfl, ho2, hb2⟩
        have HO3 : Hid (w2.ownsRow B 5 1 v2 (n + (S ++ [44] ++ text l[j]).length) (xs ++ Lib.byteCells (S ++ [44] ++ text l[j]))) := by
          show w2.ownsRow _ _ _ _ _ _
          have e1 : n + (S ++ [44] ++ text l[j]).length = n + S.length + 1 + (text l[j]).length := by simp; omega
          have e2 : xs ++ Lib.byteCells (S ++ [44] ++ text l[j]) = xs ++ Lib.byteCells S ++ [Value.int .u8 44] ++ Lib.byteCells (text l[j]) := by simp [Lib.byteCells]
          rw [e1, e2]; exact ho2
        have HB3 : Hid (Below B w w2) := HB2.out.trans hb2
        clear ho2 hb2 hl2 hlen hSl q1
        go_wp2_with fail
        go_roundw
        case rel => exact ⟨j + 1, S ++ [44] ++ text l[j], by omega, by go_num, HO3.out, by rw [← HS.out, HD.out]; simp [H0.out], HB3.out⟩
        case measure => simp [intOf]; omega
    · have hjl : j = l.length := by omega
      have h := HS.out
      rw [hjl, List.drop_length, texts, List.append_nil] at h
      have HT2 : Hid (S = texts true l) := h
      clear h
      go_wp2_with fail
      go_ret
      exact ⟨_, rfl, by rw [← HT2.out]; exact HO1.out, HB1.out⟩

theorem apT_all : ∀ t, ApT t := by
  refine Tm.ind ?_
  intro k m s l ih w0 B w v n xs tv hv h0 hB hw hown hr hl hT
  obtain ⟨ao, cap, rfl, hs, hlc, hcm, hrep⟩ := hv
  obtain ⟨hsh, hch⟩ := hr.open
  rcases shape_cases hsh with ⟨rfl, h1, h2⟩ | ⟨rfl, h1⟩ | ⟨rfl, h1, h2⟩ | rfl | rfl | ⟨rfl, h1⟩
  · have e : text (.mk 1 m s l) = Lib.itoa m := by rw [text]; simp
    rw [e] at hl ⊢; exact ap_1 B w v n xs m s ao l.length cap hown hB hl hT h1 h2
  · have e : text (.mk 2 m s l) = s.data.toList := by rw [text]; simp
    rw [e] at hl ⊢; exact ap_2 B w v n xs m s ao l.length cap hown hB (by rw [dlen] at hl; exact hl)
  · have e : text (.mk 3 m s l) = [60] ++ Lib.itoa m ++ [62] := by rw [text]; simp
    rw [e] at hl ⊢; exact ap_3 B w v n xs m s ao l.length cap hown hB (by simp at hl; omega) hT h1 h2
  · have e : text (.mk 4 m s l) = [123] ++ texts true l ++ [125] := by rw [text]; simp
    rw [e] at hl ⊢
    exact ap_4 w0 B w v n xs m s l ao cap (apS_of l ih hch) hrep hlc hcm h0 hB hw hown (by simp at hl; omega) hT
  · have e : text (.mk 5 m s l) = [91] ++ texts true l ++ [93] := by rw [text]; simp
    rw [e] at hl ⊢
    exact ap_5 w0 B w v n xs m s l ao cap (apS_of l ih hch) hrep hlc hcm h0 hB hw hown (by simp at hl; omega) hT
  · have e : text (.mk 6 m s l) = [35] ++ hexL s.data.toList := by rw [text]; simp
    rw [e] at hl ⊢; exact ap_6 B w v n xs m s ao l.length cap hown hB (by simp [hexL_length] at hl; omega)
end Go.Proofs.YtghfhlheenaacabDoor
