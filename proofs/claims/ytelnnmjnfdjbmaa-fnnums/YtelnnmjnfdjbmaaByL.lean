/-
  What the law FnNums does.
-/
import Derived.Test.YtelnnmjnfdjbmaaByE
import Derived.Test.YtelnnmjnfdjbmaaByK
import Derived.Deep.RegionHeld3
import Derived.Deep.RegionLaw
namespace Go.Proofs.Ytelnnmjnfdjbmaa.By
open Go.RowKit
set_option linter.unusedVariables false

set_option maxHeartbeats 1000000 in
theorem sameB_same (ao bo : Option Addr) (ca cb : Nat) (L : List UInt8) (w : World) (ha : RdB w ao L) (hb : RdB w bo L) (hN : L.length ≤ 1048600) :
    Calls Try.prog 12 #[.slice ao L.length ca, .slice bo L.length cb] w fun e w' => e = .returned (.bool true) ∧ Below w.heap.size w w' := by
  have HA : Hid (RdB w ao L) := ha
  have HB : Hid (RdB w bo L) := hb
  clear ha hb
  go_enter Try.func12, Try.ntmps12
  go_wp2_with fail
  go_loopw [5] (fun i w' => ∃ m : Nat, m ≤ L.length ∧ i = .int .i64 m ∧ Below w.heap.size w w') (fun i _ => L.length - (intOf i).toNat)
  case atStart => exact ⟨0, Nat.zero_le _, by simp, Below.refl _ _⟩
  case round =>
    obtain ⟨m, hm, rfl, hbl⟩ := hrel
    have HBL : Hid (Below w.heap.size w wr) := hbl
    by_cases hlt : m < L.length
    · obtain ⟨b1, o1, rfl, c1⟩ := HA.out.below hbl (by omega)
      obtain ⟨b2, o2, rfl, c2⟩ := HB.out.below hbl (by omega)
      have q1 := c1 m hlt
      have q2 := c2 m hlt
      clear c1 c2 hbl
      generalize ((L[m].toNat : Nat) : Int) = x at *
      go_wp2_with fail
      go_quiet (fail)
      go_wp2_with fail
      go_roundw
      case rel => exact ⟨m + 1, by omega, by go_num, by first | exact HBL.out.drew | exact below_drewN HBL.out _⟩
      case measure => simp [intOf]; omega
    · clear hbl
      go_wp2_with fail
      go_ret
      exact ⟨rfl, HBL.out⟩

theorem ans_some (a b : Int) : ansN (some (a, b)) = .tuple #[.int .i64 a, .int .i64 b, .bool true] := rfl
theorem ans_none : ansN none = .tuple #[.int .i64 0, .int .i64 0, .bool false] := rfl
theorem BAt.part {w : World} {b o : Nat} {L : List UInt8} (h : BAt w b o L) (i n : Nat) : BAt w b (o + i) ((L.drop i).take n) := fun j hj => by
  have hj2 : i + j < L.length := by simp at hj; omega
  have := h (i + j) hj2
  rw [Nat.add_assoc]
  simp only [List.getElem_take, List.getElem_drop]
  exact this

theorem run_part (g len cap i e n : Nat) (hn : 0 < n) (he : e = i + n) (hc : e ≤ cap) (W : World) :
    (Instr.slice 22 (.slice (some ⟨g, 0, none⟩) len cap) (some (.int .i64 (i : Int))) (some (.int .i64 (e : Int))) none).run Try.prog W = .ok (.slice (some ⟨g, i, none⟩) n (cap - i)) W := by
  subst he
  have hs : (sizeOf (Try.prog.elem 22)).run Try.prog W = .ok 1 W := by kernel_rfl
  have h := run_slice_lh (P := Try.prog) (w := W) (t := 22) (a := some ⟨g, 0, none⟩) (len := len) (cap := cap) (by kernel_rfl) .i64 .i64 (i : Int) ((i + n : Nat) : Int) (by omega) (by omega) (by omega)
  rw [h, hs]
  simp only [Result.andThen, sliced, Int.toNat_natCast]
  rw [if_neg (by omega)]
  simp [Addr.add]
  try omega
set_option maxHeartbeats 4000000 in
set_option maxRecDepth 100000 in
theorem nums_law (w : World) (ao : Option Addr) (len cap : Nat) (zs : List Int) (hr : IsRow w ao len cap zs) (hlc : len ≤ cap) (hcm : cap ≤ maxLen) :
    Calls Try.prog 3 #[.slice ao len cap] w fun e w' => e = .returned (.bool true) ∧ Below w.heap.size w w' := by
  have HR : Hid (IsRow w ao len cap zs) := hr
  have HBG : Hid (∀ w', Calls Try.prog 6 #[.slice ao len cap] w' fun e w'' => e = .returned (.bool (decide (1048576 < len))) ∧ w'' = w') := fun w' => bigB_any ao len cap w' (Nat.le_trans hlc hcm)
  clear hr hlc hcm
  by_cases hbig : 1048576 < len
  · have hd : decide (1048576 < len) = true := by simpa using hbig
    rw [hd] at HBG
    go_enter Try.func3, Try.ntmps3
    go_wp2_with (go_at_call 6; refine (HBG.out _).mono ?_; rintro e w' ⟨rfl, rfl⟩)
    go_ret
    exact ⟨rfl, Below.refl _ _⟩
  · have hd : decide (1048576 < len) = false := by simpa using hbig
    rw [hd] at HBG
    have HSM : Hid (len ≤ 1048576) := by show _ ≤ _; omega
    clear hd hbig
    go_enter Try.func3, Try.ntmps3
    go_wp2_with (go_at_call 6; refine (HBG.out _).mono ?_; rintro e w' ⟨rfl, hw'⟩; obtain rfl := hw'.symm)
    refine (drawPut_any ao len cap zs w HR.out HSM.out).mono ?_
    rintro e w1 ⟨g1, c1, B, n, rfl, hBl, ho1, hb1⟩
    have HA1 : Hid (BAt w1 g1 0 B) := ho1.at.1
    have HB1 : Hid (Below w.heap.size w w1) := hb1
    clear ho1 hb1
    go_wp2_with fail
    refine (implPut_any g1 0 c1 B n w1 HA1.out (by omega)).mono ?_
    rintro e w2 ⟨g2, c2, rfl, ho2, hb2⟩
    obtain ⟨P, hP⟩ : ∃ P, B ++ numB n = P := ⟨_, rfl⟩
    have hPl : B.length + 1 ≤ P.length ∧ P.length ≤ 6 := by have := num_len n; rw [← hP, List.length_append]; omega
    have HGP : Hid (getB P ((B.length : Nat) : Int) = some (clampN n, ((P.length : Nat) : Int))) := by
      have := get_put B [] n
      rw [List.append_nil, hP] at this
      show _ = _
      rw [this, ← hP, List.length_append]
      simp
    have HCU : Hid (getB (P.take (P.length - 1)) ((B.length : Nat) : Int) = none) := by
      have h1 := num_len n
      have := get_cut B n ((numB n).length - 1) (by omega)
      show _ = _
      have e : P.take (P.length - 1) = B ++ (numB n).take ((numB n).length - 1) := by
        rw [← hP, List.length_append, List.take_append, List.take_of_length_le (by omega)]
        congr 2
        omega
      rw [e]; exact this
    rw [hP] at ho2 ⊢
    have HA2 : Hid (BAt w2 g2 0 P ∧ P.length ≤ c2) := by
      refine ⟨ho2.at.1, ?_⟩
      rcases ho2.2 with ⟨e, _⟩ | ⟨_, cc, _, e, _, _, hl, _⟩
      · cases e
      · injection e with _ _ e; omega
    have HB2 : Hid (Below w.heap.size w w2) := join8 HB1.out hb2
    obtain ⟨hP1, hP6⟩ := hPl
    clear ho2 hb2 hP HA1 HB1
    go_wp2_with fail
    refine (implGet_any (some ⟨g2, 0, none⟩) c2 P (B.length : Nat) w2 HA2.out.1.rd (by omega) HA2.out.2).mono ?_
    rintro e w3 ⟨rfl, hw3⟩
    obtain rfl := hw3.symm
    rw [HGP.out, ans_some]
    clear hw3
    have hpc : P.length ≤ c2 := HA2.out.2
    have HTK : Hid ((P.take (P.length - 1)).length = P.length - 1) := by show _ = _; rw [List.length_take]; omega
    have HC3 : Hid (Calls Try.prog 9 #[.slice (some ⟨g2, 0, none⟩) (P.take (P.length - 1)).length c2, .int .i64 ((B.length : Nat) : Int)] w2 _) := implGet_any (some ⟨g2, 0, none⟩) c2 (P.take (P.length - 1)) (B.length : Nat) w2 (by have := HA2.out.1.part 0 (P.length - 1); rw [List.drop_zero] at this; exact this.rd) (by rw [HTK.out]; omega) (by rw [HTK.out]; omega)
    rw [HTK.out, HCU.out, ans_none] at HC3
    have hcl : (1000000 < n ∧ clampN n = 1000000) ∨ (n < -1000000 ∧ clampN n = -1000000) ∨ (-1000000 ≤ n ∧ n ≤ 1000000 ∧ clampN n = n) := by
      unfold clampN; split <;> (try split) <;> omega
    rcases hcl with ⟨h1, h2⟩ | ⟨h1, h2⟩ | ⟨h0, h1, h2⟩
    all_goals
      rw [h2]
      clear h2
      go_wp2_with fail
      refine HC3.out.mono ?_
      rintro e w4 ⟨rfl, hw4⟩
      obtain rfl := hw4.symm
      clear hw4
      go_wp2_with fail
      refine (drawGet_any ao len cap zs w2 (HR.out.below HB2.out) HSM.out).mono ?_
      rintro e w5 ⟨g5, c5, C, i, rfl, hC8, hCc, ha5, hb5⟩
      have HA5 : Hid (BAt w5 g5 0 C) := ha5
      have HB5 : Hid (Below w.heap.size w w5) := join8 HB2.out hb5
      clear ha5 hb5
      go_wp2_with fail
      refine (implGet_any (some ⟨g5, 0, none⟩) c5 C i w5 HA5.out.rd (by omega) hCc).mono ?_
      rintro e w6 ⟨rfl, hw6⟩
      obtain rfl := hw6.symm
      clear hw6
      cases hg : getB C i with
      | none =>
        have HG : Hid (getB C i = none) := hg
        rw [ans_none]
        clear hg
        go_wp2_with fail
        refine (specGet_any (some ⟨g5, 0, none⟩) c5 C i w5 HA5.out.rd (by omega)).mono ?_
        rintro e w7 ⟨rfl, hb7⟩
        rw [HG.out, ans_none]
        have HB7 : Hid (Below w.heap.size w w7) := join8 HB5.out hb7
        clear hb7
        go_wp2_with fail
        go_quiet (fail)
        go_wp2_with fail
        go_ret
        exact ⟨rfl, by first | exact HB7.out.drew | exact below_drewN HB7.out _⟩
      | some p =>
        obtain ⟨y, e⟩ := p
        have HG : Hid (getB C i = some (y, e)) := hg
        obtain ⟨hi0, hie, hel, hy0, hy1, hnl, hnb⟩ := get_back hg
        rw [ans_some]
        obtain ⟨i, rfl⟩ : ∃ k : Nat, i = k := ⟨i.toNat, by omega⟩
        obtain ⟨Y, hY⟩ : ∃ Y, [] ++ numB y = Y := ⟨_, rfl⟩
        rw [List.nil_append] at hY
        rw [hY] at hnl hnb
        obtain ⟨E, rfl⟩ : ∃ k : Nat, e = k := ⟨e.toNat, by omega⟩
        have HEY : Hid (E = i + Y.length) := by show _ = _; omega
        have hec : E ≤ c5 := by omega
        have e1 : (E : Int) - (i : Int) = ((Y.length : Nat) : Int) := by omega
        rw [e1, Int.toNat_natCast, Int.toNat_natCast] at hnb
        have HNB : Hid ((C.drop i).take Y.length = Y) := hnb
        have HY : Hid ([] ++ numB y = Y) := hY
        have HYL : Hid (Y.length ≤ 1048600) := by show _ ≤ _; omega
        clear hg hnb hY hnl e1 hy0 hy1
        go_wp2_with fail
        refine (specGet_any (some ⟨g5, 0, none⟩) c5 C i w5 HA5.out.rd (by omega)).mono ?_
        rintro e w7 ⟨rfl, hb7⟩
        rw [HG.out, ans_some]
        have HB7 : Hid (Below w.heap.size w w7) := join8 HB5.out hb7
        have HA7 : Hid (BAt w7 g5 0 C) := HA5.out.below hb7
        clear hb7
        have HPC : Hid (∀ wX, Below w7.heap.size w7 wX → ∀ gb, Calls Try.prog 8 #[.slice (some ⟨gb, 0, none⟩) 0 0, .int .i64 y] wX fun e w8 => ∃ g8 c8, e = .returned (.slice (some ⟨g8, 0, none⟩) Y.length c8) ∧ RdB w8 (some ⟨g8, 0, none⟩) Y ∧ RdB w8 (some ⟨g5, i, none⟩) Y ∧ Below w7.heap.size w7 w8) := by
          intro wX hbX gb
          refine (implPut_any gb 0 0 [] y wX (fun j hj => by simp at hj) (by simp)).mono ?_
          rintro e w8 ⟨g8, c8, rfl, ho8, hb8⟩
          rw [HY.out] at ho8 ⊢
          have h1 : BAt w7 g5 (0 + i) ((C.drop i).take Y.length) := HA7.out.part i Y.length
          rw [HNB.out, Nat.zero_add] at h1
          have h2 : Below w7.heap.size w7 w8 := hbX.trans (hb8.mono hbX.size)
          exact ⟨g8, c8, rfl, ho8.at.1.rd, (h1.below h2).rd, h2⟩
        clear HY HNB
        have hsl := run_part g5 C.length c5 i E Y.length (by have := HEY.out; omega) HEY.out hec
        clear hec hie hel hi0
        have hb0 : ∀ (W : World) (o : Obj), Below W.heap.size W (W.alloc o) := fun W o => (Below.refl _ _).alloc (Nat.le_refl _) o
        go_wp2_with fail
        first
          | go_region_held3 (fun w' => True) (exact True.intro) (first | (go_at_call 8; refine (HPC.out _ ?_ _).mono ?_; (focus (first | exact hb0 _ _ | exact (hb0 _ _).drew | exact below_drewN (hb0 _ _) _)); rintro e w8 ⟨g8, c8, rfl, hr8, hs8, hb8⟩) | (go_at_call 12; refine (sameB_same _ _ _ _ Y _ hr8 hs8 HYL.out).mono ?_; rintro e w9 ⟨rfl, hb9⟩))
          | fail
        have HB9 : Hid (Below w.heap.size w w9) := join8 (join8 HB7.out hb8) hb9
        clear hb9 hb8 hr8 hs8
        go_wp2_with fail
        go_ret
        exact ⟨rfl, by first | exact HB9.out | exact HB9.out.drew | exact below_drewN HB9.out _⟩
end Go.Proofs.Ytelnnmjnfdjbmaa.By
