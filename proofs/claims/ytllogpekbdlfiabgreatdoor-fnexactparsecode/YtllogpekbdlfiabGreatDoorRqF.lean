/-
  The walk of the law FnExactParseCode.
-/
import Derived.Test.YtllogpekbdlfiabGreatDoorRqE
namespace Go.Proofs.YtllogpekbdlfiabGreatDoor.Code
open Go.RowKit
open Go.Proofs.YtllogpekbdlfiabGreatDoor.Atom
set_option linter.unusedVariables false

set_option maxHeartbeats 4000000 in
theorem parse_walk (s : ByteArray) (w : World) (hs : s.size ≤ maxLen) (hU : Sur w) :
    Calls Tryz.prog 3 #[.string s] w fun e w' => e = .returned (.bool true) ∧ Below w.heap.size w w' := by
  have HU : Hid (Sur w) := hU
  clear hU
  unfold maxLen at hs
  by_cases hbig : 1048576 < (s.size : Int)
  · go_enter Tryz.func3, Tryz.ntmps3
    go_wp2_with fail
    go_ret
    exact ⟨rfl, Below.refl _ _⟩
  have hsz : s.size ≤ 1048576 := by omega
  go_enter Tryz.func3, Tryz.ntmps3
  go_wp2_with (go_at_call 4; fail)
  refine (specParse_any s w hsz).mono ?_
  rintro e w1 ⟨⟨va, vc, l, rfl, hrow, hor⟩, hb1⟩
  have HR1 : Hid (IRow w1 w.heap.size (.slice va l.length vc) l) := hrow
  have HB1 : Hid (Below w.heap.size w w1) := hb1
  have HOR : Hid (parseP (dat s) = some l ∨ parseP (dat s) = none ∧ l = []) := hor
  have hl := list_len hor
  clear hrow hb1 hor
  go_wp2_with (go_at_call 5; fail)
  refine (implParse_any s w1 hsz (HU.out.below HB1.out)).mono ?_
  rintro e w2 ⟨⟨vb, vd, l2, rfl, hrow2, hor2⟩, hb2⟩
  obtain rfl := same_list HOR.out hor2
  have HR2 : Hid (IRow w2 w1.heap.size (.slice vb l.length vd) l) := hrow2
  have HR1b : Hid (IRow w2 w.heap.size (.slice va l.length vc) l) := HR1.out.kept hb2
  have HB2 : Hid (Below w.heap.size w w2) := HB1.out.trans (hb2.mono HB1.out.size)
  have HLO : Hid (∀ x, (Value.slice va l.length vc).ownBlock = some x → x < w1.heap.size) := fun x hx => (World.ownsRow.lt HR1.out x hx).2
  have HWB : Hid (w.heap.size ≤ w1.heap.size) := HB1.out.size
  clear hrow2 hor2 hb2 HR1 HB1
  obtain ⟨ok, hok⟩ : ∃ ok, (parseP (dat s)).isSome = ok := ⟨_, rfl⟩
  have HOK : Hid ((parseP (dat s)).isSome = ok) := hok
  rw [hok]
  clear hok
  generalize w1.heap.size = B at HR2 HLO HWB
  go_wp2_with (go_at_call 6; fail)
  refine (eqInsS_same l vb va vd vc w2 HR2.out.row HR1b.out.row (by omega)).mono ?_
  rintro e w3 ⟨rfl, hb3⟩
  have H3 : Hid (IRow w3 B (.slice vb l.length vd) l ∧ IRow w3 w.heap.size (.slice va l.length vc) l ∧ Below w.heap.size w w3) := ⟨HR2.out.kept hb3, HR1b.out.kept hb3, HB2.out.trans (hb3.mono HB2.out.size)⟩
  clear hb3 HR2 HR1b HB2
  go_wp2_with (go_at_call 7; fail)
  refine (markRow_any vb vd l B w3 hl H3.out.1 (.slice va l.length vc) w.heap.size H3.out.2.1 HLO.out w H3.out.2.2 HWB.out).mono ?_
  rintro e w4 ⟨rfl, hm4, hr4, hb4⟩
  have H4 : Hid (Mkd (.slice vb l.length vd) l.length w4 ∧ IRow w4 w.heap.size (.slice va l.length vc) l ∧ Below w.heap.size w w4) := ⟨hm4, hr4, hb4⟩
  clear hm4 hr4 hb4 H3
  obtain ⟨M, hMe⟩ : ∃ M : Int, ((1 + 6 * l.length : Nat) : Int) = M := ⟨_, rfl⟩
  have HME : Hid (((1 + 6 * l.length : Nat) : Int) = M) := hMe
  have hM : ¬ M < 0 := by omega
  rw [hMe]
  clear hMe
  go_wp2_with (go_at_call 8; fail)
  refine (heldRow_any vb vd l.length w4 hl H4.out.1).mono ?_
  rintro e w5 ⟨rfl, hb5⟩
  rw [HME.out]
  have H5 : Hid (Mkd (.slice vb l.length vd) l.length w5 ∧ IRow w5 w.heap.size (.slice va l.length vc) l ∧ Below w.heap.size w w5) := ⟨H4.out.1.below hb5, H4.out.2.1.kept hb5, H4.out.2.2.trans (hb5.mono H4.out.2.2.size)⟩
  clear hb5 H4
  go_wp2_with (go_at_call 5; fail)
  refine (implParse_any s w5 hsz (HU.out.below H5.out.2.2)).mono ?_
  rintro e w6 ⟨⟨vb2, vd2, l3, rfl, hrow6, hor6⟩, hb6⟩
  obtain rfl := same_list HOR.out hor6
  rw [HOK.out]
  have H6 : Hid (IRow w6 w5.heap.size (.slice vb2 l.length vd2) l ∧ Mkd (.slice vb l.length vd) l.length w6 ∧ IRow w6 w.heap.size (.slice va l.length vc) l ∧ Below w.heap.size w w6) := ⟨hrow6, H5.out.1.below hb6, H5.out.2.1.kept hb6, H5.out.2.2.trans (hb6.mono H5.out.2.2.size)⟩
  clear hrow6 hor6 hb6 H5
  go_wp2_with (go_at_call 6; fail)
  refine (eqInsS_same l vb2 va vd2 vc w6 H6.out.1.row H6.out.2.2.1.row (by omega)).mono ?_
  rintro e w7 ⟨rfl, hb7⟩
  have H7 : Hid (Mkd (.slice vb l.length vd) l.length w7 ∧ Below w.heap.size w w7) := ⟨H6.out.2.1.below hb7, H6.out.2.2.2.trans (hb7.mono H6.out.2.2.2.size)⟩
  clear hb7 H6
  go_wp2_with (go_at_call 8; fail)
  refine (heldRow_any vb vd l.length w7 hl H7.out.1).mono ?_
  rintro e w8 ⟨rfl, hb8⟩
  rw [HME.out]
  have H8 : Hid (Below w.heap.size w w8) := H7.out.2.trans (hb8.mono H7.out.2.size)
  clear hb8
  go_wp2_with fail
  go_ret
  exact ⟨rfl, H8.out⟩
end Go.Proofs.YtllogpekbdlfiabGreatDoor.Code
