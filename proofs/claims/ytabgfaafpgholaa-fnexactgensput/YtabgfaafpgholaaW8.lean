/-
  rightAlone answers as l1Shape.
  (Ahead of it, in this text: Two that are one term are the same to eqTerm and eqTermS.)
-/
import Derived.Test.YtabgfaafpgholaaW1
import Derived.Deep.RegionWith
import Derived.BigQuiet
import Derived.Test.YtabgfaafpgholaaW2
import Derived.WalkSmall
namespace Go.Proofs.Ytabgfaafpgholaa
open Go.RowKit

def EqT (t : Tm) : Prop := ∀ (B : Nat) (w : World) (v v' : Value), RepV B w t v → RepV B w t v' →
  Calls Try.prog 16 #[v, v'] w fun e w' => e = .returned (.bool true) ∧ Below w.heap.size w w'
def EqS (l : List Tm) : Prop := ∀ (B : Nat) (w : World) (ao ao' : Option Addr) (cap cap' : Nat), RepL B w l ao → RepL B w l ao' → l.length ≤ cap → cap ≤ maxLen → l.length ≤ cap' → cap' ≤ maxLen →
  Calls Try.prog 47 #[.slice ao l.length cap, .slice ao' l.length cap'] w fun e w' => e = .returned (.bool true) ∧ Below w.heap.size w w'

set_option maxHeartbeats 400000 in
theorem eqT_of (k n : Int) (s : ByteArray) (l : List Tm) (h : EqS l) : EqT (.mk k n s l) := by
  intro B w v v' hv hv'
  obtain ⟨ao, cap, rfl, hs, hl, hc, hr⟩ := hv
  obtain ⟨ao', cap', rfl, _, hl', hc', hr'⟩ := hv'
  have HS : Hid (EqS l) := h
  have HR : Hid (RepL B w l ao ∧ RepL B w l ao') := ⟨hr, hr'⟩
  have HC : Hid (l.length ≤ cap ∧ cap ≤ maxLen ∧ l.length ≤ cap' ∧ cap' ≤ maxLen) := ⟨hl, hc, hl', hc'⟩
  clear h hr hr' hl hc hl' hc' hs
  go_enter Try.func16, Try.ntmps16
  go_wp2_with fail
  refine (HS.out B _ _ _ _ _ ((Keeps.below ?_ B).repL _ _ HR.out.1) ((Keeps.below ?_ B).repL _ _ HR.out.2) HC.out.1 HC.out.2.1 HC.out.2.2.1 HC.out.2.2.2).mono ?_
  · exact ((Below.refl _ _).alloc (Nat.le_refl _) _).alloc (by simp) _
  · exact ((Below.refl _ _).alloc (Nat.le_refl _) _).alloc (by simp) _
  rintro e w1 ⟨rfl, hb1⟩
  have HB1 : Hid (Below w.heap.size w w1) := (((Below.refl _ _).alloc (Nat.le_refl _) _).alloc (by simp) _).trans (hb1.mono (by simp; omega))
  clear hb1
  go_wp2_with fail
  go_ret
  exact ⟨rfl, HB1.out⟩

theorem RepV.drew {B : Nat} {w : World} {t : Tm} {v : Value} (h : RepV B w t v) : RepV B w.drew t v :=
  (Keeps.below (Below.drew (Below.refl _ _)) B).repV h

set_option maxHeartbeats 1000000 in
theorem eqS_of (l : List Tm) (ih : ∀ t, t ∈ l → EqT t) : EqS l := by
  intro B w ao ao' cap cap' hr hr' hl hc hl' hc'
  have IH : Hid (∀ t, t ∈ l → EqT t) := ih
  have HR : Hid (RepL B w l ao ∧ RepL B w l ao') := ⟨hr, hr'⟩
  clear ih hr hr'
  unfold maxLen at hc hc'
  have hbl : ((l.length : Int) != (l.length : Int)) = false := by simp
  go_enter Try.func47, Try.ntmps47
  go_wp2_with fail
  go_loopw [5] (fun i w' => ∃ k : Nat, k ≤ l.length ∧ i = .int .i64 k ∧ Below w.heap.size w w') (fun i _ => l.length - (intOf i).toNat)
  case atStart => exact ⟨0, Nat.zero_le _, rfl, Below.refl _ _⟩
  case round =>
    obtain ⟨k, hk, rfl, hb⟩ := hrel
    have HB : Hid (Below w.heap.size w wr) := hb
    clear hb
    by_cases hlt : k < l.length
    · obtain ⟨b, off, rfl, hB, ht⟩ := RepL.at l ao ((Keeps.below HB.out B).repL _ _ HR.out.1) k hlt
      obtain ⟨b', off', rfl, hB', ht'⟩ := RepL.at l ao' ((Keeps.below HB.out B).repL _ _ HR.out.2) k hlt
      obtain ⟨tk, tn, ts, tao, tlen, tcap, c0, c1, c2, c3, hv⟩ := ht.cells
      obtain ⟨tk', tn', ts', tao', tlen', tcap', c0', c1', c2', c3', hv'⟩ := ht'.cells
      have HV : Hid (RepV B wr l[k] (.agg #[.int .i64 tk, .int .i64 tn, .string ts, .slice tao tlen tcap])) := hv
      have HV' : Hid (RepV B wr l[k] (.agg #[.int .i64 tk', .int .i64 tn', .string ts', .slice tao' tlen' tcap'])) := hv'
      have HT : Hid (EqT l[k]) := IH.out _ (List.getElem_mem hlt)
      clear hv ht hv' ht'
      go_wp2_with fail
      go_region_with (go_at_call 16; refine (HT.out B _ _ _ ?_ ?_).mono ?_; exact HV.out.drew; exact HV'.out.drew; rintro e w1 ⟨rfl, hb1⟩)
      all_goals
        have HB1 : Hid (Below w.heap.size w w1) := (HB.out.drew).trans (hb1.mono HB.out.size)
        clear hb1
        go_wp2_with fail
        go_roundw
        case rel => exact ⟨k + 1, by omega, by go_num, HB1.out⟩
        case measure => simp [intOf]; omega
    · go_wp2_with fail
      go_ret
      exact ⟨rfl, HB.out⟩
theorem eqT_all : ∀ t, EqT t := Tm.ind fun k n s l ih => eqT_of k n s l (eqS_of l ih)
end Go.Proofs.Ytabgfaafpgholaa
namespace Go.Proofs.Ytabgfaafpgholaa
open Go.RowKit Atom
set_option linter.unusedVariables false

theorem assert_80_80 (v : Value) (W : World) : (Instr.typeAssert (.iface 149 v) 122 149 true).run Try.prog W = .ok (.tuple #[v, .bool true]) W := by kernel_rfl
theorem assert_81_80 (v : Value) (W : World) : (Instr.typeAssert (.iface 150 v) 122 149 true).run Try.prog W = .ok (.tuple #[.int .i64 0, .bool false]) W := by kernel_rfl
theorem assert_81_81 (v : Value) (W : World) : (Instr.typeAssert (.iface 150 v) 122 150 true).run Try.prog W = .ok (.tuple #[v, .bool true]) W := by kernel_rfl
theorem assert_82_80 (v : Value) (W : World) : (Instr.typeAssert (.iface 151 v) 122 149 true).run Try.prog W = .ok (.tuple #[.int .i64 0, .bool false]) W := by kernel_rfl
theorem assert_82_81 (v : Value) (W : World) : (Instr.typeAssert (.iface 151 v) 122 150 true).run Try.prog W = .ok (.tuple #[.string ⟨#[]⟩, .bool false]) W := by kernel_rfl
theorem assert_82_82 (v : Value) (W : World) : (Instr.typeAssert (.iface 151 v) 122 151 true).run Try.prog W = .ok (.tuple #[v, .bool true]) W := by kernel_rfl
theorem assert_83_80 (v : Value) (W : World) : (Instr.typeAssert (.iface 137 v) 122 149 true).run Try.prog W = .ok (.tuple #[.int .i64 0, .bool false]) W := by kernel_rfl
theorem assert_83_81 (v : Value) (W : World) : (Instr.typeAssert (.iface 137 v) 122 150 true).run Try.prog W = .ok (.tuple #[.string ⟨#[]⟩, .bool false]) W := by kernel_rfl
theorem assert_83_82 (v : Value) (W : World) : (Instr.typeAssert (.iface 137 v) 122 151 true).run Try.prog W = .ok (.tuple #[.int .i64 0, .bool false]) W := by kernel_rfl
theorem assert_83_83 (v : Value) (W : World) : (Instr.typeAssert (.iface 137 v) 122 137 true).run Try.prog W = .ok (.tuple #[v, .bool true]) W := by kernel_rfl
theorem assert_84_80 (v : Value) (W : World) : (Instr.typeAssert (.iface 139 v) 122 149 true).run Try.prog W = .ok (.tuple #[.int .i64 0, .bool false]) W := by kernel_rfl
theorem assert_84_81 (v : Value) (W : World) : (Instr.typeAssert (.iface 139 v) 122 150 true).run Try.prog W = .ok (.tuple #[.string ⟨#[]⟩, .bool false]) W := by kernel_rfl
theorem assert_84_82 (v : Value) (W : World) : (Instr.typeAssert (.iface 139 v) 122 151 true).run Try.prog W = .ok (.tuple #[.int .i64 0, .bool false]) W := by kernel_rfl
theorem assert_84_83 (v : Value) (W : World) : (Instr.typeAssert (.iface 139 v) 122 137 true).run Try.prog W = .ok (.tuple #[.slice none 0 0, .bool false]) W := by kernel_rfl
theorem assert_84_84 (v : Value) (W : World) : (Instr.typeAssert (.iface 139 v) 122 139 true).run Try.prog W = .ok (.tuple #[v, .bool true]) W := by kernel_rfl
theorem assert_85_80 (v : Value) (W : World) : (Instr.typeAssert (.iface 140 v) 122 149 true).run Try.prog W = .ok (.tuple #[.int .i64 0, .bool false]) W := by kernel_rfl
theorem assert_85_81 (v : Value) (W : World) : (Instr.typeAssert (.iface 140 v) 122 150 true).run Try.prog W = .ok (.tuple #[.string ⟨#[]⟩, .bool false]) W := by kernel_rfl
theorem assert_85_82 (v : Value) (W : World) : (Instr.typeAssert (.iface 140 v) 122 151 true).run Try.prog W = .ok (.tuple #[.int .i64 0, .bool false]) W := by kernel_rfl
theorem assert_85_83 (v : Value) (W : World) : (Instr.typeAssert (.iface 140 v) 122 137 true).run Try.prog W = .ok (.tuple #[.slice none 0 0, .bool false]) W := by kernel_rfl
theorem assert_85_84 (v : Value) (W : World) : (Instr.typeAssert (.iface 140 v) 122 139 true).run Try.prog W = .ok (.tuple #[.slice none 0 0, .bool false]) W := by kernel_rfl
theorem assert_85_85 (v : Value) (W : World) : (Instr.typeAssert (.iface 140 v) 122 140 true).run Try.prog W = .ok (.tuple #[v, .bool true]) W := by kernel_rfl
theorem assert_86_80 (v : Value) (W : World) : (Instr.typeAssert (.iface 152 v) 122 149 true).run Try.prog W = .ok (.tuple #[.int .i64 0, .bool false]) W := by kernel_rfl
theorem assert_86_81 (v : Value) (W : World) : (Instr.typeAssert (.iface 152 v) 122 150 true).run Try.prog W = .ok (.tuple #[.string ⟨#[]⟩, .bool false]) W := by kernel_rfl
theorem assert_86_82 (v : Value) (W : World) : (Instr.typeAssert (.iface 152 v) 122 151 true).run Try.prog W = .ok (.tuple #[.int .i64 0, .bool false]) W := by kernel_rfl
theorem assert_86_83 (v : Value) (W : World) : (Instr.typeAssert (.iface 152 v) 122 137 true).run Try.prog W = .ok (.tuple #[.slice none 0 0, .bool false]) W := by kernel_rfl
theorem assert_86_84 (v : Value) (W : World) : (Instr.typeAssert (.iface 152 v) 122 139 true).run Try.prog W = .ok (.tuple #[.slice none 0 0, .bool false]) W := by kernel_rfl
theorem assert_86_85 (v : Value) (W : World) : (Instr.typeAssert (.iface 152 v) 122 140 true).run Try.prog W = .ok (.tuple #[.string ⟨#[]⟩, .bool false]) W := by kernel_rfl

set_option maxRecDepth 100000 in
set_option maxHeartbeats 1000000 in
theorem right_1y (n : Int) (s : ByteArray) (hm : s.size ≤ maxLen) (ao : Option Addr) (len cap : Nat) (w : World) (g1 : -1000000 ≤ n) (g2 : n ≤ 1000000) (g3 : s.toList = []) :
    Calls Try.prog 108 #[.agg #[.int .i64 1, .int .i64 n, .string s, .slice ao len cap]] w fun e w' => e = .returned (.bool ((len : Int) == 0)) ∧ Below w.heap.size w w' := by
  unfold maxLen at hm
  have a80 := assert_80_80
  go_enter Try.func108, Try.ntmps108
  go_wp2_with fail
  go_quiet (fail)
  go_wp2_with (go_at_call 83; go_in)
  go_ret
  exact ⟨rfl, (below_drewN ((Below.refl _ _).alloc (Nat.le_refl _) _) _).alloc (by simp) _⟩

set_option maxRecDepth 100000 in
set_option maxHeartbeats 1000000 in
theorem right_1a (n : Int) (s : ByteArray) (hm : s.size ≤ maxLen) (ao : Option Addr) (len cap : Nat) (w : World) (g1 : n < -1000000) :
    Calls Try.prog 108 #[.agg #[.int .i64 1, .int .i64 n, .string s, .slice ao len cap]] w fun e w' => e = .returned (.bool false) ∧ Below w.heap.size w w' := by
  unfold maxLen at hm
  have a80 := assert_80_80
  go_enter Try.func108, Try.ntmps108
  go_wp2_with fail
  go_quiet (fail)
  go_wp2_with (go_at_call 83; go_in)
  go_ret
  exact ⟨rfl, (below_drewN ((Below.refl _ _).alloc (Nat.le_refl _) _) _).alloc (by simp) _⟩

set_option maxRecDepth 100000 in
set_option maxHeartbeats 1000000 in
theorem right_1b (n : Int) (s : ByteArray) (hm : s.size ≤ maxLen) (ao : Option Addr) (len cap : Nat) (w : World) (g1 : -1000000 ≤ n) (g2 : 1000000 < n) :
    Calls Try.prog 108 #[.agg #[.int .i64 1, .int .i64 n, .string s, .slice ao len cap]] w fun e w' => e = .returned (.bool false) ∧ Below w.heap.size w w' := by
  unfold maxLen at hm
  have a80 := assert_80_80
  go_enter Try.func108, Try.ntmps108
  go_wp2_with fail
  go_quiet (fail)
  go_wp2_with (go_at_call 83; go_in)
  go_ret
  exact ⟨rfl, (below_drewN ((Below.refl _ _).alloc (Nat.le_refl _) _) _).alloc (by simp) _⟩

set_option maxRecDepth 100000 in
set_option maxHeartbeats 1000000 in
theorem right_1c (n : Int) (s : ByteArray) (hm : s.size ≤ maxLen) (ao : Option Addr) (len cap : Nat) (w : World) (g1 : -1000000 ≤ n) (g2 : n ≤ 1000000) (g3 : ¬ s.toList = []) :
    Calls Try.prog 108 #[.agg #[.int .i64 1, .int .i64 n, .string s, .slice ao len cap]] w fun e w' => e = .returned (.bool false) ∧ Below w.heap.size w w' := by
  unfold maxLen at hm
  have a80 := assert_80_80
  go_enter Try.func108, Try.ntmps108
  go_wp2_with fail
  go_quiet (fail)
  go_wp2_with (go_at_call 83; go_in)
  go_ret
  exact ⟨rfl, (below_drewN ((Below.refl _ _).alloc (Nat.le_refl _) _) _).alloc (by simp) _⟩

set_option maxRecDepth 100000 in
set_option maxHeartbeats 1000000 in
theorem right_3y (n : Int) (s : ByteArray) (hm : s.size ≤ maxLen) (ao : Option Addr) (len cap : Nat) (w : World) (g1 : 0 ≤ n) (g2 : n ≤ 99999) (g3 : s.toList = []) :
    Calls Try.prog 108 #[.agg #[.int .i64 3, .int .i64 n, .string s, .slice ao len cap]] w fun e w' => e = .returned (.bool ((len : Int) == 0)) ∧ Below w.heap.size w w' := by
  unfold maxLen at hm
  have a80 := assert_82_80
  have a81 := assert_82_81
  have a82 := assert_82_82
  go_enter Try.func108, Try.ntmps108
  go_wp2_with fail
  go_quiet (fail)
  go_wp2_with (go_at_call 83; go_in)
  go_ret
  exact ⟨rfl, (below_drewN ((Below.refl _ _).alloc (Nat.le_refl _) _) _).alloc (by simp) _⟩

set_option maxRecDepth 100000 in
set_option maxHeartbeats 1000000 in
theorem right_3a (n : Int) (s : ByteArray) (hm : s.size ≤ maxLen) (ao : Option Addr) (len cap : Nat) (w : World) (g1 : n < 0) :
    Calls Try.prog 108 #[.agg #[.int .i64 3, .int .i64 n, .string s, .slice ao len cap]] w fun e w' => e = .returned (.bool false) ∧ Below w.heap.size w w' := by
  unfold maxLen at hm
  have a80 := assert_82_80
  have a81 := assert_82_81
  have a82 := assert_82_82
  go_enter Try.func108, Try.ntmps108
  go_wp2_with fail
  go_quiet (fail)
  go_wp2_with (go_at_call 83; go_in)
  go_ret
  exact ⟨rfl, (below_drewN ((Below.refl _ _).alloc (Nat.le_refl _) _) _).alloc (by simp) _⟩

set_option maxRecDepth 100000 in
set_option maxHeartbeats 1000000 in
theorem right_3b (n : Int) (s : ByteArray) (hm : s.size ≤ maxLen) (ao : Option Addr) (len cap : Nat) (w : World) (g1 : 0 ≤ n) (g2 : 99999 < n) :
    Calls Try.prog 108 #[.agg #[.int .i64 3, .int .i64 n, .string s, .slice ao len cap]] w fun e w' => e = .returned (.bool false) ∧ Below w.heap.size w w' := by
  unfold maxLen at hm
  have a80 := assert_82_80
  have a81 := assert_82_81
  have a82 := assert_82_82
  go_enter Try.func108, Try.ntmps108
  go_wp2_with fail
  go_quiet (fail)
  go_wp2_with (go_at_call 83; go_in)
  go_ret
  exact ⟨rfl, (below_drewN ((Below.refl _ _).alloc (Nat.le_refl _) _) _).alloc (by simp) _⟩

set_option maxRecDepth 100000 in
set_option maxHeartbeats 1000000 in
theorem right_3c (n : Int) (s : ByteArray) (hm : s.size ≤ maxLen) (ao : Option Addr) (len cap : Nat) (w : World) (g1 : 0 ≤ n) (g2 : n ≤ 99999) (g3 : ¬ s.toList = []) :
    Calls Try.prog 108 #[.agg #[.int .i64 3, .int .i64 n, .string s, .slice ao len cap]] w fun e w' => e = .returned (.bool false) ∧ Below w.heap.size w w' := by
  unfold maxLen at hm
  have a80 := assert_82_80
  have a81 := assert_82_81
  have a82 := assert_82_82
  go_enter Try.func108, Try.ntmps108
  go_wp2_with fail
  go_quiet (fail)
  go_wp2_with (go_at_call 83; go_in)
  go_ret
  exact ⟨rfl, (below_drewN ((Below.refl _ _).alloc (Nat.le_refl _) _) _).alloc (by simp) _⟩

set_option maxRecDepth 100000 in
set_option maxHeartbeats 1000000 in
theorem right_2y (n : Int) (s : ByteArray) (hm : s.size ≤ maxLen) (ao : Option Addr) (len cap : Nat) (w : World) (g1 : atomB s = true) (g3 : (n == 0) = true) :
    Calls Try.prog 108 #[.agg #[.int .i64 2, .int .i64 n, .string s, .slice ao len cap]] w fun e w' => e = .returned (.bool ((len : Int) == 0)) ∧ Below w.heap.size w w' := by
  have HM : Hid (s.size ≤ maxLen) := hm
  unfold maxLen at hm
  have a80 := assert_81_80
  have a81 := assert_81_81
  go_enter Try.func108, Try.ntmps108
  go_wp2_with fail
  go_quiet (fail)
  go_wp2_with (first | (go_at_call 83; go_in) | (go_at_call 76; refine (atom_below s _ HM.out).mono ?_; rintro e w1 ⟨rfl, hb1⟩))
  go_ret
  exact ⟨rfl, ((below_drewN ((Below.refl _ _).alloc (Nat.le_refl _) _) _).alloc (by simp) _).trans (hb1.mono (by simp; omega))⟩

set_option maxRecDepth 100000 in
set_option maxHeartbeats 1000000 in
theorem right_2a (n : Int) (s : ByteArray) (hm : s.size ≤ maxLen) (ao : Option Addr) (len cap : Nat) (w : World) (g1 : atomB s = false) :
    Calls Try.prog 108 #[.agg #[.int .i64 2, .int .i64 n, .string s, .slice ao len cap]] w fun e w' => e = .returned (.bool false) ∧ Below w.heap.size w w' := by
  have HM : Hid (s.size ≤ maxLen) := hm
  unfold maxLen at hm
  have a80 := assert_81_80
  have a81 := assert_81_81
  go_enter Try.func108, Try.ntmps108
  go_wp2_with fail
  go_quiet (fail)
  go_wp2_with (first | (go_at_call 83; go_in) | (go_at_call 76; refine (atom_below s _ HM.out).mono ?_; rintro e w1 ⟨rfl, hb1⟩))
  go_ret
  exact ⟨rfl, ((below_drewN ((Below.refl _ _).alloc (Nat.le_refl _) _) _).alloc (by simp) _).trans (hb1.mono (by simp; omega))⟩

set_option maxRecDepth 100000 in
set_option maxHeartbeats 1000000 in
theorem right_2b (n : Int) (s : ByteArray) (hm : s.size ≤ maxLen) (ao : Option Addr) (len cap : Nat) (w : World) (g1 : atomB s = true) (g3 : (n == 0) = false) :
    Calls Try.prog 108 #[.agg #[.int .i64 2, .int .i64 n, .string s, .slice ao len cap]] w fun e w' => e = .returned (.bool false) ∧ Below w.heap.size w w' := by
  have HM : Hid (s.size ≤ maxLen) := hm
  unfold maxLen at hm
  have a80 := assert_81_80
  have a81 := assert_81_81
  go_enter Try.func108, Try.ntmps108
  go_wp2_with fail
  go_quiet (fail)
  go_wp2_with (first | (go_at_call 83; go_in) | (go_at_call 76; refine (atom_below s _ HM.out).mono ?_; rintro e w1 ⟨rfl, hb1⟩))
  go_ret
  exact ⟨rfl, ((below_drewN ((Below.refl _ _).alloc (Nat.le_refl _) _) _).alloc (by simp) _).trans (hb1.mono (by simp; omega))⟩

set_option maxRecDepth 100000 in
set_option maxHeartbeats 1000000 in
theorem right_4y (n : Int) (s : ByteArray) (hm : s.size ≤ maxLen) (ao : Option Addr) (len cap : Nat) (w : World) (g1 : (len : Int) ≤ 8) (g2 : (n == 0) = true) (g3 : s.toList = []) :
    Calls Try.prog 108 #[.agg #[.int .i64 4, .int .i64 n, .string s, .slice ao len cap]] w fun e w' => e = .returned (.bool true) ∧ Below w.heap.size w w' := by
  unfold maxLen at hm
  have a80 := assert_83_80
  have a81 := assert_83_81
  have a82 := assert_83_82
  have a83 := assert_83_83
  go_enter Try.func108, Try.ntmps108
  go_wp2_with fail
  go_quiet (fail)
  go_wp2_with (go_at_call 83; go_in)
  go_ret
  exact ⟨rfl, (below_drewN ((Below.refl _ _).alloc (Nat.le_refl _) _) _).alloc (by simp) _⟩

set_option maxRecDepth 100000 in
set_option maxHeartbeats 1000000 in
theorem right_4a (n : Int) (s : ByteArray) (hm : s.size ≤ maxLen) (ao : Option Addr) (len cap : Nat) (w : World) (g1 : 8 < (len : Int)) :
    Calls Try.prog 108 #[.agg #[.int .i64 4, .int .i64 n, .string s, .slice ao len cap]] w fun e w' => e = .returned (.bool false) ∧ Below w.heap.size w w' := by
  unfold maxLen at hm
  have a80 := assert_83_80
  have a81 := assert_83_81
  have a82 := assert_83_82
  have a83 := assert_83_83
  go_enter Try.func108, Try.ntmps108
  go_wp2_with fail
  go_quiet (fail)
  go_wp2_with (go_at_call 83; go_in)
  go_ret
  exact ⟨rfl, (below_drewN ((Below.refl _ _).alloc (Nat.le_refl _) _) _).alloc (by simp) _⟩

set_option maxRecDepth 100000 in
set_option maxHeartbeats 1000000 in
theorem right_4b (n : Int) (s : ByteArray) (hm : s.size ≤ maxLen) (ao : Option Addr) (len cap : Nat) (w : World) (g1 : (len : Int) ≤ 8) (g2 : (n == 0) = false) :
    Calls Try.prog 108 #[.agg #[.int .i64 4, .int .i64 n, .string s, .slice ao len cap]] w fun e w' => e = .returned (.bool false) ∧ Below w.heap.size w w' := by
  unfold maxLen at hm
  have a80 := assert_83_80
  have a81 := assert_83_81
  have a82 := assert_83_82
  have a83 := assert_83_83
  go_enter Try.func108, Try.ntmps108
  go_wp2_with fail
  go_quiet (fail)
  go_wp2_with (go_at_call 83; go_in)
  go_ret
  exact ⟨rfl, (below_drewN ((Below.refl _ _).alloc (Nat.le_refl _) _) _).alloc (by simp) _⟩

set_option maxRecDepth 100000 in
set_option maxHeartbeats 1000000 in
theorem right_4c (n : Int) (s : ByteArray) (hm : s.size ≤ maxLen) (ao : Option Addr) (len cap : Nat) (w : World) (g1 : (len : Int) ≤ 8) (g2 : (n == 0) = true) (g3 : s.toList.isEmpty = false) :
    Calls Try.prog 108 #[.agg #[.int .i64 4, .int .i64 n, .string s, .slice ao len cap]] w fun e w' => e = .returned (.bool false) ∧ Below w.heap.size w w' := by
  unfold maxLen at hm
  have a80 := assert_83_80
  have a81 := assert_83_81
  have a82 := assert_83_82
  have a83 := assert_83_83
  go_enter Try.func108, Try.ntmps108
  go_wp2_with fail
  go_quiet (fail)
  go_wp2_with (go_at_call 83; go_in)
  go_ret
  exact ⟨rfl, (below_drewN ((Below.refl _ _).alloc (Nat.le_refl _) _) _).alloc (by simp) _⟩

set_option maxRecDepth 100000 in
set_option maxHeartbeats 1000000 in
theorem right_5y (n : Int) (s : ByteArray) (hm : s.size ≤ maxLen) (ao : Option Addr) (len cap : Nat) (w : World) (g1 : (len : Int) ≤ 20) (g2 : (n == 0) = true) (g3 : s.toList = []) :
    Calls Try.prog 108 #[.agg #[.int .i64 5, .int .i64 n, .string s, .slice ao len cap]] w fun e w' => e = .returned (.bool true) ∧ Below w.heap.size w w' := by
  unfold maxLen at hm
  have a80 := assert_84_80
  have a81 := assert_84_81
  have a82 := assert_84_82
  have a83 := assert_84_83
  have a84 := assert_84_84
  go_enter Try.func108, Try.ntmps108
  go_wp2_with fail
  go_quiet (fail)
  go_wp2_with (go_at_call 83; go_in)
  go_ret
  exact ⟨rfl, (below_drewN ((Below.refl _ _).alloc (Nat.le_refl _) _) _).alloc (by simp) _⟩

set_option maxRecDepth 100000 in
set_option maxHeartbeats 1000000 in
theorem right_5a (n : Int) (s : ByteArray) (hm : s.size ≤ maxLen) (ao : Option Addr) (len cap : Nat) (w : World) (g1 : 20 < (len : Int)) :
    Calls Try.prog 108 #[.agg #[.int .i64 5, .int .i64 n, .string s, .slice ao len cap]] w fun e w' => e = .returned (.bool false) ∧ Below w.heap.size w w' := by
  unfold maxLen at hm
  have a80 := assert_84_80
  have a81 := assert_84_81
  have a82 := assert_84_82
  have a83 := assert_84_83
  have a84 := assert_84_84
  go_enter Try.func108, Try.ntmps108
  go_wp2_with fail
  go_quiet (fail)
  go_wp2_with (go_at_call 83; go_in)
  go_ret
  exact ⟨rfl, (below_drewN ((Below.refl _ _).alloc (Nat.le_refl _) _) _).alloc (by simp) _⟩

set_option maxRecDepth 100000 in
set_option maxHeartbeats 1000000 in
theorem right_5b (n : Int) (s : ByteArray) (hm : s.size ≤ maxLen) (ao : Option Addr) (len cap : Nat) (w : World) (g1 : (len : Int) ≤ 20) (g2 : (n == 0) = false) :
    Calls Try.prog 108 #[.agg #[.int .i64 5, .int .i64 n, .string s, .slice ao len cap]] w fun e w' => e = .returned (.bool false) ∧ Below w.heap.size w w' := by
  unfold maxLen at hm
  have a80 := assert_84_80
  have a81 := assert_84_81
  have a82 := assert_84_82
  have a83 := assert_84_83
  have a84 := assert_84_84
  go_enter Try.func108, Try.ntmps108
  go_wp2_with fail
  go_quiet (fail)
  go_wp2_with (go_at_call 83; go_in)
  go_ret
  exact ⟨rfl, (below_drewN ((Below.refl _ _).alloc (Nat.le_refl _) _) _).alloc (by simp) _⟩

set_option maxRecDepth 100000 in
set_option maxHeartbeats 1000000 in
theorem right_5c (n : Int) (s : ByteArray) (hm : s.size ≤ maxLen) (ao : Option Addr) (len cap : Nat) (w : World) (g1 : (len : Int) ≤ 20) (g2 : (n == 0) = true) (g3 : s.toList.isEmpty = false) :
    Calls Try.prog 108 #[.agg #[.int .i64 5, .int .i64 n, .string s, .slice ao len cap]] w fun e w' => e = .returned (.bool false) ∧ Below w.heap.size w w' := by
  unfold maxLen at hm
  have a80 := assert_84_80
  have a81 := assert_84_81
  have a82 := assert_84_82
  have a83 := assert_84_83
  have a84 := assert_84_84
  go_enter Try.func108, Try.ntmps108
  go_wp2_with fail
  go_quiet (fail)
  go_wp2_with (go_at_call 83; go_in)
  go_ret
  exact ⟨rfl, (below_drewN ((Below.refl _ _).alloc (Nat.le_refl _) _) _).alloc (by simp) _⟩

set_option maxRecDepth 100000 in
set_option maxHeartbeats 1000000 in
theorem right_6y (n : Int) (s : ByteArray) (hm : s.size ≤ maxLen) (ao : Option Addr) (len cap : Nat) (w : World) (g1 : (s.size : Int) ≤ 40) (g3 : (n == 0) = true) :
    Calls Try.prog 108 #[.agg #[.int .i64 6, .int .i64 n, .string s, .slice ao len cap]] w fun e w' => e = .returned (.bool ((len : Int) == 0)) ∧ Below w.heap.size w w' := by
  unfold maxLen at hm
  have a80 := assert_85_80
  have a81 := assert_85_81
  have a82 := assert_85_82
  have a83 := assert_85_83
  have a84 := assert_85_84
  have a85 := assert_85_85
  go_enter Try.func108, Try.ntmps108
  go_wp2_with fail
  go_quiet (fail)
  go_wp2_with (go_at_call 83; go_in)
  go_ret
  exact ⟨rfl, (below_drewN ((Below.refl _ _).alloc (Nat.le_refl _) _) _).alloc (by simp) _⟩

set_option maxRecDepth 100000 in
set_option maxHeartbeats 1000000 in
theorem right_6a (n : Int) (s : ByteArray) (hm : s.size ≤ maxLen) (ao : Option Addr) (len cap : Nat) (w : World) (g1 : 40 < (s.size : Int)) :
    Calls Try.prog 108 #[.agg #[.int .i64 6, .int .i64 n, .string s, .slice ao len cap]] w fun e w' => e = .returned (.bool false) ∧ Below w.heap.size w w' := by
  unfold maxLen at hm
  have a80 := assert_85_80
  have a81 := assert_85_81
  have a82 := assert_85_82
  have a83 := assert_85_83
  have a84 := assert_85_84
  have a85 := assert_85_85
  go_enter Try.func108, Try.ntmps108
  go_wp2_with fail
  go_quiet (fail)
  go_wp2_with (go_at_call 83; go_in)
  go_ret
  exact ⟨rfl, (below_drewN ((Below.refl _ _).alloc (Nat.le_refl _) _) _).alloc (by simp) _⟩

set_option maxRecDepth 100000 in
set_option maxHeartbeats 1000000 in
theorem right_6b (n : Int) (s : ByteArray) (hm : s.size ≤ maxLen) (ao : Option Addr) (len cap : Nat) (w : World) (g1 : (s.size : Int) ≤ 40) (g3 : (n == 0) = false) :
    Calls Try.prog 108 #[.agg #[.int .i64 6, .int .i64 n, .string s, .slice ao len cap]] w fun e w' => e = .returned (.bool false) ∧ Below w.heap.size w w' := by
  unfold maxLen at hm
  have a80 := assert_85_80
  have a81 := assert_85_81
  have a82 := assert_85_82
  have a83 := assert_85_83
  have a84 := assert_85_84
  have a85 := assert_85_85
  go_enter Try.func108, Try.ntmps108
  go_wp2_with fail
  go_quiet (fail)
  go_wp2_with (go_at_call 83; go_in)
  go_ret
  exact ⟨rfl, (below_drewN ((Below.refl _ _).alloc (Nat.le_refl _) _) _).alloc (by simp) _⟩

set_option maxRecDepth 100000 in
set_option maxHeartbeats 1000000 in
theorem right_0 (k n : Int) (h1 : (k == 1) = false) (h2 : (k == 2) = false) (h3 : (k == 3) = false) (h4 : (k == 4) = false) (h5 : (k == 5) = false) (h6 : (k == 6) = false) (s : ByteArray) (ao : Option Addr) (len cap : Nat) (w : World) :
    Calls Try.prog 108 #[.agg #[.int .i64 k, .int .i64 n, .string s, .slice ao len cap]] w fun e w' => e = .returned (.bool false) ∧ Below w.heap.size w w' := by
  have a80 := assert_86_80
  have a81 := assert_86_81
  have a82 := assert_86_82
  have a83 := assert_86_83
  have a84 := assert_86_84
  have a85 := assert_86_85
  go_enter Try.func108, Try.ntmps108
  go_wp2_with fail
  go_quiet (fail)
  go_wp2_with (go_at_call 83; go_in)
  go_ret
  exact ⟨rfl, (below_drewN ((Below.refl _ _).alloc (Nat.le_refl _) _) _).alloc (by simp) _⟩

theorem as_shape {k n : Int} {s : ByteArray} {len : Nat} {x : Bool} {v : Value} {w : World} (e : shapeB k n s len = x) (h : Calls Try.prog 108 #[v] w fun e w' => e = .returned (.bool x) ∧ Below w.heap.size w w') :
    Calls Try.prog 108 #[v] w fun e w' => e = .returned (.bool (shapeB k n s len)) ∧ Below w.heap.size w w' := by rw [e]; exact h

theorem right_any (k n : Int) (s : ByteArray) (hm : s.size ≤ maxLen) (ao : Option Addr) (len cap : Nat) (w : World) :
    Calls Try.prog 108 #[.agg #[.int .i64 k, .int .i64 n, .string s, .slice ao len cap]] w fun e w' => e = .returned (.bool (shapeB k n s len)) ∧ Below w.heap.size w w' := by
  by_cases h1 : k = 1
  · subst h1
    by_cases g1 : -1000000 ≤ n
    · by_cases g2 : n ≤ 1000000
      · by_cases g3 : s.toList = []
        · exact as_shape (by simp [shapeB, inB, g1, g2, g3]) (right_1y n s hm ao len cap w g1 g2 g3)
        · exact as_shape (by simp [shapeB, g3]) (right_1c n s hm ao len cap w g1 g2 g3)
      · exact as_shape (by simp [shapeB, inB, g1, g2]) (right_1b n s hm ao len cap w g1 (by omega))
    · exact as_shape (by simp [shapeB, inB, g1]) (right_1a n s hm ao len cap w (by omega))
  by_cases h2 : k = 2
  · subst h2
    cases g1 : atomB s
    · exact as_shape (by simp [shapeB, g1]) (right_2a n s hm ao len cap w g1)
    · by_cases g3 : n = 0
      · exact as_shape (by simp [shapeB, g1, g3]) (right_2y n s hm ao len cap w g1 (by simpa using g3))
      · exact as_shape (by simp [shapeB, g3]) (right_2b n s hm ao len cap w g1 (by simpa using g3))
  by_cases h3 : k = 3
  · subst h3
    by_cases g1 : 0 ≤ n
    · by_cases g2 : n ≤ 99999
      · by_cases g3 : s.toList = []
        · exact as_shape (by simp [shapeB, inB, g1, g2, g3]) (right_3y n s hm ao len cap w g1 g2 g3)
        · exact as_shape (by simp [shapeB, g3]) (right_3c n s hm ao len cap w g1 g2 g3)
      · exact as_shape (by simp [shapeB, inB, g1, g2]) (right_3b n s hm ao len cap w g1 (by omega))
    · exact as_shape (by simp [shapeB, inB, g1]) (right_3a n s hm ao len cap w (by omega))
  by_cases h4 : k = 4
  · subst h4
    by_cases g1 : (len : Int) ≤ 8
    · by_cases g2 : n = 0
      · by_cases g3 : s.toList = []
        · exact as_shape (by simp [shapeB, g2, g3]; omega) (right_4y n s hm ao len cap w g1 (by simpa using g2) g3)
        · exact as_shape (by simp [shapeB, g3]) (right_4c n s hm ao len cap w g1 (by simpa using g2) (by simpa using g3))
      · exact as_shape (by simp [shapeB, g2]) (right_4b n s hm ao len cap w g1 (by simpa using g2))
    · exact as_shape (by simp [shapeB]; omega) (right_4a n s hm ao len cap w (by omega))
  by_cases h5 : k = 5
  · subst h5
    by_cases g1 : (len : Int) ≤ 20
    · by_cases g2 : n = 0
      · by_cases g3 : s.toList = []
        · exact as_shape (by simp [shapeB, g2, g3]; omega) (right_5y n s hm ao len cap w g1 (by simpa using g2) g3)
        · exact as_shape (by simp [shapeB, g3]) (right_5c n s hm ao len cap w g1 (by simpa using g2) (by simpa using g3))
      · exact as_shape (by simp [shapeB, g2]) (right_5b n s hm ao len cap w g1 (by simpa using g2))
    · exact as_shape (by simp [shapeB]; omega) (right_5a n s hm ao len cap w (by omega))
  by_cases h6 : k = 6
  · subst h6
    by_cases g1 : (s.size : Int) ≤ 40
    · by_cases g3 : n = 0
      · exact as_shape (by simp [shapeB, g3]; omega) (right_6y n s hm ao len cap w g1 (by simpa using g3))
      · exact as_shape (by simp [shapeB, g3]) (right_6b n s hm ao len cap w g1 (by simpa using g3))
    · exact as_shape (by simp [shapeB]; omega) (right_6a n s hm ao len cap w (by omega))
  exact as_shape (by simp [shapeB, h1, h2, h3, h4, h5, h6]) (right_0 k n (by simpa using h1) (by simpa using h2) (by simpa using h3) (by simpa using h4) (by simpa using h5) (by simpa using h6) s ao len cap w)
end Go.Proofs.Ytabgfaafpgholaa
