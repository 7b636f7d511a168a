/-
  Two that are one term are the same to eqTerm and eqTermS.
-/
import Derived.Test.YtabgfaafpgholaaTmB
import Derived.Deep.RegionWith
import Derived.BigQuiet
namespace Go.Proofs.Ytabgfaafpgholaa
open Go.RowKit

def EqT (t : Tm) : Prop := ∀ (B : Nat) (w : World) (v v' : Value), RepV B w t v → RepV B w t v' →
  Calls Try.prog 16 #[v, v'] w fun e w' => e = .returned (.bool true) ∧ Below w.heap.size w w'
def EqS (l : List Tm) : Prop := ∀ (B : Nat) (w : World) (ao ao' : Option Addr) (cap cap' : Nat), RepL B w l ao → RepL B w l ao' → l.length ≤ cap → cap ≤ maxLen → l.length ≤ cap' → cap' ≤ maxLen →
  Calls Try.prog 47 #[.slice ao l.length cap, .slice ao' l.length cap'] w fun e w' => e = .returned (.bool true) ∧ Below w.heap.size w w'

set_option maxHeartbeats 400000 in
theorem eqT_of (k n : Int) (s : ByteArray) (l : List Tm) (h : EqS l) : EqT (.mk k n s l) := by
  intro B w v v' hv hv'
  obtain ⟨ao, cap, rfl, hs, hl, hc, hr⟩ := hv
  obtain ⟨ao', cap', rfl, _, hl', hc', hr'⟩ := hv'
  have HS : Hid (EqS l) := h
  have HR : Hid (RepL B w l ao ∧ RepL B w l ao') := ⟨hr, hr'⟩
  have HC : Hid (l.length ≤ cap ∧ cap ≤ maxLen ∧ l.length ≤ cap' ∧ cap' ≤ maxLen) := ⟨hl, hc, hl', hc'⟩
  clear h hr hr' hl hc hl' hc' hs
  go_enter Try.func16, Try.ntmps16
  go_wp2_with fail
  refine (HS.out B _ _ _ _ _ ((Keeps.below ?_ B).repL _ _ HR.out.1) ((Keeps.below ?_ B).repL _ _ HR.out.2) HC.out.1 HC.out.2.1 HC.out.2.2.1 HC.out.2.2.2).mono ?_
  · exact ((Below.refl _ _).alloc (Nat.le_refl _) _).alloc (by simp) _
  · exact ((Below.refl _ _).alloc (Nat.le_refl _) _).alloc (by simp) _
  rintro e w1 ⟨rfl, hb1⟩
  have HB1 : Hid (Below w.heap.size w w1) := (((Below.refl _ _).alloc (Nat.le_refl _) _).alloc (by simp) _).trans (hb1.mono (by simp; omega))
  clear hb1
  go_wp2_with fail
  go_ret
  exact ⟨rfl, HB1.out⟩

theorem RepV.drew {B : Nat} {w : World} {t : Tm} {v : Value} (h : RepV B w t v) : RepV B w.drew t v :=
  (Keeps.below (Below.drew (Below.refl _ _)) B).repV h

set_option maxHeartbeats 1000000 in
theorem eqS_of (l : List Tm) (ih : ∀ t, t ∈ l → EqT t) : EqS l := by
  intro B w ao ao' cap cap' hr hr' hl hc hl' hc'
  have IH : Hid (∀ t, t ∈ l → EqT t) := ih
  have HR : Hid (RepL B w l ao ∧ RepL B w l ao') := ⟨hr, hr'⟩
  clear ih hr hr'
  unfold maxLen at hc hc'
  have hbl : ((l.length : Int) != (l.length : Int)) = false := by simp
  go_enter Try.func47, Try.ntmps47
  go_wp2_with fail
  go_loopw [5] (fun i w' => ∃ k : Nat, k ≤ l.length ∧ i = .int .i64 k ∧ Below w.heap.size w w') (fun i _ => l.length - (intOf i).toNat)
  case atStart => exact ⟨0, Nat.zero_le _, rfl, Below.refl _ _⟩
  case round =>
    obtain ⟨k, hk, rfl, hb⟩ := hrel
    have HB : Hid (Below w.heap.size w wr) := hb
    clear hb
    by_cases hlt : k < l.length
    · obtain ⟨b, off, rfl, hB, ht⟩ := RepL.at l ao ((Keeps.below HB.out B).repL _ _ HR.out.1) k hlt
      obtain ⟨b', off', rfl, hB', ht'⟩ := RepL.at l ao' ((Keeps.below HB.out B).repL _ _ HR.out.2) k hlt
      obtain ⟨tk, tn, ts, tao, tlen, tcap, c0, c1, c2, c3, hv⟩ := ht.cells
      obtain ⟨tk', tn', ts', tao', tlen', tcap', c0', c1', c2', c3', hv'⟩ := ht'.cells
      have HV : Hid (RepV B wr l[k] (.agg #[.int .i64 tk, .int .i64 tn, .string ts, .slice tao tlen tcap])) := hv
      have HV' : Hid (RepV B wr l[k] (.agg #[.int .i64 tk', .int .i64 tn', .string ts', .slice tao' tlen' tcap'])) := hv'
      have HT : Hid (EqT l[k]) := IH.out _ (List.getElem_mem hlt)
      clear hv ht hv' ht'
      go_wp2_with fail
      go_region_with (go_at_call 16; refine (HT.out B _ _ _ ?_ ?_).mono ?_; exact HV.out.drew; exact HV'.out.drew; rintro e w1 ⟨rfl, hb1⟩)
      all_goals
        have HB1 : Hid (Below w.heap.size w w1) := (HB.out.drew).trans (hb1.mono HB.out.size)
        clear hb1
        go_wp2_with fail
        go_roundw
        case rel => exact ⟨k + 1, by omega, by go_num, HB1.out⟩
        case measure => simp [intOf]; omega
    · go_wp2_with fail
      go_ret
      exact ⟨rfl, HB.out⟩
theorem eqT_all : ∀ t, EqT t := Tm.ind fun k n s l ih => eqT_of k n s l (eqS_of l ih)
end Go.Proofs.Ytabgfaafpgholaa
