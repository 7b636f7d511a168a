/-
  The laws' own functions on timers: measure and comparison.
-/
import Derived.Test.YtljfjaoebbmfgaaTrA
import Derived.Test.YtljfjaoebbmfgaaTmD
namespace Go.Proofs.Ytljfjaoebbmfgaa.Tr
open Go.RowKit Atom
set_option linter.unusedVariables false

set_option maxHeartbeats 1000000 in
set_option maxRecDepth 100000 in
theorem szTimer_any (kind pid k n : Int) (s : ByteArray) (l : List Tm) (ao : Option Addr) (cap : Nat) (left : Int) (w : World) (hv : RepV 0 w (.mk k n s l) (.agg #[.int .i64 k, .int .i64 n, .string s, .slice ao l.length cap])) (h0 : 0 ≤ left) (h1 : left ≤ 1048576) :
    Calls Try.prog 17 #[sdV kind pid k n s ao l.length cap, .int .i64 left] w fun e w' => (∃ r : Int, e = .returned (.int .i64 r) ∧ -1 ≤ r ∧ r ≤ left ∧ (0 ≤ r → StS (.mk k n s l) ∧ r + (ntL l : Int) ≤ left)) ∧ Below w.heap.size w w' := by
  have HV : Hid (RepV 0 w (.mk k n s l) (.agg #[.int .i64 k, .int .i64 n, .string s, .slice ao l.length cap])) := hv
  clear hv
  have z1 := szT_le (.mk k n s l) left h0
  have HS1 : Hid (0 ≤ szT (.mk k n s l) left → StS (.mk k n s l)) := fun h => sz_sts _ left h0 h1 h
  have HS2 : Hid (0 ≤ szT (.mk k n s l) left → szT (.mk k n s l) left + (ntL l : Int) ≤ left) := fun h => by
    show _ ≤ _
    rw [szT] at h ⊢
    split at h
    · omega
    · rename_i q1
      rw [if_neg q1]
      split at h
      · omega
      · rename_i q2
        rw [if_neg q2]
        have h5 := szGo_nt l (left - s.size - l.length) (by omega) h
        have h6 := ntL_eq l
        omega
  go_enter Try.func17, Try.ntmps17
  go_wp2_with fail
  refine (szT_all (.mk k n s l) 0 _ _ left ((Keeps.below ?_ 0).repV HV.out) h0 h1).mono ?_
  · exact (Below.refl _ _).alloc (Nat.le_refl _) _
  rintro e w1 ⟨rfl, hb1⟩
  have HB1 : Hid (Below w.heap.size w w1) := ((Below.refl _ _).alloc (Nat.le_refl _) _).trans (hb1.mono (by simp))
  clear hb1
  generalize szT (.mk k n s l) left = x at *
  by_cases hx : x < 0
  · go_wp2_with fail
    go_ret
    exact ⟨⟨-1, rfl, by omega, by omega, fun h => absurd h (by decide)⟩, HB1.out⟩
  · go_wp2_with fail
    go_ret
    exact ⟨⟨x, rfl, by omega, by omega, fun h => ⟨HS1.out h, HS2.out h⟩⟩, HB1.out⟩
/-- How many terms were said. -/
def ntX (x : Sd) : Nat := ntL [x.t]
def ntXs (l : List Sd) : Nat := (l.map ntX).sum
theorem ntXs_take {l : List Sd} {k : Nat} (h : k < l.length) : ntXs (l.take (k + 1)) = ntXs (l.take k) + ntX l[k] := by
  unfold ntXs
  rw [List.take_succ_eq_append_getElem h, List.map_append, List.sum_append]; simp
set_option maxHeartbeats 1000000 in
set_option maxRecDepth 100000 in
theorem szTimerS_any (l : List Sd) (ao : Option Addr) (cap : Nat) (left : Int) (w : World) (hr : RowS w ao l) (hl : l.length ≤ maxLen) (h0 : 0 ≤ left) (h1 : left ≤ 1048576) :
    Calls Try.prog 6 #[.slice ao l.length cap, .int .i64 left] w fun e w' => (∃ r : Int, e = .returned (.int .i64 r) ∧ r ≤ left ∧ (0 ≤ r → l.length ≤ 1048576 ∧ (∀ a ∈ l, StS a.t) ∧ r + (ntXs l : Int) ≤ left)) ∧ Below w.heap.size w w' := by
  unfold maxLen at hl
  by_cases hbig : left - l.length < 0
  · go_enter Try.func6, Try.ntmps6
    go_wp2
    go_ret
    exact ⟨⟨-1, rfl, by omega, fun h => absurd h (by decide)⟩, Below.refl _ _⟩
  · have HRW : Hid (RowS w ao l) := hr
    clear hr
    obtain ⟨L, hL⟩ : ∃ L, L = left - (l.length : Int) := ⟨_, rfl⟩
    have ew : IntKind.i64.wrap (left - (l.length : Int)) = L := by rw [IntKind.wrap_i64]; omega
    have hL0 : ¬ L < 0 := by omega
    have HLL : Hid (L = left - (l.length : Int)) := hL
    go_enter Try.func6, Try.ntmps6
    go_wp2_with fail
    go_loopw [1, 5] (fun v i wr => ∃ (k : Nat) (r : Int), k ≤ l.length ∧ i = .int .i64 k ∧ v = .int .i64 r ∧ 0 ≤ r ∧ r + (ntXs (l.take k) : Int) ≤ L + (k : Int) ∧ r ≤ L ∧ (∀ a ∈ l.take k, StS a.t) ∧ Below w.heap.size w wr) (fun v i wr => l.length - (intOf i).toNat)
    case atStart => exact ⟨0, L, Nat.zero_le _, rfl, by congr 1; omega, by omega, by simp [ntXs], by omega, (by intro x hx; simp at hx), Below.refl _ _⟩
    case round =>
      obtain ⟨k, r, hk, rfl, rfl, hr0, hr1, hr2, hsm, hbr⟩ := hrel
      have HBR : Hid (Below w.heap.size w wr) := hbr
      have HSM : Hid (∀ a ∈ l.take k, StS a.t) := hsm
      have HR1 : Hid (r + (ntXs (l.take k) : Int) ≤ L + (k : Int)) := hr1
      have HR2 : Hid (r ≤ L) := hr2
      have hrL : r ≤ 1048576 := by omega
      clear hbr hsm hr1 hr2
      by_cases hlt : k < l.length
      · rcases HRW.out.below HBR.out with h | ⟨b, o, rfl, hrow⟩
        · rw [h] at hlt; simp at hlt
        have hbx := hrow k hlt
        have HTK : Hid (StS l[k].t → ∀ a ∈ l.take (k + 1), StS a.t) := fun h x hx => by
          rw [List.take_succ_eq_append_getElem hlt, List.mem_append] at hx
          rcases hx with hx | hx
          · exact HSM.out x hx
          · simp at hx; rw [hx]; exact h
        have HNT : Hid (ntXs (l.take (k + 1)) = ntXs (l.take k) + ntX l[k]) := ntXs_take hlt
        generalize l[k] = x at hbx HTK HNT
        obtain ⟨kind, pid, t⟩ := x
        obtain ⟨tk, tn, ts, tl⟩ := t
        have d0 := hbx.c0
        have d1 := hbx.c1
        have hRT := hbx.t
        rw [RepT] at hRT
        obtain ⟨d2, d3, d4, hs4, tao, tcap, d5, hl5, hc5, hr5⟩ := hRT
        have HC : Hid (Calls Try.prog 17 #[sdV kind pid tk tn ts tao tl.length tcap, .int .i64 r] wr fun e w' => (∃ r' : Int, e = .returned (.int .i64 r') ∧ -1 ≤ r' ∧ r' ≤ r ∧ (0 ≤ r' → StS (.mk tk tn ts tl) ∧ r' + (ntL tl : Int) ≤ r)) ∧ Below wr.heap.size wr w') := szTimer_any kind pid tk tn ts tl tao tcap r wr ⟨tao, tcap, rfl, hs4, hl5, hc5, hr5⟩ hr0 hrL
        clear hbx hrow hr5 hs4 hl5 hc5
        go_wp2_with fail
        refine HC.out.mono ?_
        rintro e w3 ⟨⟨r', rfl, h3, h4, h5⟩, hb3⟩
        have HB3 : Hid (Below w.heap.size w w3) := HBR.out.trans (hb3.mono HBR.out.size)
        have H5 : Hid (0 ≤ r' → StS (.mk tk tn ts tl) ∧ r' + (ntL tl : Int) ≤ r) := h5
        clear hb3 h5 d0 d1 d2 d3 d4 d5
        by_cases hneg : r' < 0
        · go_wp2_with fail
          go_ret
          exact ⟨⟨-1, rfl, by omega, fun h => absurd h (by decide)⟩, HB3.out⟩
        · have HG : Hid (r' + (ntXs (l.take (k + 1)) : Int) ≤ L + ((k + 1 : Nat) : Int) ∧ r' ≤ L ∧ ∀ a ∈ l.take (k + 1), StS a.t) := by
            have a1 := H5.out (by omega)
            have a2 := HNT.out
            have a3 := HR1.out
            have a4 := HR2.out
            have a5 : ntX ⟨kind, pid, .mk tk tn ts tl⟩ = 1 + ntL tl := by unfold ntX; simp [ntL]
            exact ⟨by omega, by omega, HTK.out a1.1⟩
          go_wp2_with fail
          go_roundw
          case rel => exact ⟨k + 1, r', by omega, by go_num, rfl, by omega, HG.out.1, HG.out.2.1, HG.out.2.2, HB3.out⟩
          case measure => simp [intOf]; omega
      · have HF : Hid (l.length ≤ 1048576 ∧ (∀ a ∈ l, StS a.t) ∧ r + (ntXs l : Int) ≤ left) := by
          have a1 := HSM.out
          have a2 := HR1.out
          have a3 := HLL.out
          rw [List.take_of_length_le (by omega)] at a1 a2
          exact ⟨by omega, a1, by omega⟩
        have hrl : r ≤ left := by have := HF.out.2.2; omega
        go_wp2
        go_ret
        exact ⟨⟨r, rfl, hrl, fun _ => HF.out⟩, HBR.out⟩
set_option maxHeartbeats 1000000 in
theorem eqTimer_same (kind pid : Int) (t : Tm) (k n : Int) (s : ByteArray) (ao ao' : Option Addr) (len len' cap cap' : Nat) (k' n' : Int) (s' : ByteArray) (w : World) (hv : RepV 0 w t (.agg #[.int .i64 k, .int .i64 n, .string s, .slice ao len cap])) (hv' : RepV 0 w t (.agg #[.int .i64 k', .int .i64 n', .string s', .slice ao' len' cap'])) :
    Calls Try.prog 22 #[sdV kind pid k n s ao len cap, sdV kind pid k' n' s' ao' len' cap'] w fun e w' => e = .returned (.bool true) ∧ Below w.heap.size w w' := by
  have HV : Hid (RepV 0 w t (.agg #[.int .i64 k, .int .i64 n, .string s, .slice ao len cap]) ∧ RepV 0 w t (.agg #[.int .i64 k', .int .i64 n', .string s', .slice ao' len' cap'])) := ⟨hv, hv'⟩
  clear hv hv'
  go_enter Try.func22, Try.ntmps22
  go_wp2_with fail
  refine (eqT_all t 0 _ _ _ ((Keeps.below ?_ 0).repV HV.out.1) ((Keeps.below ?_ 0).repV HV.out.2)).mono ?_
  · exact ((Below.refl _ _).alloc (Nat.le_refl _) _).alloc (by simp) _
  · exact ((Below.refl _ _).alloc (Nat.le_refl _) _).alloc (by simp) _
  rintro e w1 ⟨rfl, hb1⟩
  have HB1 : Hid (Below w.heap.size w w1) := (((Below.refl _ _).alloc (Nat.le_refl _) _).alloc (by simp) _).trans (hb1.mono (by simp; omega))
  clear hb1
  go_wp2_with fail
  go_ret
  exact ⟨rfl, HB1.out⟩
set_option maxHeartbeats 1000000 in
set_option maxRecDepth 100000 in
theorem eqTimerS_same (l : List Sd) (ao bo : Option Addr) (cap cap' : Nat) (w : World) (hr : RowS w ao l) (hr' : RowS w bo l) (hl : l.length ≤ maxLen) :
    Calls Try.prog 10 #[.slice ao l.length cap, .slice bo l.length cap'] w fun e w' => e = .returned (.bool true) ∧ Below w.heap.size w w' := by
  have HRA : Hid (RowS w ao l) := hr
  have HRB : Hid (RowS w bo l) := hr'
  clear hr hr'
  unfold maxLen at hl
  have hbl : ((l.length : Int) != (l.length : Int)) = false := by simp
  go_enter Try.func10, Try.ntmps10
  go_wp2_with fail
  go_loopw [5] (fun i w' => ∃ k : Nat, k ≤ l.length ∧ i = .int .i64 k ∧ Below w.heap.size w w') (fun i _ => l.length - (intOf i).toNat)
  case atStart => exact ⟨0, Nat.zero_le _, rfl, Below.refl _ _⟩
  case round =>
    obtain ⟨k, hk, rfl, hb⟩ := hrel
    have HB : Hid (Below w.heap.size w wr) := hb
    clear hb
    by_cases hlt : k < l.length
    · rcases HRA.out.below HB.out with h0 | ⟨b, o, rfl, hrow⟩
      · rw [h0] at hlt; simp at hlt
      rcases HRB.out.below HB.out with h0 | ⟨b', o', rfl, hrow'⟩
      · rw [h0] at hlt; simp at hlt
      have hbx := hrow k hlt
      have hbx' := hrow' k hlt
      obtain ⟨tk, tn, ts, tao, tlen, tcap, e0, e1, e2, e3, hv⟩ := hbx.t.cells
      obtain ⟨tk', tn', ts', tao', tlen', tcap', e0', e1', e2', e3', hv'⟩ := hbx'.t.cells
      have HC : Hid (Calls Try.prog 22 #[sdV l[k].kind l[k].pid tk tn ts tao tlen tcap, sdV l[k].kind l[k].pid tk' tn' ts' tao' tlen' tcap'] wr.drew fun e w' => e = .returned (.bool true) ∧ Below wr.drew.heap.size wr.drew w') :=
        eqTimer_same l[k].kind l[k].pid l[k].t tk tn ts tao tao' tlen tlen' tcap tcap' tk' tn' ts' wr.drew hv.drew hv'.drew
      have c0 := hbx.c0
      have c1 := hbx.c1
      have c0' := hbx'.c0
      have c1' := hbx'.c1
      clear hbx hbx' hrow hrow' hv hv'
      generalize l[k].kind = kind at *
      generalize l[k].pid = pid at *
      go_wp2_with fail
      go_region_with (go_at_call 22; refine HC.out.mono ?_; rintro e w1 ⟨rfl, hb1⟩)
      all_goals
        have HB1 : Hid (Below w.heap.size w w1) := (HB.out.drew).trans (hb1.mono HB.out.size)
        clear hb1 c0 c1 c0' c1' e0 e1 e2 e3 e0' e1' e2' e3'
        go_wp2_with fail
        go_roundw
        case rel => exact ⟨k + 1, by omega, by go_num, HB1.out⟩
        case measure => simp [intOf]; omega
    · go_wp2_with fail
      go_ret
      exact ⟨rfl, HB.out⟩
end Go.Proofs.Ytljfjaoebbmfgaa.Tr
