/-
  Cells one behind the other: how the laws measure them, copy them and compare them.
  (Ahead of it, in this text: The laws' own functions on a system: measure and comparison. A system measured and compared. A cell: its numbers and its three lists of words; how the law measures it, copies it, compares it and marks it.)
-/
import Derived.Test.YtdglefedbkgghaaV1
import Derived.Test.YtdglefedbkgghaaAcD
import Derived.Test.YtdglefedbkgghaaTmD
import Derived.Deep.RegionWith
import Derived.Test.YtdglefedbkgghaaInA
import Derived.RegionTactic
namespace Go.Proofs.Ytdglefedbkgghaa
open Go.RowKit Atom
open Go.Proofs.Ytdglefedbkgghaa.Code
set_option linter.unusedVariables false

theorem zL_sts {l : List Tm} {a : Int} (h0 : 0 ≤ a) (h1 : a ≤ 1048576) (h2 : 0 ≤ zL l a) : StL l ∧ zL l a + (ntL l : Int) ≤ a := by
  unfold zL at h2 ⊢
  split at h2
  · omega
  · rename_i hq
    rw [if_neg hq]
    have h3 := szGo_nt l (a - l.length) (by omega) h2
    have h4 := ntL_eq l
    refine ⟨⟨by omega, ?_⟩, by omega⟩
    have go : ∀ (m : List Tm) (c : Int), 0 ≤ c → c ≤ 1048576 → 0 ≤ szGo m c → ∀ t, t ∈ m → StS t := by
      intro m
      induction m with
      | nil => intro c _ _ _ t ht; cases ht
      | cons x r ihr =>
        intro c h0 h1 hz t ht
        rw [szGo] at hz
        have hx := szT_le x c h0
        split at hz
        · omega
        · rcases List.mem_cons.1 ht with rfl | ht
          · exact sz_sts t c h0 h1 (by omega)
          · exact ihr (szT x c) (by omega) (by omega) hz t ht
    exact go l _ (by omega) (by omega) h2
/-- How many terms and numbers an actor has. -/
def ntA (a : Ac) : Nat := ntL a.regs + ntL a.box + a.N

def ntAs (l : List Ac) : Nat := (l.map ntA).sum
theorem ntAs_take {l : List Ac} {k : Nat} (h : k < l.length) : ntAs (l.take (k + 1)) = ntAs (l.take k) + ntA l[k] := by
  unfold ntAs
  rw [List.take_succ_eq_append_getElem h, List.map_append, List.sum_append]; simp

set_option maxHeartbeats 1000000 in
set_option maxRecDepth 100000 in
theorem szSaid_any (kind pid k n : Int) (s : ByteArray) (l : List Tm) (ao : Option Addr) (cap : Nat) (left : Int) (w : World) (hv : RepV 0 w (.mk k n s l) (.agg #[.int .i64 k, .int .i64 n, .string s, .slice ao l.length cap])) (h0 : 0 ≤ left) (h1 : left ≤ 1048576) :
    Calls Try.prog 38 #[sdV kind pid k n s ao l.length cap, .int .i64 left] w fun e w' => (∃ r : Int, e = .returned (.int .i64 r) ∧ -1 ≤ r ∧ r ≤ left ∧ (0 ≤ r → StS (.mk k n s l) ∧ r + (ntL l : Int) ≤ left)) ∧ Below w.heap.size w w' := by
  have HV : Hid (RepV 0 w (.mk k n s l) (.agg #[.int .i64 k, .int .i64 n, .string s, .slice ao l.length cap])) := hv
  clear hv
  have z1 := szT_le (.mk k n s l) left h0
  have HS1 : Hid (0 ≤ szT (.mk k n s l) left → StS (.mk k n s l)) := fun h => sz_sts _ left h0 h1 h
  have HS2 : Hid (0 ≤ szT (.mk k n s l) left → szT (.mk k n s l) left + (ntL l : Int) ≤ left) := fun h => by
    show _ ≤ _
    rw [szT] at h ⊢
    split at h
    · omega
    · rename_i q1
      rw [if_neg q1]
      split at h
      · omega
      · rename_i q2
        rw [if_neg q2]
        have h5 := szGo_nt l (left - s.size - l.length) (by omega) h
        have h6 := ntL_eq l
        omega
  go_enter Try.func38, Try.ntmps38
  go_wp2_with fail
  refine (szT_all (.mk k n s l) 0 _ _ left ((Keeps.below ?_ 0).repV HV.out) h0 h1).mono ?_
  · exact (Below.refl _ _).alloc (Nat.le_refl _) _
  rintro e w1 ⟨rfl, hb1⟩
  have HB1 : Hid (Below w.heap.size w w1) := ((Below.refl _ _).alloc (Nat.le_refl _) _).trans (hb1.mono (by simp))
  clear hb1
  generalize szT (.mk k n s l) left = x at *
  by_cases hx : x < 0
  · go_wp2_with fail
    go_ret
    exact ⟨⟨-1, rfl, by omega, by omega, fun h => absurd h (by decide)⟩, HB1.out⟩
  · go_wp2_with fail
    go_ret
    exact ⟨⟨x, rfl, by omega, by omega, fun h => ⟨HS1.out h, HS2.out h⟩⟩, HB1.out⟩

/-- How many terms were said. -/
def ntX (x : Sd) : Nat := ntL [x.t]
def ntXs (l : List Sd) : Nat := (l.map ntX).sum
theorem ntXs_take {l : List Sd} {k : Nat} (h : k < l.length) : ntXs (l.take (k + 1)) = ntXs (l.take k) + ntX l[k] := by
  unfold ntXs
  rw [List.take_succ_eq_append_getElem h, List.map_append, List.sum_append]; simp

set_option maxHeartbeats 1000000 in
set_option maxRecDepth 100000 in
theorem szSaidS_any (l : List Sd) (ao : Option Addr) (cap : Nat) (left : Int) (w : World) (hr : RowS w ao l) (hl : l.length ≤ maxLen) (h0 : 0 ≤ left) (h1 : left ≤ 1048576) :
    Calls Try.prog 16 #[.slice ao l.length cap, .int .i64 left] w fun e w' => (∃ r : Int, e = .returned (.int .i64 r) ∧ r ≤ left ∧ (0 ≤ r → l.length ≤ 1048576 ∧ (∀ a ∈ l, StS a.t) ∧ r + (ntXs l : Int) ≤ left)) ∧ Below w.heap.size w w' := by
  unfold maxLen at hl
  by_cases hbig : left - l.length < 0
  · go_enter Try.func16, Try.ntmps16
    go_wp2
    go_ret
    exact ⟨⟨-1, rfl, by omega, fun h => absurd h (by decide)⟩, Below.refl _ _⟩
  · have HRW : Hid (RowS w ao l) := hr
    clear hr
    obtain ⟨L, hL⟩ : ∃ L, L = left - (l.length : Int) := ⟨_, rfl⟩
    have ew : IntKind.i64.wrap (left - (l.length : Int)) = L := by rw [IntKind.wrap_i64]; omega
    have hL0 : ¬ L < 0 := by omega
    have HLL : Hid (L = left - (l.length : Int)) := hL
    go_enter Try.func16, Try.ntmps16
    go_wp2_with fail
    go_loopw [1, 5] (fun v i wr => ∃ (k : Nat) (r : Int), k ≤ l.length ∧ i = .int .i64 k ∧ v = .int .i64 r ∧ 0 ≤ r ∧ r + (ntXs (l.take k) : Int) ≤ L + (k : Int) ∧ r ≤ L ∧ (∀ a ∈ l.take k, StS a.t) ∧ Below w.heap.size w wr) (fun v i wr => l.length - (intOf i).toNat)
    case atStart => exact ⟨0, L, Nat.zero_le _, rfl, by congr 1; omega, by omega, by simp [ntXs], by omega, (by intro x hx; simp at hx), Below.refl _ _⟩
    case round =>
      obtain ⟨k, r, hk, rfl, rfl, hr0, hr1, hr2, hsm, hbr⟩ := hrel
      have HBR : Hid (Below w.heap.size w wr) := hbr
      have HSM : Hid (∀ a ∈ l.take k, StS a.t) := hsm
      have HR1 : Hid (r + (ntXs (l.take k) : Int) ≤ L + (k : Int)) := hr1
      have HR2 : Hid (r ≤ L) := hr2
      have hrL : r ≤ 1048576 := by omega
      clear hbr hsm hr1 hr2
      by_cases hlt : k < l.length
      · rcases HRW.out.below HBR.out with h | ⟨b, o, rfl, hrow⟩
        · rw [h] at hlt; simp at hlt
        have hbx := hrow k hlt
        have HTK : Hid (StS l[k].t → ∀ a ∈ l.take (k + 1), StS a.t) := fun h x hx => by
          rw [List.take_succ_eq_append_getElem hlt, List.mem_append] at hx
          rcases hx with hx | hx
          · exact HSM.out x hx
          · simp at hx; rw [hx]; exact h
        have HNT : Hid (ntXs (l.take (k + 1)) = ntXs (l.take k) + ntX l[k]) := ntXs_take hlt
        generalize l[k] = x at hbx HTK HNT
        obtain ⟨kind, pid, t⟩ := x
        obtain ⟨tk, tn, ts, tl⟩ := t
        have d0 := hbx.c0
        have d1 := hbx.c1
        have hRT := hbx.t
        rw [RepT] at hRT
        obtain ⟨d2, d3, d4, hs4, tao, tcap, d5, hl5, hc5, hr5⟩ := hRT
        have HC : Hid (Calls Try.prog 38 #[sdV kind pid tk tn ts tao tl.length tcap, .int .i64 r] wr fun e w' => (∃ r' : Int, e = .returned (.int .i64 r') ∧ -1 ≤ r' ∧ r' ≤ r ∧ (0 ≤ r' → StS (.mk tk tn ts tl) ∧ r' + (ntL tl : Int) ≤ r)) ∧ Below wr.heap.size wr w') := szSaid_any kind pid tk tn ts tl tao tcap r wr ⟨tao, tcap, rfl, hs4, hl5, hc5, hr5⟩ hr0 hrL
        clear hbx hrow hr5 hs4 hl5 hc5
        go_wp2_with fail
        refine HC.out.mono ?_
        rintro e w3 ⟨⟨r', rfl, h3, h4, h5⟩, hb3⟩
        have HB3 : Hid (Below w.heap.size w w3) := HBR.out.trans (hb3.mono HBR.out.size)
        have H5 : Hid (0 ≤ r' → StS (.mk tk tn ts tl) ∧ r' + (ntL tl : Int) ≤ r) := h5
        clear hb3 h5 d0 d1 d2 d3 d4 d5
        by_cases hneg : r' < 0
        · go_wp2_with fail
          go_ret
          exact ⟨⟨-1, rfl, by omega, fun h => absurd h (by decide)⟩, HB3.out⟩
        · have HG : Hid (r' + (ntXs (l.take (k + 1)) : Int) ≤ L + ((k + 1 : Nat) : Int) ∧ r' ≤ L ∧ ∀ a ∈ l.take (k + 1), StS a.t) := by
            have a1 := H5.out (by omega)
            have a2 := HNT.out
            have a3 := HR1.out
            have a4 := HR2.out
            have a5 : ntX ⟨kind, pid, .mk tk tn ts tl⟩ = 1 + ntL tl := by unfold ntX; simp [ntL]
            exact ⟨by omega, by omega, HTK.out a1.1⟩
          go_wp2_with fail
          go_roundw
          case rel => exact ⟨k + 1, r', by omega, by go_num, rfl, by omega, HG.out.1, HG.out.2.1, HG.out.2.2, HB3.out⟩
          case measure => simp [intOf]; omega
      · have HF : Hid (l.length ≤ 1048576 ∧ (∀ a ∈ l, StS a.t) ∧ r + (ntXs l : Int) ≤ left) := by
          have a1 := HSM.out
          have a2 := HR1.out
          have a3 := HLL.out
          rw [List.take_of_length_le (by omega)] at a1 a2
          exact ⟨by omega, a1, by omega⟩
        have hrl : r ≤ left := by have := HF.out.2.2; omega
        go_wp2
        go_ret
        exact ⟨⟨r, rfl, hrl, fun _ => HF.out⟩, HBR.out⟩
end Go.Proofs.Ytdglefedbkgghaa
namespace Go.Proofs.Ytdglefedbkgghaa
open Go.RowKit Atom
open Go.Proofs.Ytdglefedbkgghaa.Code
set_option linter.unusedVariables false

set_option maxHeartbeats 1000000 in
theorem eqSaid_same (kind pid : Int) (t : Tm) (k n : Int) (s : ByteArray) (ao ao' : Option Addr) (len len' cap cap' : Nat) (k' n' : Int) (s' : ByteArray) (w : World) (hv : RepV 0 w t (.agg #[.int .i64 k, .int .i64 n, .string s, .slice ao len cap])) (hv' : RepV 0 w t (.agg #[.int .i64 k', .int .i64 n', .string s', .slice ao' len' cap'])) :
    Calls Try.prog 54 #[sdV kind pid k n s ao len cap, sdV kind pid k' n' s' ao' len' cap'] w fun e w' => e = .returned (.bool true) ∧ Below w.heap.size w w' := by
  have HV : Hid (RepV 0 w t (.agg #[.int .i64 k, .int .i64 n, .string s, .slice ao len cap]) ∧ RepV 0 w t (.agg #[.int .i64 k', .int .i64 n', .string s', .slice ao' len' cap'])) := ⟨hv, hv'⟩
  clear hv hv'
  go_enter Try.func54, Try.ntmps54
  go_wp2_with fail
  refine (eqT_all t 0 _ _ _ ((Keeps.below ?_ 0).repV HV.out.1) ((Keeps.below ?_ 0).repV HV.out.2)).mono ?_
  · exact ((Below.refl _ _).alloc (Nat.le_refl _) _).alloc (by simp) _
  · exact ((Below.refl _ _).alloc (Nat.le_refl _) _).alloc (by simp) _
  rintro e w1 ⟨rfl, hb1⟩
  have HB1 : Hid (Below w.heap.size w w1) := (((Below.refl _ _).alloc (Nat.le_refl _) _).alloc (by simp) _).trans (hb1.mono (by simp; omega))
  clear hb1
  go_wp2_with fail
  go_ret
  exact ⟨rfl, HB1.out⟩

set_option maxHeartbeats 1000000 in
set_option maxRecDepth 100000 in
theorem eqSaidS_same (l : List Sd) (ao bo : Option Addr) (cap cap' : Nat) (w : World) (hr : RowS w ao l) (hr' : RowS w bo l) (hl : l.length ≤ maxLen) :
    Calls Try.prog 31 #[.slice ao l.length cap, .slice bo l.length cap'] w fun e w' => e = .returned (.bool true) ∧ Below w.heap.size w w' := by
  have HRA : Hid (RowS w ao l) := hr
  have HRB : Hid (RowS w bo l) := hr'
  clear hr hr'
  unfold maxLen at hl
  have hbl : ((l.length : Int) != (l.length : Int)) = false := by simp
  go_enter Try.func31, Try.ntmps31
  go_wp2_with fail
  go_loopw [5] (fun i w' => ∃ k : Nat, k ≤ l.length ∧ i = .int .i64 k ∧ Below w.heap.size w w') (fun i _ => l.length - (intOf i).toNat)
  case atStart => exact ⟨0, Nat.zero_le _, rfl, Below.refl _ _⟩
  case round =>
    obtain ⟨k, hk, rfl, hb⟩ := hrel
    have HB : Hid (Below w.heap.size w wr) := hb
    clear hb
    by_cases hlt : k < l.length
    · rcases HRA.out.below HB.out with h0 | ⟨b, o, rfl, hrow⟩
      · rw [h0] at hlt; simp at hlt
      rcases HRB.out.below HB.out with h0 | ⟨b', o', rfl, hrow'⟩
      · rw [h0] at hlt; simp at hlt
      have hbx := hrow k hlt
      have hbx' := hrow' k hlt
      obtain ⟨tk, tn, ts, tao, tlen, tcap, e0, e1, e2, e3, hv⟩ := hbx.t.cells
      obtain ⟨tk', tn', ts', tao', tlen', tcap', e0', e1', e2', e3', hv'⟩ := hbx'.t.cells
      have HC : Hid (Calls Try.prog 54 #[sdV l[k].kind l[k].pid tk tn ts tao tlen tcap, sdV l[k].kind l[k].pid tk' tn' ts' tao' tlen' tcap'] wr.drew fun e w' => e = .returned (.bool true) ∧ Below wr.drew.heap.size wr.drew w') :=
        eqSaid_same l[k].kind l[k].pid l[k].t tk tn ts tao tao' tlen tlen' tcap tcap' tk' tn' ts' wr.drew hv.drew hv'.drew
      have c0 := hbx.c0
      have c1 := hbx.c1
      have c0' := hbx'.c0
      have c1' := hbx'.c1
      clear hbx hbx' hrow hrow' hv hv'
      generalize l[k].kind = kind at *
      generalize l[k].pid = pid at *
      go_wp2_with fail
      go_region_with (go_at_call 54; refine HC.out.mono ?_; rintro e w1 ⟨rfl, hb1⟩)
      all_goals
        have HB1 : Hid (Below w.heap.size w w1) := (HB.out.drew).trans (hb1.mono HB.out.size)
        clear hb1 c0 c1 c0' c1' e0 e1 e2 e3 e0' e1' e2' e3'
        go_wp2_with fail
        go_roundw
        case rel => exact ⟨k + 1, by omega, by go_num, HB1.out⟩
        case measure => simp [intOf]; omega
    · go_wp2_with fail
      go_ret
      exact ⟨rfl, HB.out⟩

end Go.Proofs.Ytdglefedbkgghaa
namespace Go.Proofs.Ytdglefedbkgghaa
open Go.RowKit
set_option linter.unusedVariables false

structure Ce where
  pid : Int
  pc : Int
  R : Nat
  r : Nat → Int
  B : Nat
  b : Nat → Int
  N : Nat
  f : Nat → Int
  h : Int
structure Cw where
  ra : Option Addr
  rc : Nat
  ba : Option Addr
  bc : Nat
  la : Option Addr
  lc : Nat
abbrev ceV (c : Ce) (h : Cw) : Value := .agg #[.int .i64 c.pid, .int .i64 c.pc, .slice h.ra c.R h.rc, .slice h.ba c.B h.bc, .slice h.la c.N h.lc, .int .i64 c.h]
structure CeR (w : World) (c : Ce) (h : Cw) : Prop where
  r0 : RdI w h.ra c.R c.r
  b0 : RdI w h.ba c.B c.b
  l0 : RdI w h.la c.N c.f
theorem CeR.below {w w' : World} {c : Ce} {h : Cw} (x : CeR w c h) (hb : Below w.heap.size w w') : CeR w' c h := ⟨x.r0.below hb, x.b0.below hb, x.l0.below hb⟩
/-- No more than a million words in all. -/
def CeS (c : Ce) : Prop := c.R + c.B + c.N ≤ 1048576
theorem keepC {w w' : World} (h : Below w.heap.size w w') {b o : Nat} {v : Value} (hc : w.cell? ⟨b, o, none⟩ = some v) : w'.cell? ⟨b, o, none⟩ = some v := by
  rw [h.cell (p := ⟨b, o, none⟩) (World.block_lt_of_cell? w _ hc)]; exact hc

set_option maxHeartbeats 1000000 in
set_option maxRecDepth 100000 in
theorem szCell_any (c : Ce) (h : Cw) (left : Int) (w : World) (hR : c.R ≤ maxLen) (hB : c.B ≤ maxLen) (hL : c.N ≤ maxLen) (h0 : 0 ≤ left) (h1 : left ≤ 1048576) :
    Calls Try.prog 37 #[ceV c h, .int .i64 left] w fun e w' => (∃ r : Int, e = .returned (.int .i64 r) ∧ -1 ≤ r ∧ r ≤ left ∧ (0 ≤ r → CeS c)) ∧ Below w.heap.size w w' := by
  obtain ⟨pid, pc, R, r, B, b, N, f, ha⟩ := c
  obtain ⟨ra, rc, ba, bc, la, lc⟩ := h
  have HR : Hid (R ≤ maxLen) := hR
  have HB : Hid (B ≤ maxLen) := hB
  have HN : Hid (N ≤ maxLen) := hL
  clear hR hB hL
  obtain ⟨w0, hw0⟩ : ∃ w0, w0 = w.alloc (.cells #[.int .i64 pid, .int .i64 pc, .slice ra R rc, .slice ba B bc, .slice la N lc, .int .i64 ha] 74) := ⟨_, rfl⟩
  have HB0 : Hid (Below w.heap.size w w0) := by rw [hw0]; exact (Below.refl _ _).alloc (Nat.le_refl _) _
  have hq : ∀ j (v : Value), (#[.int .i64 pid, .int .i64 pc, .slice ra R rc, .slice ba B bc, .slice la N lc, .int .i64 ha] : Array Value)[j]? = some v → w0.cell? ⟨w.heap.size, j, none⟩ = some v := fun j v hv => by
    rw [hw0, World.cell?_alloc_new]; exact hv
  have d3 := hq 3 _ rfl
  have d4 := hq 4 _ rfl
  clear hq
  go_enter Try.func37, Try.ntmps37
  go_wp2_with fail
  rw [← hw0]
  clear hw0
  refine (szIntS_any ra R rc left HR.out ⟨h0, h1⟩ w0).mono ?_
  rintro e w1 ⟨rfl, hw1⟩
  obtain rfl := hw1.symm
  have z1 : -1 ≤ szI R left ∧ (szI R left ≤ left) ∧ (0 ≤ szI R left → szI R left = left - R) := by unfold szI; split <;> omega
  generalize szI R left = x1 at *
  by_cases hx1 : x1 < 0
  · go_wp2_with fail
    go_ret
    exact ⟨⟨-1, rfl, by omega, by omega, fun h => absurd h (by decide)⟩, HB0.out⟩
  · go_wp2_with fail
    refine (szIntS_any ba B bc x1 HB.out (by omega) w0).mono ?_
    rintro e w2 ⟨rfl, hw2⟩
    obtain rfl := hw2.symm
    have z2 : -1 ≤ szI B x1 ∧ (szI B x1 ≤ x1) ∧ (0 ≤ szI B x1 → szI B x1 = x1 - B) := by unfold szI; split <;> omega
    generalize szI B x1 = x2 at *
    by_cases hx2 : x2 < 0
    · go_wp2_with fail
      go_ret
      exact ⟨⟨-1, rfl, by omega, by omega, fun h => absurd h (by decide)⟩, HB0.out⟩
    · go_wp2_with fail
      refine (szIntS_any la N lc x2 HN.out (by omega) w0).mono ?_
      rintro e w3 ⟨rfl, hw3⟩
      obtain rfl := hw3.symm
      have z3 : -1 ≤ szI N x2 ∧ (szI N x2 ≤ x2) ∧ (0 ≤ szI N x2 → szI N x2 = x2 - N) := by unfold szI; split <;> omega
      generalize szI N x2 = x3 at *
      by_cases hx3 : x3 < 0
      · go_wp2_with fail
        go_ret
        exact ⟨⟨-1, rfl, by omega, by omega, fun h => absurd h (by decide)⟩, HB0.out⟩
      · have HALL : Hid (R + B + N ≤ 1048576) := by show _ ≤ _; omega
        go_wp2_with fail
        go_ret
        exact ⟨⟨x3, rfl, by omega, by omega, fun _ => HALL.out⟩, HB0.out⟩

set_option maxHeartbeats 1000000 in
set_option maxRecDepth 100000 in
theorem eqCell_same (c : Ce) (g h : Cw) (w : World) (hg : CeR w c g) (hh : CeR w c h) (hS : CeS c) :
    Calls Try.prog 53 #[ceV c g, ceV c h] w fun e w' => e = .returned (.bool true) ∧ Below w.heap.size w w' := by
  obtain ⟨pid, pc, R, r, B, b, N, f, ha⟩ := c
  obtain ⟨ra, rc, ba, bc, la, lc⟩ := g
  obtain ⟨ra', rc', ba', bc', la', lc'⟩ := h
  have HG : Hid (CeR w ⟨pid, pc, R, r, B, b, N, f, ha⟩ ⟨ra, rc, ba, bc, la, lc⟩) := hg
  have HH : Hid (CeR w ⟨pid, pc, R, r, B, b, N, f, ha⟩ ⟨ra', rc', ba', bc', la', lc'⟩) := hh
  have HS : Hid (R ≤ 1048576 ∧ B ≤ 1048576 ∧ N ≤ 1048576) := by unfold CeS at hS; exact ⟨by dsimp only at hS; omega, by dsimp only at hS; omega, by dsimp only at hS; omega⟩
  clear hg hh hS
  obtain ⟨w0, hw0⟩ : ∃ w0, w0 = (w.alloc (.cells #[.int .i64 pid, .int .i64 pc, .slice ra R rc, .slice ba B bc, .slice la N lc, .int .i64 ha] 68)).alloc (.cells #[.int .i64 pid, .int .i64 pc, .slice ra' R rc', .slice ba' B bc', .slice la' N lc', .int .i64 ha] 68) := ⟨_, rfl⟩
  have HB0 : Hid (Below w.heap.size w w0) := by rw [hw0]; exact ((Below.refl _ _).alloc (Nat.le_refl _) _).alloc (by simp) _
  have hq : ∀ j (v : Value), (#[.int .i64 pid, .int .i64 pc, .slice ra R rc, .slice ba B bc, .slice la N lc, .int .i64 ha] : Array Value)[j]? = some v → w0.cell? ⟨w.heap.size, j, none⟩ = some v := fun j v hv => by
    rw [hw0]
    refine keepC ((Below.refl _ _).alloc (Nat.le_refl _) _) ?_
    rw [World.cell?_alloc_new]; exact hv
  have hq' : ∀ j (v : Value), (#[.int .i64 pid, .int .i64 pc, .slice ra' R rc', .slice ba' B bc', .slice la' N lc', .int .i64 ha] : Array Value)[j]? = some v → w0.cell? ⟨w.heap.size + 1, j, none⟩ = some v := fun j v hv => by
    rw [hw0]
    have e : (w.alloc (.cells #[.int .i64 pid, .int .i64 pc, .slice ra R rc, .slice ba B bc, .slice la N lc, .int .i64 ha] 68)).heap.size = w.heap.size + 1 := by simp
    rw [← e, World.cell?_alloc_new]; exact hv
  have HC : Hid (∀ w1, Below w0.heap.size w0 w1 → (w1.cell? ⟨w.heap.size, 3, none⟩ = some (.slice ba B bc) ∧ w1.cell? ⟨w.heap.size, 4, none⟩ = some (.slice la N lc) ∧ w1.cell? ⟨w.heap.size, 5, none⟩ = some (.int .i64 ha)) ∧ (w1.cell? ⟨w.heap.size + 1, 3, none⟩ = some (.slice ba' B bc') ∧ w1.cell? ⟨w.heap.size + 1, 4, none⟩ = some (.slice la' N lc') ∧ w1.cell? ⟨w.heap.size + 1, 5, none⟩ = some (.int .i64 ha))) := fun w1 hb =>
    ⟨⟨keepC hb (hq 3 _ rfl), keepC hb (hq 4 _ rfl), keepC hb (hq 5 _ rfl)⟩, keepC hb (hq' 3 _ rfl), keepC hb (hq' 4 _ rfl), keepC hb (hq' 5 _ rfl)⟩
  clear hq hq'
  go_enter Try.func53, Try.ntmps53
  go_wp2_with fail
  rw [← hw0]
  clear hw0
  refine (eqIntS_same ra ra' R rc rc' r r w0 (HG.out.below HB0.out).r0 (HH.out.below HB0.out).r0 (fun _ _ => rfl) HS.out.1).mono ?_
  rintro e w1 ⟨rfl, hb1⟩
  have HB1 : Hid (Below w0.heap.size w0 w1) := hb1
  have HX1 : Hid (Below w.heap.size w w1) := HB0.out.trans (hb1.mono HB0.out.size)
  obtain ⟨⟨d3, _, _⟩, d3', _, _⟩ := HC.out w1 hb1
  clear hb1
  go_wp2_with fail
  refine (eqIntS_same ba ba' B bc bc' b b w1 (HG.out.below HX1.out).b0 (HH.out.below HX1.out).b0 (fun _ _ => rfl) HS.out.2.1).mono ?_
  rintro e w2 ⟨rfl, hb2⟩
  have HB2 : Hid (Below w0.heap.size w0 w2) := HB1.out.trans (hb2.mono HB1.out.size)
  have HX2 : Hid (Below w.heap.size w w2) := HX1.out.trans (hb2.mono HX1.out.size)
  obtain ⟨⟨_, d4, _⟩, _, d4', _⟩ := HC.out w2 HB2.out
  clear hb2 d3 d3'
  go_wp2_with fail
  refine (eqIntS_same la la' N lc lc' f f w2 (HG.out.below HX2.out).l0 (HH.out.below HX2.out).l0 (fun _ _ => rfl) HS.out.2.2).mono ?_
  rintro e w3 ⟨rfl, hb3⟩
  have HX3 : Hid (Below w.heap.size w w3) := HX2.out.trans (hb3.mono HX2.out.size)
  obtain ⟨⟨_, _, d5⟩, _, _, d5'⟩ := HC.out w3 (HB2.out.trans (hb3.mono HB2.out.size))
  clear hb3 d4 d4'
  go_wp2_with fail
  go_ret
  exact ⟨rfl, HX3.out⟩

/-! ### A copy -/
theorem cells_setC {w : World} {g j : Nat} {c c' : Array Value} {v x : Value} (hc : ∀ o, w.cell? ⟨g, o, none⟩ = c[o]?) (hj : c[j]? = some x) (h1 : c'[j]? = some v) (h2 : ∀ o, o ≠ j → c'[o]? = c[o]?) : ∀ o, (w.setCell ⟨g, j, none⟩ v).cell? ⟨g, o, none⟩ = c'[o]? := fun o => by
  by_cases e : o = j
  · subst e
    rw [World.cell?_setCell_same w ⟨g, o, none⟩ v ((hc o).trans hj)]; exact h1.symm
  · rw [World.cell?_setCell_other (h := fun q => e (by simp only [Addr.mk.injEq] at q; omega)), hc o]; exact (h2 o e).symm
theorem sixC {a b c d e f a' b' c' d' e' f' : Value} (j : Nat) (h : (0 ≠ j → a' = a) ∧ (1 ≠ j → b' = b) ∧ (2 ≠ j → c' = c) ∧ (3 ≠ j → d' = d) ∧ (4 ≠ j → e' = e) ∧ (5 ≠ j → f' = f)) : ∀ o, o ≠ j → (#[a', b', c', d', e', f'] : Array Value)[o]? = (#[a, b, c, d, e, f] : Array Value)[o]? := fun o ho => by
  obtain ⟨h0, h1, h2, h3, h4, h5⟩ := h
  match o, ho with
  | 0, ho => rw [h0 ho]; rfl
  | 1, ho => rw [h1 ho]; rfl
  | 2, ho => rw [h2 ho]; rfl
  | 3, ho => rw [h3 ho]; rfl
  | 4, ho => rw [h4 ho]; rfl
  | 5, ho => rw [h5 ho]; rfl
  | n + 6, _ => rw [Array.getElem?_eq_none (by simp), Array.getElem?_eq_none (by simp)]
/-- What a copy has in hand: its argument's box, the result's and its own. -/
structure Tc3 (w w1 : World) (c1 c2 c3 : Array Value) : Prop where
  be : Below w.heap.size w w1
  sz : w.heap.size + 3 ≤ w1.heap.size
  q1 : ∀ o, w1.cell? ⟨w.heap.size, o, none⟩ = c1[o]?
  q2 : ∀ o, w1.cell? ⟨w.heap.size + 1, o, none⟩ = c2[o]?
  q3 : ∀ o, w1.cell? ⟨w.heap.size + 1 + 1, o, none⟩ = c3[o]?
  f2 : ∀ o, w1.frozen? ⟨w.heap.size + 1, o, none⟩ = false
  f3 : ∀ o, w1.frozen? ⟨w.heap.size + 1 + 1, o, none⟩ = false
theorem Tc3.call {w w1 w2 : World} {c1 c2 c3 : Array Value} (h : Tc3 w w1 c1 c2 c3) (hb : Below w1.heap.size w1 w2) : Tc3 w w2 c1 c2 c3 := by
  have hz := h.sz
  exact ⟨h.be.trans (hb.mono h.be.size), Nat.le_trans h.sz hb.size, fun o => by rw [hb.cell (p := ⟨w.heap.size, o, none⟩) (by show w.heap.size < _; omega)]; exact h.q1 o,
    fun o => by rw [hb.cell (p := ⟨w.heap.size + 1, o, none⟩) (by show w.heap.size + 1 < _; omega)]; exact h.q2 o, fun o => by rw [hb.cell (p := ⟨w.heap.size + 1 + 1, o, none⟩) (by show w.heap.size + 1 + 1 < _; omega)]; exact h.q3 o,
    fun o => by rw [hb.frozen (p := ⟨w.heap.size + 1, o, none⟩) (by show w.heap.size + 1 < _; omega)]; exact h.f2 o, fun o => by rw [hb.frozen (p := ⟨w.heap.size + 1 + 1, o, none⟩) (by show w.heap.size + 1 + 1 < _; omega)]; exact h.f3 o⟩
theorem Tc3.set {w w1 : World} {c1 c2 c3 c3' : Array Value} (h : Tc3 w w1 c1 c2 c3) (j : Nat) {x v : Value} (hj : c3[j]? = some x) (h1 : c3'[j]? = some v) (h2 : ∀ o, o ≠ j → c3'[o]? = c3[o]?) : Tc3 w (w1.setCell ⟨w.heap.size + 1 + 1, j, none⟩ v) c1 c2 c3' := by
  refine ⟨h.be.setCell (by show w.heap.size ≤ w.heap.size + 1 + 1; omega) _, by rw [World.size_setCell]; exact h.sz, fun o => ?_, fun o => ?_, cells_setC h.q3 hj h1 h2, fun o => by rw [World.frozen?_setCell]; exact h.f2 o, fun o => by rw [World.frozen?_setCell]; exact h.f3 o⟩
  · rw [World.cell?_setCell_other (h := fun q => by simp only [Addr.mk.injEq] at q; omega)]; exact h.q1 o
  · rw [World.cell?_setCell_other (h := fun q => by simp only [Addr.mk.injEq] at q; omega)]; exact h.q2 o
theorem Tc3.new (w : World) (c1 c2 c3 : Array Value) (t1 t2 t3 : TypeId) : Tc3 w (((w.alloc (.cells c1 t1)).alloc (.cells c2 t2)).alloc (.cells c3 t3)) c1 c2 c3 := by
  have cl : ∀ {W : World} {b o : Nat} {c : Array Value} {t : TypeId} {f : Nat × Nat}, W.heap[b]? = some (.cells c t f) → W.cell? ⟨b, o, none⟩ = c[o]? := fun h => by simp [World.cell?, h]
  have fz : ∀ {W : World} {b o : Nat} {c : Array Value} {t : TypeId}, W.heap[b]? = some (.cells c t (0, 0)) → W.frozen? ⟨b, o, none⟩ = false := fun h => by simp [World.frozen?, h]
  have e1 : (((w.alloc (.cells c1 t1)).alloc (.cells c2 t2)).alloc (.cells c3 t3)).heap[w.heap.size]? = some (.cells c1 t1 (0, 0)) := by
    show (((w.heap.push _).push _).push _)[w.heap.size]? = _
    rw [Array.getElem?_push, if_neg (by simp; omega), Array.getElem?_push, if_neg (by simp), Array.getElem?_push, if_pos (by simp)]
  have e2 : (((w.alloc (.cells c1 t1)).alloc (.cells c2 t2)).alloc (.cells c3 t3)).heap[w.heap.size + 1]? = some (.cells c2 t2 (0, 0)) := by
    show (((w.heap.push _).push _).push _)[w.heap.size + 1]? = _
    rw [Array.getElem?_push, if_neg (by simp), Array.getElem?_push, if_pos (by simp)]
  have e3 : (((w.alloc (.cells c1 t1)).alloc (.cells c2 t2)).alloc (.cells c3 t3)).heap[w.heap.size + 1 + 1]? = some (.cells c3 t3 (0, 0)) := by
    show (((w.heap.push _).push _).push _)[w.heap.size + 1 + 1]? = _
    rw [Array.getElem?_push, if_pos (by simp)]
  exact ⟨(((Below.refl _ _).alloc (Nat.le_refl _) _).alloc (by simp) _).alloc (by simp; omega) _, by simp only [World.size_alloc]; omega, fun o => cl e1, fun o => cl e2, fun o => cl e3, fun o => fz e2, fun o => fz e3⟩

/-- The three lists, each in a block of its own, none of it below B. -/
structure CI (w : World) (c : Ce) (x y z : Nat) : Prop where
  r : Ints w x 0 c.R c.r
  b : Ints w y 0 c.B c.b
  l : Ints w z 0 c.N c.f
  xy : x < y
  yz : y < z
theorem CI.below {w w' : World} {c : Ce} {x y z : Nat} (h : CI w c x y z) (hz : z < w.heap.size) (hb : Below w.heap.size w w') : CI w' c x y z :=
  ⟨h.r.below hb (by have := h.xy; have := h.yz; omega), h.b.below hb (by have := h.yz; omega), h.l.below hb hz, h.xy, h.yz⟩
theorem CI.rd {w : World} {c : Ce} {x y z : Nat} (h : CI w c x y z) (p q s : Nat) : CeR w c ⟨some ⟨x, 0, none⟩, p, some ⟨y, 0, none⟩, q, some ⟨z, 0, none⟩, s⟩ := ⟨h.r.rdI, h.b.rdI, h.l.rdI⟩
abbrev cwN (c : Ce) (x y z : Nat) : Cw := ⟨some ⟨x, 0, none⟩, c.R, some ⟨y, 0, none⟩, c.B, some ⟨z, 0, none⟩, c.N⟩

set_option maxHeartbeats 1000000 in
set_option maxRecDepth 100000 in
theorem toCell_any (c : Ce) (h : Cw) (w : World) (hr : CeR w c h) (hs : CeS c) :
    Calls Try.prog 46 #[ceV c h] w fun e w' => ∃ x y z, e = .returned (ceV c (cwN c x y z)) ∧ w.heap.size ≤ x ∧ z < w'.heap.size ∧ CI w' c x y z ∧ Below w.heap.size w w' := by
  obtain ⟨pid, pc, R, r, B, b, N, f, ha⟩ := c
  obtain ⟨ra, rc, ba, bc, la, lc⟩ := h
  have HR : Hid (CeR w ⟨pid, pc, R, r, B, b, N, f, ha⟩ ⟨ra, rc, ba, bc, la, lc⟩) := hr
  have HS : Hid (R ≤ 1048576 ∧ B ≤ 1048576 ∧ N ≤ 1048576) := by unfold CeS at hs; exact ⟨by dsimp only at hs; omega, by dsimp only at hs; omega, by dsimp only at hs; omega⟩
  clear hr hs
  go_enter Try.func46, Try.ntmps46
  go_wp2_with fail
  have H0 : Tc3 w _ #[.int .i64 pid, .int .i64 pc, .slice ra R rc, .slice ba B bc, .slice la N lc, .int .i64 ha] #[.int .i64 0, .int .i64 0, .slice none 0 0, .slice none 0 0, .slice none 0 0, .int .i64 0] #[.int .i64 pid, .int .i64 pc, .slice none 0 0, .slice none 0 0, .slice none 0 0, .int .i64 0] := Tc3.new w _ _ _ 74 68 68
  obtain ⟨W0, hW0⟩ : ∃ W0, W0 = ((w.alloc (.cells #[.int .i64 pid, .int .i64 pc, .slice ra R rc, .slice ba B bc, .slice la N lc, .int .i64 ha] 74)).alloc (.cells #[.int .i64 0, .int .i64 0, .slice none 0 0, .slice none 0 0, .slice none 0 0, .int .i64 0] 68)).alloc (.cells #[.int .i64 pid, .int .i64 pc, .slice none 0 0, .slice none 0 0, .slice none 0 0, .int .i64 0] 68) := ⟨_, rfl⟩
  rw [← hW0] at H0 ⊢
  clear hW0
  have HT0 : Hid (Tc3 w W0 #[.int .i64 pid, .int .i64 pc, .slice ra R rc, .slice ba B bc, .slice la N lc, .int .i64 ha] #[.int .i64 0, .int .i64 0, .slice none 0 0, .slice none 0 0, .slice none 0 0, .int .i64 0] #[.int .i64 pid, .int .i64 pc, .slice none 0 0, .slice none 0 0, .slice none 0 0, .int .i64 0]) := H0
  clear H0
  refine (toIntS_any ra R rc r W0 ((HR.out.below HT0.out.be).r0) HS.out.1).mono ?_
  rintro e w1 ⟨rfl, hi1, hl1, hb1⟩
  have H1 := HT0.out.call hb1
  obtain ⟨x, hx⟩ : ∃ x, x = W0.heap.size := ⟨_, rfl⟩
  rw [← hx] at hi1 hl1 ⊢
  have HX : Hid (w.heap.size + 3 ≤ x) := by have := HT0.out.sz; show _ ≤ _; omega
  have H1s : Hid (Tc3 w (w1.setCell ⟨w.heap.size + 1 + 1, 2, none⟩ (.slice (some ⟨x, 0, none⟩) R R)) #[.int .i64 pid, .int .i64 pc, .slice ra R rc, .slice ba B bc, .slice la N lc, .int .i64 ha] #[.int .i64 0, .int .i64 0, .slice none 0 0, .slice none 0 0, .slice none 0 0, .int .i64 0] #[.int .i64 pid, .int .i64 pc, .slice (some ⟨x, 0, none⟩) R R, .slice none 0 0, .slice none 0 0, .int .i64 0]) := H1.set 2 rfl rfl (sixC 2 ⟨fun _ => rfl, fun _ => rfl, fun h => absurd rfl h, fun _ => rfl, fun _ => rfl, fun _ => rfl⟩)
  have hx0 := HX.out
  have HI1 : Hid (Ints (w1.setCell ⟨w.heap.size + 1 + 1, 2, none⟩ (.slice (some ⟨x, 0, none⟩) R R)) x 0 R r ∧ x < (w1.setCell ⟨w.heap.size + 1 + 1, 2, none⟩ (.slice (some ⟨x, 0, none⟩) R R)).heap.size) := ⟨hi1.turn ((Turn.refl (w.heap.size + 1 + 1) _).set 2 _) (by omega) hl1, by rw [World.size_setCell]; exact hl1⟩
  have q1 := H1.q1
  have q3 := H1.q3
  have f3 := H1.f3
  clear hi1 hl1 hb1 H1 hx hx0
  go_wp2_with fail
  obtain ⟨W1, hW1⟩ : ∃ W1, W1 = w1.setCell ⟨w.heap.size + 1 + 1, 2, none⟩ (.slice (some ⟨x, 0, none⟩) R R) := ⟨_, rfl⟩
  rw [← hW1] at H1s HI1 ⊢
  clear hW1 q1 q3 f3
  refine (toIntS_any ba B bc b W1 ((HR.out.below H1s.out.be).b0) HS.out.2.1).mono ?_
  rintro e w2 ⟨rfl, hi2, hl2, hb2⟩
  have H2 := H1s.out.call hb2
  obtain ⟨y, hy⟩ : ∃ y, y = W1.heap.size := ⟨_, rfl⟩
  rw [← hy] at hi2 hl2 ⊢
  have HY : Hid (x < y) := by have := HI1.out.2; show _ < _; omega
  have hx0 := HX.out
  have hy0 := HY.out
  have H2s : Hid (Tc3 w (w2.setCell ⟨w.heap.size + 1 + 1, 3, none⟩ (.slice (some ⟨y, 0, none⟩) B B)) #[.int .i64 pid, .int .i64 pc, .slice ra R rc, .slice ba B bc, .slice la N lc, .int .i64 ha] #[.int .i64 0, .int .i64 0, .slice none 0 0, .slice none 0 0, .slice none 0 0, .int .i64 0] #[.int .i64 pid, .int .i64 pc, .slice (some ⟨x, 0, none⟩) R R, .slice (some ⟨y, 0, none⟩) B B, .slice none 0 0, .int .i64 0]) := H2.set 3 rfl rfl (sixC 3 ⟨fun _ => rfl, fun _ => rfl, fun _ => rfl, fun h => absurd rfl h, fun _ => rfl, fun _ => rfl⟩)
  have HI2 : Hid (Ints (w2.setCell ⟨w.heap.size + 1 + 1, 3, none⟩ (.slice (some ⟨y, 0, none⟩) B B)) x 0 R r ∧ Ints (w2.setCell ⟨w.heap.size + 1 + 1, 3, none⟩ (.slice (some ⟨y, 0, none⟩) B B)) y 0 B b ∧ y < (w2.setCell ⟨w.heap.size + 1 + 1, 3, none⟩ (.slice (some ⟨y, 0, none⟩) B B)).heap.size) := ⟨(HI1.out.1.below hb2 HI1.out.2).turn ((Turn.refl (w.heap.size + 1 + 1) _).set 3 _) (by omega) (by omega), hi2.turn ((Turn.refl (w.heap.size + 1 + 1) _).set 3 _) (by omega) hl2, by rw [World.size_setCell]; exact hl2⟩
  have q1 := H2.q1
  have q3 := H2.q3
  have f3 := H2.f3
  clear hi2 hl2 hb2 H2 hy hx0 hy0
  go_wp2_with fail
  obtain ⟨W2, hW2⟩ : ∃ W2, W2 = w2.setCell ⟨w.heap.size + 1 + 1, 3, none⟩ (.slice (some ⟨y, 0, none⟩) B B) := ⟨_, rfl⟩
  rw [← hW2] at H2s HI2 ⊢
  clear hW2 q1 q3 f3
  refine (toIntS_any la N lc f W2 ((HR.out.below H2s.out.be).l0) HS.out.2.2).mono ?_
  rintro e w3 ⟨rfl, hi3, hl3, hb3⟩
  have H3 := H2s.out.call hb3
  obtain ⟨z, hz⟩ : ∃ z, z = W2.heap.size := ⟨_, rfl⟩
  rw [← hz] at hi3 hl3 ⊢
  have HZ : Hid (y < z) := by have := HI2.out.2.2; show _ < _; omega
  have hx0 := HX.out
  have hy0 := HY.out
  have hz0 := HZ.out
  have HI3 : Hid (CI w3 ⟨pid, pc, R, r, B, b, N, f, ha⟩ x y z ∧ z < w3.heap.size) := ⟨⟨HI2.out.1.below hb3 (by omega), HI2.out.2.1.below hb3 (by omega), hi3, hy0, hz0⟩, hl3⟩
  have HB3 : Hid (Below w.heap.size w w3) := H3.be
  have q1 := H3.q1
  have q2 := H3.q2
  have q3 := H3.q3
  have f2 := H3.f2
  have f3 := H3.f3
  clear hi3 hl3 hb3 H3 hz hx0 hy0 hz0
  go_wp2_with fail
  have tn : ∀ (W : World) (k o : Nat) (v : Value), k < w.heap.size + 3 → z < W.heap.size → CI W ⟨pid, pc, R, r, B, b, N, f, ha⟩ x y z → CI (W.setCell ⟨k, o, none⟩ v) ⟨pid, pc, R, r, B, b, N, f, ha⟩ x y z := fun W k o v hk hl h => by
    have := HX.out; have := HY.out; have := HZ.out
    exact ⟨h.r.turn ((Turn.refl k _).set o _) (by omega) (by omega), h.b.turn ((Turn.refl k _).set o _) (by omega) (by omega), h.l.turn ((Turn.refl k _).set o _) (by omega) hl, h.xy, h.yz⟩
  have hfin := HI3.out.1
  have hzl := HI3.out.2
  have b1 : w.heap.size ≤ w.heap.size + 1 := by omega
  have b2 : w.heap.size ≤ w.heap.size + 1 + 1 := by omega
  refine bodyPost_ret (v := .agg #[.int .i64 pid, .int .i64 pc, .slice (some ⟨x, 0, none⟩) R R, .slice (some ⟨y, 0, none⟩) B B, .slice (some ⟨z, 0, none⟩) N N, .int .i64 ha]) (by simp [results, Try.results46, go_sem, q2]) rfl ⟨x, y, z, rfl, by have := HX.out; omega, by simp only [World.size_setCell]; exact hzl, ?_, ?_⟩
  · iterate 7 (refine tn _ _ _ _ (by omega) (by simp only [World.size_setCell]; exact hzl) ?_)
    exact tn _ _ _ _ (by omega) hzl hfin
  · iterate 6 (refine Below.setCell ?_ b1 _)
    iterate 2 (refine Below.setCell ?_ b2 _)
    exact HB3.out
/-! ### Marks -/
def mkd (k : Int) : Nat → Int := fun j => k + j
/-- The three lists are marked, one behind the other; no other block turned. -/
structure MkC (w w' : World) (c : Ce) (x y z : Nat) (k : Int) : Prop where
  ci : CI w' { c with r := mkd k, b := mkd (k + c.R), f := mkd (k + c.R + c.B) } x y z
  os : w'.os = w.os
  tape : w'.tape = w.tape
  output : w'.output = w.output
  size : w.heap.size ≤ w'.heap.size
  block : ∀ b, b < w.heap.size → b ≠ x → b ≠ y → b ≠ z → w'.heap[b]? = w.heap[b]?
end Go.Proofs.Ytdglefedbkgghaa
namespace Go.Proofs.Ytdglefedbkgghaa
open Go.RowKit Atom
open Go.Proofs.Ytdglefedbkgghaa.Code
set_option linter.unusedVariables false

structure Bx6c (w : World) (b o : Nat) (c : Ce) (h : Cw) : Prop where
  c0 : w.cell? ⟨b, o, none⟩ = some (.int .i64 c.pid)
  c1 : w.cell? ⟨b, o + 1, none⟩ = some (.int .i64 c.pc)
  c2 : w.cell? ⟨b, o + 2, none⟩ = some (.slice h.ra c.R h.rc)
  c3 : w.cell? ⟨b, o + 3, none⟩ = some (.slice h.ba c.B h.bc)
  c4 : w.cell? ⟨b, o + 4, none⟩ = some (.slice h.la c.N h.lc)
  c5 : w.cell? ⟨b, o + 5, none⟩ = some (.int .i64 c.h)
theorem Bx6c.below {w w' : World} {b o : Nat} {c : Ce} {h : Cw} (x : Bx6c w b o c h) (hb : Below w.heap.size w w') : Bx6c w' b o c h :=
  ⟨keepC hb x.c0, keepC hb x.c1, keepC hb x.c2, keepC hb x.c3, keepC hb x.c4, keepC hb x.c5⟩
/-- The cells l stand one behind the other from ao on. -/
def RowC (w : World) (ao : Option Addr) (l : List Ce) : Prop := l = [] ∨ ∃ b o, ao = some ⟨b, o, none⟩ ∧ ∀ j (hj : j < l.length), ∃ h, Bx6c w b (o + j * 6) l[j] h ∧ CeR w l[j] h
theorem RowC.below {w w' : World} {ao : Option Addr} {l : List Ce} (h : RowC w ao l) (hb : Below w.heap.size w w') : RowC w' ao l := by
  rcases h with h | ⟨b, o, h1, h2⟩
  · exact .inl h
  · exact .inr ⟨b, o, h1, fun j hj => by obtain ⟨h, x, y⟩ := h2 j hj; exact ⟨h, x.below hb, y.below hb⟩⟩
/-- No list of it is longer than a list may be. -/
def CeM (c : Ce) : Prop := c.R ≤ maxLen ∧ c.B ≤ maxLen ∧ c.N ≤ maxLen

/-! ### What is owned -/
def CqO (w : World) (c : Ce) (h : Cw) (bs : List Nat) : Prop := ∃ b1 b2 b3, bs = b1 ++ (b2 ++ b3) ∧ OwnN w c.R c.r b1 h.ra ∧ OwnN w c.B c.b b2 h.ba ∧ OwnN w c.N c.f b3 h.la
theorem CqO.ceR {w : World} {c : Ce} {h : Cw} {bs : List Nat} (x : CqO w c h bs) : CeR w c h := by
  obtain ⟨b1, b2, b3, _, y1, y2, y3⟩ := x
  exact ⟨y1.rdI, y2.rdI, y3.rdI⟩
theorem CqO.lt {w : World} {c : Ce} {h : Cw} {bs : List Nat} (x : CqO w c h bs) : ∀ b ∈ bs, b < w.heap.size := by
  obtain ⟨b1, b2, b3, e, y1, y2, y3⟩ := x
  intro b hb
  rw [e] at hb
  rcases List.mem_append.1 hb with hb | hb
  · exact y1.lt b hb
  · rcases List.mem_append.1 hb with hb | hb
    · exact y2.lt b hb
    · exact y3.lt b hb
theorem CqO.keep {w w' : World} {c : Ce} {h : Cw} {bs : List Nat} (hk : ∀ x ∈ bs, x < w.heap.size → w'.heap[x]? = w.heap[x]?) (x : CqO w c h bs) : CqO w' c h bs := by
  obtain ⟨b1, b2, b3, e, y1, y2, y3⟩ := x
  subst e
  exact ⟨b1, b2, b3, rfl, y1.keep (fun z hz => hk z (by simp [hz])), y2.keep (fun z hz => hk z (by simp [hz])), y3.keep (fun z hz => hk z (by simp [hz]))⟩
def eltC : Elt Ce where
  s := 6
  E := fun w c bs b off => ∃ h, Bx6c w b off c h ∧ CqO w c h bs
  pos := by omega
  keep := fun hk hc ⟨h, x, y⟩ => ⟨h, ⟨hc 0 _ (by omega) x.c0, hc 1 _ (by omega) x.c1, hc 2 _ (by omega) x.c2, hc 3 _ (by omega) x.c3, hc 4 _ (by omega) x.c4, hc 5 _ (by omega) x.c5⟩, y.keep hk⟩
  lt := fun ⟨h, x, y⟩ => y.lt
  head := fun ⟨h, x, y⟩ => ⟨_, x.c0⟩
theorem GL.rowC {w : World} {l : List Ce} {bs : List Nat} {ao : Option Addr} (h : GL eltC w l bs ao) : RowC w ao l := by
  rcases h with h | ⟨hl, g, o, b, _, e2, _, hr⟩
  · exact .inl h.1
  · refine .inr ⟨g, o, e2, fun j hj => ?_⟩
    obtain ⟨bt, _, k, x, y⟩ := hr.at j hj
    exact ⟨k, x, y.ceR⟩

/-! ### Measure -/
set_option maxHeartbeats 1000000 in
set_option maxRecDepth 100000 in
theorem szCellS_any (l : List Ce) (ao : Option Addr) (cap : Nat) (left : Int) (w : World) (hr : RowC w ao l) (hm : ∀ c ∈ l, CeM c) (hl : l.length ≤ maxLen) (h0 : 0 ≤ left) (h1 : left ≤ 1048576) :
    Calls Try.prog 15 #[.slice ao l.length cap, .int .i64 left] w fun e w' => (∃ r : Int, e = .returned (.int .i64 r) ∧ r ≤ left ∧ (0 ≤ r → l.length ≤ 1048576 ∧ ∀ a ∈ l, CeS a)) ∧ Below w.heap.size w w' := by
  unfold maxLen at hl
  by_cases hbig : left - l.length < 0
  · go_enter Try.func15, Try.ntmps15
    go_wp2
    go_ret
    exact ⟨⟨-1, rfl, by omega, fun h => absurd h (by decide)⟩, Below.refl _ _⟩
  · have HRW : Hid (RowC w ao l) := hr
    have HMM : Hid (∀ c ∈ l, CeM c) := hm
    clear hr hm
    obtain ⟨L, hL⟩ : ∃ L, L = left - (l.length : Int) := ⟨_, rfl⟩
    have ew : IntKind.i64.wrap (left - (l.length : Int)) = L := by rw [IntKind.wrap_i64]; omega
    have hL0 : ¬ L < 0 := by omega
    have HLL : Hid (L = left - (l.length : Int)) := hL
    go_enter Try.func15, Try.ntmps15
    go_wp2_with fail
    go_loopw [1, 5] (fun v i wr => ∃ (k : Nat) (r : Int), k ≤ l.length ∧ i = .int .i64 k ∧ v = .int .i64 r ∧ 0 ≤ r ∧ r ≤ L ∧ (∀ a ∈ l.take k, CeS a) ∧ Below w.heap.size w wr) (fun v i wr => l.length - (intOf i).toNat)
    case atStart => exact ⟨0, L, Nat.zero_le _, rfl, by congr 1; omega, by omega, by omega, (by intro x hx; simp at hx), Below.refl _ _⟩
    case round =>
      obtain ⟨k, r, hk, rfl, rfl, hr0, hr1, hsm, hbr⟩ := hrel
      have HBR : Hid (Below w.heap.size w wr) := hbr
      have HSM : Hid (∀ a ∈ l.take k, CeS a) := hsm
      have HR1 : Hid (r ≤ L) := hr1
      have hrL : r ≤ 1048576 := by omega
      clear hbr hsm hr1
      by_cases hlt : k < l.length
      · rcases HRW.out.below HBR.out with h | ⟨b, o, rfl, hrow⟩
        · rw [h] at hlt; simp at hlt
        obtain ⟨hh, hbx, hac⟩ := hrow k hlt
        have HTK : Hid (CeS l[k] → ∀ a ∈ l.take (k + 1), CeS a) := fun h x hx => by
          rw [List.take_succ_eq_append_getElem hlt, List.mem_append] at hx
          rcases hx with hx | hx
          · exact HSM.out x hx
          · simp at hx; rw [hx]; exact h
        have hmk := HMM.out _ (List.getElem_mem hlt)
        have HC : Hid (Calls Try.prog 37 #[ceV l[k] hh, .int .i64 r] wr fun e w' => (∃ r' : Int, e = .returned (.int .i64 r') ∧ -1 ≤ r' ∧ r' ≤ r ∧ (0 ≤ r' → CeS l[k])) ∧ Below wr.heap.size wr w') := szCell_any l[k] hh r wr hmk.1 hmk.2.1 hmk.2.2 hr0 hrL
        clear hmk
        generalize l[k] = x at hbx HTK HC
        obtain ⟨pid, pc, R, r1, B, b1, N, f, ha⟩ := x
        obtain ⟨ra, rc, ba, bc, la, lc⟩ := hh
        have d0 := hbx.c0
        have d1 := hbx.c1
        have d2 := hbx.c2
        have d3 := hbx.c3
        have d4 := hbx.c4
        have d5 := hbx.c5
        clear hbx hrow hac
        go_wp2_with fail
        refine HC.out.mono ?_
        rintro e w3 ⟨⟨r', rfl, h3, h4, h5⟩, hb3⟩
        have HB3 : Hid (Below w.heap.size w w3) := HBR.out.trans (hb3.mono HBR.out.size)
        have H5 : Hid (0 ≤ r' → CeS ⟨pid, pc, R, r1, B, b1, N, f, ha⟩) := h5
        clear hb3 h5 d0 d1 d2 d3 d4 d5
        by_cases hneg : r' < 0
        · go_wp2_with fail
          go_ret
          exact ⟨⟨-1, rfl, by omega, fun h => absurd h (by decide)⟩, HB3.out⟩
        · have HG : Hid (r' ≤ L ∧ ∀ a ∈ l.take (k + 1), CeS a) := by
            have a1 := H5.out (by omega)
            have a3 := HR1.out
            exact ⟨by omega, HTK.out a1⟩
          go_wp2_with fail
          go_roundw
          case rel => exact ⟨k + 1, r', by omega, by go_num, rfl, by omega, HG.out.1, HG.out.2, HB3.out⟩
          case measure => simp [intOf]; omega
      · have HF : Hid (l.length ≤ 1048576 ∧ ∀ a ∈ l, CeS a) := by
          have a1 := HSM.out
          have a3 := HLL.out
          rw [List.take_of_length_le (by omega)] at a1
          exact ⟨by omega, a1⟩
        have hrl : r ≤ left := by have := HR1.out; have := HLL.out; omega
        go_wp2
        go_ret
        exact ⟨⟨r, rfl, hrl, fun _ => HF.out⟩, HBR.out⟩

/-! ### Copy -/
theorem infoCell : (Try.prog.info? 68).map (fun i => (i.zero, i.size, i.bytes)) = some (some (.agg #[.int .i64 0, .int .i64 0, .slice none 0 0, .slice none 0 0, .slice none 0 0, .int .i64 0]), 6, 96) := by kernel_rfl
theorem undCellS : Try.prog.underlying 35 = some (.slice 68) := by kernel_rfl
def zeros6c (n : Nat) : Array Value := madeCells #[.int .i64 0, .int .i64 0, .slice none 0 0, .slice none 0 0, .slice none 0 0, .int .i64 0] (n * 6)
theorem run_zeros6c (n : Nat) (hn : n ≤ 1048576) (w : World) :
    (Instr.makeSlice 35 (.int .i64 (n : Int)) (.int .i64 (n : Int))).run Try.prog w = .ok (.slice (some ⟨w.heap.size, 0, none⟩) n n) (w.alloc (.cells (zeros6c n) 68)) := by
  obtain ⟨i, hi, hzz⟩ := Option.map_eq_some_iff.1 infoCell
  simp only [Prod.mk.injEq] at hzz
  obtain ⟨hz, hs, hb⟩ := hzz
  have hr := run_make (P := Try.prog) w 35 68 i _ undCellS hi hz .i64 .i64 n n (by omega) (Int.le_refl _) (by rw [hb]; omega) (by omega)
  rw [hs] at hr
  simp only [Int.toNat_natCast] at hr
  exact hr
set_option maxHeartbeats 1000000 in
set_option maxRecDepth 100000 in
theorem toCellS_any (l : List Ce) (ao : Option Addr) (cap : Nat) (w : World) (hr : RowC w ao l) (hl : l.length ≤ 1048576) (hs : ∀ a ∈ l, CeS a) :
    Calls Try.prog 23 #[.slice ao l.length cap] w fun e w' => (∃ (g : Nat) (bs : List Nat), e = .returned (.slice (some ⟨g, 0, none⟩) l.length l.length) ∧ GL eltC w' l bs (some ⟨g, 0, none⟩) ∧ bs.Nodup ∧ ∀ b ∈ bs, w.heap.size ≤ b) ∧ Below w.heap.size w w' := by
  have HRW : Hid (RowC w ao l) := hr
  have HS : Hid (∀ a ∈ l, CeS a) := hs
  clear hr hs
  have hmk := run_zeros6c l.length hl
  go_enter Try.func23, Try.ntmps23
  go_wp2_with fail
  clear hmk
  go_loopw [4] (fun i w' => ∃ (k : Nat) (bs : List Nat), k ≤ l.length ∧ i = .int .i64 k ∧ MadeG eltC w w' w.heap.size l k bs) (fun i _ => l.length - (intOf i).toNat)
  case atStart => exact ⟨0, [], Nat.zero_le _, rfl, madeG_start w l _ (by unfold zeros6c; rw [size_madeCells]; rfl) _⟩
  case round =>
    obtain ⟨k, bs, hk, rfl, hm⟩ := hrel
    have HM : Hid (MadeG eltC w wr w.heap.size l k bs) := hm
    clear hm
    by_cases hlt : k < l.length
    · rcases HRW.out with h | ⟨b, o, rfl, hrow⟩
      · rw [h] at hlt; simp at hlt
      obtain ⟨h, hbx0, hac0⟩ := hrow k hlt
      have hbx := hbx0.below HM.out.below
      have HAC : Hid (CeR wr l[k] h) := hac0.below HM.out.below
      have HT : Hid (CeS l[k]) := HS.out _ (List.getElem_mem hlt)
      have HST : Hid (∀ w1 g bt, MadeG eltC w w1 w.heap.size l k bs → CqO w1 l[k] g bt → bt.Nodup → (∀ x ∈ bt, wr.heap.size ≤ x) → (∀ x ∈ bs, x < wr.heap.size) → MadeG eltC w (w1.setCells w.heap.size (k * 6) [.int .i64 l[k].pid, .int .i64 l[k].pc, .slice g.ra l[k].R g.rc, .slice g.ba l[k].B g.bc, .slice g.la l[k].N g.lc, .int .i64 l[k].h]) w.heap.size l (k + 1) (bs ++ (bt ++ []))) := fun w1 g bt h1 h2 h3 h4 h5 => by
        refine h1.store (e := eltC) (B := wr.heap.size) (Nat.le_refl _) hlt _ rfl (fun w' hc hb => ⟨g, ⟨hc 0 (by show 0 < 6; omega), hc 1 (by show 1 < 6; omega), hc 2 (by show 2 < 6; omega), hc 3 (by show 3 < 6; omega), hc 4 (by show 4 < 6; omega), hc 5 (by show 5 < 6; omega)⟩, h2.keep hb⟩) h3 h4 h5 HM.out.lt
      have HC : Hid (Calls Try.prog 46 #[ceV l[k] h] wr fun e w' => ∃ (g : Cw) (bt : List Nat), e = .returned (ceV l[k] g) ∧ CqO w' l[k] g bt ∧ bt.Nodup ∧ (∀ b ∈ bt, wr.heap.size ≤ b) ∧ Below wr.heap.size wr w') := (toCell_any l[k] h wr HAC.out HT.out).mono fun e w' ⟨x, y, z, e1, hx, hz, hci, hb⟩ => by
        obtain ⟨b1, o1, n1, g1⟩ := ownN_of hci.r
        obtain ⟨b2, o2, n2, g2⟩ := ownN_of hci.b
        obtain ⟨b3, o3, n3, g3⟩ := ownN_of hci.l
        have hxy := hci.xy
        have hyz := hci.yz
        refine ⟨cwN l[k] x y z, b1 ++ (b2 ++ b3), e1, ⟨b1, b2, b3, rfl, o1, o2, o3⟩, ?_, fun b hb => ?_, hb⟩
        · rw [List.nodup_append, List.nodup_append]
          refine ⟨n1, ⟨n2, n3, fun p hp q hq e => ?_⟩, fun p hp q hq e => ?_⟩
          · have := g2 p hp; have := g3 q hq; omega
          · have := g1 p hp
            rcases List.mem_append.1 hq with hq | hq
            · have := g2 q hq; omega
            · have := g3 q hq; omega
        · rcases List.mem_append.1 hb with hb | hb
          · have := g1 b hb; omega
          · rcases List.mem_append.1 hb with hb | hb
            · have := g2 b hb; omega
            · have := g3 b hb; omega
      generalize l[k] = x at hbx HST HC
      obtain ⟨pid, pc, R, r1, B, b1, N, f, ha⟩ := x
      have d0 := hbx.c0
      have d1 := hbx.c1
      have d2 := hbx.c2
      have d3 := hbx.c3
      have d4 := hbx.c4
      have d5 := hbx.c5
      clear hbx hrow hbx0 hac0 HAC HT
      go_wp2_with fail
      refine HC.out.mono ?_
      rintro e w1 ⟨g, bt, rfl, hq, hnd, hlo, hb1⟩
      have HM1 : Hid (MadeG eltC w w1 w.heap.size l k bs) := HM.out.call hb1
      have HOLD : Hid (∀ x ∈ bs, x < wr.heap.size) := HM.out.row.lt
      have HQ : Hid (CqO w1 ⟨pid, pc, R, r1, B, b1, N, f, ha⟩ g bt ∧ bt.Nodup ∧ ∀ b ∈ bt, wr.heap.size ≤ b) := ⟨hq, hnd, hlo⟩
      have hf := HM1.out.free
      obtain ⟨x0, hs0⟩ := Option.isSome_iff_exists.1 (HM1.out.some (k * 6) (by show k * 6 < l.length * 6; omega))
      obtain ⟨x1, hs1⟩ := Option.isSome_iff_exists.1 (HM1.out.some (k * 6 + 1) (by show k * 6 + 1 < l.length * 6; omega))
      obtain ⟨x2, hs2⟩ := Option.isSome_iff_exists.1 (HM1.out.some (k * 6 + 2) (by show k * 6 + 2 < l.length * 6; omega))
      obtain ⟨x3, hs3⟩ := Option.isSome_iff_exists.1 (HM1.out.some (k * 6 + 3) (by show k * 6 + 3 < l.length * 6; omega))
      obtain ⟨x4, hs4⟩ := Option.isSome_iff_exists.1 (HM1.out.some (k * 6 + 4) (by show k * 6 + 4 < l.length * 6; omega))
      obtain ⟨x5, hs5⟩ := Option.isSome_iff_exists.1 (HM1.out.some (k * 6 + 5) (by show k * 6 + 5 < l.length * 6; omega))
      clear hb1 hq hnd hlo d0 d1 d2 d3 d4 d5
      obtain ⟨ra', rc', ba', bc', la', lc'⟩ := g
      have HM2 := HST.out w1 _ _ HM1.out HQ.out.1 HQ.out.2.1 HQ.out.2.2 HOLD.out
      have HM2' : Hid (MadeG eltC w (w1.setCells w.heap.size (k * 6) [.int .i64 pid, .int .i64 pc, .slice ra' R rc', .slice ba' B bc', .slice la' N lc', .int .i64 ha]) w.heap.size l (k + 1) (bs ++ (bt ++ []))) := HM2
      clear HM2
      go_wp2_with fail
      go_roundw
      case rel => exact ⟨k + 1, _, by omega, by go_num, HM2'.out⟩
      case measure => simp [intOf]; omega
    · go_wp2_with fail
      go_ret
      have hkl : k = l.length := by omega
      subst hkl
      obtain ⟨bs', h1, h2, h3⟩ := HM.out.done (Nat.le_refl _)
      exact ⟨⟨w.heap.size, bs', rfl, h1, h2, h3⟩, HM.out.below⟩

/-! ### Comparison -/
set_option maxHeartbeats 1000000 in
set_option maxRecDepth 100000 in
theorem eqCellS_same (l : List Ce) (ao bo : Option Addr) (cap cap' : Nat) (w : World) (hr : RowC w ao l) (hr' : RowC w bo l) (hl : l.length ≤ maxLen) (hs : ∀ a ∈ l, CeS a) :
    Calls Try.prog 30 #[.slice ao l.length cap, .slice bo l.length cap'] w fun e w' => e = .returned (.bool true) ∧ Below w.heap.size w w' := by
  have HRA : Hid (RowC w ao l) := hr
  have HRB : Hid (RowC w bo l) := hr'
  have HS : Hid (∀ a ∈ l, CeS a) := hs
  clear hr hr' hs
  unfold maxLen at hl
  have hbl : ((l.length : Int) != (l.length : Int)) = false := by simp
  go_enter Try.func30, Try.ntmps30
  go_wp2_with fail
  go_loopw [5] (fun i w' => ∃ k : Nat, k ≤ l.length ∧ i = .int .i64 k ∧ Below w.heap.size w w') (fun i _ => l.length - (intOf i).toNat)
  case atStart => exact ⟨0, Nat.zero_le _, rfl, Below.refl _ _⟩
  case round =>
    obtain ⟨k, hk, rfl, hb⟩ := hrel
    have HB : Hid (Below w.heap.size w wr) := hb
    clear hb
    by_cases hlt : k < l.length
    · rcases HRA.out.below HB.out with h0 | ⟨b, o, rfl, hrow⟩
      · rw [h0] at hlt; simp at hlt
      rcases HRB.out.below HB.out with h0 | ⟨b', o', rfl, hrow'⟩
      · rw [h0] at hlt; simp at hlt
      obtain ⟨h, hbx, hac⟩ := hrow k hlt
      obtain ⟨h', hbx', hac'⟩ := hrow' k hlt
      have HC : Hid (Calls Try.prog 53 #[ceV l[k] h, ceV l[k] h'] wr.drew fun e w' => e = .returned (.bool true) ∧ Below wr.drew.heap.size wr.drew w') :=
        eqCell_same l[k] h h' wr.drew (hac.below ((Below.refl _ _).drew)) (hac'.below ((Below.refl _ _).drew)) (HS.out _ (List.getElem_mem hlt))
      have c0 := hbx.c0
      have c1 := hbx.c1
      have c2 := hbx.c2
      have c3 := hbx.c3
      have c4 := hbx.c4
      have c5 := hbx.c5
      have c0' := hbx'.c0
      have c1' := hbx'.c1
      have c2' := hbx'.c2
      have c3' := hbx'.c3
      have c4' := hbx'.c4
      have c5' := hbx'.c5
      clear hbx hbx' hac hac' hrow hrow'
      generalize l[k] = a at *
      obtain ⟨pid, pc, R, r1, B, b1, N, f, ha⟩ := a
      dsimp only at c0 c1 c2 c3 c4 c5 c0' c1' c2' c3' c4' c5' HC
      go_wp2_with fail
      go_region_with (go_at_call 53; refine HC.out.mono ?_; rintro e w1 ⟨rfl, hb1⟩)
      all_goals
        have HB1 : Hid (Below w.heap.size w w1) := (HB.out.drew).trans (hb1.mono HB.out.size)
        clear hb1 c0 c1 c2 c3 c4 c5 c0' c1' c2' c3' c4' c5'
        go_wp2_with fail
        go_roundw
        case rel => exact ⟨k + 1, by omega, by go_num, HB1.out⟩
        case measure => simp [intOf]; omega
    · go_wp2_with fail
      go_ret
      exact ⟨rfl, HB.out⟩
end Go.Proofs.Ytdglefedbkgghaa
