/-
  At every system on terms (code, actors, the next Pid, what was said) the program's PlainOk answers as the specification's, and writes nothing into it: the law FnExactPlainOk returns true and its argument reads as before. The program's variable shapes, three tables and the type of error of Go's library hold what their initialisers lay: the card ties them.
  (Ahead of it, in this text: The laws' own functions on a system: measure and comparison. A system measured and compared. The law FnExactPlainOk, walked. A system that came in, opened.)
-/
import Derived.Test.YtgbopbpiciopdaaGreatDoorU2
import Derived.Test.YtgbopbpiciopdaaGreatDoorAcD
import Derived.Test.YtgbopbpiciopdaaGreatDoorTmD
import Derived.Deep.RegionWith
import Derived.Test.YtgbopbpiciopdaaGreatDoorU1
import Derived.Test.YtgbopbpiciopdaaGreatDoorU4
namespace Go.Proofs.YtgbopbpiciopdaaGreatDoor
open Go.RowKit Atom
open Go.Proofs.YtgbopbpiciopdaaGreatDoor.Code
set_option linter.unusedVariables false

theorem zL_sts {l : List Tm} {a : Int} (h0 : 0 ≤ a) (h1 : a ≤ 1048576) (h2 : 0 ≤ zL l a) : StL l ∧ zL l a + (ntL l : Int) ≤ a := by
  unfold zL at h2 ⊢
  split at h2
  · omega
  · rename_i hq
    rw [if_neg hq]
    have h3 := szGo_nt l (a - l.length) (by omega) h2
    have h4 := ntL_eq l
    refine ⟨⟨by omega, ?_⟩, by omega⟩
    have go : ∀ (m : List Tm) (c : Int), 0 ≤ c → c ≤ 1048576 → 0 ≤ szGo m c → ∀ t, t ∈ m → StS t := by
      intro m
      induction m with
      | nil => intro c _ _ _ t ht; cases ht
      | cons x r ihr =>
        intro c h0 h1 hz t ht
        rw [szGo] at hz
        have hx := szT_le x c h0
        split at hz
        · omega
        · rcases List.mem_cons.1 ht with rfl | ht
          · exact sz_sts t c h0 h1 (by omega)
          · exact ihr (szT x c) (by omega) (by omega) hz t ht
    exact go l _ (by omega) (by omega) h2
/-- How many terms and numbers an actor has. -/
def ntA (a : Ac) : Nat := ntL a.regs + ntL a.box + a.N

set_option maxHeartbeats 1000000 in
set_option maxRecDepth 100000 in
theorem szActorQ_any (a : Ac) (h : Wh) (left : Int) (w : World) (hr : AcR w a h) (h0 : 0 ≤ left) (h1 : left ≤ 1048576) :
    Calls Tryz.prog 69 #[acV a h, .int .i64 left] w fun e w' => (∃ r : Int, e = .returned (.int .i64 r) ∧ -1 ≤ r ∧ r ≤ left ∧ (0 ≤ r → AcT a ∧ r + (ntA a : Int) ≤ left)) ∧ Below w.heap.size w w' := by
  obtain ⟨pid, pc, regs, box, N, f⟩ := a
  obtain ⟨ra, rc, ba, bc, la, lc⟩ := h
  have HR : Hid (AcR w ⟨pid, pc, regs, box, N, f⟩ ⟨ra, rc, ba, bc, la, lc⟩) := hr
  have hn := Nat.le_trans hr.l1 hr.l2
  have HN : Hid (N ≤ maxLen) := hn
  clear hr hn
  obtain ⟨w0, hw0⟩ : ∃ w0, w0 = w.alloc (.cells #[.int .i64 pid, .int .i64 pc, .slice ra regs.length rc, .slice ba box.length bc, .slice la N lc] 100) := ⟨_, rfl⟩
  have HB0 : Hid (Below w.heap.size w w0) := by rw [hw0]; exact (Below.refl _ _).alloc (Nat.le_refl _) _
  have hq : ∀ j (v : Value), (#[.int .i64 pid, .int .i64 pc, .slice ra regs.length rc, .slice ba box.length bc, .slice la N lc] : Array Value)[j]? = some v → w0.cell? ⟨w.heap.size, j, none⟩ = some v := fun j v hv => by
    rw [hw0, World.cell?_alloc_new]; exact hv
  have HC : Hid (∀ w1, Below w0.heap.size w0 w1 → w1.cell? ⟨w.heap.size, 2, none⟩ = some (.slice ra regs.length rc) ∧ w1.cell? ⟨w.heap.size, 3, none⟩ = some (.slice ba box.length bc) ∧ w1.cell? ⟨w.heap.size, 4, none⟩ = some (.slice la N lc)) := fun w1 hb =>
    ⟨keepA hb (hq 2 _ rfl), keepA hb (hq 3 _ rfl), keepA hb (hq 4 _ rfl)⟩
  clear hq
  go_enter Tryz.func69, Tryz.ntmps69
  go_wp2_with fail
  rw [← hw0]
  clear hw0
  have z1 := zL_le regs left h0
  have HS1 : Hid (0 ≤ zL regs left → StL regs ∧ zL regs left + (ntL regs : Int) ≤ left) := fun h => zL_sts h0 h1 h
  refine (szL_any regs ra rc left w0 (HR.out.below HB0.out).regs HR.out.r1 HR.out.r2 h0 h1).mono ?_
  rintro e w1 ⟨rfl, hb1⟩
  have HB1 : Hid (Below w0.heap.size w0 w1) := hb1
  have HX1 : Hid (Below w.heap.size w w1) := HB0.out.trans (hb1.mono HB0.out.size)
  obtain ⟨_, d3, _⟩ := HC.out w1 hb1
  clear hb1
  generalize zL regs left = x1 at *
  by_cases hx1 : x1 < 0
  · go_wp2_with fail
    go_ret
    exact ⟨⟨-1, rfl, by omega, by omega, fun h => absurd h (by decide)⟩, HX1.out⟩
  · go_wp2_with fail
    have z2 := zL_le box x1 (by omega)
    have HS2 : Hid (0 ≤ zL box x1 → StL box ∧ zL box x1 + (ntL box : Int) ≤ x1) := fun h => zL_sts (by omega) (by omega) h
    refine (szL_any box ba bc x1 w1 (HR.out.below HX1.out).box HR.out.b1 HR.out.b2 (by omega) (by omega)).mono ?_
    rintro e w2 ⟨rfl, hb2⟩
    have HB2 : Hid (Below w0.heap.size w0 w2) := HB1.out.trans (hb2.mono HB1.out.size)
    have HX2 : Hid (Below w.heap.size w w2) := HX1.out.trans (hb2.mono HX1.out.size)
    obtain ⟨_, _, d4⟩ := HC.out w2 HB2.out
    clear hb2 d3
    generalize zL box x1 = x2 at *
    by_cases hx2 : x2 < 0
    · go_wp2_with fail
      go_ret
      exact ⟨⟨-1, rfl, by omega, by omega, fun h => absurd h (by decide)⟩, HX2.out⟩
    · go_wp2_with fail
      refine (szIntS_any la N lc x2 HN.out (by omega) w2).mono ?_
      rintro e w3 ⟨rfl, hw3⟩
      obtain rfl := hw3.symm
      have HS3 : Hid (0 ≤ szI N x2 → N ≤ 1048576 ∧ szI N x2 + (N : Int) ≤ x2) := fun h => by unfold szI at h ⊢; split at h <;> rename_i hq <;> first | omega | (rw [if_neg hq]; omega)
      have z3 : szI N x2 ≤ x2 := by unfold szI; split <;> omega
      have z4 := szI_ge N x2
      generalize szI N x2 = x3 at *
      by_cases hx3 : x3 < 0
      · go_wp2_with fail
        go_ret
        exact ⟨⟨-1, rfl, by omega, by omega, fun h => absurd h (by decide)⟩, HX2.out⟩
      · have HALL : Hid (AcT ⟨pid, pc, regs, box, N, f⟩ ∧ x3 + (ntA ⟨pid, pc, regs, box, N, f⟩ : Int) ≤ left) := by
          have a1 := HS1.out (by omega)
          have a2 := HS2.out (by omega)
          have a3 := HS3.out (by omega)
          refine ⟨⟨a1.1, a2.1, a3.1⟩, ?_⟩
          have : ntA ⟨pid, pc, regs, box, N, f⟩ = ntL regs + ntL box + N := rfl
          rw [this]
          omega
        go_wp2_with fail
        go_ret
        exact ⟨⟨x3, rfl, by omega, by omega, fun _ => HALL.out⟩, HX2.out⟩

def ntAs (l : List Ac) : Nat := (l.map ntA).sum
theorem ntAs_take {l : List Ac} {k : Nat} (h : k < l.length) : ntAs (l.take (k + 1)) = ntAs (l.take k) + ntA l[k] := by
  unfold ntAs
  rw [List.take_succ_eq_append_getElem h, List.map_append, List.sum_append]; simp

set_option maxHeartbeats 1000000 in
set_option maxRecDepth 100000 in
theorem szActorS_any (l : List Ac) (ao : Option Addr) (cap : Nat) (left : Int) (w : World) (hr : RowA w ao l) (hl : l.length ≤ maxLen) (h0 : 0 ≤ left) (h1 : left ≤ 1048576) :
    Calls Tryz.prog 28 #[.slice ao l.length cap, .int .i64 left] w fun e w' => (∃ r : Int, e = .returned (.int .i64 r) ∧ r ≤ left ∧ (0 ≤ r → l.length ≤ 1048576 ∧ (∀ a ∈ l, AcT a) ∧ r + (l.length : Int) + (ntAs l : Int) ≤ left)) ∧ Below w.heap.size w w' := by
  unfold maxLen at hl
  by_cases hbig : left - l.length < 0
  · go_enter Tryz.func28, Tryz.ntmps28
    go_wp2
    go_ret
    exact ⟨⟨-1, rfl, by omega, fun h => absurd h (by decide)⟩, Below.refl _ _⟩
  · have HRW : Hid (RowA w ao l) := hr
    clear hr
    obtain ⟨L, hL⟩ : ∃ L, L = left - (l.length : Int) := ⟨_, rfl⟩
    have ew : IntKind.i64.wrap (left - (l.length : Int)) = L := by rw [IntKind.wrap_i64]; omega
    have hL0 : ¬ L < 0 := by omega
    have HLL : Hid (L = left - (l.length : Int)) := hL
    go_enter Tryz.func28, Tryz.ntmps28
    go_wp2_with fail
    go_loopw [1, 5] (fun v i wr => ∃ (k : Nat) (r : Int), k ≤ l.length ∧ i = .int .i64 k ∧ v = .int .i64 r ∧ 0 ≤ r ∧ r + (ntAs (l.take k) : Int) ≤ L ∧ (∀ a ∈ l.take k, AcT a) ∧ Below w.heap.size w wr) (fun v i wr => l.length - (intOf i).toNat)
    case atStart => exact ⟨0, L, Nat.zero_le _, rfl, by congr 1; omega, by omega, by simp [ntAs], (by intro x hx; simp at hx), Below.refl _ _⟩
    case round =>
      obtain ⟨k, r, hk, rfl, rfl, hr0, hr1, hsm, hbr⟩ := hrel
      have HBR : Hid (Below w.heap.size w wr) := hbr
      have HSM : Hid (∀ a ∈ l.take k, AcT a) := hsm
      have HR1 : Hid (r + (ntAs (l.take k) : Int) ≤ L) := hr1
      have hrL : r ≤ 1048576 := by omega
      clear hbr hsm hr1
      by_cases hlt : k < l.length
      · rcases HRW.out.below HBR.out with h | ⟨b, o, rfl, hrow⟩
        · rw [h] at hlt; simp at hlt
        obtain ⟨hh, hbx, hac⟩ := hrow k hlt
        have HTK : Hid (AcT l[k] → ∀ a ∈ l.take (k + 1), AcT a) := fun h x hx => by
          rw [List.take_succ_eq_append_getElem hlt, List.mem_append] at hx
          rcases hx with hx | hx
          · exact HSM.out x hx
          · simp at hx; rw [hx]; exact h
        have HNT : Hid (ntAs (l.take (k + 1)) = ntAs (l.take k) + ntA l[k]) := ntAs_take hlt
        have HC : Hid (Calls Tryz.prog 69 #[acV l[k] hh, .int .i64 r] wr fun e w' => (∃ r' : Int, e = .returned (.int .i64 r') ∧ -1 ≤ r' ∧ r' ≤ r ∧ (0 ≤ r' → AcT l[k] ∧ r' + (ntA l[k] : Int) ≤ r)) ∧ Below wr.heap.size wr w') := szActorQ_any l[k] hh r wr hac hr0 hrL
        generalize l[k] = x at hbx HTK HNT HC
        obtain ⟨pid, pc, regs, box, N, f⟩ := x
        obtain ⟨ra, rc, ba, bc, la, lc⟩ := hh
        have d0 := hbx.c0
        have d1 := hbx.c1
        have d2 := hbx.c2
        have d3 := hbx.c3
        have d4 := hbx.c4
        clear hbx hrow hac
        go_wp2_with fail
        refine HC.out.mono ?_
        rintro e w3 ⟨⟨r', rfl, h3, h4, h5⟩, hb3⟩
        have HB3 : Hid (Below w.heap.size w w3) := HBR.out.trans (hb3.mono HBR.out.size)
        have H5 : Hid (0 ≤ r' → AcT ⟨pid, pc, regs, box, N, f⟩ ∧ r' + (ntA ⟨pid, pc, regs, box, N, f⟩ : Int) ≤ r) := h5
        clear hb3 h5 d0 d1 d2 d3 d4
        by_cases hneg : r' < 0
        · go_wp2_with fail
          go_ret
          exact ⟨⟨-1, rfl, by omega, fun h => absurd h (by decide)⟩, HB3.out⟩
        · have HG : Hid (r' + (ntAs (l.take (k + 1)) : Int) ≤ L ∧ ∀ a ∈ l.take (k + 1), AcT a) := by
            have a1 := H5.out (by omega)
            have a2 := HNT.out
            have a3 := HR1.out
            exact ⟨by omega, HTK.out a1.1⟩
          go_wp2_with fail
          go_roundw
          case rel => exact ⟨k + 1, r', by omega, by go_num, rfl, by omega, HG.out.1, HG.out.2, HB3.out⟩
          case measure => simp [intOf]; omega
      · have HF : Hid (l.length ≤ 1048576 ∧ (∀ a ∈ l, AcT a) ∧ r + (l.length : Int) + (ntAs l : Int) ≤ left) := by
          have a1 := HSM.out
          have a2 := HR1.out
          have a3 := HLL.out
          rw [List.take_of_length_le (by omega)] at a1 a2
          exact ⟨by omega, a1, by omega⟩
        have hrl : r ≤ left := by have := HF.out.2.2; omega
        go_wp2
        go_ret
        exact ⟨⟨r, rfl, hrl, fun _ => HF.out⟩, HBR.out⟩

set_option maxHeartbeats 1000000 in
set_option maxRecDepth 100000 in
theorem szSaid_any (kind pid k n : Int) (s : ByteArray) (l : List Tm) (ao : Option Addr) (cap : Nat) (left : Int) (w : World) (hv : RepV 0 w (.mk k n s l) (.agg #[.int .i64 k, .int .i64 n, .string s, .slice ao l.length cap])) (h0 : 0 ≤ left) (h1 : left ≤ 1048576) :
    Calls Tryz.prog 70 #[sdV kind pid k n s ao l.length cap, .int .i64 left] w fun e w' => (∃ r : Int, e = .returned (.int .i64 r) ∧ -1 ≤ r ∧ r ≤ left ∧ (0 ≤ r → StS (.mk k n s l) ∧ r + (ntL l : Int) ≤ left)) ∧ Below w.heap.size w w' := by
  have HV : Hid (RepV 0 w (.mk k n s l) (.agg #[.int .i64 k, .int .i64 n, .string s, .slice ao l.length cap])) := hv
  clear hv
  have z1 := szT_le (.mk k n s l) left h0
  have HS1 : Hid (0 ≤ szT (.mk k n s l) left → StS (.mk k n s l)) := fun h => sz_sts _ left h0 h1 h
  have HS2 : Hid (0 ≤ szT (.mk k n s l) left → szT (.mk k n s l) left + (ntL l : Int) ≤ left) := fun h => by
    show _ ≤ _
    rw [szT] at h ⊢
    split at h
    · omega
    · rename_i q1
      rw [if_neg q1]
      split at h
      · omega
      · rename_i q2
        rw [if_neg q2]
        have h5 := szGo_nt l (left - s.size - l.length) (by omega) h
        have h6 := ntL_eq l
        omega
  go_enter Tryz.func70, Tryz.ntmps70
  go_wp2_with fail
  refine (szT_all (.mk k n s l) 0 _ _ left ((Keeps.below ?_ 0).repV HV.out) h0 h1).mono ?_
  · exact (Below.refl _ _).alloc (Nat.le_refl _) _
  rintro e w1 ⟨rfl, hb1⟩
  have HB1 : Hid (Below w.heap.size w w1) := ((Below.refl _ _).alloc (Nat.le_refl _) _).trans (hb1.mono (by simp))
  clear hb1
  generalize szT (.mk k n s l) left = x at *
  by_cases hx : x < 0
  · go_wp2_with fail
    go_ret
    exact ⟨⟨-1, rfl, by omega, by omega, fun h => absurd h (by decide)⟩, HB1.out⟩
  · go_wp2_with fail
    go_ret
    exact ⟨⟨x, rfl, by omega, by omega, fun h => ⟨HS1.out h, HS2.out h⟩⟩, HB1.out⟩

/-- How many terms were said. -/
def ntX (x : Sd) : Nat := ntL [x.t]
def ntXs (l : List Sd) : Nat := (l.map ntX).sum
theorem ntXs_take {l : List Sd} {k : Nat} (h : k < l.length) : ntXs (l.take (k + 1)) = ntXs (l.take k) + ntX l[k] := by
  unfold ntXs
  rw [List.take_succ_eq_append_getElem h, List.map_append, List.sum_append]; simp

set_option maxHeartbeats 1000000 in
set_option maxRecDepth 100000 in
theorem szSaidS_any (l : List Sd) (ao : Option Addr) (cap : Nat) (left : Int) (w : World) (hr : RowS w ao l) (hl : l.length ≤ maxLen) (h0 : 0 ≤ left) (h1 : left ≤ 1048576) :
    Calls Tryz.prog 29 #[.slice ao l.length cap, .int .i64 left] w fun e w' => (∃ r : Int, e = .returned (.int .i64 r) ∧ r ≤ left ∧ (0 ≤ r → l.length ≤ 1048576 ∧ (∀ a ∈ l, StS a.t) ∧ r + (ntXs l : Int) ≤ left)) ∧ Below w.heap.size w w' := by
  unfold maxLen at hl
  by_cases hbig : left - l.length < 0
  · go_enter Tryz.func29, Tryz.ntmps29
    go_wp2
    go_ret
    exact ⟨⟨-1, rfl, by omega, fun h => absurd h (by decide)⟩, Below.refl _ _⟩
  · have HRW : Hid (RowS w ao l) := hr
    clear hr
    obtain ⟨L, hL⟩ : ∃ L, L = left - (l.length : Int) := ⟨_, rfl⟩
    have ew : IntKind.i64.wrap (left - (l.length : Int)) = L := by rw [IntKind.wrap_i64]; omega
    have hL0 : ¬ L < 0 := by omega
    have HLL : Hid (L = left - (l.length : Int)) := hL
    go_enter Tryz.func29, Tryz.ntmps29
    go_wp2_with fail
    go_loopw [1, 5] (fun v i wr => ∃ (k : Nat) (r : Int), k ≤ l.length ∧ i = .int .i64 k ∧ v = .int .i64 r ∧ 0 ≤ r ∧ r + (ntXs (l.take k) : Int) ≤ L + (k : Int) ∧ r ≤ L ∧ (∀ a ∈ l.take k, StS a.t) ∧ Below w.heap.size w wr) (fun v i wr => l.length - (intOf i).toNat)
    case atStart => exact ⟨0, L, Nat.zero_le _, rfl, by congr 1; omega, by omega, by simp [ntXs], by omega, (by intro x hx; simp at hx), Below.refl _ _⟩
    case round =>
      obtain ⟨k, r, hk, rfl, rfl, hr0, hr1, hr2, hsm, hbr⟩ := hrel
      have HBR : Hid (Below w.heap.size w wr) := hbr
      have HSM : Hid (∀ a ∈ l.take k, StS a.t) := hsm
      have HR1 : Hid (r + (ntXs (l.take k) : Int) ≤ L + (k : Int)) := hr1
      have HR2 : Hid (r ≤ L) := hr2
      have hrL : r ≤ 1048576 := by omega
      clear hbr hsm hr1 hr2
      by_cases hlt : k < l.length
      · rcases HRW.out.below HBR.out with h | ⟨b, o, rfl, hrow⟩
        · rw [h] at hlt; simp at hlt
        have hbx := hrow k hlt
        have HTK : Hid (StS l[k].t → ∀ a ∈ l.take (k + 1), StS a.t) := fun h x hx => by
          rw [List.take_succ_eq_append_getElem hlt, List.mem_append] at hx
          rcases hx with hx | hx
          · exact HSM.out x hx
          · simp at hx; rw [hx]; exact h
        have HNT : Hid (ntXs (l.take (k + 1)) = ntXs (l.take k) + ntX l[k]) := ntXs_take hlt
        generalize l[k] = x at hbx HTK HNT
        obtain ⟨kind, pid, t⟩ := x
        obtain ⟨tk, tn, ts, tl⟩ := t
        have d0 := hbx.c0
        have d1 := hbx.c1
        have hRT := hbx.t
        rw [RepT] at hRT
        obtain ⟨d2, d3, d4, hs4, tao, tcap, d5, hl5, hc5, hr5⟩ := hRT
        have HC : Hid (Calls Tryz.prog 70 #[sdV kind pid tk tn ts tao tl.length tcap, .int .i64 r] wr fun e w' => (∃ r' : Int, e = .returned (.int .i64 r') ∧ -1 ≤ r' ∧ r' ≤ r ∧ (0 ≤ r' → StS (.mk tk tn ts tl) ∧ r' + (ntL tl : Int) ≤ r)) ∧ Below wr.heap.size wr w') := szSaid_any kind pid tk tn ts tl tao tcap r wr ⟨tao, tcap, rfl, hs4, hl5, hc5, hr5⟩ hr0 hrL
        clear hbx hrow hr5 hs4 hl5 hc5
        go_wp2_with fail
        refine HC.out.mono ?_
        rintro e w3 ⟨⟨r', rfl, h3, h4, h5⟩, hb3⟩
        have HB3 : Hid (Below w.heap.size w w3) := HBR.out.trans (hb3.mono HBR.out.size)
        have H5 : Hid (0 ≤ r' → StS (.mk tk tn ts tl) ∧ r' + (ntL tl : Int) ≤ r) := h5
        clear hb3 h5 d0 d1 d2 d3 d4 d5
        by_cases hneg : r' < 0
        · go_wp2_with fail
          go_ret
          exact ⟨⟨-1, rfl, by omega, fun h => absurd h (by decide)⟩, HB3.out⟩
        · have HG : Hid (r' + (ntXs (l.take (k + 1)) : Int) ≤ L + ((k + 1 : Nat) : Int) ∧ r' ≤ L ∧ ∀ a ∈ l.take (k + 1), StS a.t) := by
            have a1 := H5.out (by omega)
            have a2 := HNT.out
            have a3 := HR1.out
            have a4 := HR2.out
            have a5 : ntX ⟨kind, pid, .mk tk tn ts tl⟩ = 1 + ntL tl := by unfold ntX; simp [ntL]
            exact ⟨by omega, by omega, HTK.out a1.1⟩
          go_wp2_with fail
          go_roundw
          case rel => exact ⟨k + 1, r', by omega, by go_num, rfl, by omega, HG.out.1, HG.out.2.1, HG.out.2.2, HB3.out⟩
          case measure => simp [intOf]; omega
      · have HF : Hid (l.length ≤ 1048576 ∧ (∀ a ∈ l, StS a.t) ∧ r + (ntXs l : Int) ≤ left) := by
          have a1 := HSM.out
          have a2 := HR1.out
          have a3 := HLL.out
          rw [List.take_of_length_le (by omega)] at a1 a2
          exact ⟨by omega, a1, by omega⟩
        have hrl : r ≤ left := by have := HF.out.2.2; omega
        go_wp2
        go_ret
        exact ⟨⟨r, rfl, hrl, fun _ => HF.out⟩, HBR.out⟩
end Go.Proofs.YtgbopbpiciopdaaGreatDoor
namespace Go.Proofs.YtgbopbpiciopdaaGreatDoor
open Go.RowKit Atom
open Go.Proofs.YtgbopbpiciopdaaGreatDoor.Code
set_option linter.unusedVariables false

set_option maxHeartbeats 1000000 in
set_option maxRecDepth 100000 in
theorem eqActorS_same (l : List Ac) (ao bo : Option Addr) (cap cap' : Nat) (w : World) (hr : RowA w ao l) (hr' : RowA w bo l) (hl : l.length ≤ maxLen) (hs : ∀ a ∈ l, AcT a) :
    Calls Tryz.prog 40 #[.slice ao l.length cap, .slice bo l.length cap'] w fun e w' => e = .returned (.bool true) ∧ Below w.heap.size w w' := by
  have HRA : Hid (RowA w ao l) := hr
  have HRB : Hid (RowA w bo l) := hr'
  have HS : Hid (∀ a ∈ l, AcT a) := hs
  clear hr hr' hs
  unfold maxLen at hl
  have hbl : ((l.length : Int) != (l.length : Int)) = false := by simp
  go_enter Tryz.func40, Tryz.ntmps40
  go_wp2_with fail
  go_loopw [5] (fun i w' => ∃ k : Nat, k ≤ l.length ∧ i = .int .i64 k ∧ Below w.heap.size w w') (fun i _ => l.length - (intOf i).toNat)
  case atStart => exact ⟨0, Nat.zero_le _, rfl, Below.refl _ _⟩
  case round =>
    obtain ⟨k, hk, rfl, hb⟩ := hrel
    have HB : Hid (Below w.heap.size w wr) := hb
    clear hb
    by_cases hlt : k < l.length
    · rcases HRA.out.below HB.out with h0 | ⟨b, o, rfl, hrow⟩
      · rw [h0] at hlt; simp at hlt
      rcases HRB.out.below HB.out with h0 | ⟨b', o', rfl, hrow'⟩
      · rw [h0] at hlt; simp at hlt
      obtain ⟨h, hbx, hac⟩ := hrow k hlt
      obtain ⟨h', hbx', hac'⟩ := hrow' k hlt
      have HC : Hid (Calls Tryz.prog 83 #[acV l[k] h, acV l[k] h'] wr.drew fun e w' => e = .returned (.bool true) ∧ Below wr.drew.heap.size wr.drew w') :=
        eqActor_same l[k] h h' wr.drew (hac.below ((Below.refl _ _).drew)) (hac'.below ((Below.refl _ _).drew)) (HS.out _ (List.getElem_mem hlt)).2.2
      have c0 := hbx.c0
      have c1 := hbx.c1
      have c2 := hbx.c2
      have c3 := hbx.c3
      have c4 := hbx.c4
      have c0' := hbx'.c0
      have c1' := hbx'.c1
      have c2' := hbx'.c2
      have c3' := hbx'.c3
      have c4' := hbx'.c4
      clear hbx hbx' hac hac' hrow hrow'
      generalize l[k] = a at *
      obtain ⟨pid, pc, regs, box, N, f⟩ := a
      dsimp only at c0 c1 c2 c3 c4 c0' c1' c2' c3' c4' HC
      go_wp2_with fail
      go_region_with (go_at_call 83; refine HC.out.mono ?_; rintro e w1 ⟨rfl, hb1⟩)
      all_goals
        have HB1 : Hid (Below w.heap.size w w1) := (HB.out.drew).trans (hb1.mono HB.out.size)
        clear hb1 c0 c1 c2 c3 c4 c0' c1' c2' c3' c4'
        go_wp2_with fail
        go_roundw
        case rel => exact ⟨k + 1, by omega, by go_num, HB1.out⟩
        case measure => simp [intOf]; omega
    · go_wp2_with fail
      go_ret
      exact ⟨rfl, HB.out⟩

set_option maxHeartbeats 1000000 in
theorem eqSaid_same (kind pid : Int) (t : Tm) (k n : Int) (s : ByteArray) (ao ao' : Option Addr) (len len' cap cap' : Nat) (k' n' : Int) (s' : ByteArray) (w : World) (hv : RepV 0 w t (.agg #[.int .i64 k, .int .i64 n, .string s, .slice ao len cap])) (hv' : RepV 0 w t (.agg #[.int .i64 k', .int .i64 n', .string s', .slice ao' len' cap'])) :
    Calls Tryz.prog 84 #[sdV kind pid k n s ao len cap, sdV kind pid k' n' s' ao' len' cap'] w fun e w' => e = .returned (.bool true) ∧ Below w.heap.size w w' := by
  have HV : Hid (RepV 0 w t (.agg #[.int .i64 k, .int .i64 n, .string s, .slice ao len cap]) ∧ RepV 0 w t (.agg #[.int .i64 k', .int .i64 n', .string s', .slice ao' len' cap'])) := ⟨hv, hv'⟩
  clear hv hv'
  go_enter Tryz.func84, Tryz.ntmps84
  go_wp2_with fail
  refine (eqT_all t 0 _ _ _ ((Keeps.below ?_ 0).repV HV.out.1) ((Keeps.below ?_ 0).repV HV.out.2)).mono ?_
  · exact ((Below.refl _ _).alloc (Nat.le_refl _) _).alloc (by simp) _
  · exact ((Below.refl _ _).alloc (Nat.le_refl _) _).alloc (by simp) _
  rintro e w1 ⟨rfl, hb1⟩
  have HB1 : Hid (Below w.heap.size w w1) := (((Below.refl _ _).alloc (Nat.le_refl _) _).alloc (by simp) _).trans (hb1.mono (by simp; omega))
  clear hb1
  go_wp2_with fail
  go_ret
  exact ⟨rfl, HB1.out⟩

set_option maxHeartbeats 1000000 in
set_option maxRecDepth 100000 in
theorem eqSaidS_same (l : List Sd) (ao bo : Option Addr) (cap cap' : Nat) (w : World) (hr : RowS w ao l) (hr' : RowS w bo l) (hl : l.length ≤ maxLen) :
    Calls Tryz.prog 41 #[.slice ao l.length cap, .slice bo l.length cap'] w fun e w' => e = .returned (.bool true) ∧ Below w.heap.size w w' := by
  have HRA : Hid (RowS w ao l) := hr
  have HRB : Hid (RowS w bo l) := hr'
  clear hr hr'
  unfold maxLen at hl
  have hbl : ((l.length : Int) != (l.length : Int)) = false := by simp
  go_enter Tryz.func41, Tryz.ntmps41
  go_wp2_with fail
  go_loopw [5] (fun i w' => ∃ k : Nat, k ≤ l.length ∧ i = .int .i64 k ∧ Below w.heap.size w w') (fun i _ => l.length - (intOf i).toNat)
  case atStart => exact ⟨0, Nat.zero_le _, rfl, Below.refl _ _⟩
  case round =>
    obtain ⟨k, hk, rfl, hb⟩ := hrel
    have HB : Hid (Below w.heap.size w wr) := hb
    clear hb
    by_cases hlt : k < l.length
    · rcases HRA.out.below HB.out with h0 | ⟨b, o, rfl, hrow⟩
      · rw [h0] at hlt; simp at hlt
      rcases HRB.out.below HB.out with h0 | ⟨b', o', rfl, hrow'⟩
      · rw [h0] at hlt; simp at hlt
      have hbx := hrow k hlt
      have hbx' := hrow' k hlt
      obtain ⟨tk, tn, ts, tao, tlen, tcap, e0, e1, e2, e3, hv⟩ := hbx.t.cells
      obtain ⟨tk', tn', ts', tao', tlen', tcap', e0', e1', e2', e3', hv'⟩ := hbx'.t.cells
      have HC : Hid (Calls Tryz.prog 84 #[sdV l[k].kind l[k].pid tk tn ts tao tlen tcap, sdV l[k].kind l[k].pid tk' tn' ts' tao' tlen' tcap'] wr.drew fun e w' => e = .returned (.bool true) ∧ Below wr.drew.heap.size wr.drew w') :=
        eqSaid_same l[k].kind l[k].pid l[k].t tk tn ts tao tao' tlen tlen' tcap tcap' tk' tn' ts' wr.drew hv.drew hv'.drew
      have c0 := hbx.c0
      have c1 := hbx.c1
      have c0' := hbx'.c0
      have c1' := hbx'.c1
      clear hbx hbx' hrow hrow' hv hv'
      generalize l[k].kind = kind at *
      generalize l[k].pid = pid at *
      go_wp2_with fail
      go_region_with (go_at_call 84; refine HC.out.mono ?_; rintro e w1 ⟨rfl, hb1⟩)
      all_goals
        have HB1 : Hid (Below w.heap.size w w1) := (HB.out.drew).trans (hb1.mono HB.out.size)
        clear hb1 c0 c1 c0' c1' e0 e1 e2 e3 e0' e1' e2' e3'
        go_wp2_with fail
        go_roundw
        case rel => exact ⟨k + 1, by omega, by go_num, HB1.out⟩
        case measure => simp [intOf]; omega
    · go_wp2_with fail
      go_ret
      exact ⟨rfl, HB.out⟩

set_option maxHeartbeats 1000000 in
set_option maxRecDepth 100000 in
theorem eqPlain_same (p : Pl) (g h : Pw) (w : World) (hg : PlR w p g) (hh : PlR w p h) (hs : PlS p) :
    Calls Tryz.prog 11 #[plV p g, plV p h] w fun e w' => e = .returned (.bool true) ∧ Below w.heap.size w w' := by
  have KI : Hid (∀ wc, Below w.heap.size w wc → Calls Tryz.prog 18 #[.slice g.ca p.code.length g.cc, .slice h.ca p.code.length h.cc] wc fun e w' => e = .returned (.bool true) ∧ Below wc.heap.size wc w') := fun wc hb => eqInsS_same p.code g.ca h.ca g.cc h.cc wc (hg.code.below hb) (hh.code.below hb) hs.c
  have KA : Hid (∀ wc, Below w.heap.size w wc → Calls Tryz.prog 40 #[.slice g.aa p.acts.length g.ac, .slice h.aa p.acts.length h.ac] wc fun e w' => e = .returned (.bool true) ∧ Below wc.heap.size wc w') := fun wc hb => eqActorS_same p.acts g.aa h.aa g.ac h.ac wc (hg.acts.below hb) (hh.acts.below hb) hg.a1 hs.ax
  have KS : Hid (∀ wc, Below w.heap.size w wc → Calls Tryz.prog 41 #[.slice g.oa p.out.length g.oc, .slice h.oa p.out.length h.oc] wc fun e w' => e = .returned (.bool true) ∧ Below wc.heap.size wc w') := fun wc hb => eqSaidS_same p.out g.oa h.oa g.oc h.oc wc (hg.out.below hb) (hh.out.below hb) hg.o1
  obtain ⟨code, acts, next, out⟩ := p
  obtain ⟨ca, cc, aa, ac, oa, oc⟩ := g
  obtain ⟨ca', cc', aa', ac', oa', oc'⟩ := h
  dsimp only at KI KA KS
  clear hg hh hs
  obtain ⟨w0, hw0⟩ : ∃ w0, w0 = (w.alloc (.cells #[.slice ca code.length cc, .slice aa acts.length ac, .int .i64 next, .slice oa out.length oc] 33)).alloc (.cells #[.slice ca' code.length cc', .slice aa' acts.length ac', .int .i64 next, .slice oa' out.length oc'] 33) := ⟨_, rfl⟩
  have hb0 : Below w.heap.size w w0 := by rw [hw0]; exact ((Below.refl _ _).alloc (Nat.le_refl _) _).alloc (by simp) _
  have HB0 : Hid (Below w.heap.size w w0) := hb0
  have e1 : (w.alloc (.cells #[.slice ca code.length cc, .slice aa acts.length ac, .int .i64 next, .slice oa out.length oc] 33)).heap.size = w.heap.size + 1 := by simp
  have q : ∀ x, w0.cell? ⟨w.heap.size, x, none⟩ = (#[.slice ca code.length cc, .slice aa acts.length ac, .int .i64 next, .slice oa out.length oc] : Array Value)[x]? := fun x => by rw [hw0, World.cell?_alloc_lt (h := by simp), World.cell?_alloc_new]
  have q' : ∀ x, w0.cell? ⟨w.heap.size + 1, x, none⟩ = (#[.slice ca' code.length cc', .slice aa' acts.length ac', .int .i64 next, .slice oa' out.length oc'] : Array Value)[x]? := fun x => by rw [hw0, ← e1, World.cell?_alloc_new]
  have HQ : Hid (∀ wc, Below w0.heap.size w0 wc → wc.cell? ⟨w.heap.size, 1, none⟩ = some (.slice aa acts.length ac) ∧ wc.cell? ⟨w.heap.size + 1, 1, none⟩ = some (.slice aa' acts.length ac') ∧ wc.cell? ⟨w.heap.size, 2, none⟩ = some (.int .i64 next) ∧ wc.cell? ⟨w.heap.size + 1, 2, none⟩ = some (.int .i64 next) ∧ wc.cell? ⟨w.heap.size, 3, none⟩ = some (.slice oa out.length oc) ∧ wc.cell? ⟨w.heap.size + 1, 3, none⟩ = some (.slice oa' out.length oc')) := fun wc hb =>
    ⟨keepA hb (q 1), keepA hb (q' 1), keepA hb (q 2), keepA hb (q' 2), keepA hb (q 3), keepA hb (q' 3)⟩
  have HW : Hid (∀ wc, Below w0.heap.size w0 wc → Below w.heap.size w wc) := fun wc hb => HB0.out.trans (hb.mono HB0.out.size)
  clear q q' e1 hb0
  go_enter Tryz.func11, Tryz.ntmps11
  go_wp2_with (go_at_call 18; fail)
  rw [← hw0]
  clear hw0
  refine (KI.out w0 HB0.out).mono ?_
  rintro e w1 ⟨rfl, hb1⟩
  have HB1 : Hid (Below w0.heap.size w0 w1) := hb1
  obtain ⟨d1, d1', d2, d2', d3, d3'⟩ := HQ.out w1 hb1
  clear hb1
  go_wp2_with (go_at_call 40; fail)
  refine (KA.out w1 (HW.out _ HB1.out)).mono ?_
  rintro e w2 ⟨rfl, hb2⟩
  have HB2 : Hid (Below w0.heap.size w0 w2) := HB1.out.trans (hb2.mono HB1.out.size)
  clear hb2 d1 d1' d2 d2' d3 d3'
  obtain ⟨d1, d1', d2, d2', d3, d3'⟩ := HQ.out w2 HB2.out
  go_wp2_with (go_at_call 41; fail)
  refine (KS.out w2 (HW.out _ HB2.out)).mono ?_
  rintro e w3 ⟨rfl, hb3⟩
  have HB3 : Hid (Below w0.heap.size w0 w3) := HB2.out.trans (hb3.mono HB2.out.size)
  clear hb3 d1 d1' d2 d2' d3 d3'
  go_wp2_with fail
  go_ret
  exact ⟨rfl, HW.out _ HB3.out⟩

set_option maxHeartbeats 1000000 in
set_option maxRecDepth 100000 in
theorem szPlain_any (p : Pl) (h : Pw) (w : World) (hr : PlR w p h) :
    Calls Tryz.prog 7 #[plV p h, .int .i64 1048576] w fun e w' => (∃ r : Int, e = .returned (.int .i64 r) ∧ r ≤ 1048576 ∧ (0 ≤ r → PlS p ∧ r + (p.acts.length : Int) + (ntAs p.acts : Int) + (ntXs p.out : Int) ≤ 1048576)) ∧ Below w.heap.size w w' := by
  have KI : Hid (∀ wc, Below w.heap.size w wc → Calls Tryz.prog 12 #[.slice h.ca p.code.length h.cc, .int .i64 1048576] wc fun e w' => (∃ r : Int, e = .returned (.int .i64 r) ∧ r ≤ 1048576 ∧ (0 ≤ r → p.code.length ≤ 1048576 ∧ SmI 1048576 p.code)) ∧ Below wc.heap.size wc w') := fun wc hb => szInsS_le p.code h.ca h.cc wc (hr.code.below hb) hr.sm hr.c1
  have KA : Hid (∀ wc, Below w.heap.size w wc → ∀ r : Int, 0 ≤ r → r ≤ 1048576 → Calls Tryz.prog 28 #[.slice h.aa p.acts.length h.ac, .int .i64 r] wc fun e w' => (∃ r' : Int, e = .returned (.int .i64 r') ∧ r' ≤ r ∧ (0 ≤ r' → p.acts.length ≤ 1048576 ∧ (∀ a ∈ p.acts, AcT a) ∧ r' + (p.acts.length : Int) + (ntAs p.acts : Int) ≤ r)) ∧ Below wc.heap.size wc w') := fun wc hb r h0 h1 => szActorS_any p.acts h.aa h.ac r wc (hr.acts.below hb) hr.a1 h0 h1
  have KS : Hid (∀ wc, Below w.heap.size w wc → ∀ r : Int, 0 ≤ r → r ≤ 1048576 → Calls Tryz.prog 29 #[.slice h.oa p.out.length h.oc, .int .i64 r] wc fun e w' => (∃ r' : Int, e = .returned (.int .i64 r') ∧ r' ≤ r ∧ (0 ≤ r' → p.out.length ≤ 1048576 ∧ (∀ a ∈ p.out, StS a.t) ∧ r' + (ntXs p.out : Int) ≤ r)) ∧ Below wc.heap.size wc w') := fun wc hb r h0 h1 => szSaidS_any p.out h.oa h.oc r wc (hr.out.below hb) hr.o1 h0 h1
  have HFIN : Hid ((p.code.length ≤ 1048576 ∧ SmI 1048576 p.code) → (p.acts.length ≤ 1048576 ∧ (∀ a ∈ p.acts, AcT a)) → (p.out.length ≤ 1048576 ∧ (∀ a ∈ p.out, StS a.t)) → PlS p) := fun a b c => ⟨a.1, a.2, b.1, b.2, c.1, c.2⟩
  obtain ⟨code, acts, next, out⟩ := p
  obtain ⟨ca, cc, aa, ac, oa, oc⟩ := h
  dsimp only at KI KA KS HFIN
  clear hr
  obtain ⟨w0, hw0⟩ : ∃ w0, w0 = w.alloc (.cells #[.slice ca code.length cc, .slice aa acts.length ac, .int .i64 next, .slice oa out.length oc] 26) := ⟨_, rfl⟩
  have hb0 : Below w.heap.size w w0 := by rw [hw0]; exact (Below.refl _ _).alloc (Nat.le_refl _) _
  have HB0 : Hid (Below w.heap.size w w0) := hb0
  have q : ∀ x, w0.cell? ⟨w.heap.size, x, none⟩ = (#[.slice ca code.length cc, .slice aa acts.length ac, .int .i64 next, .slice oa out.length oc] : Array Value)[x]? := fun x => by rw [hw0, World.cell?_alloc_new]
  have HQ : Hid (∀ wc, Below w0.heap.size w0 wc → wc.cell? ⟨w.heap.size, 1, none⟩ = some (.slice aa acts.length ac) ∧ wc.cell? ⟨w.heap.size, 3, none⟩ = some (.slice oa out.length oc)) := fun wc hb => ⟨keepA hb (q 1), keepA hb (q 3)⟩
  have HW : Hid (∀ wc, Below w0.heap.size w0 wc → Below w.heap.size w wc) := fun wc hb => HB0.out.trans (hb.mono HB0.out.size)
  clear q hb0
  go_enter Tryz.func7, Tryz.ntmps7
  go_wp2_with (go_at_call 12; fail)
  rw [← hw0]
  clear hw0
  refine (KI.out w0 HB0.out).mono ?_
  rintro e w1 ⟨⟨r1, rfl, h1, h1'⟩, hb1⟩
  have HB1 : Hid (Below w0.heap.size w0 w1) := hb1
  have HR1 : Hid (0 ≤ r1 → code.length ≤ 1048576 ∧ SmI 1048576 code) := h1'
  obtain ⟨d1, d3⟩ := HQ.out w1 hb1
  clear hb1 h1'
  by_cases hn1 : r1 < 0
  · go_wp2_with fail
    go_ret
    exact ⟨⟨-1, rfl, by decide, fun h => absurd h (by decide)⟩, HW.out _ HB1.out⟩
  go_wp2_with (go_at_call 28; fail)
  refine (KA.out w1 (HW.out _ HB1.out) r1 (by omega) h1).mono ?_
  rintro e w2 ⟨⟨r2, rfl, h2, h2'⟩, hb2⟩
  have HB2 : Hid (Below w0.heap.size w0 w2) := HB1.out.trans (hb2.mono HB1.out.size)
  have HR2 : Hid (0 ≤ r2 → acts.length ≤ 1048576 ∧ (∀ a ∈ acts, AcT a) ∧ r2 + (acts.length : Int) + (ntAs acts : Int) ≤ r1) := h2'
  clear hb2 h2' d1 d3
  obtain ⟨d1, d3⟩ := HQ.out w2 HB2.out
  by_cases hn2 : r2 < 0
  · go_wp2_with fail
    go_ret
    exact ⟨⟨-1, rfl, by decide, fun h => absurd h (by decide)⟩, HW.out _ HB2.out⟩
  go_wp2_with (go_at_call 29; fail)
  refine (KS.out w2 (HW.out _ HB2.out) r2 (by omega) (by omega)).mono ?_
  rintro e w3 ⟨⟨r3, rfl, h3, h3'⟩, hb3⟩
  have HB3 : Hid (Below w0.heap.size w0 w3) := HB2.out.trans (hb3.mono HB2.out.size)
  have HR3 : Hid (0 ≤ r3 → out.length ≤ 1048576 ∧ (∀ a ∈ out, StS a.t) ∧ r3 + (ntXs out : Int) ≤ r2) := h3'
  clear hb3 h3' d1 d3
  by_cases hn3 : r3 < 0
  · go_wp2_with fail
    go_ret
    exact ⟨⟨-1, rfl, by decide, fun h => absurd h (by decide)⟩, HW.out _ HB3.out⟩
  have HF : Hid (PlS ⟨code, acts, next, out⟩ ∧ r3 + (acts.length : Int) + (ntAs acts : Int) + (ntXs out : Int) ≤ 1048576) := by
    have a1 := HR1.out (by omega)
    have a2 := HR2.out (by omega)
    have a3 := HR3.out (by omega)
    exact ⟨HFIN.out a1 ⟨a2.1, a2.2.1⟩ ⟨a3.1, a3.2.1⟩, by omega⟩
  go_wp2_with fail
  go_ret
  exact ⟨⟨r3, rfl, by omega, fun _ => HF.out⟩, HW.out _ HB3.out⟩
end Go.Proofs.YtgbopbpiciopdaaGreatDoor
namespace Go.Proofs.YtgbopbpiciopdaaGreatDoor.fnExactPlainOk
open Go.RowKit Atom
open Go.Proofs.YtgbopbpiciopdaaGreatDoor.Code
set_option linter.unusedVariables false

set_option maxHeartbeats 4000000 in
set_option maxRecDepth 100000 in
theorem walk (p : Pl) (h : Pw) (w : World) (hr : PlR w p h) (hS : Shp w) (hP : Pow w) (hE : Es.Ety w) :
    Calls Tryz.prog 3 #[plV p h] w fun e w' => e = .returned (.bool true) ∧ Below w.heap.size w w' := by
  have KSZ : Hid (∀ wc, Below w.heap.size w wc → Calls Tryz.prog 7 #[plV p h, .int .i64 1048576] wc fun e w' => (∃ r : Int, e = .returned (.int .i64 r) ∧ (0 ≤ r → PlS p)) ∧ Below wc.heap.size wc w') := fun wc hb => (szPlain_any p h wc (hr.below hb)).mono fun e w' ⟨⟨r, a, _, b⟩, c⟩ => ⟨⟨r, a, fun h => (b h).1⟩, c⟩
  have KTO : Hid (PlS p → ∀ wc, Below w.heap.size w wc → Calls Tryz.prog 9 #[plV p h] wc fun e w' => ∃ g : Pw, e = .returned (plV p g) ∧ PlR w' p g ∧ Below wc.heap.size wc w') := fun hs wc hb => (toPlain_any p h wc (hr.below hb) hs).mono fun e w' ⟨g, bs, a, b, _, _, c⟩ => ⟨g, a, b.plR, c⟩
  have KSP : Hid (PlS p → ∀ wc g, Below w.heap.size w wc → PlR wc p g → Calls Tryz.prog 8 #[plV p g] wc fun e w' => e = .returned (.bool (plB p)) ∧ Below wc.heap.size wc w') := fun hs wc g hb hg => specPlainOk_any p g wc hg hs
  have KIM : Hid (PlS p → ∀ wc g, Below w.heap.size w wc → PlR wc p g → Calls Tryz.prog 10 #[plV p g] wc fun e w' => e = .returned (.bool (plB p)) ∧ Below wc.heap.size wc w') := fun hs wc g hb hg => implPlainOk_any p g wc hg hs (hS.below hb) (hP.below hb) (hE.below hb)
  have KEQ : Hid (PlS p → ∀ wc g h', PlR wc p g → PlR wc p h' → Calls Tryz.prog 11 #[plV p g, plV p h'] wc fun e w' => e = .returned (.bool true) ∧ Below wc.heap.size wc w') := fun hs wc g h' h1 h2 => eqPlain_same p g h' wc h1 h2 hs
  obtain ⟨P, hPP⟩ : ∃ P, P = p := ⟨_, rfl⟩
  rw [← hPP] at KSZ KTO KSP KIM KEQ
  obtain ⟨code, acts, next, out⟩ := p
  obtain ⟨ca, cc, aa, ac, oa, oc⟩ := h
  have KSZ' : Hid (∀ wc, Below w.heap.size w wc → Calls Tryz.prog 7 #[.agg #[.slice ca code.length cc, .slice aa acts.length ac, .int .i64 next, .slice oa out.length oc], .int .i64 1048576] wc fun e w' => (∃ r : Int, e = .returned (.int .i64 r) ∧ (0 ≤ r → PlS P)) ∧ Below wc.heap.size wc w') := by rw [hPP] at KSZ ⊢; exact KSZ
  have KTO' : Hid (PlS P → ∀ wc, Below w.heap.size w wc → Calls Tryz.prog 9 #[.agg #[.slice ca code.length cc, .slice aa acts.length ac, .int .i64 next, .slice oa out.length oc]] wc fun e w' => ∃ g : Pw, e = .returned (.agg #[.slice g.ca code.length g.cc, .slice g.aa acts.length g.ac, .int .i64 next, .slice g.oa out.length g.oc]) ∧ PlR w' P g ∧ Below wc.heap.size wc w') := by rw [hPP] at KTO ⊢; exact KTO
  have KSP' : Hid (PlS P → ∀ wc (g : Pw), Below w.heap.size w wc → PlR wc P g → Calls Tryz.prog 8 #[.agg #[.slice g.ca code.length g.cc, .slice g.aa acts.length g.ac, .int .i64 next, .slice g.oa out.length g.oc]] wc fun e w' => e = .returned (.bool (plB P)) ∧ Below wc.heap.size wc w') := by rw [hPP] at KSP ⊢; exact KSP
  have KIM' : Hid (PlS P → ∀ wc (g : Pw), Below w.heap.size w wc → PlR wc P g → Calls Tryz.prog 10 #[.agg #[.slice g.ca code.length g.cc, .slice g.aa acts.length g.ac, .int .i64 next, .slice g.oa out.length g.oc]] wc fun e w' => e = .returned (.bool (plB P)) ∧ Below wc.heap.size wc w') := by rw [hPP] at KIM ⊢; exact KIM
  have KEQ' : Hid (PlS P → ∀ wc (g h' : Pw), PlR wc P g → PlR wc P h' → Calls Tryz.prog 11 #[.agg #[.slice g.ca code.length g.cc, .slice g.aa acts.length g.ac, .int .i64 next, .slice g.oa out.length g.oc], .agg #[.slice h'.ca code.length h'.cc, .slice h'.aa acts.length h'.ac, .int .i64 next, .slice h'.oa out.length h'.oc]] wc fun e w' => e = .returned (.bool true) ∧ Below wc.heap.size wc w') := by rw [hPP] at KEQ ⊢; exact KEQ
  obtain ⟨w0, hw0⟩ : ∃ w0, w0 = w.alloc (.cells #[.slice ca code.length cc, .slice aa acts.length ac, .int .i64 next, .slice oa out.length oc] 26) := ⟨_, rfl⟩
  have hb0 : Below w.heap.size w w0 := by rw [hw0]; exact (Below.refl _ _).alloc (Nat.le_refl _) _
  have HB0 : Hid (Below w.heap.size w w0) := hb0
  have q0 : ∀ x, w0.cell? ⟨w.heap.size, x, none⟩ = (#[.slice ca code.length cc, .slice aa acts.length ac, .int .i64 next, .slice oa out.length oc] : Array Value)[x]? := fun x => by rw [hw0, World.cell?_alloc_new]
  have HQ : Hid (∀ wc, Below w0.heap.size w0 wc → wc.cell? ⟨w.heap.size, 0, none⟩ = some (.slice ca code.length cc) ∧ wc.cell? ⟨w.heap.size, 1, none⟩ = some (.slice aa acts.length ac) ∧ wc.cell? ⟨w.heap.size, 2, none⟩ = some (.int .i64 next) ∧ wc.cell? ⟨w.heap.size, 3, none⟩ = some (.slice oa out.length oc)) := fun wc hb => ⟨keepA hb (q0 0), keepA hb (q0 1), keepA hb (q0 2), keepA hb (q0 3)⟩
  have HW : Hid (∀ wc, Below w0.heap.size w0 wc → Below w.heap.size w wc) := fun wc hb => HB0.out.trans (hb.mono HB0.out.size)
  clear hr hS hP hE KSZ KTO KSP KIM KEQ hPP hb0 q0
  go_enter Tryz.func3, Tryz.ntmps3
  go_wp2_with (go_at_call 7; fail)
  rw [← hw0]
  clear hw0
  refine (KSZ'.out w0 HB0.out).mono ?_
  rintro e w1 ⟨⟨r, rfl, hr1⟩, hb1⟩
  have HB1 : Hid (Below w0.heap.size w0 w1) := hb1
  have HR1 : Hid (0 ≤ r → PlS P) := hr1
  obtain ⟨d0, d1, d2, d3⟩ := HQ.out w1 hb1
  clear hb1 hr1
  by_cases hneg : r < 0
  · go_wp2_with fail
    go_ret
    exact ⟨rfl, HW.out _ HB1.out⟩
  have HS : Hid (PlS P) := HR1.out (by omega)
  go_wp2_with (go_at_call 9; fail)
  refine (KTO'.out HS.out w1 (HW.out _ HB1.out)).mono ?_
  rintro e w2 ⟨g2, rfl, hr2, hb2⟩
  have HB2 : Hid (Below w0.heap.size w0 w2) := HB1.out.trans (hb2.mono HB1.out.size)
  have HR2 : Hid (PlR w2 P g2) := hr2
  clear hb2 hr2 d0 d1 d2 d3
  go_wp2_with (go_at_call 8; fail)
  refine (KSP'.out HS.out w2 g2 (HW.out _ HB2.out) HR2.out).mono ?_
  rintro e w3 ⟨he, hb3⟩
  have HB3 : Hid (Below w0.heap.size w0 w3) := HB2.out.trans (hb3.mono HB2.out.size)
  obtain ⟨bb, hbb⟩ : ∃ bb, bb = plB P := ⟨_, rfl⟩
  have HBB : Hid (bb = plB P) := hbb
  rw [← hbb] at he
  subst he
  clear hb3 hbb
  obtain ⟨d0, d1, d2, d3⟩ := HQ.out w3 HB3.out
  go_wp2_with (go_at_call 9; fail)
  refine (KTO'.out HS.out w3 (HW.out _ HB3.out)).mono ?_
  rintro e w4 ⟨g4, rfl, hr4, hb4⟩
  have HB4 : Hid (Below w0.heap.size w0 w4) := HB3.out.trans (hb4.mono HB3.out.size)
  obtain ⟨ca4, cc4, aa4, ac4, oa4, oc4⟩ := g4
  obtain ⟨w5, hw5⟩ : ∃ w5, w5 = w4.alloc (.cells #[.slice ca4 code.length cc4, .slice aa4 acts.length ac4, .int .i64 next, .slice oa4 out.length oc4] 33) := ⟨_, rfl⟩
  have hb5 : Below w4.heap.size w4 w5 := by rw [hw5]; exact (Below.refl _ _).alloc (Nat.le_refl _) _
  have HB5 : Hid (Below w0.heap.size w0 w5) := HB4.out.trans (hb5.mono HB4.out.size)
  have HR5 : Hid (PlR w5 P ⟨ca4, cc4, aa4, ac4, oa4, oc4⟩) := hr4.below hb5
  have q5 : ∀ x, w5.cell? ⟨w4.heap.size, x, none⟩ = (#[.slice ca4 code.length cc4, .slice aa4 acts.length ac4, .int .i64 next, .slice oa4 out.length oc4] : Array Value)[x]? := fun x => by rw [hw5, World.cell?_alloc_new]
  have HQ5 : Hid (∀ wc, Below w5.heap.size w5 wc → wc.cell? ⟨w4.heap.size, 0, none⟩ = some (.slice ca4 code.length cc4) ∧ wc.cell? ⟨w4.heap.size, 1, none⟩ = some (.slice aa4 acts.length ac4) ∧ wc.cell? ⟨w4.heap.size, 2, none⟩ = some (.int .i64 next) ∧ wc.cell? ⟨w4.heap.size, 3, none⟩ = some (.slice oa4 out.length oc4)) := fun wc hb => ⟨keepA hb (q5 0), keepA hb (q5 1), keepA hb (q5 2), keepA hb (q5 3)⟩
  clear hb4 hr4 d0 d1 d2 d3 hb5 q5
  go_wp2_with (go_at_call 10; fail)
  rw [← hw5]
  clear hw5
  refine (KIM'.out HS.out w5 ⟨ca4, cc4, aa4, ac4, oa4, oc4⟩ (HW.out _ HB5.out) HR5.out).mono ?_
  rintro e w6 ⟨he, hb6⟩
  rw [← HBB.out] at he
  subst he
  have HB6 : Hid (Below w0.heap.size w0 w6) := HB5.out.trans (hb6.mono HB5.out.size)
  have HR6 : Hid (PlR w6.drew P ⟨ca4, cc4, aa4, ac4, oa4, oc4⟩) := (HR5.out.below hb6).below ((Below.refl _ _).drew)
  obtain ⟨d0, d1, d2, d3⟩ := HQ.out w6 HB6.out
  obtain ⟨f0, f1, f2, f3⟩ := HQ5.out w6 hb6
  have HF6 : Hid (∀ wT, Below w6.drew.heap.size w6.drew wT → wT.cell? ⟨w4.heap.size, 0, none⟩ = some (.slice ca4 code.length cc4) ∧ wT.cell? ⟨w4.heap.size, 1, none⟩ = some (.slice aa4 acts.length ac4) ∧ wT.cell? ⟨w4.heap.size, 2, none⟩ = some (.int .i64 next) ∧ wT.cell? ⟨w4.heap.size, 3, none⟩ = some (.slice oa4 out.length oc4)) := fun wT hb => HQ5.out wT (hb6.drew.trans (hb.mono hb6.size))
  clear hb6
  have hne : (bb != bb) = false := by cases bb <;> rfl
  clear HBB
  have HD6 : Hid (Below w.heap.size w w6.drew ∧ Below w0.heap.size w0 w6.drew) := ⟨(HW.out _ HB6.out).drew, HB6.out.drew⟩
  go_wp2_with fail
  go_region_with (first
    | (go_at_call 9; refine (KTO'.out HS.out w6.drew HD6.out.1).mono ?_; rintro e wT ⟨gT, rfl, hrT, hbT⟩; obtain ⟨t0, t1, t2, t3⟩ := HF6.out wT hbT; have hr6 := HR6.out.below hbT)
    | (go_at_call 11; refine (KEQ'.out HS.out wT ⟨ca4, cc4, aa4, ac4, oa4, oc4⟩ gT hr6 hrT).mono ?_; rintro e wU ⟨rfl, hbU⟩))
  all_goals
    have HWU : Hid (Below w.heap.size w wU) := HD6.out.1.trans ((hbT.mono HD6.out.1.size).trans (hbU.mono (Nat.le_trans HD6.out.1.size hbT.size)))
    clear hrT hbT t0 t1 t2 t3 hr6 hbU d0 d1 d2 d3 f0 f1 f2 f3
    go_wp2_with fail
    go_ret
    exact ⟨rfl, HWU.out⟩
end Go.Proofs.YtgbopbpiciopdaaGreatDoor.fnExactPlainOk
namespace Go.Proofs.YtgbopbpiciopdaaGreatDoor
open Go.ChangeShapes Go.WideShapes Go.ChangeAt Go.RowKit
open Go.Proofs.YtgbopbpiciopdaaGreatDoor.Code
set_option linter.unusedVariables false

section
variable {H : Type} {enc : TypeId × Value → H} {w : World} {base : Nat} {sp : Nat → Bool} {held : Bool}
theorem cellsSaid11 : Tryz.prog.cellsOf 103 = 6 := by kernel_rfl

set_option maxRecDepth 100000 in
theorem actor_of_trod {fuel : Nat} {l : List Value} {x : DataW H × List MemPlace} (h : DataW.trod enc Tryz.prog w base sp held fuel 100 l = some x) :
    ∃ (a : Ac) (g : Wh), l = [.int .i64 a.pid, .int .i64 a.pc, .slice g.ra a.regs.length g.rc, .slice g.ba a.box.length g.bc, .slice g.la a.N g.lc] ∧ AcR w a g := by
  obtain ⟨xs, n, _, _, hl, hlen, hf⟩ := DataW.trod_struct Tryz.underlying100 h
  rw [cellsActor9] at hl
  match l, hl, xs, hlen with
  | [v0, v1, v2, v3, v4], _, [y0, y1, y2, y3, y4], _ =>
    have k0 : DataW.trod enc Tryz.prog w base sp held n 3 ((([v0, v1, v2, v3, v4] : List Value).drop 0).take (Tryz.prog.cellsOf 3)) = some y0 := hf 0 _ rfl
    have k1 : DataW.trod enc Tryz.prog w base sp held n 3 ((([v0, v1, v2, v3, v4] : List Value).drop 1).take (Tryz.prog.cellsOf 3)) = some y1 := hf 1 _ rfl
    have k2 : DataW.trod enc Tryz.prog w base sp held n 37 ((([v0, v1, v2, v3, v4] : List Value).drop 2).take (Tryz.prog.cellsOf 37)) = some y2 := hf 2 _ rfl
    have k3 : DataW.trod enc Tryz.prog w base sp held n 37 ((([v0, v1, v2, v3, v4] : List Value).drop 3).take (Tryz.prog.cellsOf 37)) = some y3 := hf 3 _ rfl
    have k4 : DataW.trod enc Tryz.prog w base sp held n 62 ((([v0, v1, v2, v3, v4] : List Value).drop 4).take (Tryz.prog.cellsOf 62)) = some y4 := hf 4 _ rfl
    rw [cellsInt] at k0 k1
    rw [cellsTms] at k2 k3
    rw [cellsInts9] at k4
    have g0 : DataW.trod enc Tryz.prog w base sp held n 3 [v0] = some y0 := k0
    have g1 : DataW.trod enc Tryz.prog w base sp held n 3 [v1] = some y1 := k1
    obtain ⟨pid, e0, _, _⟩ := DataW.trod_int Tryz.underlying3 g0
    obtain ⟨pc, e1, _, _⟩ := DataW.trod_int Tryz.underlying3 g1
    simp only [List.cons.injEq, and_true] at e0 e1
    subst e0 e1
    obtain ⟨regs, ra, rc, rfl, r0, r1, r2⟩ := terms_open n v2 y2 k2
    obtain ⟨box, ba, bc, rfl, b0, b1, b2⟩ := terms_open n v3 y3 k3
    obtain ⟨la, N, lc, f, rfl, l0, l1, l2⟩ := ints_open9 n v4 y4 k4
    exact ⟨⟨pid, pc, regs, box, N, f⟩, ⟨ra, rc, ba, bc, la, lc⟩, rfl, r0, b0, l0, r1, r2, b1, b2, l1, l2⟩

set_option maxRecDepth 100000 in
theorem said_of_trod {fuel : Nat} {l : List Value} {x : DataW H × List MemPlace} (h : DataW.trod enc Tryz.prog w base sp held fuel 103 l = some x) :
    ∃ (y : Sd) (k n : Int) (s : ByteArray) (ao : Option Addr) (len cap : Nat), l = [.int .i64 y.kind, .int .i64 y.pid, .int .i64 k, .int .i64 n, .string s, .slice ao len cap] ∧ RepV 0 w y.t (.agg #[.int .i64 k, .int .i64 n, .string s, .slice ao len cap]) := by
  obtain ⟨xs, n, _, _, hl, hlen, hf⟩ := DataW.trod_struct Tryz.underlying103 h
  rw [cellsSaid11] at hl
  match l, hl, xs, hlen with
  | [v0, v1, v2, v3, v4, v5], _, [y0, y1, y2], _ =>
    have k0 : DataW.trod enc Tryz.prog w base sp held n 3 ((([v0, v1, v2, v3, v4, v5] : List Value).drop 0).take (Tryz.prog.cellsOf 3)) = some y0 := hf 0 _ rfl
    have k1 : DataW.trod enc Tryz.prog w base sp held n 3 ((([v0, v1, v2, v3, v4, v5] : List Value).drop 1).take (Tryz.prog.cellsOf 3)) = some y1 := hf 1 _ rfl
    have k2 : DataW.trod enc Tryz.prog w base sp held n 39 ((([v0, v1, v2, v3, v4, v5] : List Value).drop 2).take (Tryz.prog.cellsOf 39)) = some y2 := hf 2 _ rfl
    rw [cellsInt] at k0 k1
    rw [cellsTm] at k2
    have g0 : DataW.trod enc Tryz.prog w base sp held n 3 [v0] = some y0 := k0
    have g1 : DataW.trod enc Tryz.prog w base sp held n 3 [v1] = some y1 := k1
    have g2 : DataW.trod enc Tryz.prog w base sp held n 39 [v2, v3, v4, v5] = some y2 := k2
    obtain ⟨kind, e0, _, _⟩ := DataW.trod_int Tryz.underlying3 g0
    obtain ⟨pid, e1, _, _⟩ := DataW.trod_int Tryz.underlying3 g1
    obtain ⟨t, tk, tn, ts, tao, tlen, tcap, e2, hv⟩ := rep_of_trod n _ _ g2
    simp only [List.cons.injEq, and_true] at e0 e1 e2
    obtain ⟨rfl, rfl, rfl, rfl⟩ := e2
    subst e0 e1
    exact ⟨⟨kind, pid, t⟩, tk, tn, ts, tao, tlen, tcap, rfl, hv⟩
theorem ad_at (bk off i : Nat) (s j : Nat) : ((⟨bk, off, none⟩ : Addr).add (i * s)).add j = ⟨bk, off + i * s + j, none⟩ := by
  unfold Addr.add
  by_cases h1 : i * s = 0 <;> by_cases h2 : j = 0 <;> simp [h1, h2]

set_option maxRecDepth 100000 in
theorem open_actorS (fuel : Nat) (v : Value) (x : DataW H × List MemPlace) (h : DataW.trod enc Tryz.prog w base sp held fuel 23 [v] = some x) :
    ∃ (l : List Ac) (ao : Option Addr) (cap : Nat), v = .slice ao l.length cap ∧ RowA w ao l ∧ l.length ≤ maxLen := by
  rcases DataW.trod_slice Tryz.underlying23 h with ⟨e3, _⟩ | ⟨a, len, cap, elems, rest, m', hm', e3, _, hb, hlc, hcm, hel, hat, _, _⟩
  · simp only [List.cons.injEq, and_true] at e3
    subst e3
    exact ⟨[], none, 0, rfl, .inl rfl, Nat.zero_le _⟩
  · simp only [List.cons.injEq, and_true] at e3
    subst e3
    rw [cellsActor9] at hat
    have one : ∀ i, i < len → ∃ a' : Ac, ∃ g : Wh, w.cells? base (a.add (i * 5)) 5 = some [.int .i64 a'.pid, .int .i64 a'.pc, .slice g.ra a'.regs.length g.rc, .slice g.ba a'.box.length g.bc, .slice g.la a'.N g.lc] ∧ AcR w a' g := by
      intro i hi
      have ha := hat i hi
      rw [List.getElem?_eq_getElem (by omega)] at ha
      obtain ⟨cs', h1, h2⟩ := Option.bind_eq_some_iff.1 ha
      obtain ⟨a', g, rfl, hr⟩ := actor_of_trod h2
      exact ⟨a', g, h1, hr⟩
    haveI : Inhabited Ac := ⟨⟨0, 0, [], [], 0, fun _ => 0⟩⟩
    obtain ⟨T, hT⟩ := choose_below one
    have hll : ((List.range len).map T).length = len := by simp
    have hget : ∀ j (hj : j < ((List.range len).map T).length), ((List.range len).map T)[j] = T j := fun j hj => by simp
    refine ⟨(List.range len).map T, some a, cap, by rw [hll], ?_, by rw [hll]; omega⟩
    by_cases h0 : len = 0
    · subst h0; exact .inl rfl
    · obtain ⟨bk, off, spot⟩ := a
      have hsp : spot = none := by
        obtain ⟨g, hc, _⟩ := hT 0 (by omega)
        obtain ⟨_, _, hcell⟩ := World.cells?_some hc
        have h' := World.cell?_spot (hcell 0 (by omega))
        simpa [Addr.add] using h'
      subst hsp
      refine .inr ⟨bk, off, rfl, fun j hj => ?_⟩
      rw [hget j hj]
      obtain ⟨g, hc, hr⟩ := hT j (by rw [hll] at hj; exact hj)
      obtain ⟨_, _, hcell⟩ := World.cells?_some hc
      have k0 := hcell 0 (by omega)
      have k1 := hcell 1 (by omega)
      have k2 := hcell 2 (by omega)
      have k3 := hcell 3 (by omega)
      have k4 := hcell 4 (by omega)
      rw [ad_at] at k0 k1 k2 k3 k4
      exact ⟨g, ⟨by simpa using k0, by simpa using k1, by simpa using k2, by simpa using k3, by simpa using k4⟩, hr⟩

set_option maxRecDepth 100000 in
theorem open_saidS (fuel : Nat) (v : Value) (x : DataW H × List MemPlace) (h : DataW.trod enc Tryz.prog w base sp held fuel 24 [v] = some x) :
    ∃ (l : List Sd) (ao : Option Addr) (cap : Nat), v = .slice ao l.length cap ∧ RowS w ao l ∧ l.length ≤ maxLen := by
  rcases DataW.trod_slice Tryz.underlying24 h with ⟨e3, _⟩ | ⟨a, len, cap, elems, rest, m', hm', e3, _, hb, hlc, hcm, hel, hat, _, _⟩
  · simp only [List.cons.injEq, and_true] at e3
    subst e3
    exact ⟨[], none, 0, rfl, .inl rfl, Nat.zero_le _⟩
  · simp only [List.cons.injEq, and_true] at e3
    subst e3
    rw [cellsSaid11] at hat
    have one : ∀ i, i < len → ∃ y : Sd, ∃ (k n : Int) (s : ByteArray) (ao : Option Addr) (ln cp : Nat), w.cells? base (a.add (i * 6)) 6 = some [.int .i64 y.kind, .int .i64 y.pid, .int .i64 k, .int .i64 n, .string s, .slice ao ln cp] ∧ RepV 0 w y.t (.agg #[.int .i64 k, .int .i64 n, .string s, .slice ao ln cp]) := by
      intro i hi
      have ha := hat i hi
      rw [List.getElem?_eq_getElem (by omega)] at ha
      obtain ⟨cs', h1, h2⟩ := Option.bind_eq_some_iff.1 ha
      obtain ⟨y, k, n, s, ao, ln, cp, rfl, hr⟩ := said_of_trod h2
      exact ⟨y, k, n, s, ao, ln, cp, h1, hr⟩
    haveI : Inhabited Sd := ⟨⟨0, 0, .mk 0 0 ByteArray.empty []⟩⟩
    obtain ⟨T, hT⟩ := choose_below one
    have hll : ((List.range len).map T).length = len := by simp
    have hget : ∀ j (hj : j < ((List.range len).map T).length), ((List.range len).map T)[j] = T j := fun j hj => by simp
    refine ⟨(List.range len).map T, some a, cap, by rw [hll], ?_, by rw [hll]; omega⟩
    by_cases h0 : len = 0
    · subst h0; exact .inl rfl
    · obtain ⟨bk, off, spot⟩ := a
      have hsp : spot = none := by
        obtain ⟨k, n, s, ao, ln, cp, hc, _⟩ := hT 0 (by omega)
        obtain ⟨_, _, hcell⟩ := World.cells?_some hc
        have h' := World.cell?_spot (hcell 0 (by omega))
        simpa [Addr.add] using h'
      subst hsp
      refine .inr ⟨bk, off, rfl, fun j hj => ?_⟩
      rw [hget j hj]
      obtain ⟨k, n, s, ao, ln, cp, hc, hr⟩ := hT j (by rw [hll] at hj; exact hj)
      obtain ⟨_, _, hcell⟩ := World.cells?_some hc
      have k0 := hcell 0 (by omega)
      have k1 := hcell 1 (by omega)
      have k2 := hcell 2 (by omega)
      have k3 := hcell 3 (by omega)
      have k4 := hcell 4 (by omega)
      have k5 := hcell 5 (by omega)
      rw [ad_at] at k0 k1 k2 k3 k4 k5
      exact ⟨by simpa using k0, by simpa using k1, repT_of (by simpa using k2) (by simpa using k3) (by simpa using k4) (by simpa using k5) hr⟩
end

theorem cellsPlain11 : Tryz.prog.cellsOf 26 = 4 := by kernel_rfl
theorem cellsIns11 : Tryz.prog.cellsOf 22 = 1 := by kernel_rfl
theorem cellsActs11 : Tryz.prog.cellsOf 23 = 1 := by kernel_rfl
theorem cellsSaids11 : Tryz.prog.cellsOf 24 = 1 := by kernel_rfl
set_option maxRecDepth 100000 in
theorem insS_of_trod {H : Type} {enc : TypeId × Value → H} {w : World} {base : Nat} {sp : Nat → Bool} {held : Bool} (fuel : Nat) (v : Value) (x : DataW H × List MemPlace) (h : DataW.trod enc Tryz.prog w base sp held fuel 22 [v] = some x) :
    ∃ (l : List I) (ao : Option Addr) (cap : Nat), v = .slice ao l.length cap ∧ RowI w ao l ∧ SmI maxLen l ∧ l.length ≤ maxLen := by
  have c6 : Tryz.prog.cellsOf 73 = 6 := by kernel_rfl
  rcases DataW.trod_slice Tryz.underlying22 h with ⟨e3, _⟩ | ⟨a, len, cap, elems, rest, m', hm', e3, _, hb, hlc, hcm, hel, hat, _, _⟩
  · simp only [List.cons.injEq, and_true] at e3
    subst e3
    exact ⟨[], none, 0, rfl, .inl rfl, (by intro x hx; cases hx), Nat.zero_le _⟩
  · simp only [List.cons.injEq, and_true] at e3
    subst e3
    rw [c6] at hat
    have one : ∀ i, i < len → ∃ y : I, w.cells? base (a.add (i * 6)) 6 = some (insL y) ∧ y.s.size ≤ maxLen := by
      intro i hi
      have ha := hat i hi
      rw [List.getElem?_eq_getElem (by omega)] at ha
      obtain ⟨cs', h1, h2⟩ := Option.bind_eq_some_iff.1 ha
      obtain ⟨y, rfl, hs, hI⟩ := ins_of_trod h2
      exact ⟨y, h1, hs⟩
    haveI : Inhabited I := ⟨zeroI⟩
    obtain ⟨T, hT⟩ := choose_below one
    have hll : ((List.range len).map T).length = len := by simp
    have hget : ∀ j (hj : j < ((List.range len).map T).length), ((List.range len).map T)[j] = T j := fun j hj => by simp
    refine ⟨(List.range len).map T, some a, cap, by rw [hll], ?_, fun x hx => ?_, by rw [hll]; omega⟩
    · by_cases h0 : len = 0
      · subst h0; exact .inl rfl
      · obtain ⟨bk, off, spot⟩ := a
        have hsp : spot = none := by
          obtain ⟨hc, _⟩ := hT 0 (by omega)
          obtain ⟨_, _, hcell⟩ := World.cells?_some hc
          have h' := World.cell?_spot (hcell 0 (by omega))
          simpa [Addr.add] using h'
        subst hsp
        refine .inr ⟨bk, off, rfl, fun j hj => ?_⟩
        rw [hget j hj]
        obtain ⟨hc, _⟩ := hT j (by rw [hll] at hj; exact hj)
        obtain ⟨_, _, hcell⟩ := World.cells?_some hc
        have k0 := hcell 0 (by omega)
        have k1 := hcell 1 (by omega)
        have k2 := hcell 2 (by omega)
        have k3 := hcell 3 (by omega)
        have k4 := hcell 4 (by omega)
        have k5 := hcell 5 (by omega)
        rw [ad_at] at k0 k1 k2 k3 k4 k5
        exact ⟨by simpa [insL] using k0, by simpa [insL] using k1, by simpa [insL] using k2, by simpa [insL] using k3, by simpa [insL] using k4, by simpa [insL] using k5⟩
    · obtain ⟨i, hi, rfl⟩ := List.mem_map.1 hx
      exact (hT i (List.mem_range.1 hi)).2

set_option maxRecDepth 100000 in
theorem open_plain {H : Type} {enc : TypeId × Value → H} {W : World} {r : Reach} {b0 base : Nat} {sp : Nat → Bool} {held : Bool} {v : Value} {d : DataW H} {p : List MemPlace}
    (hv : Value.okWide Tryz.prog W r b0 26 v) (h : DataW.Trod enc Tryz.prog W base sp held 26 v d p) :
    ∃ (a : Pl) (g : Pw), v = plV a g ∧ PlR W a g := by
  obtain ⟨cs, rfl, hsz⟩ := okWide_struct Tryz.underlying26 hv
  obtain ⟨fuel, hf⟩ := h
  obtain ⟨xs, n, _, _, hl, hlen, hf⟩ := DataW.trod_struct Tryz.underlying26 hf
  rw [cellsPlain11] at hsz
  obtain ⟨l⟩ := cs
  have hl4 : l.length = 4 := hsz
  match l, hl4, xs, hlen with
  | [v0, v1, v2, v3], _, [y0, y1, y2, y3], _ =>
    have k0 : DataW.trod enc Tryz.prog W base sp held n 22 ((([v0, v1, v2, v3] : List Value).drop 0).take (Tryz.prog.cellsOf 22)) = some y0 := hf 0 _ rfl
    have k1 : DataW.trod enc Tryz.prog W base sp held n 23 ((([v0, v1, v2, v3] : List Value).drop 1).take (Tryz.prog.cellsOf 23)) = some y1 := hf 1 _ rfl
    have k2 : DataW.trod enc Tryz.prog W base sp held n 3 ((([v0, v1, v2, v3] : List Value).drop 2).take (Tryz.prog.cellsOf 3)) = some y2 := hf 2 _ rfl
    have k3 : DataW.trod enc Tryz.prog W base sp held n 24 ((([v0, v1, v2, v3] : List Value).drop 3).take (Tryz.prog.cellsOf 24)) = some y3 := hf 3 _ rfl
    rw [cellsIns11] at k0
    rw [cellsActs11] at k1
    rw [cellsInt] at k2
    rw [cellsSaids11] at k3
    have g0 : DataW.trod enc Tryz.prog W base sp held n 22 [v0] = some y0 := k0
    have g1 : DataW.trod enc Tryz.prog W base sp held n 23 [v1] = some y1 := k1
    have g2 : DataW.trod enc Tryz.prog W base sp held n 3 [v2] = some y2 := k2
    have g3 : DataW.trod enc Tryz.prog W base sp held n 24 [v3] = some y3 := k3
    obtain ⟨next, e2, _, _⟩ := DataW.trod_int Tryz.underlying3 g2
    simp only [List.cons.injEq, and_true] at e2
    subst e2
    obtain ⟨acts, aa, ac, rfl, ha, ha1⟩ := open_actorS n v1 y1 g1
    obtain ⟨out, oa, oc, rfl, ho, ho1⟩ := open_saidS n v3 y3 g3
    obtain ⟨code, ca, cc, rfl, hc, hcs, hc1⟩ := insS_of_trod n v0 y0 g0
    exact ⟨⟨code, acts, next, out⟩, ⟨ca, cc, aa, ac, oa, oc⟩, rfl, hc, ha, ho, hcs, hc1, ha1, ho1⟩
end Go.Proofs.YtgbopbpiciopdaaGreatDoor
namespace Go.Proofs.YtgbopbpiciopdaaGreatDoor.fnExactPlainOk
open Go.ChangeShapes Go.WideShapes Go.ChangeAt Go.RowKit
open Go.Proofs.YtgbopbpiciopdaaGreatDoor.Code
set_option linter.unusedVariables false

theorem laid_of {W : World} (h : laidMetH Tryz.prog Rows.fnExactPlainOkRow.laid W) : (Shp W ∧ Pow W) ∧ Es.Ety W := by
  have h' : laidMet Tryz.prog [("math/bits.deBruijn32tab", Rows.laid_math_bits_deBruijn32tab), ("math/bits.deBruijn64tab", Rows.laid_math_bits_deBruijn64tab), ("internal/strconv.uint64pow10", Rows.laid_internal_strconv_uint64pow10), ("loop.example/g00248/impl.shapes", Rows.laid_loop_example_g00248_impl_shapes)] W ∧ handlesMet Tryz.prog [("errors.errorType", Rows.laid_errors_errorType)] W := h
  have h3 := laidMet.tail (laidMet.tail h'.1)
  exact ⟨⟨shp_of_met (laidMet.tail h3), pow_of_met h3⟩, ety_of (by kernel_rfl) h'.2⟩
theorem shp_of {W : World} (h : laidMetH Tryz.prog Rows.fnExactPlainOkRow.laid W) : Shp W := (laid_of h).1.1

/-- The heap that the variables' own initialisers leave meets the condition. -/
theorem door_met (os : Os) (args : Array Value) : laidMetH Tryz.prog Rows.fnExactPlainOkRow.laid ((World.doorLaid Tryz.prog 400 os).forCall (fun _ _ => 0) ⟨#[], args, []⟩).memory :=
  laidMetH_of_parts3 (fuel := 8) (laidMet_of_run' 8 (by kernel_rfl) (by kernel_rfl)) (by kernel_rfl) (by kernel_rfl)


set_option maxRecDepth 100000 in
theorem lifted (os : Os) (started : os.Started) (H : Type) (enc : TypeId × Value → H) :
    ReturnsInHanded {} Tryz.checked os 3 .any (fun w args => (Rows.fnExactPlainOkSpec.pre enc Tryz.prog Tryz.f3 [] false w args ∧ laidMetH Tryz.prog Rows.fnExactPlainOkRow.laid w) ∧ sizedMet enc Tryz.prog Tryz.f3 (OpenSpec.ofChange Rows.fnExactPlainOkSpec) false w args)
      (Rows.fnExactPlainOkSpec.post enc Tryz.prog Tryz.f3 false true false false) := by
  refine returnsInHanded_of_change_and (C := Tryz.checked) (X := fun w _ => laidMetH Tryz.prog Rows.fnExactPlainOkRow.laid w) (fun _ _ _ hh h => h.of_heap hh) own started (by kernel_rfl) Tryz.func3
    (ChangeSpec.witness_shaped (enc := enc) (C := Tryz.checked) (os := os) (X := fun w _ => laidMetH Tryz.prog Rows.fnExactPlainOkRow.laid w) false (World.doorLaid Tryz.prog 400 os) #[.agg #[.slice none 0 0, .slice none 0 0, .int .i64 0, .slice none 0 0]] 8 rfl (World.shaped_of_RefB (by kernel_rfl) (by kernel_rfl)) (by kernel_rfl) (by kernel_rfl) (by kernel_rfl) (door_met os _)) ?_
  intro W base args ds gs before hval0 hW _ _ hL _
  have hval : ∀ (j : Nat) t v, Tryz.f3.params[j]? = some t → args[j]? = some v → Value.okWide Tryz.prog W .any base t v := hval0
  have hW' := hW
  obtain ⟨p, q, hA0, hV, rfl, hfz, hnd⟩ := hW
  have hA : DataW.TrodAll enc Tryz.prog W 0 (fun _ => true) true Tryz.f3.params.toList args.toList ds p := hA0
  rw [Tryz.params3] at hA hval
  obtain ⟨v0, vs0, d0, ds0, p0, q0, hargs, rfl, rfl, h0, r0⟩ := trodAll_cons hA
  obtain ⟨rfl, rfl, rfl⟩ := trodAll_nil r0
  obtain rfl : args = #[v0] := by cases args; simp_all
  have k0 := h0
  have lt0 : ∀ x ∈ p0, x.block < W.heap.size := by obtain ⟨m, hm⟩ := k0; exact DataW.trod_lt m _ _ _ hm
  obtain ⟨a, g, rfl, ha⟩ := open_plain (hval 0 26 v0 rfl rfl) h0
  have hS := shp_of hL
  clear hA0 hval0
  refine (walk a g W ha hS (laid_of hL).1.2 (laid_of hL).2).mono fun e W' ⟨he, bel⟩ => ?_
  subst he
  obtain ⟨q', hv'⟩ := vars_after (by kernel_rfl) hS hV bel
  have hg : ∃ g, gs = [g] := by
    obtain ⟨g, t, cs, fuel, d, p, e, _⟩ := trodVars_one hV
    exact ⟨d, e⟩
  obtain ⟨g, rfl⟩ := hg
  exact ⟨_, rfl, _, _, _, [], _, q', hW', trodAll_mk1 (shut_bool Tryz.underlying4 _), (trodAll_cons_mk (Below.trod laidOut (by kernel_rfl) (of_decide_eq_true (by kernel_rfl)) k0 bel lt0) trodAll_mk0), hv', bel.frame _, fun h => by cases h⟩

theorem over : Rows.fnExactPlainOkRow.holds Tryz.pinned (OpenSpec.ofChange Rows.fnExactPlainOkSpec) :=
  OpenClaim.holds_of_wide 3 Tryz.f3 rfl rfl rfl rfl rfl rfl rfl ⟨rfl, rfl, rfl, rfl, rfl⟩ rfl rfl rfl rfl rfl (by kernel_rfl) Tryz.func3 (by kernel_rfl)
    (of_decide_eq_true (by kernel_rfl)) (by unfold Func.isWrapper; first | (rw [if_pos (by decide +kernel)]; kernel_rfl) | (rw [if_neg (by decide +kernel)]; exact ⟨rfl, rfl⟩))
    (fun os started H enc _ => lifted os started H enc)
end Go.Proofs.YtgbopbpiciopdaaGreatDoor.fnExactPlainOk
namespace Go.Proofs.YtgbopbpiciopdaaGreatDoor
theorem fnExactPlainOk_holds : Rows.FnExactPlainOkCardSaid :=
  Claim7.holds_tied_plain_at .later [] [.data, .data, .data, .handle, .data] true Rows.fnExactPlainOkCard.stood.harness true
    fnExactPlainOk.over (fun _ h => by cases h) (by kernel_rfl) (fun _ h => by cases h) fnExactPlainOk_row_tie rfl ⟨rfl, rfl⟩ (by kernel_rfl) rfl
    (fun f fn hf hfn => by
      obtain rfl : f = 3 := Option.some.inj ((show Tryz.prog.funcNamed Rows.fnExactPlainOkRow.func = some 3 by kernel_rfl).symm.trans hf) |>.symm
      obtain rfl : fn = Tryz.f3 := (Option.some.inj (Tryz.func3.symm.trans hfn)).symm
      exact ⟨by kernel_rfl, fun j t ht => by
        rw [Tryz.params3] at ht
        have hm : t ∈ [26] := by simpa using Array.mem_of_getElem? ht
        have hall : ([26].all fun u => !Tryz.prog.wantsStandIn u) = true := by kernel_rfl
        exact (show Tryz.prog.wantsStandIn t = false by simpa using List.all_eq_true.1 hall t hm)⟩)
    (by kernel_rfl)
#print axioms fnExactPlainOk_holds
end Go.Proofs.YtgbopbpiciopdaaGreatDoor
