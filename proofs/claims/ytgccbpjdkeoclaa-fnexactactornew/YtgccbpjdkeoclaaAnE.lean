/-
  What the laws mark, and find marked, of an actor with no word that waits and no link; of a term.
-/
import Derived.Test.YtgccbpjdkeoclaaMkD
import Derived.Test.YtgccbpjdkeoclaaAcD
namespace Go.Proofs.Ytgccbpjdkeoclaa
open Go.RowKit
set_option linter.unusedVariables false

theorem markIntS_nil (K : Int) (w : World) : Calls Try.prog 26 #[.slice none 0 0, .int .i64 K] w fun e w' => e = .returned (.int .i64 K) ∧ w' = w := by
  go_enter Try.func26, Try.ntmps26
  go_wp2_with fail
  go_loopw [1, 5] (fun vk vi wr => vk = .int .i64 K ∧ vi = .int .i64 0 ∧ wr = w) (fun _ _ _ => 0)
  case atStart => exact ⟨rfl, rfl, rfl⟩
  case round =>
    obtain ⟨rfl, rfl, rfl⟩ := hrel
    go_wp2_with fail
    go_ret
    exact ⟨rfl, rfl⟩
theorem heldIntS_nil (K : Int) (w : World) : Calls Try.prog 28 #[.slice none 0 0, .int .i64 K] w fun e w' => e = .returned (.int .i64 K) ∧ w' = w := by
  go_enter Try.func28, Try.ntmps28
  go_wp2_with fail
  go_loopw [1, 5] (fun vk vi wr => vk = .int .i64 K ∧ vi = .int .i64 0 ∧ wr = w) (fun _ _ _ => 0)
  case atStart => exact ⟨rfl, rfl, rfl⟩
  case round =>
    obtain ⟨rfl, rfl, rfl⟩ := hrel
    go_wp2_with fail
    go_ret
    exact ⟨rfl, rfl⟩

set_option maxHeartbeats 1000000 in
theorem markTermB_any (k0 n0 : Int) (s0 : ByteArray) (l : List Tm) (ao : Option Addr) (cap : Nat) (bs : List Nat) (w : World) (h : OsL w l bs ao) (hnd : bs.Nodup) (hlc : l.length ≤ cap) (hcm : cap ≤ maxLen) (hc : 1 + cL l ≤ 8999990) :
    Calls Try.prog 10 #[.agg #[.int .i64 k0, .int .i64 n0, .string s0, .slice ao l.length cap], .int .i64 1] w fun e w' => e = .returned (.int .i64 ((1 + cL l : Nat) : Int)) ∧ OsL w' (mrL l 1) bs ao ∧ OutB bs w w' := by
  obtain ⟨W, hW⟩ : ∃ W, W = w.alloc (.cells #[.int .i64 k0, .int .i64 n0, .string s0, .slice ao l.length cap] 32) := ⟨_, rfl⟩
  have hb : Below w.heap.size w W := by rw [hW]; exact (Below.refl _ _).alloc (Nat.le_refl _) _
  have HC : Hid (Calls Try.prog 25 #[.slice ao l.length cap, .int .i64 1] W fun e w' => e = .returned (.int .i64 ((1 + cL l : Nat) : Int)) ∧ OsL w' (mrL l 1) bs ao ∧ OutB bs W w') := mkB_all l W bs ao cap 1 (OsL.below hb h) hnd hlc hcm (Nat.le_refl _) hc
  have HB : Hid (Below w.heap.size w W) := hb
  clear h hnd hlc hcm hc hb
  go_enter Try.func10, Try.ntmps10
  go_wp2_with (go_at_call 25; fail)
  rw [← hW]
  clear hW
  refine HC.out.mono ?_
  rintro e w1 ⟨rfl, h1, h2⟩
  have H1 : Hid (OsL w1 (mrL l 1) bs ao ∧ OutB bs W w1) := ⟨h1, h2⟩
  clear h1 h2
  generalize hK : ((1 + cL l : Nat) : Int) = K
  have HK : Hid (((1 + cL l : Nat) : Int) = K) := hK
  clear hK
  go_wp2_with fail
  go_ret
  exact ⟨ret_int HK.out.symm, H1.out.1, (OutB.below HB.out).trans H1.out.2⟩

set_option maxHeartbeats 1000000 in
set_option maxRecDepth 100000 in
theorem markActorB_any (pid pc : Int) (l : List Tm) (ra : Option Addr) (rc : Nat) (bs : List Nat) (w : World) (h : OsL w l bs ra) (hnd : bs.Nodup) (hlc : l.length ≤ rc) (hcm : rc ≤ maxLen) (hc : 1 + cL l ≤ 8999990) :
    Calls Try.prog 11 #[.agg #[.int .i64 pid, .int .i64 pc, .slice ra l.length rc, .slice none 0 0, .slice none 0 0], .int .i64 1] w fun e w' => e = .returned (.int .i64 ((1 + cL l : Nat) : Int)) ∧ OsL w' (mrL l 1) bs ra ∧ OutB bs w w' := by
  obtain ⟨W, hW⟩ : ∃ W, W = w.alloc (.cells #[.int .i64 pid, .int .i64 pc, .slice ra l.length rc, .slice none 0 0, .slice none 0 0] 29) := ⟨_, rfl⟩
  have hb : Below w.heap.size w W := by rw [hW]; exact (Below.refl _ _).alloc (Nat.le_refl _) _
  have hlt := OsL.lt l bs ra h
  have q : ∀ o, W.cell? ⟨w.heap.size, o, none⟩ = (#[.int .i64 pid, .int .i64 pc, .slice ra l.length rc, .slice none 0 0, .slice none 0 0] : Array Value)[o]? := fun o => by rw [hW, World.cell?_alloc_new]
  have hsW : w.heap.size < W.heap.size := by rw [hW]; simp
  have HC : Hid (Calls Try.prog 25 #[.slice ra l.length rc, .int .i64 1] W fun e w' => e = .returned (.int .i64 ((1 + cL l : Nat) : Int)) ∧ OsL w' (mrL l 1) bs ra ∧ OutB bs W w' ∧ w'.cell? ⟨w.heap.size, 3, none⟩ = some (.slice none 0 0) ∧ w'.cell? ⟨w.heap.size, 4, none⟩ = some (.slice none 0 0)) := by
    refine (mkB_all l W bs ra rc 1 (OsL.below hb h) hnd hlc hcm (Nat.le_refl _) hc).mono ?_
    rintro e w1 ⟨h1, h2, h3⟩
    have hk := h3.block w.heap.size hsW (fun hm => by have := hlt _ hm; omega)
    exact ⟨h1, h2, h3, (World.cell?_of_block (w := W) hk).trans (q 3), (World.cell?_of_block (w := W) hk).trans (q 4)⟩
  have HB : Hid (Below w.heap.size w W) := hb
  have HKB : Hid (1 + cL l ≤ 8999990) := hc
  clear h hnd hlc hcm hc hb hlt q hsW
  go_enter Try.func11, Try.ntmps11
  go_wp2_with (go_at_call 25; fail)
  rw [← hW]
  clear hW
  refine HC.out.mono ?_
  rintro e w1 ⟨rfl, h1, h2, q3, q4⟩
  have H1 : Hid (OsL w1 (mrL l 1) bs ra ∧ OutB bs W w1) := ⟨h1, h2⟩
  have HM2 : Hid (∀ ww, Calls Try.prog 25 #[.slice none 0 0, .int .i64 ((1 + cL l : Nat) : Int)] ww fun e w' => e = .returned (.int .i64 ((1 + cL l : Nat) : Int)) ∧ OutB [] ww w') := fun ww =>
    (mkB_all [] ww [] none 0 (1 + cL l) (by rw [OsL]) (by simp) (Nat.le_refl _) (Nat.zero_le _) (by omega) (by rw [cL]; exact HKB.out)).mono fun e w' ⟨a1, a2, a3⟩ => ⟨by rw [a1, cL]; rfl, a3⟩
  clear h1 h2
  generalize hK : ((1 + cL l : Nat) : Int) = K at HM2
  have HK : Hid (((1 + cL l : Nat) : Int) = K) := hK
  clear hK
  go_wp2_with (go_at_call 25; fail)
  refine (HM2.out _).mono ?_
  rintro e w2 ⟨rfl, h2⟩
  have hz1 : w.heap.size < w1.heap.size := World.block_lt_of_cell? w1 _ q3
  have H2 : Hid (OutB [] w1 w2) := h2
  have q4' : w2.cell? ⟨w.heap.size, 4, none⟩ = some (.slice none 0 0) := (World.cell?_of_block (w := w1) (h2.block w.heap.size hz1 (by simp))).trans q4
  clear h2 q3 q4
  go_wp2_with (go_at_call 26; fail)
  refine (markIntS_nil _ _).mono ?_
  rintro e w3 ⟨rfl, hw3⟩
  obtain rfl := hw3.symm
  go_wp2_with fail
  go_ret
  refine ⟨ret_int HK.out.symm, OsL.keep _ _ _ (fun x _ hx => H2.out.block x hx (by simp)) H1.out.1, ?_⟩
  exact ((OutB.below HB.out).trans H1.out.2).trans (H2.out.wide (fun x hx => by cases hx))

set_option maxHeartbeats 1000000 in
set_option maxRecDepth 100000 in
theorem heldActorB_any (pid pc : Int) (l : List Tm) (ra : Option Addr) (rc : Nat) (w : World) (h : RepL 0 w (mrL l 1) ra) (hlc : l.length ≤ rc) (hcm : rc ≤ maxLen) (hc : 1 + cL l ≤ 8999990) :
    Calls Try.prog 12 #[.agg #[.int .i64 pid, .int .i64 pc, .slice ra l.length rc, .slice none 0 0, .slice none 0 0], .int .i64 1] w fun e w' => e = .returned (.int .i64 ((1 + cL l : Nat) : Int)) ∧ Below w.heap.size w w' := by
  obtain ⟨W, hW⟩ : ∃ W, W = w.alloc (.cells #[.int .i64 pid, .int .i64 pc, .slice ra l.length rc, .slice none 0 0, .slice none 0 0] 29) := ⟨_, rfl⟩
  have hb : Below w.heap.size w W := by rw [hW]; exact (Below.refl _ _).alloc (Nat.le_refl _) _
  have q : ∀ o, W.cell? ⟨w.heap.size, o, none⟩ = (#[.int .i64 pid, .int .i64 pc, .slice ra l.length rc, .slice none 0 0, .slice none 0 0] : Array Value)[o]? := fun o => by rw [hW, World.cell?_alloc_new]
  have HC : Hid (Calls Try.prog 27 #[.slice ra l.length rc, .int .i64 1] W fun e w' => e = .returned (.int .i64 ((1 + cL l : Nat) : Int)) ∧ Below W.heap.size W w') := heS_all l W ra rc 1 (repL_below h hb) hlc hcm (Nat.le_refl _) hc
  have HQ : Hid (∀ w1, Below W.heap.size W w1 → w1.cell? ⟨w.heap.size, 3, none⟩ = some (.slice none 0 0) ∧ w1.cell? ⟨w.heap.size, 4, none⟩ = some (.slice none 0 0)) := fun w1 hb => ⟨keepA hb (q 3), keepA hb (q 4)⟩
  have HB : Hid (Below w.heap.size w W) := hb
  have HKB : Hid (1 + cL l ≤ 8999990) := hc
  clear h hlc hcm hc hb q
  go_enter Try.func12, Try.ntmps12
  go_wp2_with (go_at_call 27; fail)
  rw [← hW]
  clear hW
  refine HC.out.mono ?_
  rintro e w1 ⟨rfl, hb1⟩
  obtain ⟨q3, q4⟩ := HQ.out w1 hb1
  have HB1 : Hid (Below W.heap.size W w1) := hb1
  have HM2 : Hid (∀ ww, Calls Try.prog 27 #[.slice none 0 0, .int .i64 ((1 + cL l : Nat) : Int)] ww fun e w' => e = .returned (.int .i64 ((1 + cL l : Nat) : Int)) ∧ Below ww.heap.size ww w') := fun ww =>
    (heS_all [] ww none 0 (1 + cL l) (by rw [mrL, RepL]; trivial) (Nat.le_refl _) (Nat.zero_le _) (by omega) (by rw [cL]; exact HKB.out)).mono fun e w' ⟨a1, a3⟩ => ⟨by rw [a1, cL]; rfl, a3⟩
  clear hb1
  generalize hK : ((1 + cL l : Nat) : Int) = K at HM2
  have HK : Hid (((1 + cL l : Nat) : Int) = K) := hK
  have hK0 : 0 ≤ K := by omega
  have hK1 : ¬ K < 0 := by omega
  clear hK
  go_wp2_with (go_at_call 27; fail)
  refine (HM2.out _).mono ?_
  rintro e w2 ⟨rfl, hb2⟩
  have HB2 : Hid (Below W.heap.size W w2) := HB1.out.trans (hb2.mono HB1.out.size)
  clear q3 q4
  obtain ⟨q3, q4⟩ := HQ.out w2 HB2.out
  clear hb2
  go_wp2_with (go_at_call 28; fail)
  refine (heldIntS_nil _ _).mono ?_
  rintro e w3 ⟨rfl, hw3⟩
  obtain rfl := hw3.symm
  go_wp2_with fail
  go_ret
  exact ⟨ret_int HK.out.symm, HB.out.trans (HB2.out.mono HB.out.size)⟩
end Go.Proofs.Ytgccbpjdkeoclaa
