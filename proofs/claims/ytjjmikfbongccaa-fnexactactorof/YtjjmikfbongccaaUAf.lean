/-
  At every cell, pair of lists with its mark, and atoms that memory can hold, right or not, the program's ActorOf answers as the specification's, every field, writes into no argument, and its answer owns its memory: the law FnExactActorOf returns true and its arguments read as before. No condition.
  (Ahead of it, in this text: Marks of an actor whose lists and all within them stand apart. Measures and marks of two lists, from any number on. Actors compared. The law of the actor that a cell is: what it has in hand. The law of the actor that a cell is, walked. The law of the actor that a cell is: what it has in hand behind the program's answer. The law of the actor that a cell is, walked.)
-/
import Derived.Test.YtjjmikfbongccaaUAc
import Derived.Test.YtjjmikfbongccaaUMk
import Derived.Test.YtjjmikfbongccaaAcC
import Derived.Deep.CutRange
import Derived.OpenShut
import Derived.ChangeOld
import Derived.SliceStrings
import Derived.ShutString
namespace Go.Proofs.Ytjjmikfbongccaa.Gn
open Go.RowKit
set_option linter.unusedVariables false

set_option maxHeartbeats 1000000 in
theorem markIntS_G (b o N cap : Nat) (f : Nat → Int) (w : World) (hI : Ints w b o N f) (k : Int) (hk : 0 ≤ k ∧ k ≤ 4000000000) (hN : N ≤ 1048576) :
    Calls Try.prog 12 #[.slice (some ⟨b, o, none⟩) N cap, .int .i64 k] w fun e w' => e = .returned (.int .i64 (k + N)) ∧ Turn b w w' ∧ Ints w' b o N (fun j => k + j) := by
  have HI : Hid (Ints w b o N f) := hI
  clear hI
  go_enter Try.func12, Try.ntmps12
  go_wp2_with fail
  go_loopw [1, 5] (fun a i w' => ∃ m : Nat, m ≤ N ∧ i = .int .i64 m ∧ a = .int .i64 (k + m) ∧ Turn b w w' ∧ Ints w' b o N (fun j => if j < m then k + j else f j)) (fun _ i _ => N - (intOf i).toNat)
  case atStart => exact ⟨0, Nat.zero_le _, by simp, by simp, Turn.refl _ _, HI.out.congr (fun j _ => by rw [if_neg (by omega)])⟩
  case round =>
    obtain ⟨m, hm, rfl, rfl, ht, hi⟩ := hrel
    have HT : Hid (Turn b w wr) := ht
    have HI2 : Hid (Ints wr b o N (fun j => if j < m then k + j else f j)) := hi
    by_cases hlt : m < N
    · have cm := hi.cell m hlt
      rw [if_neg (by omega)] at cm
      have fr : ∀ x, wr.frozen? ⟨b, x, none⟩ = false := hi.free
      clear ht hi
      go_wp2_with fail
      go_roundw
      case rel =>
        refine ⟨m + 1, by omega, by go_num, by go_num, HT.out.set _ _, (HI2.out.set m hlt _).congr fun j _ => ?_⟩
        unfold upd
        by_cases e : j = m
        · subst e
          rw [if_pos rfl, if_pos (by omega)]
        · rw [if_neg e]
          dsimp only
          by_cases e2 : j < m
          · rw [if_pos e2, if_pos (by omega)]
          · rw [if_neg e2, if_neg (by omega)]
      case measure => simp [intOf]; omega
    · have hme : m = N := by omega
      subst hme
      clear ht hi
      go_wp2_with fail
      go_ret
      exact ⟨rfl, HT.out, HI2.out.congr (fun j hj => by rw [if_pos hj])⟩
theorem markIntS_LG (ao : Option Addr) (cap n lo hi : Nat) (f : Nat → Int) (w : World) (h : Ls w lo hi ao n f) (hn : n ≤ 1048576) (k : Int) (hk : 0 ≤ k ∧ k ≤ 4000000000) :
    Calls Try.prog 12 #[.slice ao n cap, .int .i64 k] w fun e w' => e = .returned (.int .i64 (k + n)) ∧ MkL w w' lo hi ∧ Ls w' lo hi ao n (mkd k) := by
  by_cases h0 : n = 0
  · subst h0
    refine (markIntS_no ao cap k w).mono ?_
    rintro e w' ⟨rfl, rfl⟩
    exact ⟨by simp, ⟨rfl, rfl, rfl, Nat.le_refl _, fun _ _ _ => rfl⟩, fun h => absurd rfl h⟩
  · obtain ⟨g, rfl, h1, h2, hi'⟩ := h h0
    refine (markIntS_G g 0 n cap f w hi' k hk hn).mono ?_
    rintro e w' ⟨rfl, ht, hm⟩
    exact ⟨rfl, ⟨ht.os, ht.tape, ht.output, ht.size, fun b hb hx => ht.block b hb (by omega)⟩, fun _ => ⟨g, rfl, h1, h2, hm⟩⟩
set_option maxHeartbeats 1000000 in
theorem heldIntS_G (ao : Option Addr) (cap n : Nat) (w : World) (k : Int) (h : RdI w ao n (mkd k)) (hn : n ≤ 1048576) (hk : 0 ≤ k ∧ k ≤ 4000000000) :
    Calls Try.prog 13 #[.slice ao n cap, .int .i64 k] w fun e w' => e = .returned (.int .i64 (k + n)) ∧ w' = w := by
  have HR : Hid (RdI w ao n (mkd k)) := h
  clear h
  go_enter Try.func13, Try.ntmps13
  go_wp2_with fail
  go_loop [1, 5] (fun a i => ∃ m : Nat, m ≤ n ∧ i = .int .i64 m ∧ a = .int .i64 (k + m)) (fun _ i => n - (intOf i).toNat)
  case atStart => exact ⟨0, Nat.zero_le _, by simp, by simp⟩
  case round =>
    obtain ⟨m, hm, rfl, rfl⟩ := hrel
    by_cases hlt : m < n
    · obtain ⟨b, o, rfl, hc⟩ := HR.out (by omega)
      have q := hc m hlt
      unfold mkd at q
      clear hc
      have hw : IntKind.i64.wrap (k + (m : Int)) = k + m := by rw [IntKind.wrap_i64]; omega
      go_wp2_with fail
      go_round
      case rel => exact ⟨m + 1, by omega, by go_num, by go_num⟩
      case measure => simp [intOf]; omega
    · have e : m = n := by omega
      subst e
      go_wp2_with fail
      go_ret
      exact ⟨rfl, rfl⟩

/-- An actor, marked. -/
def mrA (a : Ac) : Ac := { a with regs := mrL a.regs 1, box := mrL a.box (1 + cL a.regs), f := mkd ((1 + cL a.regs + cL a.box : Nat) : Int) }
/-- How many marks it has. -/
def cA (a : Ac) : Nat := 1 + cL a.regs + cL a.box + a.N
theorem AcO.mark {w w' : World} {lo hi : Nat} {a a' : Ac} {h : Wh} (x : AcO w lo hi a h) (hr : a'.regs.length = a.regs.length) (hb : a'.box.length = a.box.length) (hn : a'.N = a.N) (ho : ∃ m1 m2, lo ≤ m1 ∧ m1 ≤ m2 ∧ m2 ≤ hi ∧ OwL w' a'.regs lo m1 h.ra ∧ OwL w' a'.box m1 m2 h.ba ∧ Ls w' m2 hi h.la a'.N a'.f) : AcO w' lo hi a' h :=
  ⟨ho, by rw [hr]; exact x.r1, x.r2, by rw [hb]; exact x.b1, x.b2, by rw [hn]; exact x.l1, x.l2⟩

set_option maxHeartbeats 1000000 in
set_option maxRecDepth 100000 in
theorem markActor_any (a : Ac) (h : Wh) (lo hi : Nat) (w : World) (x : AcO w lo hi a h) (hh : hi ≤ w.heap.size) (hc : cA a ≤ 3999999990) (hN : a.N ≤ 1048576) :
    Calls Try.prog 25 #[acV a h, .int .i64 1] w fun e w' => e = .returned (.int .i64 (cA a : Nat)) ∧ MkL w w' lo hi ∧ AcO w' lo hi (mrA a) h := by
  obtain ⟨m1, m2, h1, h2, h3, h4, h5, h6⟩ := x.own
  have HX : Hid (AcO w lo hi a h) := x
  have HO : Hid (lo ≤ m1 ∧ m1 ≤ m2 ∧ m2 ≤ hi ∧ hi ≤ w.heap.size) := ⟨h1, h2, h3, hh⟩
  have HP : Hid (OwL w a.regs lo m1 h.ra ∧ OwL w a.box m1 m2 h.ba ∧ Ls w m2 hi h.la a.N a.f) := ⟨h4, h5, h6⟩
  have HN : Hid (a.N ≤ 1048576) := hN
  clear x h1 h2 h3 h4 h5 h6 hh hN
  obtain ⟨pid, pc, regs, box, N, f⟩ := a
  obtain ⟨ra, rc, ba, bc, la, lc⟩ := h
  have HC : Hid (1 + cL regs + cL box + N ≤ 3999999990) := hc
  clear hc
  have HL1 : Hid (regs.length ≤ rc ∧ rc ≤ maxLen ∧ box.length ≤ bc ∧ bc ≤ maxLen) := ⟨HX.out.r1, HX.out.r2, HX.out.b1, HX.out.b2⟩
  go_enter Try.func25, Try.ntmps25
  go_wp2_with fail
  generalize hA : w.alloc (.cells #[.int .i64 pid, .int .i64 pc, .slice ra regs.length rc, .slice ba box.length bc, .slice la N lc] 41) = wa
  have hba : Below w.heap.size w wa := by rw [← hA]; exact (Below.refl _ _).alloc (Nat.le_refl _) _
  have hza : wa.heap.size = w.heap.size + 1 := by rw [← hA, World.size_alloc]
  have qa : ∀ o, wa.cell? ⟨w.heap.size, o, none⟩ = (#[.int .i64 pid, .int .i64 pc, .slice ra regs.length rc, .slice ba box.length bc, .slice la N lc] : Array Value)[o]? := fun o => by rw [← hA]; exact World.cell?_alloc_new w _ _ o
  have HBA : Hid (Below w.heap.size w wa ∧ wa.heap.size = w.heap.size + 1) := ⟨hba, hza⟩
  have HQA : Hid (∀ o, wa.cell? ⟨w.heap.size, o, none⟩ = (#[.int .i64 pid, .int .i64 pc, .slice ra regs.length rc, .slice ba box.length bc, .slice la N lc] : Array Value)[o]?) := qa
  have o0 := HO.out
  have HPA : Hid (OwL wa regs lo m1 ra ∧ OwL wa box m1 m2 ba ∧ Ls wa m2 hi la N f) := ⟨OwL.keep _ _ _ _ (fun b _ _ hb => hba.block b hb) HP.out.1, OwL.keep _ _ _ _ (fun b _ _ hb => hba.block b hb) HP.out.2.1, HP.out.2.2.keep fun b _ hb => hba.block b (by omega)⟩
  clear hA hba hza qa o0
  have c1 : 1 + cL regs ≤ 3999999990 := by have := HC.out; omega
  refine (mkS_all regs wa lo m1 ra rc 1 HPA.out.1 (by have := HO.out; have := HBA.out.2; omega) HL1.out.1 HL1.out.2.1 (by omega) c1).mono ?_
  rintro e w1 ⟨rfl, ho1, hu1⟩
  have o0 := HO.out
  have oz := HBA.out.2
  have HZ1 : Hid (wa.heap.size ≤ w1.heap.size) := hu1.size
  have HP1 : Hid (OwL w1 (mrL regs 1) lo m1 ra ∧ OwL w1 box m1 m2 ba ∧ Ls w1 m2 hi la N f) := ⟨ho1, OwL.keep _ _ _ _ (fun b h1 h2 hb => hu1.block b hb (by omega)) HPA.out.2.1, HPA.out.2.2.keep fun b h1 h2 => hu1.block b (by omega) (by omega)⟩
  have HU1 : Hid (Out lo m1 wa w1) := hu1
  have q1 : ∀ o, w1.cell? ⟨w.heap.size, o, none⟩ = (#[.int .i64 pid, .int .i64 pc, .slice ra regs.length rc, .slice ba box.length bc, .slice la N lc] : Array Value)[o]? := fun o => by rw [World.cell?_of_block (w := wa) (hu1.block w.heap.size (by omega) (by omega))]; exact HQA.out o
  clear ho1 hu1 o0 oz
  go_wp2_with fail
  have c2 : 1 + cL regs + cL box ≤ 3999999990 := by have := HC.out; omega
  refine (mkS_all box w1 m1 m2 ba bc (1 + cL regs) HP1.out.2.1 (by have := HO.out; have := HBA.out.2; have := HZ1.out; omega) HL1.out.2.2.1 HL1.out.2.2.2 (by omega) c2).mono ?_
  rintro e w2 ⟨rfl, ho2, hu2⟩
  have o0 := HO.out
  have oz := HBA.out.2
  have oz1 := HZ1.out
  have HZ2 : Hid (w1.heap.size ≤ w2.heap.size) := hu2.size
  have HP2 : Hid (OwL w2 (mrL regs 1) lo m1 ra ∧ OwL w2 (mrL box (1 + cL regs)) m1 m2 ba ∧ Ls w2 m2 hi la N f) := ⟨OwL.keep _ _ _ _ (fun b h1 h2 hb => hu2.block b hb (by omega)) HP1.out.1, ho2, HP1.out.2.2.keep fun b h1 h2 => hu2.block b (by omega) (by omega)⟩
  have HU2 : Hid (Out m1 m2 w1 w2) := hu2
  have q2 : ∀ o, w2.cell? ⟨w.heap.size, o, none⟩ = (#[.int .i64 pid, .int .i64 pc, .slice ra regs.length rc, .slice ba box.length bc, .slice la N lc] : Array Value)[o]? := fun o => by rw [World.cell?_of_block (w := w1) (hu2.block w.heap.size (by omega) (by omega))]; exact q1 o
  clear ho2 hu2 q1 o0 oz oz1
  go_wp2_with fail
  have hk3 : (0 : Int) ≤ ((1 + cL regs + cL box : Nat) : Int) ∧ ((1 + cL regs + cL box : Nat) : Int) ≤ 4000000000 := by omega
  refine (markIntS_LG la lc N m2 hi f w2 HP2.out.2.2 HN.out ((1 + cL regs + cL box : Nat) : Int) hk3).mono ?_
  rintro e w3 ⟨rfl, hu3, ho3⟩
  have o0 := HO.out
  have oz := HBA.out.2
  have oz1 := HZ1.out
  have oz2 := HZ2.out
  have HFIN : Hid (MkL w w3 lo hi ∧ AcO w3 lo hi (mrA ⟨pid, pc, regs, box, N, f⟩) ⟨ra, rc, ba, bc, la, lc⟩) := by
    refine ⟨⟨hu3.os.trans (HU2.out.os.trans (HU1.out.os.trans HBA.out.1.os)), hu3.tape.trans (HU2.out.tape.trans (HU1.out.tape.trans HBA.out.1.tape)), hu3.output.trans (HU2.out.output.trans (HU1.out.output.trans HBA.out.1.output)), by have := hu3.size; omega, fun b hb hx => ?_⟩, ?_⟩
    · rw [hu3.block b (by omega) (by omega), HU2.out.block b (by omega) (by omega), HU1.out.block b (by omega) (by omega), HBA.out.1.block b hb]
    · exact AcO.mark (w := w) HX.out (mrL_len _ _) (mrL_len _ _) rfl ⟨m1, m2, o0.1, o0.2.1, o0.2.2.1, OwL.keep _ _ _ _ (fun b h1 h2 hb => hu3.block b hb (by omega)) HP2.out.1, OwL.keep _ _ _ _ (fun b h1 h2 hb => hu3.block b hb (by omega)) HP2.out.2.1, ho3⟩
  have HK : Hid (((1 + cL regs + cL box : Nat) : Int) + N = ((cA ⟨pid, pc, regs, box, N, f⟩ : Nat) : Int)) := by show _ = _; unfold cA; dsimp only; omega
  clear hu3 ho3 q2 o0 oz oz1 oz2
  rw [HK.out]
  go_wp2_with fail
  go_ret
  exact ⟨rfl, HFIN.out⟩

set_option maxHeartbeats 1000000 in
set_option maxRecDepth 100000 in
theorem heldActor_any (a : Ac) (h : Wh) (w : World) (x : AcR w (mrA a) h) (hc : cA a ≤ 3999999990) (hN : a.N ≤ 1048576) :
    Calls Try.prog 26 #[acV a h, .int .i64 1] w fun e w' => e = .returned (.int .i64 (cA a : Nat)) ∧ Below w.heap.size w w' := by
  obtain ⟨pid, pc, regs, box, N, f⟩ := a
  obtain ⟨ra, rc, ba, bc, la, lc⟩ := h
  have HX : Hid (AcR w (mrA ⟨pid, pc, regs, box, N, f⟩) ⟨ra, rc, ba, bc, la, lc⟩) := x
  have HL1 : Hid (regs.length ≤ rc ∧ rc ≤ maxLen ∧ box.length ≤ bc ∧ bc ≤ maxLen) := ⟨by have := x.r1; unfold mrA at this; dsimp only at this; rw [mrL_len] at this; exact this, x.r2, by have := x.b1; unfold mrA at this; dsimp only at this; rw [mrL_len] at this; exact this, x.b2⟩
  have HC : Hid (1 + cL regs + cL box + N ≤ 3999999990) := hc
  have HN : Hid (N ≤ 1048576) := hN
  have HK : Hid (((1 + cL regs + cL box : Nat) : Int) + N = ((cA ⟨pid, pc, regs, box, N, f⟩ : Nat) : Int)) := by show _ = _; unfold cA; dsimp only; omega
  clear x hc hN
  go_enter Try.func26, Try.ntmps26
  go_wp2_with fail
  generalize hA : w.alloc (.cells #[.int .i64 pid, .int .i64 pc, .slice ra regs.length rc, .slice ba box.length bc, .slice la N lc] 41) = wa
  have hba : Below w.heap.size w wa := by rw [← hA]; exact (Below.refl _ _).alloc (Nat.le_refl _) _
  have qa : ∀ o, wa.cell? ⟨w.heap.size, o, none⟩ = (#[.int .i64 pid, .int .i64 pc, .slice ra regs.length rc, .slice ba box.length bc, .slice la N lc] : Array Value)[o]? := fun o => by rw [← hA]; exact World.cell?_alloc_new w _ _ o
  have hlt : w.heap.size < wa.heap.size := by rw [← hA, World.size_alloc]; omega
  have HBA : Hid (Below w.heap.size w wa ∧ w.heap.size < wa.heap.size) := ⟨hba, hlt⟩
  have HQ : Hid (∀ w', Below wa.heap.size wa w' → ∀ o, w'.cell? ⟨w.heap.size, o, none⟩ = (#[.int .i64 pid, .int .i64 pc, .slice ra regs.length rc, .slice ba box.length bc, .slice la N lc] : Array Value)[o]?) := fun w' hb o => by rw [hb.cell (p := ⟨w.heap.size, o, none⟩) hlt]; exact qa o
  clear hA hba qa hlt
  refine (heS_all regs wa ra rc 1 ((HX.out.below HBA.out.1).regs) HL1.out.1 HL1.out.2.1 (by omega) (by have := HC.out; omega)).mono ?_
  rintro e w1 ⟨rfl, hb1⟩
  have q1 := HQ.out w1 hb1
  have HB1 : Hid (Below wa.heap.size wa w1) := hb1
  have HBW1 : Hid (Below w.heap.size w w1) := HBA.out.1.trans (hb1.mono HBA.out.1.size)
  have hk1 : ¬ (((1 + cL regs : Nat) : Int) < 0) := by omega
  clear hb1
  go_wp2_with fail
  refine (heS_all box w1 ba bc (1 + cL regs) ((HX.out.below HBW1.out).box) HL1.out.2.2.1 HL1.out.2.2.2 (by omega) (by have := HC.out; omega)).mono ?_
  rintro e w2 ⟨rfl, hb2⟩
  have q2 := HQ.out w2 (HB1.out.trans (hb2.mono HB1.out.size))
  have HBW2 : Hid (Below w.heap.size w w2) := HBW1.out.trans (hb2.mono HBW1.out.size)
  have hk2 : ¬ (((1 + cL regs + cL box : Nat) : Int) < 0) := by omega
  clear hb2 q1
  go_wp2_with fail
  have hk3 : (0 : Int) ≤ ((1 + cL regs + cL box : Nat) : Int) ∧ ((1 + cL regs + cL box : Nat) : Int) ≤ 4000000000 := by have := HC.out; omega
  refine (heldIntS_G la lc N w2 ((1 + cL regs + cL box : Nat) : Int) ((HX.out.below HBW2.out).links) HN.out hk3).mono ?_
  rintro e w3 ⟨rfl, hw3⟩
  obtain rfl := hw3.symm
  rw [HK.out]
  have hk4 : ¬ (((cA ⟨pid, pc, regs, box, N, f⟩ : Nat) : Int) < 0) := by omega
  clear q2
  go_wp2_with fail
  go_ret
  exact ⟨rfl, HBW2.out⟩

/-! ### How many marks an actor that was read has -/
theorem cT_tmO (H : Hp) (x : Int) : cT (tmO (readT H x)) ≤ 300 := by
  unfold readT
  cases hq : rT true H 6 x 100 with
  | none =>
    simp only [Option.map_none, tmO]
    rw [cT, cL]; omega
  | some p =>
    obtain ⟨t, y⟩ := p
    simp only [Option.map_some, tmO]
    have hl := rT_look 6 x 100 t y hq
    have := look_cT t 6 100 y hl
    omega
theorem cL_tms (H : Hp) : ∀ R : List Int, cL (tms H R) ≤ 300 * R.length
  | [] => by simp [tms, cL]
  | x :: r => by
    have h1 := cT_tmO H x
    have h2 := cL_tms H r
    have e : tms H (x :: r) = tmO (readT H x) :: tms H r := rfl
    rw [e, cL, List.length_cons]
    omega
theorem cA_act (H : Hp) (c : Ce) (h : CeS c) : cA (actOf H c) ≤ 3999999990 ∧ (actOf H c).N ≤ 1048576 := by
  unfold CeS at h
  cases hk : okA H c with
  | false =>
    rw [actOf_no hk]
    refine ⟨?_, by dsimp only; omega⟩
    show 1 + cL [] + cL [] + 0 ≤ _
    rw [cL]; omega
  | true =>
    unfold actOf
    rw [if_pos hk]
    refine ⟨?_, by dsimp only; omega⟩
    have h1 := cL_tms H (rowL c.R c.r)
    have h2 := cL_tms H (rowL c.B c.b)
    rw [rowL_len] at h1 h2
    show 1 + cL (tms H (rowL c.R c.r)) + cL (tms H (rowL c.B c.b)) + c.N ≤ _
    omega
end Go.Proofs.Ytjjmikfbongccaa.Gn
namespace Go.Proofs.Ytjjmikfbongccaa.Gn
open Go.RowKit
set_option linter.unusedVariables false

set_option maxRecDepth 100000 in
theorem szGens_L (ao : Option Addr) (N cap : Nat) (yo : Option Addr) (M ycap : Nat) (mk : Int) (left : Int) (hN : N ≤ maxLen) (hM : M ≤ maxLen) (h0 : 0 ≤ left ∧ left ≤ 1048576) (w : World) :
    Calls Try.prog 14 #[.agg #[.slice ao N cap, .slice yo M ycap, .int .i64 mk], .int .i64 left] w fun e w' => ∃ y : Int, e = .returned (.int .i64 y) ∧ Below w.heap.size w w' ∧ -1 ≤ y ∧ (0 ≤ y → Few N M ∧ y + N + M ≤ left) := by
  have HLF : Hid (0 ≤ left ∧ left ≤ 1048576) := h0
  have HN : Hid (N ≤ maxLen) := hN
  have HM : Hid (M ≤ maxLen) := hM
  have hge := szI_ge N left
  obtain ⟨y, hyy⟩ : ∃ y, szI N left = y := ⟨_, rfl⟩
  have HE : Hid (szI N left = y) := hyy
  have HY : Hid (0 ≤ y → N ≤ 1048576 ∧ y = left - N) := fun h => by
    unfold szI at hyy
    split at hyy <;> omega
  rw [hyy] at hge
  clear hyy hN hM
  go_enter Try.func14, Try.ntmps14
  go_wp2_with fail
  refine (szIntS_any ao N cap left HN.out HLF.out _).mono ?_
  rintro e w1 ⟨rfl, hw1⟩
  rw [HE.out]
  have hb1 : Below w.heap.size w w1 := by rw [hw1]; exact (Below.refl _ _).alloc (Nat.le_refl _) _
  have q1 : ∀ o, w1.cell? ⟨w.heap.size, o, none⟩ = (#[.slice ao N cap, .slice yo M ycap, .int .i64 mk] : Array Value)[o]? := fun o => by rw [hw1]; exact World.cell?_alloc_new w _ _ o
  have HB1 : Hid (Below w.heap.size w w1) := hb1
  clear hw1 hb1
  by_cases hy : y < 0
  · have e : y = -1 := by omega
    subst e
    go_wp2_with fail
    go_ret
    exact ⟨-1, rfl, HB1.out, by omega, fun h => absurd h (by decide)⟩
  · have hy0 : 0 ≤ y := by omega
    obtain ⟨hy1, hy2⟩ := HY.out hy0
    have HB2 : Hid (0 ≤ y ∧ y ≤ 1048576) := by show _ ∧ _; omega
    have hge2 := szI_ge M y
    obtain ⟨z, hzz⟩ : ∃ z, szI M y = z := ⟨_, rfl⟩
    have HZ : Hid (szI M y = z) := hzz
    have HFE : Hid (0 ≤ z → Few N M ∧ z + N + M ≤ left) := fun h => by
      unfold szI at hzz
      unfold Few
      split at hzz <;> omega
    rw [hzz] at hge2
    clear hzz hy1 hy2
    go_wp2_with fail
    refine (szIntS_any yo M ycap y HM.out HB2.out _).mono ?_
    rintro e w2 ⟨rfl, hw2⟩
    obtain rfl := hw2.symm
    rw [HZ.out]
    by_cases hz : z < 0
    · have e : z = -1 := by omega
      subst e
      go_wp2_with fail
      go_ret
      exact ⟨-1, rfl, HB1.out, by omega, fun h => absurd h (by decide)⟩
    · go_wp2_with fail
      go_ret
      exact ⟨z, rfl, HB1.out, hge2, HFE.out⟩
set_option maxHeartbeats 1000000 in
set_option maxRecDepth 100000 in
theorem markGens_K (g y N M : Nat) (cn cm : Nat) (f h : Nat → Int) (mk : Int) (w : World) (hI : IG w g y N M f h) (hF : Few N M) (hlt : y < w.heap.size) (k : Int) (hk : 0 ≤ k ∧ k ≤ 1048577) :
    Calls Try.prog 23 #[.agg #[.slice (some ⟨g, 0, none⟩) N cn, .slice (some ⟨y, 0, none⟩) M cm, .int .i64 mk], .int .i64 k] w fun e w' => e = .returned (.int .i64 (k + N + M)) ∧ MkG w w' g y N M k := by
  have HI : Hid (IG w g y N M f h) := hI
  have HF : Hid (Few N M) := hF
  have hgy := hI.lt
  have hNi : (N : Int) ≤ 1048576 := by have := hF.1; omega
  clear hI hF
  go_enter Try.func23, Try.ntmps23
  go_wp2_with fail
  generalize hA : w.alloc (.cells #[.slice (some ⟨g, 0, none⟩) N cn, .slice (some ⟨y, 0, none⟩) M cm, .int .i64 mk] 44) = wa
  have hba : Below w.heap.size w wa := by rw [← hA]; exact (Below.refl _ _).alloc (Nat.le_refl _) _
  have hza : wa.heap.size = w.heap.size + 1 := by rw [← hA, World.size_alloc]
  have qa : ∀ o, wa.cell? ⟨w.heap.size, o, none⟩ = (#[.slice (some ⟨g, 0, none⟩) N cn, .slice (some ⟨y, 0, none⟩) M cm, .int .i64 mk] : Array Value)[o]? := fun o => by rw [← hA]; exact World.cell?_alloc_new w _ _ o
  have hia := HI.out.below hba hlt
  have HBA : Hid (Below w.heap.size w wa) := hba
  clear hA hba
  refine (markIntS_G g 0 N cn f wa hia.o k (by omega) HF.out.1).mono ?_
  rintro e w1 ⟨rfl, ht1, hi1⟩
  have qa1 : ∀ o, w1.cell? ⟨w.heap.size, o, none⟩ = (#[.slice (some ⟨g, 0, none⟩) N cn, .slice (some ⟨y, 0, none⟩) M cm, .int .i64 mk] : Array Value)[o]? := fun o => by
    rw [World.cell?_of_block (w := wa) (ht1.block w.heap.size (by omega) (by omega))]; exact qa o
  have HT1 : Hid (Turn g wa w1) := ht1
  have HI1 : Hid (Ints w1 g 0 N (fun j => k + (j : Int))) := hi1
  have hj1 : Ints w1 y 0 M h := hia.i.turn ht1 (by omega) (by omega)
  have HJ1 : Hid (Ints w1 y 0 M h) := hj1
  have HZA : Hid (wa.heap.size = w.heap.size + 1) := hza
  have HZ1 : Hid (wa.heap.size ≤ w1.heap.size) := ht1.size
  clear qa ht1 hi1 hj1 hia hza
  go_wp2_with fail
  have hK : (0 : Int) ≤ k + N ∧ k + N ≤ 4000000000 := by omega
  refine (markIntS_G y 0 M cm h w1 HJ1.out (k + N) hK HF.out.2.1).mono ?_
  rintro e w2 ⟨rfl, ht2, hi2⟩
  have HT2 : Hid (Turn y w1 w2) := ht2
  have HI2 : Hid (Ints w2 y 0 M (fun j => k + (N : Int) + j)) := hi2
  clear ht2 hi2 qa1
  go_wp2_with fail
  go_ret
  have z0 := HZA.out
  have z1 := HZ1.out
  refine ⟨rfl, ⟨HI1.out.turn HT2.out (by omega) (by omega), HI2.out, hgy⟩, HT2.out.os.trans (HT1.out.os.trans HBA.out.os), HT2.out.tape.trans (HT1.out.tape.trans HBA.out.tape), HT2.out.output.trans (HT1.out.output.trans HBA.out.output), by have := HT2.out.size; omega, fun b h1 h2 h3 => ?_⟩
  rw [HT2.out.block b (by omega) h3, HT1.out.block b (by omega) h2, HBA.out.block b h1]
end Go.Proofs.Ytjjmikfbongccaa.Gn
namespace Go.Proofs.Ytjjmikfbongccaa
open Go.RowKit Atom
set_option linter.unusedVariables false

set_option maxHeartbeats 1000000 in
set_option maxRecDepth 100000 in
theorem eqActor_same (a : Ac) (g h : Wh) (w : World) (hg : AcR w a g) (hh : AcR w a h) (hN : a.N ≤ 1048576) :
    Calls Try.prog 20 #[acV a g, acV a h] w fun e w' => e = .returned (.bool true) ∧ Below w.heap.size w w' := by
  obtain ⟨pid, pc, regs, box, N, f⟩ := a
  obtain ⟨ra, rc, ba, bc, la, lc⟩ := g
  obtain ⟨ra', rc', ba', bc', la', lc'⟩ := h
  have HG : Hid (AcR w ⟨pid, pc, regs, box, N, f⟩ ⟨ra, rc, ba, bc, la, lc⟩) := hg
  have HH : Hid (AcR w ⟨pid, pc, regs, box, N, f⟩ ⟨ra', rc', ba', bc', la', lc'⟩) := hh
  have HN : Hid (N ≤ 1048576) := hN
  clear hg hh hN
  obtain ⟨w0, hw0⟩ : ∃ w0, w0 = (w.alloc (.cells #[.int .i64 pid, .int .i64 pc, .slice ra regs.length rc, .slice ba box.length bc, .slice la N lc] 41)).alloc (.cells #[.int .i64 pid, .int .i64 pc, .slice ra' regs.length rc', .slice ba' box.length bc', .slice la' N lc'] 41) := ⟨_, rfl⟩
  have HB0 : Hid (Below w.heap.size w w0) := by rw [hw0]; exact ((Below.refl _ _).alloc (Nat.le_refl _) _).alloc (by simp) _
  have hq : ∀ j (v : Value), (#[.int .i64 pid, .int .i64 pc, .slice ra regs.length rc, .slice ba box.length bc, .slice la N lc] : Array Value)[j]? = some v → w0.cell? ⟨w.heap.size, j, none⟩ = some v := fun j v hv => by
    rw [hw0]
    refine keepA ((Below.refl _ _).alloc (Nat.le_refl _) _) ?_
    rw [World.cell?_alloc_new]; exact hv
  have hq' : ∀ j (v : Value), (#[.int .i64 pid, .int .i64 pc, .slice ra' regs.length rc', .slice ba' box.length bc', .slice la' N lc'] : Array Value)[j]? = some v → w0.cell? ⟨w.heap.size + 1, j, none⟩ = some v := fun j v hv => by
    rw [hw0]
    have e : (w.alloc (.cells #[.int .i64 pid, .int .i64 pc, .slice ra regs.length rc, .slice ba box.length bc, .slice la N lc] 41)).heap.size = w.heap.size + 1 := by simp
    rw [← e, World.cell?_alloc_new]; exact hv
  have HC : Hid (∀ w1, Below w0.heap.size w0 w1 → w1.cell? ⟨w.heap.size, 3, none⟩ = some (.slice ba box.length bc) ∧ w1.cell? ⟨w.heap.size, 4, none⟩ = some (.slice la N lc) ∧ w1.cell? ⟨w.heap.size + 1, 3, none⟩ = some (.slice ba' box.length bc') ∧ w1.cell? ⟨w.heap.size + 1, 4, none⟩ = some (.slice la' N lc')) := fun w1 hb =>
    ⟨keepA hb (hq 3 _ rfl), keepA hb (hq 4 _ rfl), keepA hb (hq' 3 _ rfl), keepA hb (hq' 4 _ rfl)⟩
  clear hq hq'
  go_enter Try.func20, Try.ntmps20
  go_wp2_with fail
  rw [← hw0]
  clear hw0
  refine (eqL_any regs ra ra' rc rc' w0 (HG.out.below HB0.out).regs (HH.out.below HB0.out).regs HG.out.r1 HG.out.r2 HH.out.r1 HH.out.r2).mono ?_
  rintro e w1 ⟨rfl, hb1⟩
  have HB1 : Hid (Below w0.heap.size w0 w1) := hb1
  have HX1 : Hid (Below w.heap.size w w1) := HB0.out.trans (hb1.mono HB0.out.size)
  obtain ⟨d3, _, d3', _⟩ := HC.out w1 hb1
  clear hb1
  go_wp2_with fail
  refine (eqL_any box ba ba' bc bc' w1 (HG.out.below HX1.out).box (HH.out.below HX1.out).box HG.out.b1 HG.out.b2 HH.out.b1 HH.out.b2).mono ?_
  rintro e w2 ⟨rfl, hb2⟩
  have HB2 : Hid (Below w0.heap.size w0 w2) := HB1.out.trans (hb2.mono HB1.out.size)
  have HX2 : Hid (Below w.heap.size w w2) := HX1.out.trans (hb2.mono HX1.out.size)
  obtain ⟨_, d4, _, d4'⟩ := HC.out w2 HB2.out
  clear hb2 d3 d3'
  go_wp2_with fail
  refine (eqIntS_same la la' N lc lc' f f w2 (HG.out.below HX2.out).links (HH.out.below HX2.out).links (fun _ _ => rfl) HN.out).mono ?_
  rintro e w3 ⟨rfl, hb3⟩
  have HX3 : Hid (Below w.heap.size w w3) := HX2.out.trans (hb3.mono HX2.out.size)
  clear hb3 d4 d4'
  go_wp2_with fail
  go_ret
  exact ⟨rfl, HX3.out⟩

end Go.Proofs.Ytjjmikfbongccaa
namespace Go.Proofs.Ytjjmikfbongccaa.fnExactActorOf
open Go.RowKit Go.Proofs.Ytjjmikfbongccaa Go.Proofs.Ytjjmikfbongccaa.Gn
set_option linter.unusedVariables false

/-- The boxes of the arguments, all the way. -/
structure Aw (w wc : World) (cs0 cs1 : Array Value) : Prop where
  be : Below w.heap.size w wc
  q0 : ∀ o, wc.cell? ⟨w.heap.size, o, none⟩ = cs0[o]?
  q1 : ∀ o, wc.cell? ⟨w.heap.size + 1, o, none⟩ = cs1[o]?
  lt : w.heap.size + 1 < wc.heap.size
theorem Aw.next {w wc w' : World} {cs0 cs1 : Array Value} (x : Aw w wc cs0 cs1) (hb : Below wc.heap.size wc w') : Aw w w' cs0 cs1 := by
  have hl := x.lt
  exact ⟨x.be.trans (hb.mono x.be.size), fun o => by rw [hb.cell (p := ⟨w.heap.size, o, none⟩) (by show w.heap.size < _; omega)]; exact x.q0 o, fun o => by rw [hb.cell (p := ⟨w.heap.size + 1, o, none⟩) x.lt]; exact x.q1 o, Nat.lt_of_lt_of_le x.lt hb.size⟩
theorem Aw.new (w : World) (cs0 cs1 : Array Value) (t0 t1 : TypeId) : Aw w ((w.alloc (.cells cs0 t0)).alloc (.cells cs1 t1)) cs0 cs1 := by
  have hb : Below (w.alloc (.cells cs0 t0)).heap.size (w.alloc (.cells cs0 t0)) ((w.alloc (.cells cs0 t0)).alloc (.cells cs1 t1)) := (Below.refl _ _).alloc (Nat.le_refl _) _
  have hs : (w.alloc (.cells cs0 t0)).heap.size = w.heap.size + 1 := World.size_alloc _ _
  refine ⟨((Below.refl _ _).alloc (Nat.le_refl _) _).alloc (by simp) _, fun o => ?_, fun o => ?_, by simp only [World.size_alloc]; omega⟩
  · rw [hb.cell (p := ⟨w.heap.size, o, none⟩) (by show w.heap.size < _; omega)]; exact World.cell?_alloc_new w _ _ o
  · rw [← hs]; exact World.cell?_alloc_new _ _ _ o
/-- What has been copied so far. -/
structure Sx (w wc : World) (cs0 cs1 : Array Value) (C : Ce) (GN GM : Nat) (gf gy : Nat → Int) (L : List ByteArray) (oc : Option (Nat × Nat × Nat)) (og : Option (Nat × Nat)) (os : Option Nat) : Prop where
  aw : Aw w wc cs0 cs1
  ci : ∀ x y z, oc = some (x, y, z) → CI wc C x y z ∧ z < wc.heap.size
  ig : ∀ g u, og = some (g, u) → IG wc g u GN GM gf gy ∧ u < wc.heap.size
  st : ∀ s, os = some s → Sts wc s L.length (lf L) ∧ s < wc.heap.size
theorem Sx.next {w wc w' : World} {cs0 cs1 : Array Value} {C : Ce} {GN GM : Nat} {gf gy : Nat → Int} {L : List ByteArray} {oc : Option (Nat × Nat × Nat)} {og : Option (Nat × Nat)} {os : Option Nat} (h : Sx w wc cs0 cs1 C GN GM gf gy L oc og os) (hb : Below wc.heap.size wc w') : Sx w w' cs0 cs1 C GN GM gf gy L oc og os :=
  ⟨h.aw.next hb, fun x y z e => ⟨(h.ci x y z e).1.below (h.ci x y z e).2 hb, Nat.lt_of_lt_of_le (h.ci x y z e).2 hb.size⟩, fun g u e => ⟨(h.ig g u e).1.below hb (h.ig g u e).2, Nat.lt_of_lt_of_le (h.ig g u e).2 hb.size⟩, fun s e => ⟨(h.st s e).1.below hb (h.st s e).2, Nat.lt_of_lt_of_le (h.st s e).2 hb.size⟩⟩
theorem Sx.alloc {w wc : World} {cs0 cs1 : Array Value} {C : Ce} {GN GM : Nat} {gf gy : Nat → Int} {L : List ByteArray} {oc : Option (Nat × Nat × Nat)} {og : Option (Nat × Nat)} {os : Option Nat} (h : Sx w wc cs0 cs1 C GN GM gf gy L oc og os) (o : Obj) : Sx w (wc.alloc o) cs0 cs1 C GN GM gf gy L oc og os := h.next ((Below.refl _ _).alloc (Nat.le_refl _) _)
theorem Sx.drew {w wc : World} {cs0 cs1 : Array Value} {C : Ce} {GN GM : Nat} {gf gy : Nat → Int} {L : List ByteArray} {oc : Option (Nat × Nat × Nat)} {og : Option (Nat × Nat)} {os : Option Nat} (h : Sx w wc cs0 cs1 C GN GM gf gy L oc og os) : Sx w wc.drew cs0 cs1 C GN GM gf gy L oc og os := h.next (Below.refl _ _).drew
theorem Sx.start {w wc : World} {cs0 cs1 : Array Value} {C : Ce} {GN GM : Nat} {gf gy : Nat → Int} {L : List ByteArray} (h : Aw w wc cs0 cs1) : Sx w wc cs0 cs1 C GN GM gf gy L none none none :=
  ⟨h, fun _ _ _ e => (nomatch e), fun _ _ e => (nomatch e), fun _ e => (nomatch e)⟩
/-- An actor in a box. -/
structure Bo (wx : World) (k : Nat) (A : Ac) (h : Wh) : Prop where
  bx : ∀ o, wx.cell? ⟨k, o, none⟩ = (#[.int .i64 A.pid, .int .i64 A.pc, .slice h.ra A.regs.length h.rc, .slice h.ba A.box.length h.bc, .slice h.la A.N h.lc] : Array Value)[o]?
  rd : AcR wx A h
theorem Bo.next {wx w' : World} {k : Nat} {A : Ac} {h : Wh} (x : Bo wx k A h) (hb : Below wx.heap.size wx w') : Bo w' k A h := by
  have hl : k < wx.heap.size := World.block_lt_of_cell? wx ⟨k, 0, none⟩ (x.bx 0)
  exact ⟨fun o => by rw [hb.cell (p := ⟨k, o, none⟩) hl]; exact x.bx o, x.rd.below hb⟩
end Go.Proofs.Ytjjmikfbongccaa.fnExactActorOf
namespace Go.Proofs.Ytjjmikfbongccaa.fnExactActorOf
open Go.RowKit Go.Proofs.Ytjjmikfbongccaa Go.Proofs.Ytjjmikfbongccaa.Gn
set_option linter.unusedVariables false

theorem keep5z {wr w5 : World} {c : Array Value} {t : TypeId} {W : World} (h0 : ∀ o, W.cell? ⟨wr.heap.size, o, none⟩ = c[o]?) (f0 : ∀ o, W.frozen? ⟨wr.heap.size, o, none⟩ = false) (hl : wr.heap.size < W.heap.size) (hb : Below W.heap.size W w5) :
    (∀ o, w5.cell? ⟨wr.heap.size, o, none⟩ = c[o]?) ∧ (∀ o, w5.frozen? ⟨wr.heap.size, o, none⟩ = false) :=
  ⟨fun o => by rw [hb.cell (p := ⟨wr.heap.size, o, none⟩) hl]; exact h0 o, fun o => by rw [hb.frozen (p := ⟨wr.heap.size, o, none⟩) hl]; exact f0 o⟩
theorem fiveC {a b c d e a' b' c' d' e' : Value} (j : Nat) (h : (0 ≠ j → a' = a) ∧ (1 ≠ j → b' = b) ∧ (2 ≠ j → c' = c) ∧ (3 ≠ j → d' = d) ∧ (4 ≠ j → e' = e)) : ∀ o, o ≠ j → (#[a', b', c', d', e'] : Array Value)[o]? = (#[a, b, c, d, e] : Array Value)[o]? := fun o ho => by
  obtain ⟨h0, h1, h2, h3, h4⟩ := h
  match o, ho with
  | 0, ho => rw [h0 ho]; rfl
  | 1, ho => rw [h1 ho]; rfl
  | 2, ho => rw [h2 ho]; rfl
  | 3, ho => rw [h3 ho]; rfl
  | 4, ho => rw [h4 ho]; rfl
  | n + 5, _ => rw [Array.getElem?_eq_none (by simp), Array.getElem?_eq_none (by simp)]
/-- A box that was laid ahead is filled. -/
theorem fin2 {w w5 : World} {k B : Nat} {A : Ac} {h : Wh} {cs0 cs1 : Array Value} (haw : Aw w w5 cs0 cs1) (hk1 : w.heap.size + 1 < k) (hk : k < B) (hq : ∀ o, w5.cell? ⟨k, o, none⟩ = (#[.int .i64 0, .int .i64 0, .slice none 0 0, .slice none 0 0, .slice none 0 0] : Array Value)[o]?) (x : AcP w5 B A h) (v0 v1 v2 v3 v4 : Value) :
    Aw w (((((w5.setCell ⟨k, 0, none⟩ v0).setCell ⟨k, 1, none⟩ v1).setCell ⟨k, 2, none⟩ v2).setCell ⟨k, 3, none⟩ v3).setCell ⟨k, 4, none⟩ v4) cs0 cs1 ∧ (∀ o, (((((w5.setCell ⟨k, 0, none⟩ v0).setCell ⟨k, 1, none⟩ v1).setCell ⟨k, 2, none⟩ v2).setCell ⟨k, 3, none⟩ v3).setCell ⟨k, 4, none⟩ v4).cell? ⟨k, o, none⟩ = (#[v0, v1, v2, v3, v4] : Array Value)[o]?) ∧ AcR (((((w5.setCell ⟨k, 0, none⟩ v0).setCell ⟨k, 1, none⟩ v1).setCell ⟨k, 2, none⟩ v2).setCell ⟨k, 3, none⟩ v3).setCell ⟨k, 4, none⟩ v4) A h := by
  have s0 := cells_setC (v := v0) (c' := #[v0, .int .i64 0, .slice none 0 0, .slice none 0 0, .slice none 0 0]) hq (j := 0) rfl rfl (fiveC 0 ⟨fun e => absurd rfl e, fun _ => rfl, fun _ => rfl, fun _ => rfl, fun _ => rfl⟩)
  have s1 := cells_setC (v := v1) (c' := #[v0, v1, .slice none 0 0, .slice none 0 0, .slice none 0 0]) s0 (j := 1) rfl rfl (fiveC 1 ⟨fun _ => rfl, fun e => absurd rfl e, fun _ => rfl, fun _ => rfl, fun _ => rfl⟩)
  have s2 := cells_setC (v := v2) (c' := #[v0, v1, v2, .slice none 0 0, .slice none 0 0]) s1 (j := 2) rfl rfl (fiveC 2 ⟨fun _ => rfl, fun _ => rfl, fun e => absurd rfl e, fun _ => rfl, fun _ => rfl⟩)
  have s3 := cells_setC (v := v3) (c' := #[v0, v1, v2, v3, .slice none 0 0]) s2 (j := 3) rfl rfl (fiveC 3 ⟨fun _ => rfl, fun _ => rfl, fun _ => rfl, fun e => absurd rfl e, fun _ => rfl⟩)
  have s4 := cells_setC (v := v4) (c' := #[v0, v1, v2, v3, v4]) s3 (j := 4) rfl rfl (fiveC 4 ⟨fun _ => rfl, fun _ => rfl, fun _ => rfl, fun _ => rfl, fun e => absurd rfl e⟩)
  have hx : AcP (((((w5.setCell ⟨k, 0, none⟩ v0).setCell ⟨k, 1, none⟩ v1).setCell ⟨k, 2, none⟩ v2).setCell ⟨k, 3, none⟩ v3).setCell ⟨k, 4, none⟩ v4) B A h := ((((x.set hk 0 _).set hk 1 _).set hk 2 _).set hk 3 _).set hk 4 _
  refine ⟨?_, s4, hx.rd⟩
  have st : ∀ {W : World}, Aw w W cs0 cs1 → ∀ o v, Aw w (W.setCell ⟨k, o, none⟩ v) cs0 cs1 := fun {W} hW o v =>
    ⟨hW.be.setCell (by show w.heap.size ≤ k; omega) _, fun o' => by rw [World.cell?_setCell_other (h := fun e => by simp only [Addr.mk.injEq] at e; omega)]; exact hW.q0 o', fun o' => by rw [World.cell?_setCell_other (h := fun e => by simp only [Addr.mk.injEq] at e; omega)]; exact hW.q1 o', by rw [World.size_setCell]; exact hW.lt⟩
  exact st (st (st (st (st haw 0 v0) 1 v1) 2 v2) 3 v3) 4 v4
theorem fin1 {w w5 : World} {B : Nat} {A : Ac} {h : Wh} {cs0 cs1 : Array Value} (haw : Aw w w5 cs0 cs1) (x : AcP w5 B A h) (v0 v1 v2 v3 v4 : Value) (t : TypeId) :
    Aw w (w5.alloc (.cells #[v0, v1, v2, v3, v4] t)) cs0 cs1 ∧ (∀ o, (w5.alloc (.cells #[v0, v1, v2, v3, v4] t)).cell? ⟨w5.heap.size, o, none⟩ = (#[v0, v1, v2, v3, v4] : Array Value)[o]?) ∧ AcR (w5.alloc (.cells #[v0, v1, v2, v3, v4] t)) A h :=
  ⟨haw.next ((Below.refl _ _).alloc (Nat.le_refl _) _), fun o => World.cell?_alloc_new w5 _ _ o, x.rd.below ((Below.refl _ _).alloc (Nat.le_refl _) _)⟩
/-- A box of an actor stands below hi. -/
theorem bx_lt {w : World} {k : Nat} {a b c d e : Value} (h : ∀ o, w.cell? ⟨k, o, none⟩ = (#[a, b, c, d, e] : Array Value)[o]?) : k < w.heap.size := World.block_lt_of_cell? w ⟨k, 0, none⟩ (h 0)
end Go.Proofs.Ytjjmikfbongccaa.fnExactActorOf
namespace Go.Proofs.Ytjjmikfbongccaa.fnExactActorOf
open Go.RowKit Go.Proofs.Ytjjmikfbongccaa Go.Proofs.Ytjjmikfbongccaa.Gn
set_option linter.unusedVariables false

/-- The copies' blocks, one behind the other: the cell's lists x y z and box B8, the lists g u and box B9, the atoms s, the answer from lo on and its box B13. -/
structure Od (W7 : World) (x y z B8 g u B9 s lo B13 : Nat) : Prop where
  o1 : W7.heap.size ≤ x
  o2 : x < y
  o3 : y < z
  o4 : z < B8
  o5 : B8 < g
  o6 : g < u
  o7 : u < B9
  o8 : B9 < s
  o9 : s < lo
  oa : lo ≤ B13
structure Pw (W7 wk : World) (B8 B9 lo B13 : Nat) (c8 c9 c13 : Array Value) (A : Ac) (h : Wh) : Prop where
  b7 : Below W7.heap.size W7 wk
  q8 : ∀ o, wk.cell? ⟨B8, o, none⟩ = c8[o]?
  q9 : ∀ o, wk.cell? ⟨B9, o, none⟩ = c9[o]?
  q13 : ∀ o, wk.cell? ⟨B13, o, none⟩ = c13[o]?
  ow : AcO wk lo B13 A h
  lt : B13 < wk.heap.size
theorem Pw.below {W7 wk wk' : World} {x y z B8 g u B9 s lo B13 : Nat} {c8 c9 c13 : Array Value} {A : Ac} {h : Wh} (od : Od W7 x y z B8 g u B9 s lo B13) (p : Pw W7 wk B8 B9 lo B13 c8 c9 c13 A h) (hb : Below wk.heap.size wk wk') : Pw W7 wk' B8 B9 lo B13 c8 c9 c13 A h := by
  have := od.o1; have := od.o2; have := od.o3; have := od.o4; have := od.o5; have := od.o6; have := od.o7; have := od.o8; have := od.o9; have := od.oa; have hl := p.lt
  exact ⟨p.b7.trans (hb.mono p.b7.size), fun o => by rw [hb.cell (p := ⟨B8, o, none⟩) (by show B8 < _; omega)]; exact p.q8 o, fun o => by rw [hb.cell (p := ⟨B9, o, none⟩) (by show B9 < _; omega)]; exact p.q9 o, fun o => by rw [hb.cell (p := ⟨B13, o, none⟩) hl]; exact p.q13 o, p.ow.keep fun b _ h2 => hb.block b (by omega), Nat.lt_of_lt_of_le hl hb.size⟩
/-- Marks on the copies leave all of that. -/
theorem Pw.turn {W7 wk wk' : World} {x y z B8 g u B9 s lo B13 : Nat} {c8 c9 c13 : Array Value} {A : Ac} {h : Wh} (od : Od W7 x y z B8 g u B9 s lo B13) (p : Pw W7 wk B8 B9 lo B13 c8 c9 c13 A h) (ho : wk'.os = wk.os) (ht : wk'.tape = wk.tape) (hp : wk'.output = wk.output) (hsz : wk.heap.size ≤ wk'.heap.size)
    (hblk : ∀ b, b < wk.heap.size → b ≠ x → b ≠ y → b ≠ z → b ≠ g → b ≠ u → b ≠ s → wk'.heap[b]? = wk.heap[b]?) : Pw W7 wk' B8 B9 lo B13 c8 c9 c13 A h := by
  have := od.o1; have := od.o2; have := od.o3; have := od.o4; have := od.o5; have := od.o6; have := od.o7; have := od.o8; have := od.o9; have := od.oa; have hl := p.lt; have h7 := p.b7.size
  have hb : ∀ b, b < wk.heap.size → (b < W7.heap.size ∨ b = B8 ∨ b = B9 ∨ lo ≤ b) → wk'.heap[b]? = wk.heap[b]? := fun b h1 h2 => hblk b h1 (by omega) (by omega) (by omega) (by omega) (by omega) (by omega)
  exact ⟨⟨ho.trans p.b7.os, ht.trans p.b7.tape, hp.trans p.b7.output, Nat.le_trans h7 hsz, fun b hb7 => (hb b (by omega) (.inl hb7)).trans (p.b7.block b hb7)⟩,
    fun o => by rw [World.cell?_of_block (w := wk) (hb B8 (by omega) (by omega))]; exact p.q8 o, fun o => by rw [World.cell?_of_block (w := wk) (hb B9 (by omega) (by omega))]; exact p.q9 o, fun o => by rw [World.cell?_of_block (w := wk) (hb B13 hl (by omega))]; exact p.q13 o, p.ow.keep fun b h1 h2 => hb b (by omega) (by omega), Nat.lt_of_lt_of_le hl hsz⟩
/-- Marks on the answer. -/
theorem Pw.mark {W7 wk wk' : World} {x y z B8 g u B9 s lo B13 : Nat} {c8 c9 c13 : Array Value} {A A' : Ac} {h : Wh} (od : Od W7 x y z B8 g u B9 s lo B13) (p : Pw W7 wk B8 B9 lo B13 c8 c9 c13 A h) (hm : MkL wk wk' lo B13) (ow : AcO wk' lo B13 A' h) : Pw W7 wk' B8 B9 lo B13 c8 c9 c13 A' h := by
  have := od.o1; have := od.o2; have := od.o3; have := od.o4; have := od.o5; have := od.o6; have := od.o7; have := od.o8; have := od.o9; have := od.oa; have hl := p.lt; have h7 := p.b7.size
  exact ⟨⟨hm.os.trans p.b7.os, hm.tape.trans p.b7.tape, hm.output.trans p.b7.output, Nat.le_trans h7 hm.size, fun b hb7 => (hm.block b (by omega) (by omega)).trans (p.b7.block b hb7)⟩,
    fun o => by rw [World.cell?_of_block (w := wk) (hm.block B8 (by omega) (by omega))]; exact p.q8 o, fun o => by rw [World.cell?_of_block (w := wk) (hm.block B9 (by omega) (by omega))]; exact p.q9 o, fun o => by rw [World.cell?_of_block (w := wk) (hm.block B13 hl (by omega))]; exact p.q13 o, ow, Nat.lt_of_lt_of_le hl hm.size⟩
theorem AcO.toP {w : World} {lo hi : Nat} {A : Ac} {h : Wh} (x : AcO w lo hi A h) (hh : hi ≤ w.heap.size) : AcP w lo A h := by
  obtain ⟨m1, m2, h1, h2, h3, h4, h5, h6⟩ := x.own
  exact ⟨OwL.rp _ _ _ _ (Nat.le_refl _) h4, OwL.rp _ _ _ _ h1 h5, fun hn => by obtain ⟨g, e1, e2, e3, e4⟩ := h6 hn; exact ⟨g, e1, by omega, by omega, e4⟩, x.r1, x.r2, x.b1, x.b2, x.l1, x.l2⟩
theorem bsets {wL w5 : World} {k : Nat} (t5 : Below wL.heap.size wL w5) (hk : wL.heap.size ≤ k) (v0 v1 v2 v3 v4 : Value) : Below wL.heap.size wL (((((w5.setCell ⟨k, 0, none⟩ v0).setCell ⟨k, 1, none⟩ v1).setCell ⟨k, 2, none⟩ v2).setCell ⟨k, 3, none⟩ v3).setCell ⟨k, 4, none⟩ v4) :=
  ((((t5.setCell (p := ⟨k, 0, none⟩) hk _).setCell (p := ⟨k, 1, none⟩) hk _).setCell (p := ⟨k, 2, none⟩) hk _).setCell (p := ⟨k, 3, none⟩) hk _).setCell (p := ⟨k, 4, none⟩) hk _
end Go.Proofs.Ytjjmikfbongccaa.fnExactActorOf
namespace Go.Proofs.Ytjjmikfbongccaa.fnExactActorOf
open Go.RowKit Go.Proofs.Ytjjmikfbongccaa Go.Proofs.Ytjjmikfbongccaa.Gn
set_option linter.unusedVariables false

theorem keepZ {X w5 : World} {c : Array Value} {t : TypeId} (hb : Below (X.alloc (.cells c t)).heap.size (X.alloc (.cells c t)) w5) :
    (∀ o, w5.cell? ⟨X.heap.size, o, none⟩ = c[o]?) ∧ (∀ o, w5.frozen? ⟨X.heap.size, o, none⟩ = false) ∧ X.heap.size < w5.heap.size := by
  have hs : (X.alloc (.cells c t)).heap.size = X.heap.size + 1 := World.size_alloc _ _
  refine ⟨fun o => ?_, fun o => ?_, by have := hb.size; omega⟩
  · rw [hb.cell (p := ⟨X.heap.size, o, none⟩) (by show X.heap.size < _; omega)]; exact World.cell?_alloc_new X _ _ o
  · rw [hb.frozen (p := ⟨X.heap.size, o, none⟩) (by show X.heap.size < _; omega)]; exact World.frozen?_alloc_new X _ _ o
theorem keepZd {X w5 : World} {c : Array Value} {t : TypeId} (hb : Below (X.alloc (.cells c t)).drew.heap.size (X.alloc (.cells c t)).drew w5) :
    (∀ o, w5.cell? ⟨X.heap.size, o, none⟩ = c[o]?) ∧ (∀ o, w5.frozen? ⟨X.heap.size, o, none⟩ = false) ∧ X.heap.size < w5.heap.size := keepZ ⟨hb.os, hb.tape, hb.output, hb.size, hb.block⟩
theorem keepQ {X w5 : World} {k : Nat} {c : Array Value} (h : (∀ o, X.cell? ⟨k, o, none⟩ = c[o]?) ∧ (∀ o, X.frozen? ⟨k, o, none⟩ = false) ∧ k < X.heap.size) (hb : Below X.heap.size X w5) :
    (∀ o, w5.cell? ⟨k, o, none⟩ = c[o]?) ∧ (∀ o, w5.frozen? ⟨k, o, none⟩ = false) ∧ k < w5.heap.size :=
  ⟨fun o => by rw [hb.cell (p := ⟨k, o, none⟩) h.2.2]; exact h.1 o, fun o => by rw [hb.frozen (p := ⟨k, o, none⟩) h.2.2]; exact h.2.1 o, Nat.lt_of_lt_of_le h.2.2 hb.size⟩

theorem alloc_lt (X : World) (c : Array Value) (t : TypeId) : X.heap.size < (X.alloc (.cells c t)).heap.size := by simp
set_option maxHeartbeats 8000000 in
set_option maxRecDepth 100000 in
theorem walk (c : Ce) (h : Cw) (ao : Option Addr) (GN gcap : Nat) (gf : Nat → Int) (yo : Option Addr) (GM ycap : Nat) (gy : Nat → Int) (mk : Int) (av : Option Addr) (acap : Nat) (L : List ByteArray) (w : World)
    (hr : CeR w c h) (h1 : c.R ≤ maxLen) (h2 : c.B ≤ maxLen) (h3 : c.N ≤ maxLen) (hbig : CeB c) (hg : RdG w ao GN gf yo GM gy) (hN : GN ≤ maxLen) (hM : GM ≤ maxLen) (hf : ∀ j, gf j ≤ 9223372036854775807) (hfy : ∀ j, gy j ≤ 9223372036854775807) (hT : RdT w av L) (hL : L.length ≤ maxLen) (hs : ∀ x ∈ L, x.size ≤ maxLen) :
    Calls Try.prog 4 #[ceV c h, .agg #[.slice ao GN gcap, .slice yo GM ycap, .int .i64 mk], .slice av L.length acap] w fun e w' => e = .returned (.bool true) ∧ Below w.heap.size w w' := by
  obtain ⟨pid, pc, R, r, B, b, N, f, ha⟩ := c
  obtain ⟨ra, rc, ba, bc, la, lc⟩ := h
  show Calls Try.prog 4 #[.agg #[.int .i64 pid, .int .i64 pc, .slice ra R rc, .slice ba B bc, .slice la N lc, .int .i64 ha], .agg #[.slice ao GN gcap, .slice yo GM ycap, .int .i64 mk], .slice av L.length acap] w _
  generalize hC : (⟨pid, pc, R, r, B, b, N, f, ha⟩ : Ce) = C at *
  generalize hH : (⟨ra, rc, ba, bc, la, lc⟩ : Cw) = H at *
  have HR : Hid (CeR w C H) := hr
  have HGI : Hid (RdG w ao GN gf yo GM gy) := hg
  have HT : Hid (RdT w av L) := hT
  have HW0 : Hid (Aw w ((w.alloc (.cells #[.int .i64 pid, .int .i64 pc, .slice ra R rc, .slice ba B bc, .slice la N lc, .int .i64 ha] 24)).alloc (.cells #[.slice ao GN gcap, .slice yo GM ycap, .int .i64 mk] 35)) #[.int .i64 pid, .int .i64 pc, .slice ra R rc, .slice ba B bc, .slice la N lc, .int .i64 ha] #[.slice ao GN gcap, .slice yo GM ycap, .int .i64 mk]) := Aw.new w _ _ _ _
  have HSZ : Hid (∀ wc, Aw w wc #[.int .i64 pid, .int .i64 pc, .slice ra R rc, .slice ba B bc, .slice la N lc, .int .i64 ha] #[.slice ao GN gcap, .slice yo GM ycap, .int .i64 mk] → Calls Try.prog 5 #[.agg #[.int .i64 pid, .int .i64 pc, .slice ra R rc, .slice ba B bc, .slice la N lc, .int .i64 ha], .int .i64 1048576] wc fun e w' => (∃ r : Int, e = .returned (.int .i64 r) ∧ -1 ≤ r ∧ r ≤ 1048576 ∧ (0 ≤ r → CeS C)) ∧ Aw w w' #[.int .i64 pid, .int .i64 pc, .slice ra R rc, .slice ba B bc, .slice la N lc, .int .i64 ha] #[.slice ao GN gcap, .slice yo GM ycap, .int .i64 mk]) := fun wc x => by
    have := szCell_any C H 1048576 wc h1 h2 h3 (by decide) (by decide)
    rw [← hC, ← hH] at this
    exact this.mono fun e w' ⟨k1, k2⟩ => ⟨hC ▸ k1, x.next k2⟩
  have HSG : Hid (∀ wc left, 0 ≤ left → left ≤ 1048576 → Aw w wc #[.int .i64 pid, .int .i64 pc, .slice ra R rc, .slice ba B bc, .slice la N lc, .int .i64 ha] #[.slice ao GN gcap, .slice yo GM ycap, .int .i64 mk] → Calls Try.prog 14 #[.agg #[.slice ao GN gcap, .slice yo GM ycap, .int .i64 mk], .int .i64 left] wc fun e w' => (∃ y : Int, e = .returned (.int .i64 y) ∧ -1 ≤ y ∧ (0 ≤ y → Few GN GM ∧ y + GN + GM ≤ left)) ∧ Aw w w' #[.int .i64 pid, .int .i64 pc, .slice ra R rc, .slice ba B bc, .slice la N lc, .int .i64 ha] #[.slice ao GN gcap, .slice yo GM ycap, .int .i64 mk]) := fun wc left k0 k1 x =>
    (szGens_L ao GN gcap yo GM ycap mk left hN hM ⟨k0, k1⟩ wc).mono fun e w' ⟨y, k1, k2, k3, k4⟩ => ⟨⟨y, k1, k3, k4⟩, x.next k2⟩
  have HSS : Hid (∀ wc left, 0 ≤ left → left ≤ 1048576 → Aw w wc #[.int .i64 pid, .int .i64 pc, .slice ra R rc, .slice ba B bc, .slice la N lc, .int .i64 ha] #[.slice ao GN gcap, .slice yo GM ycap, .int .i64 mk] → Calls Try.prog 15 #[.slice av L.length acap, .int .i64 left] wc fun e w' => ∃ y : Int, e = .returned (.int .i64 y) ∧ w' = wc ∧ -1 ≤ y ∧ (0 ≤ y → L.length ≤ 1048576 ∧ ∀ x ∈ L, x.size ≤ 1048576)) := fun wc left k0 k1 x =>
    szStr2_any av acap L wc (HT.out.below x.be) hL hs left k0 k1
  have HTC : Hid (CeS C → ∀ wc og os, Sx w wc #[.int .i64 pid, .int .i64 pc, .slice ra R rc, .slice ba B bc, .slice la N lc, .int .i64 ha] #[.slice ao GN gcap, .slice yo GM ycap, .int .i64 mk] C GN GM gf gy L none og os → Calls Try.prog 7 #[.agg #[.int .i64 pid, .int .i64 pc, .slice ra R rc, .slice ba B bc, .slice la N lc, .int .i64 ha]] wc fun e w' => ∃ x y z, e = .returned (.agg #[.int .i64 pid, .int .i64 pc, .slice (some ⟨x, 0, none⟩) R R, .slice (some ⟨y, 0, none⟩) B B, .slice (some ⟨z, 0, none⟩) N N, .int .i64 ha]) ∧ wc.heap.size ≤ x ∧ Sx w w' #[.int .i64 pid, .int .i64 pc, .slice ra R rc, .slice ba B bc, .slice la N lc, .int .i64 ha] #[.slice ao GN gcap, .slice yo GM ycap, .int .i64 mk] C GN GM gf gy L (some (x, y, z)) og os ∧ Below wc.heap.size wc w') := fun hS wc og os x => by
    have := toCell_any C H wc (HR.out.below x.aw.be) hS
    rw [← hC, ← hH] at this
    refine this.mono fun e w' ⟨x', y, z, k1, k2, k3, k4, k5⟩ => ⟨x', y, z, k1, k2, ?_, k5⟩
    have k := x.next k5
    exact ⟨k.aw, fun a b c e => by simp only [Option.some.injEq, Prod.mk.injEq] at e; obtain ⟨rfl, rfl, rfl⟩ := e; exact ⟨hC ▸ k4, k3⟩, k.ig, k.st⟩
  have HTG : Hid (Few GN GM → ∀ wc oc os, Sx w wc #[.int .i64 pid, .int .i64 pc, .slice ra R rc, .slice ba B bc, .slice la N lc, .int .i64 ha] #[.slice ao GN gcap, .slice yo GM ycap, .int .i64 mk] C GN GM gf gy L oc none os → Calls Try.prog 17 #[.agg #[.slice ao GN gcap, .slice yo GM ycap, .int .i64 mk]] wc fun e w' => ∃ g u, e = .returned (.agg #[.slice (some ⟨g, 0, none⟩) GN GN, .slice (some ⟨u, 0, none⟩) GM GM, .int .i64 mk]) ∧ wc.heap.size ≤ g ∧ Sx w w' #[.int .i64 pid, .int .i64 pc, .slice ra R rc, .slice ba B bc, .slice la N lc, .int .i64 ha] #[.slice ao GN gcap, .slice yo GM ycap, .int .i64 mk] C GN GM gf gy L oc (some (g, u)) os ∧ Below wc.heap.size wc w') := fun hF wc oc os x => by
    refine (toGens_any ao GN gcap gf yo GM ycap gy mk wc (HGI.out.below x.aw.be) hF).mono fun e w' ⟨g, u, k1, k2, k3, k4, k5⟩ => ⟨g, u, k1, k2, ?_, k5⟩
    have k := x.next k5
    exact ⟨k.aw, k.ci, fun a b e => by simp only [Option.some.injEq, Prod.mk.injEq] at e; obtain ⟨rfl, rfl⟩ := e; exact ⟨k3, k4⟩, k.st⟩
  have HTS : Hid (L.length ≤ 1048576 → ∀ wc oc og, Sx w wc #[.int .i64 pid, .int .i64 pc, .slice ra R rc, .slice ba B bc, .slice la N lc, .int .i64 ha] #[.slice ao GN gcap, .slice yo GM ycap, .int .i64 mk] C GN GM gf gy L oc og none → Calls Try.prog 18 #[.slice av L.length acap] wc fun e w' => ∃ s, e = .returned (.slice (some ⟨s, 0, none⟩) L.length L.length) ∧ wc.heap.size ≤ s ∧ Sx w w' #[.int .i64 pid, .int .i64 pc, .slice ra R rc, .slice ba B bc, .slice la N lc, .int .i64 ha] #[.slice ao GN gcap, .slice yo GM ycap, .int .i64 mk] C GN GM gf gy L oc og (some s) ∧ Below wc.heap.size wc w') := fun hF wc oc og x => by
    refine (toStr_any av acap L wc (HT.out.below x.aw.be) hF).mono fun e w' ⟨k1, k2, k3, k5⟩ => ⟨wc.heap.size, k1, Nat.le_refl _, ?_, k5⟩
    have k := x.next k5
    exact ⟨k.aw, k.ci, k.ig, fun a e => by simp only [Option.some.injEq] at e; subst e; exact ⟨k2, k3⟩⟩
  obtain ⟨A, hA⟩ : ∃ A, actOf (HG GN gf GM gy L) C = A := ⟨_, rfl⟩
  obtain ⟨K, hK⟩ : ∃ K, okA (HG GN gf GM gy L) C = K := ⟨_, rfl⟩
  have HCA : Hid (CeS C → cA A ≤ 3999999990 ∧ A.N ≤ 1048576) := fun hS => hA ▸ cA_act (HG GN gf GM gy L) C hS
  obtain ⟨apid, apc, regs, box, aN, af⟩ := A
  generalize hAA : (⟨apid, apc, regs, box, aN, af⟩ : Ac) = A at *
  have HGS : Hid (CeS C → Few GN GM → L.length ≤ 1048576 → (∀ x ∈ L, x.size ≤ 1048576) → ∀ wc x y z g u s, Sx w wc #[.int .i64 pid, .int .i64 pc, .slice ra R rc, .slice ba B bc, .slice la N lc, .int .i64 ha] #[.slice ao GN gcap, .slice yo GM ycap, .int .i64 mk] C GN GM gf gy L (some (x, y, z)) (some (g, u)) (some s) → GSrc (geOf GN gf GM gy mk L g u s) wc ∧ Ca3 wc C (cwN C x y z) x 0 y 0 z 0) := fun hS hF hLn hLs wc x y z g u s k =>
    ⟨gsrc_of (k.ig g u rfl).1 (k.st s rfl).1.txt hF hLn hf hfy hLs, CI.ca3 (k.ci x y z rfl).1⟩
  have HSP : Hid (CeS C → Few GN GM → L.length ≤ 1048576 → (∀ x ∈ L, x.size ≤ 1048576) → ∀ wc x y z g u s, Sx w wc #[.int .i64 pid, .int .i64 pc, .slice ra R rc, .slice ba B bc, .slice la N lc, .int .i64 ha] #[.slice ao GN gcap, .slice yo GM ycap, .int .i64 mk] C GN GM gf gy L (some (x, y, z)) (some (g, u)) (some s) → Calls Try.prog 16 #[.agg #[.int .i64 pid, .int .i64 pc, .slice (some ⟨x, 0, none⟩) R R, .slice (some ⟨y, 0, none⟩) B B, .slice (some ⟨z, 0, none⟩) N N, .int .i64 ha], .agg #[.slice (some ⟨g, 0, none⟩) GN GN, .slice (some ⟨u, 0, none⟩) GM GM, .int .i64 mk], .slice (some ⟨s, 0, none⟩) L.length L.length] wc fun e w' => ∃ ra' rc' ba' bc' la' lc', e = .returned (.tuple #[.agg #[.int .i64 apid, .int .i64 apc, .slice ra' regs.length rc', .slice ba' box.length bc', .slice la' aN lc'], .bool K]) ∧ AcP w' wc.heap.size A ⟨ra', rc', ba', bc', la', lc'⟩ ∧ Aw w w' #[.int .i64 pid, .int .i64 pc, .slice ra R rc, .slice ba B bc, .slice la N lc, .int .i64 ha] #[.slice ao GN gcap, .slice yo GM ycap, .int .i64 mk] ∧ Below wc.heap.size wc w') := fun hS hF hLn hLs wc x y z g u s k => by
    obtain ⟨k1, k2⟩ := HGS.out hS hF hLn hLs wc x y z g u s k
    have := specActorOf_any (geOf GN gf GM gy mk L g u s) C (cwN C x y z) x 0 y 0 z 0 wc k1 k2 hS hbig
    rw [← hC] at this
    refine this.mono ?_
    rintro e w' ⟨h', e1, e2, e3⟩
    have hA' : actOf (HG GN gf GM gy L) C = A := hA
    have e1' : e = .returned (.tuple #[acV (actOf (HG GN gf GM gy L) C) h', .bool (okA (HG GN gf GM gy L) C)]) := by rw [← hC]; exact e1
    have e2' : AcP w' wc.heap.size (actOf (HG GN gf GM gy L) C) h' := by rw [← hC]; exact e2
    rw [hA', hK] at e1'
    rw [hA'] at e2'
    obtain ⟨r1, r2, r3, r4, r5, r6⟩ := h'
    exact ⟨r1, r2, r3, r4, r5, r6, by rw [e1', ← hAA], e2', k.aw.next e3, e3⟩
  have HIM : Hid (CeS C → Few GN GM → L.length ≤ 1048576 → (∀ x ∈ L, x.size ≤ 1048576) → ∀ wc x y z g u s, Sx w wc #[.int .i64 pid, .int .i64 pc, .slice ra R rc, .slice ba B bc, .slice la N lc, .int .i64 ha] #[.slice ao GN gcap, .slice yo GM ycap, .int .i64 mk] C GN GM gf gy L (some (x, y, z)) (some (g, u)) (some s) → Calls Try.prog 19 #[.agg #[.int .i64 pid, .int .i64 pc, .slice (some ⟨x, 0, none⟩) R R, .slice (some ⟨y, 0, none⟩) B B, .slice (some ⟨z, 0, none⟩) N N, .int .i64 ha], .agg #[.slice (some ⟨g, 0, none⟩) GN GN, .slice (some ⟨u, 0, none⟩) GM GM, .int .i64 mk], .slice (some ⟨s, 0, none⟩) L.length L.length] wc fun e w' => ∃ ra' rc' ba' bc' la' lc', e = .returned (.tuple #[.agg #[.int .i64 apid, .int .i64 apc, .slice ra' regs.length rc', .slice ba' box.length bc', .slice la' aN lc'], .bool K]) ∧ AcO w' wc.heap.size w'.heap.size A ⟨ra', rc', ba', bc', la', lc'⟩ ∧ Sx w w' #[.int .i64 pid, .int .i64 pc, .slice ra R rc, .slice ba B bc, .slice la N lc, .int .i64 ha] #[.slice ao GN gcap, .slice yo GM ycap, .int .i64 mk] C GN GM gf gy L (some (x, y, z)) (some (g, u)) (some s) ∧ Below wc.heap.size wc w') := fun hS hF hLn hLs wc x y z g u s k => by
    obtain ⟨k1, k2⟩ := HGS.out hS hF hLn hLs wc x y z g u s k
    have := implActorOf_any (geOf GN gf GM gy mk L g u s) C (cwN C x y z) x 0 y 0 z 0 wc k1 k2 hS hbig
    rw [← hC] at this
    refine this.mono ?_
    rintro e w' ⟨h', e1, e2, e3⟩
    have hA' : actOf (HG GN gf GM gy L) C = A := hA
    have e1' : e = .returned (.tuple #[acV (actOf (HG GN gf GM gy L) C) h', .bool (okA (HG GN gf GM gy L) C)]) := by rw [← hC]; exact e1
    have e2' : AcO w' wc.heap.size w'.heap.size (actOf (HG GN gf GM gy L) C) h' := by rw [← hC]; exact e2
    rw [hA', hK] at e1'
    rw [hA'] at e2'
    obtain ⟨r1, r2, r3, r4, r5, r6⟩ := h'
    exact ⟨r1, r2, r3, r4, r5, r6, by rw [e1', ← hAA], e2', k.next e3, e3⟩
  have HEA : Hid (CeS C → ∀ wc r1 r2 r3 r4 r5 r6 s1 s2 s3 s4 s5 s6, AcR wc A ⟨r1, r2, r3, r4, r5, r6⟩ → AcR wc A ⟨s1, s2, s3, s4, s5, s6⟩ → Calls Try.prog 20 #[.agg #[.int .i64 apid, .int .i64 apc, .slice r1 regs.length r2, .slice r3 box.length r4, .slice r5 aN r6], .agg #[.int .i64 apid, .int .i64 apc, .slice s1 regs.length s2, .slice s3 box.length s4, .slice s5 aN s6]] wc fun e w' => e = .returned (.bool true) ∧ Below wc.heap.size wc w') := fun hS wc r1 r2 r3 r4 r5 r6 s1 s2 s3 s4 s5 s6 k1 k2 => by
    have := eqActor_same A _ _ wc k1 k2 (HCA.out hS).2
    rw [← hAA] at this
    exact this
  have HEC : Hid (CeS C → ∀ wc x y z x' y' z', CI wc C x y z → CI wc C x' y' z' → Calls Try.prog 10 #[.agg #[.int .i64 pid, .int .i64 pc, .slice (some ⟨x, 0, none⟩) R R, .slice (some ⟨y, 0, none⟩) B B, .slice (some ⟨z, 0, none⟩) N N, .int .i64 ha], .agg #[.int .i64 pid, .int .i64 pc, .slice (some ⟨x', 0, none⟩) R R, .slice (some ⟨y', 0, none⟩) B B, .slice (some ⟨z', 0, none⟩) N N, .int .i64 ha]] wc fun e w' => e = .returned (.bool true) ∧ Below wc.heap.size wc w') := fun hS wc x y z x' y' z' k k' => by
    have := eqCell_same C _ _ wc (k.rd C.R C.B C.N) (k'.rd C.R C.B C.N) hS
    rw [← hC] at this
    exact this
  have HMC : Hid (CeS C → ∀ wc x y z, CI wc C x y z → z < wc.heap.size → Calls Try.prog 11 #[.agg #[.int .i64 pid, .int .i64 pc, .slice (some ⟨x, 0, none⟩) R R, .slice (some ⟨y, 0, none⟩) B B, .slice (some ⟨z, 0, none⟩) N N, .int .i64 ha], .int .i64 1] wc fun e w' => e = .returned (.int .i64 (1 + (R : Int) + B + N)) ∧ MkC wc w' C x y z 1) := fun hS wc x y z ci hz => by
    have := markCell_any C x y z C.R C.B C.N wc ci hS hz
    rw [← hC] at this ⊢
    exact this
  have HMA : Hid (CeS C → ∀ wc lo hi r1 r2 r3 r4 r5 r6, AcO wc lo hi A ⟨r1, r2, r3, r4, r5, r6⟩ → hi ≤ wc.heap.size → Calls Try.prog 25 #[.agg #[.int .i64 apid, .int .i64 apc, .slice r1 regs.length r2, .slice r3 box.length r4, .slice r5 aN r6], .int .i64 1] wc fun e w' => e = .returned (.int .i64 (cA A : Nat)) ∧ MkL wc w' lo hi ∧ AcO w' lo hi (mrA A) ⟨r1, r2, r3, r4, r5, r6⟩) := fun hS wc lo hi r1 r2 r3 r4 r5 r6 k kk => by
    have := markActor_any A _ lo hi wc k kk (HCA.out hS).1 (HCA.out hS).2
    rw [← hAA] at this ⊢
    exact this
  have HHA : Hid (CeS C → ∀ wc r1 r2 r3 r4 r5 r6, AcR wc (mrA A) ⟨r1, r2, r3, r4, r5, r6⟩ → Calls Try.prog 26 #[.agg #[.int .i64 apid, .int .i64 apc, .slice r1 regs.length r2, .slice r3 box.length r4, .slice r5 aN r6], .int .i64 1] wc fun e w' => e = .returned (.int .i64 (cA A : Nat)) ∧ Below wc.heap.size wc w') := fun hS wc r1 r2 r3 r4 r5 r6 k => by
    have := heldActor_any A _ wc k (HCA.out hS).1 (HCA.out hS).2
    rw [← hAA] at this ⊢
    exact this
  have HSUM : Hid (CeS C → R + B + N ≤ 1048576) := fun hS => by rw [← hC] at hS; exact hS
  clear hr h1 h2 h3 hbig hg hN hM hf hfy hT hL hs hC hH hA hK hAA HCA HGS
  go_enter Try.func4, Try.ntmps4
  go_wp2_with (go_at_call 5; fail)
  refine (HSZ.out _ HW0.out).mono ?_
  rintro e w1 ⟨⟨r0, rfl, hr0, hr1, hrs⟩, hw1⟩
  have HW1 : Hid (Aw w w1 #[.int .i64 pid, .int .i64 pc, .slice ra R rc, .slice ba B bc, .slice la N lc, .int .i64 ha] #[.slice ao GN gcap, .slice yo GM ycap, .int .i64 mk]) := hw1
  have HS1 : Hid (0 ≤ r0 → CeS C) := hrs
  have q1 := hw1.q1
  clear hw1 hrs
  by_cases h0 : r0 < 0
  · clear q1
    go_wp2
    go_ret
    exact ⟨rfl, HW1.out.be⟩
  have HS : Hid (CeS C) := HS1.out (by omega)
  clear HS1
  go_wp2_with (go_at_call 14; fail)
  clear q1
  refine (HSG.out _ r0 (by omega) hr1 HW1.out).mono ?_
  rintro e w2 ⟨⟨r1, rfl, hr2, hrf⟩, hw2⟩
  have HW2 : Hid (Aw w w2 #[.int .i64 pid, .int .i64 pc, .slice ra R rc, .slice ba B bc, .slice la N lc, .int .i64 ha] #[.slice ao GN gcap, .slice yo GM ycap, .int .i64 mk]) := hw2
  have HF1 : Hid (0 ≤ r1 → Few GN GM ∧ r1 + GN + GM ≤ r0) := hrf
  clear hw2 hrf
  by_cases h1 : r1 < 0
  · go_wp2
    go_ret
    exact ⟨rfl, HW2.out.be⟩
  have HF : Hid (Few GN GM) := (HF1.out (by omega)).1
  have hr3 := (HF1.out (by omega)).2
  have HLE : Hid (r1 ≤ 1048576) := by show _ ≤ _; omega
  clear HF1 hr3
  go_wp2_with (go_at_call 15; fail)
  refine (HSS.out _ r1 (by omega) HLE.out HW2.out).mono ?_
  rintro e w3 ⟨r2, rfl, hw3, hr4, hrl⟩
  obtain rfl := hw3.symm
  have HL1 : Hid (0 ≤ r2 → L.length ≤ 1048576 ∧ ∀ x ∈ L, x.size ≤ 1048576) := hrl
  clear hrl
  by_cases h2 : r2 < 0
  · go_wp2
    go_ret
    exact ⟨rfl, HW2.out.be⟩
  have HL : Hid (L.length ≤ 1048576) := (HL1.out (by omega)).1
  have HLS : Hid (∀ x ∈ L, x.size ≤ 1048576) := (HL1.out (by omega)).2
  clear HL1 h0 h1 hr0 hr1 hr2 hr4 HLE
  obtain ⟨w3, hw33⟩ : ∃ w3, w3 = w2 := ⟨_, rfl⟩
  obtain rfl := hw33
  have q0 := HW2.out.q0
  have q1 := HW2.out.q1
  have HD0 : Sx w w3.drew #[.int .i64 pid, .int .i64 pc, .slice ra R rc, .slice ba B bc, .slice la N lc, .int .i64 ha] #[.slice ao GN gcap, .slice yo GM ycap, .int .i64 mk] C GN GM gf gy L none none none := (Sx.start HW2.out).drew
  have HD1 : Sx w (w3.alloc (.cells #[.int .i64 0, .int .i64 0, .slice none 0 0, .slice none 0 0, .slice none 0 0] 41)).drew #[.int .i64 pid, .int .i64 pc, .slice ra R rc, .slice ba B bc, .slice la N lc, .int .i64 ha] #[.slice ao GN gcap, .slice yo GM ycap, .int .i64 mk] C GN GM gf gy L none none none := ((Sx.start HW2.out).alloc _).drew
  have q0a : ∀ o, (w3.alloc (.cells #[.int .i64 0, .int .i64 0, .slice none 0 0, .slice none 0 0, .slice none 0 0] 41)).cell? ⟨w.heap.size, o, none⟩ = (#[.int .i64 pid, .int .i64 pc, .slice ra R rc, .slice ba B bc, .slice la N lc, .int .i64 ha] : Array Value)[o]? := HD1.aw.q0
  have q1a : ∀ o, (w3.alloc (.cells #[.int .i64 0, .int .i64 0, .slice none 0 0, .slice none 0 0, .slice none 0 0] 41)).cell? ⟨w.heap.size + 1, o, none⟩ = (#[.slice ao GN gcap, .slice yo GM ycap, .int .i64 mk] : Array Value)[o]? := HD1.aw.q1
  go_wp2_with fail
  go_cut [8, 9] from 35 to 44 (fun v8 v9 wx => ∃ (k : Nat) (r1 : Option Addr) (r2 : Nat) (r3 : Option Addr) (r4 : Nat) (r5 : Option Addr) (r6 : Nat), v8 = .pointer (some ⟨k, 0, none⟩) ∧ v9 = .bool K ∧ Aw w wx #[.int .i64 pid, .int .i64 pc, .slice ra R rc, .slice ba B bc, .slice la N lc, .int .i64 ha] #[.slice ao GN gcap, .slice yo GM ycap, .int .i64 mk] ∧ (∀ o, wx.cell? ⟨k, o, none⟩ = (#[.int .i64 apid, .int .i64 apc, .slice r1 regs.length r2, .slice r3 box.length r4, .slice r5 aN r6] : Array Value)[o]?) ∧ AcR wx A ⟨r1, r2, r3, r4, r5, r6⟩)
  case first =>
    go_region_law (go_simp; go_wp2_with (first
      | (go_at_call 7; refine (HTC.out HS.out _ none none (by first | exact HD0 | exact HD1)).mono ?_; rintro e wC ⟨x, y, z, rfl, hx, sC, bC⟩; have q1C := sC.aw.q1; have q1CA : ∀ o o', (wC.alloc o').cell? ⟨w.heap.size + 1, o, none⟩ = (#[.slice ao GN gcap, .slice yo GM ycap, .int .i64 mk] : Array Value)[o]? := (fun o o' => (sC.alloc o').aw.q1 o); first | (have zC := keepZd bC; have kl := HW2.out.lt) | skip)
      | (go_at_call 17; refine (HTG.out HF.out _ _ none (by first | exact sC | exact sC.alloc _)).mono ?_; rintro e wG ⟨g, u, rfl, hg, sG, bG⟩; first | (have zG := keepZ bG; have kl := sC.aw.lt) | (have zG := keepQ zC bG) | skip)
      | (go_at_call 18; refine (HTS.out HL.out _ _ _ (by first | exact sG | exact sG.alloc _)).mono ?_; rintro e wS ⟨s, rfl, hss, sS, bS⟩; first | (have zS := keepZ bS; have kl := sG.aw.lt) | (have zS := keepQ zG bS) | skip)
      | (go_at_call 16; refine (HSP.out HS.out HF.out HL.out HLS.out _ _ _ _ _ _ _ (by first | exact sS | exact sS.alloc _)).mono ?_; rintro e w5 ⟨r1, r2, r3, r4, r5, r6, rfl, hap, haw, b5⟩; first | (have z5 := keepZ b5; have z5q := z5.1; have z5f := z5.2.1; have HFN : Hid _ := fin2 haw sS.aw.lt (alloc_lt wS #[.int .i64 0, .int .i64 0, .slice none 0 0, .slice none 0 0, .slice none 0 0] 41) z5q hap (.int .i64 apid) (.int .i64 apc) (.slice r1 regs.length r2) (.slice r3 box.length r4) (.slice r5 aN r6); clear z5) | (have z5 := keepQ zS b5; have z5q := z5.1; have z5f := z5.2.1; have HFN : Hid _ := fin2 haw kl zS.2.2 z5q hap (.int .i64 apid) (.int .i64 apc) (.slice r1 regs.length r2) (.slice r3 box.length r4) (.slice r5 aN r6); clear z5) | (have HFN : Hid _ := fin1 haw hap (.int .i64 apid) (.int .i64 apc) (.slice r1 regs.length r2) (.slice r3 box.length r4) (.slice r5 aN r6) 41))))
    all_goals
      clear haw hap b5 sC bC sG bG sS bS
      go_wp2_with fail
      go_meet
      case rel => exact ⟨_, r1, r2, r3, r4, r5, r6, rfl, rfl, HFN.out⟩
  case rest =>
    obtain ⟨k7, r1, r2, r3, r4, r5, r6, rfl, rfl, haw, hbx, hrd⟩ := hcut
    obtain ⟨W7, hW7⟩ : ∃ W7, W7 = wc := ⟨_, rfl⟩
    obtain rfl := hW7
    have HA7 : Hid (Aw w W7 #[.int .i64 pid, .int .i64 pc, .slice ra R rc, .slice ba B bc, .slice la N lc, .int .i64 ha] #[.slice ao GN gcap, .slice yo GM ycap, .int .i64 mk]) := haw
    have HQ7 : Hid ((∀ o, W7.cell? ⟨k7, o, none⟩ = (#[.int .i64 apid, .int .i64 apc, .slice r1 regs.length r2, .slice r3 box.length r4, .slice r5 aN r6] : Array Value)[o]?) ∧ k7 < W7.heap.size) := ⟨hbx, bx_lt hbx⟩
    have HR7 : Hid (AcR W7 A ⟨r1, r2, r3, r4, r5, r6⟩) := hrd
    have q0c := haw.q0
    clear hbx hrd q0 q1 q0a q1a HD0 HD1 haw
    go_wp2_with (go_at_call 7; fail)
    refine (HTC.out HS.out _ none none (Sx.start HA7.out)).mono ?_
    rintro e w4 ⟨x, y, z, rfl, hx, s4, b4⟩
    obtain ⟨W4, hW4⟩ : ∃ W4, W4 = w4.alloc (.cells #[.int .i64 pid, .int .i64 pc, .slice (some ⟨x, 0, none⟩) R R, .slice (some ⟨y, 0, none⟩) B B, .slice (some ⟨z, 0, none⟩) N N, .int .i64 ha] 27) := ⟨_, rfl⟩
    have HS4 : Hid (Sx w W4 #[.int .i64 pid, .int .i64 pc, .slice ra R rc, .slice ba B bc, .slice la N lc, .int .i64 ha] #[.slice ao GN gcap, .slice yo GM ycap, .int .i64 mk] C GN GM gf gy L (some (x, y, z)) none none) := by rw [hW4]; exact s4.alloc _
    have HB4 : Hid (Below W7.heap.size W7 W4 ∧ w4.heap.size < W4.heap.size ∧ W7.heap.size ≤ x ∧ z < w4.heap.size) := ⟨by rw [hW4]; exact b4.alloc b4.size _, by rw [hW4, World.size_alloc]; omega, hx, (s4.ci x y z rfl).2⟩
    have HQ4 : Hid (∀ w', Below W4.heap.size W4 w' → ∀ o, w'.cell? ⟨w4.heap.size, o, none⟩ = (#[.int .i64 pid, .int .i64 pc, .slice (some ⟨x, 0, none⟩) R R, .slice (some ⟨y, 0, none⟩) B B, .slice (some ⟨z, 0, none⟩) N N, .int .i64 ha] : Array Value)[o]?) := fun w' hb o => by
      rw [hb.cell (p := ⟨w4.heap.size, o, none⟩) (by rw [hW4, World.size_alloc]; show w4.heap.size < _; omega), hW4]; exact World.cell?_alloc_new w4 _ _ o
    have q1c := HS4.out.aw.q1
    rw [hW4] at q1c
    clear s4 b4 hx q0c
    go_wp2_with (go_at_call 17; fail)
    rw [← hW4]
    clear hW4 q1c
    refine (HTG.out HF.out _ _ none HS4.out).mono ?_
    rintro e w6 ⟨g, u, rfl, hg, s6, b6⟩
    obtain ⟨W6, hW6⟩ : ∃ W6, W6 = w6.alloc (.cells #[.slice (some ⟨g, 0, none⟩) GN GN, .slice (some ⟨u, 0, none⟩) GM GM, .int .i64 mk] 44) := ⟨_, rfl⟩
    have HS6 : Hid (Sx w W6 #[.int .i64 pid, .int .i64 pc, .slice ra R rc, .slice ba B bc, .slice la N lc, .int .i64 ha] #[.slice ao GN gcap, .slice yo GM ycap, .int .i64 mk] C GN GM gf gy L (some (x, y, z)) (some (g, u)) none) := by rw [hW6]; exact s6.alloc _
    have HB6 : Hid (Below W4.heap.size W4 W6 ∧ w6.heap.size < W6.heap.size ∧ W4.heap.size ≤ g ∧ u < w6.heap.size) := ⟨by rw [hW6]; exact b6.alloc b6.size _, by rw [hW6, World.size_alloc]; omega, hg, (s6.ig g u rfl).2⟩
    have HQ6 : Hid (∀ w', Below W6.heap.size W6 w' → ∀ o, w'.cell? ⟨w6.heap.size, o, none⟩ = (#[.slice (some ⟨g, 0, none⟩) GN GN, .slice (some ⟨u, 0, none⟩) GM GM, .int .i64 mk] : Array Value)[o]?) := fun w' hb o => by
      rw [hb.cell (p := ⟨w6.heap.size, o, none⟩) (by rw [hW6, World.size_alloc]; show w6.heap.size < _; omega), hW6]; exact World.cell?_alloc_new w6 _ _ o
    clear s6 b6 hg
    go_wp2_with (go_at_call 18; fail)
    rw [← hW6]
    clear hW6
    refine (HTS.out HL.out _ _ _ HS6.out).mono ?_
    rintro e w8 ⟨s, rfl, hss, s8, b8⟩
    have HS8 : Hid (Sx w w8 #[.int .i64 pid, .int .i64 pc, .slice ra R rc, .slice ba B bc, .slice la N lc, .int .i64 ha] #[.slice ao GN gcap, .slice yo GM ycap, .int .i64 mk] C GN GM gf gy L (some (x, y, z)) (some (g, u)) (some s)) := s8
    have HB8 : Hid (Below W6.heap.size W6 w8 ∧ W6.heap.size ≤ s ∧ s < w8.heap.size) := ⟨b8, hss, (s8.st s rfl).2⟩
    have q8 := HQ4.out w8 (HB6.out.1.trans (b8.mono HB6.out.1.size))
    have q9 := HQ6.out w8 b8
    clear s8 b8 hss
    go_wp2_with (go_at_call 19; fail)
    clear q8 q9
    refine (HIM.out HS.out HF.out HL.out HLS.out _ x y z g u s HS8.out).mono ?_
    rintro e w9 ⟨ra9, rc9, ba9, bc9, la9, lc9, rfl, hao, s9, b9⟩
    obtain ⟨WA, hWA⟩ : ∃ WA, WA = w9.alloc (.cells #[.int .i64 apid, .int .i64 apc, .slice ra9 regs.length rc9, .slice ba9 box.length bc9, .slice la9 aN lc9] 41) := ⟨_, rfl⟩
    have kA : Below w9.heap.size w9 WA := by rw [hWA]; exact (Below.refl _ _).alloc (Nat.le_refl _) _
    have HOD : Hid (Od W7 x y z w4.heap.size g u w6.heap.size s w8.heap.size w9.heap.size) := by
      have a1 := HB4.out; have a2 := HB6.out; have a3 := HB8.out; have a4 := b9.size; have a5 := (HS8.out.ci x y z rfl).1; have a6 := (HS8.out.ig g u rfl).1
      exact ⟨a1.2.2.1, a5.xy, a5.yz, a1.2.2.2, by omega, a6.lt, a2.2.2.2, by omega, a3.2.2, a4⟩
    have HUA : Hid (Sx w WA #[.int .i64 pid, .int .i64 pc, .slice ra R rc, .slice ba B bc, .slice la N lc, .int .i64 ha] #[.slice ao GN gcap, .slice yo GM ycap, .int .i64 mk] C GN GM gf gy L (some (x, y, z)) (some (g, u)) (some s)) := s9.next kA
    have hb79 : Below W7.heap.size W7 WA := ((HB4.out.1.trans (HB6.out.1.mono HB4.out.1.size)).trans ((HB8.out.1.trans ((b9.trans (kA.mono b9.size)).mono HB8.out.1.size)).mono (Nat.le_trans HB4.out.1.size HB6.out.1.size)))
    have HPA : Hid (Pw W7 WA w4.heap.size w6.heap.size w8.heap.size w9.heap.size #[.int .i64 pid, .int .i64 pc, .slice (some ⟨x, 0, none⟩) R R, .slice (some ⟨y, 0, none⟩) B B, .slice (some ⟨z, 0, none⟩) N N, .int .i64 ha] #[.slice (some ⟨g, 0, none⟩) GN GN, .slice (some ⟨u, 0, none⟩) GM GM, .int .i64 mk] #[.int .i64 apid, .int .i64 apc, .slice ra9 regs.length rc9, .slice ba9 box.length bc9, .slice la9 aN lc9] A ⟨ra9, rc9, ba9, bc9, la9, lc9⟩) := by
      have b9k := b9.trans (kA.mono b9.size)
      have b8k := HB8.out.1.trans (b9k.mono HB8.out.1.size)
      have b6k := HB6.out.1.trans (b8k.mono HB6.out.1.size)
      exact ⟨hb79, HQ4.out WA b6k, HQ6.out WA b8k, fun o => by rw [hWA]; exact World.cell?_alloc_new w9 _ _ o, hao.keep fun b _ h2 => kA.block b h2, by rw [hWA, World.size_alloc]; omega⟩
    have qk := HPA.out.q13
    have qw : ∀ o, WA.cell? ⟨k7, o, none⟩ = (#[.int .i64 apid, .int .i64 apc, .slice r1 regs.length r2, .slice r3 box.length r4, .slice r5 aN r6] : Array Value)[o]? := fun o => by rw [hb79.cell (p := ⟨k7, o, none⟩) HQ7.out.2]; exact HQ7.out.1 o
    have HQW : Hid (∀ w', Below W7.heap.size W7 w' → ∀ o, w'.cell? ⟨k7, o, none⟩ = (#[.int .i64 apid, .int .i64 apc, .slice r1 regs.length r2, .slice r3 box.length r4, .slice r5 aN r6] : Array Value)[o]?) := fun w' hb o => by rw [hb.cell (p := ⟨k7, o, none⟩) HQ7.out.2]; exact HQ7.out.1 o
    clear hao s9 b9 kA hb79
    rw [hWA] at qk qw
    go_wp2_with (go_at_call 20; fail)
    rw [← hWA]
    clear hWA qk qw
    refine (HEA.out HS.out WA _ _ _ _ _ _ _ _ _ _ _ _ HPA.out.ow.rd (HR7.out.below HPA.out.b7)).mono ?_
    rintro e wD ⟨rfl, bD⟩
    have HUD : Hid (Sx w wD #[.int .i64 pid, .int .i64 pc, .slice ra R rc, .slice ba B bc, .slice la N lc, .int .i64 ha] #[.slice ao GN gcap, .slice yo GM ycap, .int .i64 mk] C GN GM gf gy L (some (x, y, z)) (some (g, u)) (some s)) := HUA.out.next bD
    have HPD : Hid (Pw W7 wD w4.heap.size w6.heap.size w8.heap.size w9.heap.size #[.int .i64 pid, .int .i64 pc, .slice (some ⟨x, 0, none⟩) R R, .slice (some ⟨y, 0, none⟩) B B, .slice (some ⟨z, 0, none⟩) N N, .int .i64 ha] #[.slice (some ⟨g, 0, none⟩) GN GN, .slice (some ⟨u, 0, none⟩) GM GM, .int .i64 mk] #[.int .i64 apid, .int .i64 apc, .slice ra9 regs.length rc9, .slice ba9 box.length bc9, .slice la9 aN lc9] A ⟨ra9, rc9, ba9, bc9, la9, lc9⟩) := HPA.out.below HOD.out bD
    have hKK : (K != K) = false := by cases K <;> rfl
    have q8 := HPD.out.q8
    have q0 := HUD.out.aw.q0
    clear bD
    go_wp2_with fail
    have HSD : Hid (Sx w wD.drew #[.int .i64 pid, .int .i64 pc, .slice ra R rc, .slice ba B bc, .slice la N lc, .int .i64 ha] #[.slice ao GN gcap, .slice yo GM ycap, .int .i64 mk] C GN GM gf gy L none none none) := (Sx.start HUD.out.aw).drew
    have HPDd : Hid (Pw W7 wD.drew w4.heap.size w6.heap.size w8.heap.size w9.heap.size #[.int .i64 pid, .int .i64 pc, .slice (some ⟨x, 0, none⟩) R R, .slice (some ⟨y, 0, none⟩) B B, .slice (some ⟨z, 0, none⟩) N N, .int .i64 ha] #[.slice (some ⟨g, 0, none⟩) GN GN, .slice (some ⟨u, 0, none⟩) GM GM, .int .i64 mk] #[.int .i64 apid, .int .i64 apc, .slice ra9 regs.length rc9, .slice ba9 box.length bc9, .slice la9 aN lc9] A ⟨ra9, rc9, ba9, bc9, la9, lc9⟩) := HPD.out.below HOD.out (Below.refl _ _).drew
    have HUDd : Hid (Sx w wD.drew #[.int .i64 pid, .int .i64 pc, .slice ra R rc, .slice ba B bc, .slice la N lc, .int .i64 ha] #[.slice ao GN gcap, .slice yo GM ycap, .int .i64 mk] C GN GM gf gy L (some (x, y, z)) (some (g, u)) (some s)) := HUD.out.drew
    go_cut [71] from 67 to 70 (fun v wx => v = .bool false ∧ Pw W7 wx w4.heap.size w6.heap.size w8.heap.size w9.heap.size #[.int .i64 pid, .int .i64 pc, .slice (some ⟨x, 0, none⟩) R R, .slice (some ⟨y, 0, none⟩) B B, .slice (some ⟨z, 0, none⟩) N N, .int .i64 ha] #[.slice (some ⟨g, 0, none⟩) GN GN, .slice (some ⟨u, 0, none⟩) GM GM, .int .i64 mk] #[.int .i64 apid, .int .i64 apc, .slice ra9 regs.length rc9, .slice ba9 box.length bc9, .slice la9 aN lc9] A ⟨ra9, rc9, ba9, bc9, la9, lc9⟩ ∧ Sx w wx #[.int .i64 pid, .int .i64 pc, .slice ra R rc, .slice ba B bc, .slice la N lc, .int .i64 ha] #[.slice ao GN gcap, .slice yo GM ycap, .int .i64 mk] C GN GM gf gy L (some (x, y, z)) (some (g, u)) (some s))
    case first =>
      go_region_law (go_simp; go_wp2_with (first
        | (go_at_call 7; refine (HTC.out HS.out _ none none HSD.out).mono ?_; rintro e wT ⟨x', y', z', rfl, hx', sT, bT⟩; have q8T := (HPDd.out.below HOD.out bT).q8)
        | (go_at_call 10; refine (HEC.out HS.out wT x y z x' y' z' ((HUDd.out.next bT).ci x y z rfl).1 (sT.ci x' y' z' rfl).1).mono ?_; rintro e wU ⟨rfl, bU⟩; have HFN : Hid (Pw W7 wU w4.heap.size w6.heap.size w8.heap.size w9.heap.size #[.int .i64 pid, .int .i64 pc, .slice (some ⟨x, 0, none⟩) R R, .slice (some ⟨y, 0, none⟩) B B, .slice (some ⟨z, 0, none⟩) N N, .int .i64 ha] #[.slice (some ⟨g, 0, none⟩) GN GN, .slice (some ⟨u, 0, none⟩) GM GM, .int .i64 mk] #[.int .i64 apid, .int .i64 apc, .slice ra9 regs.length rc9, .slice ba9 box.length bc9, .slice la9 aN lc9] A ⟨ra9, rc9, ba9, bc9, la9, lc9⟩ ∧ Sx w wU #[.int .i64 pid, .int .i64 pc, .slice ra R rc, .slice ba B bc, .slice la N lc, .int .i64 ha] #[.slice ao GN gcap, .slice yo GM ycap, .int .i64 mk] C GN GM gf gy L (some (x, y, z)) (some (g, u)) (some s)) := ⟨(HPDd.out.below HOD.out bT).below HOD.out bU, (HUDd.out.next bT).next bU⟩)))
      all_goals
        clear bU bT sT q8T
        go_wp2_with fail
        go_meet
        case rel => exact ⟨rfl, HFN.out⟩
    case rest =>
      obtain ⟨wE, hE⟩ : ∃ wE, wE = wc := ⟨_, rfl⟩
      obtain rfl := hE
      obtain ⟨rfl, hpe, hue⟩ := hcut
      have HPE : Hid (Pw W7 wE w4.heap.size w6.heap.size w8.heap.size w9.heap.size #[.int .i64 pid, .int .i64 pc, .slice (some ⟨x, 0, none⟩) R R, .slice (some ⟨y, 0, none⟩) B B, .slice (some ⟨z, 0, none⟩) N N, .int .i64 ha] #[.slice (some ⟨g, 0, none⟩) GN GN, .slice (some ⟨u, 0, none⟩) GM GM, .int .i64 mk] #[.int .i64 apid, .int .i64 apc, .slice ra9 regs.length rc9, .slice ba9 box.length bc9, .slice la9 aN lc9] A ⟨ra9, rc9, ba9, bc9, la9, lc9⟩) := hpe
      have HUE : Hid (Sx w wE #[.int .i64 pid, .int .i64 pc, .slice ra R rc, .slice ba B bc, .slice la N lc, .int .i64 ha] #[.slice ao GN gcap, .slice yo GM ycap, .int .i64 mk] C GN GM gf gy L (some (x, y, z)) (some (g, u)) (some s)) := hue
      clear hpe hue q8 q0 hKK
      have q9 := HPE.out.q9
      have q1 := HUE.out.aw.q1
      go_wp2_with fail
      have HSE : Hid (Sx w wE.drew #[.int .i64 pid, .int .i64 pc, .slice ra R rc, .slice ba B bc, .slice la N lc, .int .i64 ha] #[.slice ao GN gcap, .slice yo GM ycap, .int .i64 mk] C GN GM gf gy L none none none) := (Sx.start HUE.out.aw).drew
      have HPEd : Hid (Pw W7 wE.drew w4.heap.size w6.heap.size w8.heap.size w9.heap.size #[.int .i64 pid, .int .i64 pc, .slice (some ⟨x, 0, none⟩) R R, .slice (some ⟨y, 0, none⟩) B B, .slice (some ⟨z, 0, none⟩) N N, .int .i64 ha] #[.slice (some ⟨g, 0, none⟩) GN GN, .slice (some ⟨u, 0, none⟩) GM GM, .int .i64 mk] #[.int .i64 apid, .int .i64 apc, .slice ra9 regs.length rc9, .slice ba9 box.length bc9, .slice la9 aN lc9] A ⟨ra9, rc9, ba9, bc9, la9, lc9⟩) := HPE.out.below HOD.out (Below.refl _ _).drew
      have HUEd : Hid (Sx w wE.drew #[.int .i64 pid, .int .i64 pc, .slice ra R rc, .slice ba B bc, .slice la N lc, .int .i64 ha] #[.slice ao GN gcap, .slice yo GM ycap, .int .i64 mk] C GN GM gf gy L (some (x, y, z)) (some (g, u)) (some s)) := HUE.out.drew
      go_cut [76] from 72 to 75 (fun v wx => v = .bool false ∧ Pw W7 wx w4.heap.size w6.heap.size w8.heap.size w9.heap.size #[.int .i64 pid, .int .i64 pc, .slice (some ⟨x, 0, none⟩) R R, .slice (some ⟨y, 0, none⟩) B B, .slice (some ⟨z, 0, none⟩) N N, .int .i64 ha] #[.slice (some ⟨g, 0, none⟩) GN GN, .slice (some ⟨u, 0, none⟩) GM GM, .int .i64 mk] #[.int .i64 apid, .int .i64 apc, .slice ra9 regs.length rc9, .slice ba9 box.length bc9, .slice la9 aN lc9] A ⟨ra9, rc9, ba9, bc9, la9, lc9⟩ ∧ Sx w wx #[.int .i64 pid, .int .i64 pc, .slice ra R rc, .slice ba B bc, .slice la N lc, .int .i64 ha] #[.slice ao GN gcap, .slice yo GM ycap, .int .i64 mk] C GN GM gf gy L (some (x, y, z)) (some (g, u)) (some s))
      case first =>
        go_region_law (go_simp; go_wp2_with (first
          | (go_at_call 17; refine (HTG.out HF.out _ none none HSE.out).mono ?_; rintro e wT ⟨g', u', rfl, hx', sT, bT⟩; have q9T := (HPEd.out.below HOD.out bT).q9)
          | (go_at_call 21; refine (eqGens_same _ _ _ _ GN GN GN GM GM GM gf gy mk wT ((HUEd.out.next bT).ig g u rfl).1.o.rdI (sT.ig g' u' rfl).1.o.rdI ((HUEd.out.next bT).ig g u rfl).1.i.rdI (sT.ig g' u' rfl).1.i.rdI HF.out).mono ?_; rintro e wU ⟨rfl, bU⟩; have HFN : Hid (Pw W7 wU w4.heap.size w6.heap.size w8.heap.size w9.heap.size #[.int .i64 pid, .int .i64 pc, .slice (some ⟨x, 0, none⟩) R R, .slice (some ⟨y, 0, none⟩) B B, .slice (some ⟨z, 0, none⟩) N N, .int .i64 ha] #[.slice (some ⟨g, 0, none⟩) GN GN, .slice (some ⟨u, 0, none⟩) GM GM, .int .i64 mk] #[.int .i64 apid, .int .i64 apc, .slice ra9 regs.length rc9, .slice ba9 box.length bc9, .slice la9 aN lc9] A ⟨ra9, rc9, ba9, bc9, la9, lc9⟩ ∧ Sx w wU #[.int .i64 pid, .int .i64 pc, .slice ra R rc, .slice ba B bc, .slice la N lc, .int .i64 ha] #[.slice ao GN gcap, .slice yo GM ycap, .int .i64 mk] C GN GM gf gy L (some (x, y, z)) (some (g, u)) (some s)) := ⟨(HPEd.out.below HOD.out bT).below HOD.out bU, (HUEd.out.next bT).next bU⟩)))
        all_goals
          clear bU bT sT q9T
          go_wp2_with fail
          go_meet
          case rel => exact ⟨rfl, HFN.out⟩
      case rest =>
        obtain ⟨wF, hF⟩ : ∃ wF, wF = wc := ⟨_, rfl⟩
        obtain rfl := hF
        obtain ⟨rfl, hpf, huf⟩ := hcut
        have HPF : Hid (Pw W7 wF w4.heap.size w6.heap.size w8.heap.size w9.heap.size #[.int .i64 pid, .int .i64 pc, .slice (some ⟨x, 0, none⟩) R R, .slice (some ⟨y, 0, none⟩) B B, .slice (some ⟨z, 0, none⟩) N N, .int .i64 ha] #[.slice (some ⟨g, 0, none⟩) GN GN, .slice (some ⟨u, 0, none⟩) GM GM, .int .i64 mk] #[.int .i64 apid, .int .i64 apc, .slice ra9 regs.length rc9, .slice ba9 box.length bc9, .slice la9 aN lc9] A ⟨ra9, rc9, ba9, bc9, la9, lc9⟩) := hpf
        have HUF : Hid (Sx w wF #[.int .i64 pid, .int .i64 pc, .slice ra R rc, .slice ba B bc, .slice la N lc, .int .i64 ha] #[.slice ao GN gcap, .slice yo GM ycap, .int .i64 mk] C GN GM gf gy L (some (x, y, z)) (some (g, u)) (some s)) := huf
        clear hpf huf q9 q1
        go_wp2_with (go_at_call 18; fail)
        refine (HTS.out HL.out _ none none (Sx.start HUF.out.aw)).mono ?_
        rintro e wG ⟨s', rfl, hs', sG, bG⟩
        have HSG2 : Hid (Sts wG s' L.length (lf L)) := (sG.st s' rfl).1
        have HPG : Hid (Pw W7 wG w4.heap.size w6.heap.size w8.heap.size w9.heap.size #[.int .i64 pid, .int .i64 pc, .slice (some ⟨x, 0, none⟩) R R, .slice (some ⟨y, 0, none⟩) B B, .slice (some ⟨z, 0, none⟩) N N, .int .i64 ha] #[.slice (some ⟨g, 0, none⟩) GN GN, .slice (some ⟨u, 0, none⟩) GM GM, .int .i64 mk] #[.int .i64 apid, .int .i64 apc, .slice ra9 regs.length rc9, .slice ba9 box.length bc9, .slice la9 aN lc9] A ⟨ra9, rc9, ba9, bc9, la9, lc9⟩) := HPF.out.below HOD.out bG
        have HUG : Hid (Sx w wG #[.int .i64 pid, .int .i64 pc, .slice ra R rc, .slice ba B bc, .slice la N lc, .int .i64 ha] #[.slice ao GN gcap, .slice yo GM ycap, .int .i64 mk] C GN GM gf gy L (some (x, y, z)) (some (g, u)) (some s)) := HUF.out.next bG
        clear sG bG hs'
        go_wp2_with (go_at_call 22; fail)
        refine (eqStr_same (some ⟨s, 0, none⟩) (some ⟨s', 0, none⟩) L.length L.length L wG (HUG.out.st s rfl).1.txt.rd HSG2.out.txt.rd (by have := HL.out; omega)).mono ?_
        rintro e wH ⟨rfl, bH⟩
        have HPH : Hid (Pw W7 wH w4.heap.size w6.heap.size w8.heap.size w9.heap.size #[.int .i64 pid, .int .i64 pc, .slice (some ⟨x, 0, none⟩) R R, .slice (some ⟨y, 0, none⟩) B B, .slice (some ⟨z, 0, none⟩) N N, .int .i64 ha] #[.slice (some ⟨g, 0, none⟩) GN GN, .slice (some ⟨u, 0, none⟩) GM GM, .int .i64 mk] #[.int .i64 apid, .int .i64 apc, .slice ra9 regs.length rc9, .slice ba9 box.length bc9, .slice la9 aN lc9] A ⟨ra9, rc9, ba9, bc9, la9, lc9⟩) := HPG.out.below HOD.out bH
        have HUH : Hid (Sx w wH #[.int .i64 pid, .int .i64 pc, .slice ra R rc, .slice ba B bc, .slice la N lc, .int .i64 ha] #[.slice ao GN gcap, .slice yo GM ycap, .int .i64 mk] C GN GM gf gy L (some (x, y, z)) (some (g, u)) (some s)) := HUG.out.next bH
        have q8 := HPH.out.q8
        clear bH HSG2 HPG HUG HPF HUF HPE HUE
        go_wp2_with (go_at_call 11; fail)
        clear q8
        have hsum := HSUM.out HS.out
        refine (HMC.out HS.out _ x y z (HUH.out.ci x y z rfl).1 (HUH.out.ci x y z rfl).2).mono ?_
        rintro e wI ⟨rfl, hmI⟩
        have o1 := HOD.out.o1; have o2 := HOD.out.o2; have o3 := HOD.out.o3; have o4 := HOD.out.o4; have o5 := HOD.out.o5; have o6 := HOD.out.o6; have o7 := HOD.out.o7; have o8 := HOD.out.o8; have o9 := HOD.out.o9; have oa := HOD.out.oa; have ol := HPH.out.lt
        have HPI : Hid (Pw W7 wI w4.heap.size w6.heap.size w8.heap.size w9.heap.size #[.int .i64 pid, .int .i64 pc, .slice (some ⟨x, 0, none⟩) R R, .slice (some ⟨y, 0, none⟩) B B, .slice (some ⟨z, 0, none⟩) N N, .int .i64 ha] #[.slice (some ⟨g, 0, none⟩) GN GN, .slice (some ⟨u, 0, none⟩) GM GM, .int .i64 mk] #[.int .i64 apid, .int .i64 apc, .slice ra9 regs.length rc9, .slice ba9 box.length bc9, .slice la9 aN lc9] A ⟨ra9, rc9, ba9, bc9, la9, lc9⟩) := HPH.out.turn HOD.out hmI.os hmI.tape hmI.output hmI.size (fun b hb h1 h2 h3 _ _ _ => hmI.block b hb h1 h2 h3)
        have HGI2 : Hid (IG wI g u GN GM gf gy ∧ Sts wI s L.length (lf L) ∧ u < wI.heap.size ∧ s < wI.heap.size) := by
          have k1 := HUH.out.ig g u rfl
          have k2 := HUH.out.st s rfl
          have hgb := hmI.block g (by omega) (by omega) (by omega) (by omega)
          have hub := hmI.block u (by omega) (by omega) (by omega) (by omega)
          have hsb := hmI.block s (by omega) (by omega) (by omega) (by omega)
          exact ⟨⟨k1.1.o.blk hgb, k1.1.i.blk hub, k1.1.lt⟩, ⟨fun j hj => by rw [World.cell?_of_block (w := wH) hsb]; exact k2.1.cell j hj, fun xx => by rw [World.frozen?_of_block (w := wH) hsb]; exact k2.1.free xx⟩, by have := hmI.size; omega, by have := hmI.size; omega⟩
        clear hmI o1 o2 o3 o4 o5 o6 o7 o8 o9 oa ol HPH HUH
        have q9 := HPI.out.q9
        have hk1 : (0 : Int) ≤ 1 + (R : Int) + B + N ∧ 1 + (R : Int) + B + N ≤ 1048577 := by omega
        have HK1 : Hid ((0 : Int) ≤ 1 + (R : Int) + B + N ∧ 1 + (R : Int) + B + N ≤ 1048577) := hk1
        go_wp2_with (go_at_call 23; fail)
        clear q9
        refine (markGens_K g u GN GM GN GM gf gy mk wI HGI2.out.1 HF.out HGI2.out.2.2.1 _ HK1.out).mono ?_
        rintro e wJ ⟨rfl, hmJ⟩
        have o1 := HOD.out.o1; have o2 := HOD.out.o2; have o3 := HOD.out.o3; have o4 := HOD.out.o4; have o5 := HOD.out.o5; have o6 := HOD.out.o6; have o7 := HOD.out.o7; have o8 := HOD.out.o8; have o9 := HOD.out.o9; have oa := HOD.out.oa; have ol := HPI.out.lt
        have HPJ : Hid (Pw W7 wJ w4.heap.size w6.heap.size w8.heap.size w9.heap.size #[.int .i64 pid, .int .i64 pc, .slice (some ⟨x, 0, none⟩) R R, .slice (some ⟨y, 0, none⟩) B B, .slice (some ⟨z, 0, none⟩) N N, .int .i64 ha] #[.slice (some ⟨g, 0, none⟩) GN GN, .slice (some ⟨u, 0, none⟩) GM GM, .int .i64 mk] #[.int .i64 apid, .int .i64 apc, .slice ra9 regs.length rc9, .slice ba9 box.length bc9, .slice la9 aN lc9] A ⟨ra9, rc9, ba9, bc9, la9, lc9⟩) := HPI.out.turn HOD.out hmJ.os hmJ.tape hmJ.output hmJ.size (fun b hb _ _ _ h4 h5 _ => hmJ.block b hb h4 h5)
        have HSJ : Hid (Sts wJ s L.length (lf L) ∧ s < wJ.heap.size) := by
          have hsb := hmJ.block s (by omega) (by omega) (by omega)
          exact ⟨⟨fun j hj => by rw [World.cell?_of_block (w := wI) hsb]; exact HGI2.out.2.1.cell j hj, fun xx => by rw [World.frozen?_of_block (w := wI) hsb]; exact HGI2.out.2.1.free xx⟩, by have := hmJ.size; omega⟩
        have hfew := HF.out.2.2
        have HKN : Hid ((1 : Int) + (R : Int) + (B : Int) + (N : Int) + (GN : Int) + (GM : Int) = ((1 + R + B + N + GN + GM : Nat) : Int)) := by show _ = _; omega
        have HKB : Hid (1 ≤ 1 + R + B + N + GN + GM ∧ 1 + R + B + N + GN + GM ≤ 3000000) := by show _ ∧ _; omega
        clear hmJ o1 o2 o3 o4 o5 o6 o7 o8 o9 oa ol hfew HGI2 HPI hk1
        go_wp2_with (go_at_call 24; fail)
        rw [HKN.out]
        refine (markStr2_any s L.length L.length (lf L) wJ HSJ.out.1 HSJ.out.2 (by have := HL.out; omega) _ HKB.out.1 HKB.out.2).mono ?_
        rintro e wK ⟨rfl, htK, hiK⟩
        have HPK : Hid (Pw W7 wK w4.heap.size w6.heap.size w8.heap.size w9.heap.size #[.int .i64 pid, .int .i64 pc, .slice (some ⟨x, 0, none⟩) R R, .slice (some ⟨y, 0, none⟩) B B, .slice (some ⟨z, 0, none⟩) N N, .int .i64 ha] #[.slice (some ⟨g, 0, none⟩) GN GN, .slice (some ⟨u, 0, none⟩) GM GM, .int .i64 mk] #[.int .i64 apid, .int .i64 apc, .slice ra9 regs.length rc9, .slice ba9 box.length bc9, .slice la9 aN lc9] A ⟨ra9, rc9, ba9, bc9, la9, lc9⟩) := HPJ.out.turn HOD.out htK.os htK.tape htK.output htK.size (fun b hb _ _ _ _ _ h6 => htK.block b hb h6)
        have hkneg : ¬ ((((1 + R + B + N + GN + GM : Nat) : Int) + (L.length : Int)) < 0) := by omega
        have hKK : (K != K) = false := by cases K <;> rfl
        have q13 := HPK.out.q13
        have qw := HQW.out wK HPK.out.b7
        clear htK hiK HPJ HSJ
        generalize (1 + R + B + N + GN + GM : Nat) = KN at *
        go_wp2_with (go_at_call 20; fail)
        clear q13 qw
        refine (HEA.out HS.out wK _ _ _ _ _ _ _ _ _ _ _ _ HPK.out.ow.rd (HR7.out.below HPK.out.b7)).mono ?_
        rintro e wM ⟨rfl, bM⟩
        have HPM : Hid (Pw W7 wM w4.heap.size w6.heap.size w8.heap.size w9.heap.size #[.int .i64 pid, .int .i64 pc, .slice (some ⟨x, 0, none⟩) R R, .slice (some ⟨y, 0, none⟩) B B, .slice (some ⟨z, 0, none⟩) N N, .int .i64 ha] #[.slice (some ⟨g, 0, none⟩) GN GN, .slice (some ⟨u, 0, none⟩) GM GM, .int .i64 mk] #[.int .i64 apid, .int .i64 apc, .slice ra9 regs.length rc9, .slice ba9 box.length bc9, .slice la9 aN lc9] A ⟨ra9, rc9, ba9, bc9, la9, lc9⟩) := HPK.out.below HOD.out bM
        have q13 := HPM.out.q13
        clear bM HPK hkneg
        go_wp2_with (go_at_call 25; fail)
        clear q13
        refine (HMA.out HS.out wM _ _ _ _ _ _ _ _ HPM.out.ow (Nat.le_of_lt HPM.out.lt)).mono ?_
        rintro e wN ⟨rfl, hmN, haN⟩
        have HPN : Hid (Pw W7 wN w4.heap.size w6.heap.size w8.heap.size w9.heap.size #[.int .i64 pid, .int .i64 pc, .slice (some ⟨x, 0, none⟩) R R, .slice (some ⟨y, 0, none⟩) B B, .slice (some ⟨z, 0, none⟩) N N, .int .i64 ha] #[.slice (some ⟨g, 0, none⟩) GN GN, .slice (some ⟨u, 0, none⟩) GM GM, .int .i64 mk] #[.int .i64 apid, .int .i64 apc, .slice ra9 regs.length rc9, .slice ba9 box.length bc9, .slice la9 aN lc9] (mrA A) ⟨ra9, rc9, ba9, bc9, la9, lc9⟩) := HPM.out.mark HOD.out hmN haN
        have q13 := HPN.out.q13
        clear hmN haN HPM
        go_wp2_with (go_at_call 26; fail)
        clear q13
        refine (HHA.out HS.out wN _ _ _ _ _ _ HPN.out.ow.rd).mono ?_
        rintro e wL ⟨rfl, bL⟩
        have HPL : Hid (Pw W7 wL w4.heap.size w6.heap.size w8.heap.size w9.heap.size #[.int .i64 pid, .int .i64 pc, .slice (some ⟨x, 0, none⟩) R R, .slice (some ⟨y, 0, none⟩) B B, .slice (some ⟨z, 0, none⟩) N N, .int .i64 ha] #[.slice (some ⟨g, 0, none⟩) GN GN, .slice (some ⟨u, 0, none⟩) GM GM, .int .i64 mk] #[.int .i64 apid, .int .i64 apc, .slice ra9 regs.length rc9, .slice ba9 box.length bc9, .slice la9 aN lc9] (mrA A) ⟨ra9, rc9, ba9, bc9, la9, lc9⟩) := HPN.out.below HOD.out bL
        have HAL : Hid (Aw w wL #[.int .i64 pid, .int .i64 pc, .slice ra R rc, .slice ba B bc, .slice la N lc, .int .i64 ha] #[.slice ao GN gcap, .slice yo GM ycap, .int .i64 mk]) := HA7.out.next HPL.out.b7
        have hcneg : ¬ (((cA A : Nat) : Int) < 0) := by omega
        clear bL HPN
        have q0 := HAL.out.q0
        have q1 := HAL.out.q1
        have HD0 : Sx w wL.drew #[.int .i64 pid, .int .i64 pc, .slice ra R rc, .slice ba B bc, .slice la N lc, .int .i64 ha] #[.slice ao GN gcap, .slice yo GM ycap, .int .i64 mk] C GN GM gf gy L none none none := (Sx.start HAL.out).drew
        have HD1 : Sx w (wL.alloc (.cells #[.int .i64 0, .int .i64 0, .slice none 0 0, .slice none 0 0, .slice none 0 0] 41)).drew #[.int .i64 pid, .int .i64 pc, .slice ra R rc, .slice ba B bc, .slice la N lc, .int .i64 ha] #[.slice ao GN gcap, .slice yo GM ycap, .int .i64 mk] C GN GM gf gy L none none none := ((Sx.start HAL.out).alloc _).drew
        have HT0 : Below wL.heap.size wL wL.drew := (Below.refl _ _).drew
        have HT1 : Below wL.heap.size wL (wL.alloc (.cells #[.int .i64 0, .int .i64 0, .slice none 0 0, .slice none 0 0, .slice none 0 0] 41)).drew := ((Below.refl _ _).alloc (Nat.le_refl _) _).drew
        have q0a : ∀ o, (wL.alloc (.cells #[.int .i64 0, .int .i64 0, .slice none 0 0, .slice none 0 0, .slice none 0 0] 41)).cell? ⟨w.heap.size, o, none⟩ = (#[.int .i64 pid, .int .i64 pc, .slice ra R rc, .slice ba B bc, .slice la N lc, .int .i64 ha] : Array Value)[o]? := HD1.aw.q0
        have q1a : ∀ o, (wL.alloc (.cells #[.int .i64 0, .int .i64 0, .slice none 0 0, .slice none 0 0, .slice none 0 0] 41)).cell? ⟨w.heap.size + 1, o, none⟩ = (#[.slice ao GN gcap, .slice yo GM ycap, .int .i64 mk] : Array Value)[o]? := HD1.aw.q1
        go_wp2_with fail
        go_cut [18, 19] from 115 to 124 (fun v8 v9 wx => ∃ (k : Nat) (s1 : Option Addr) (s2 : Nat) (s3 : Option Addr) (s4 : Nat) (s5 : Option Addr) (s6 : Nat), v8 = .pointer (some ⟨k, 0, none⟩) ∧ v9 = .bool K ∧ Below wL.heap.size wL wx ∧ Aw w wx #[.int .i64 pid, .int .i64 pc, .slice ra R rc, .slice ba B bc, .slice la N lc, .int .i64 ha] #[.slice ao GN gcap, .slice yo GM ycap, .int .i64 mk] ∧ (∀ o, wx.cell? ⟨k, o, none⟩ = (#[.int .i64 apid, .int .i64 apc, .slice s1 regs.length s2, .slice s3 box.length s4, .slice s5 aN s6] : Array Value)[o]?) ∧ AcR wx A ⟨s1, s2, s3, s4, s5, s6⟩)
        case first =>
          go_region_law (go_simp; go_wp2_with (first
            | (go_at_call 7; first
                | (refine (HTC.out HS.out _ none none HD0).mono ?_; rintro e wC ⟨x', y', z', rfl, hx', sC, bC⟩; have tC := HT0.trans (bC.mono HT0.size); have q1C := sC.aw.q1; have q1CA : ∀ o o', (wC.alloc o').cell? ⟨w.heap.size + 1, o, none⟩ = (#[.slice ao GN gcap, .slice yo GM ycap, .int .i64 mk] : Array Value)[o]? := (fun o o' => (sC.alloc o').aw.q1 o))
                | (refine (HTC.out HS.out _ none none HD1).mono ?_; rintro e wC ⟨x', y', z', rfl, hx', sC, bC⟩; have tC := HT1.trans (bC.mono HT1.size); have q1C := sC.aw.q1; have q1CA : ∀ o o', (wC.alloc o').cell? ⟨w.heap.size + 1, o, none⟩ = (#[.slice ao GN gcap, .slice yo GM ycap, .int .i64 mk] : Array Value)[o]? := (fun o o' => (sC.alloc o').aw.q1 o); have zC := keepZd bC; have kl := HAL.out.lt; have km : wL.heap.size ≤ wL.heap.size := Nat.le_refl _))
            | (go_at_call 17; first
                | (refine (HTG.out HF.out _ _ none sC).mono ?_; rintro e wG ⟨g', u', rfl, hg', sG, bG⟩; have tG := tC.trans (bG.mono tC.size); first | (have zG := keepQ zC bG) | skip)
                | (refine (HTG.out HF.out _ _ none (sC.alloc _)).mono ?_; rintro e wG ⟨g', u', rfl, hg', sG, bG⟩; have tG := (tC.alloc tC.size _).trans (bG.mono (tC.alloc tC.size _).size); have zG := keepZ bG; have kl := sC.aw.lt; have km := tC.size))
            | (go_at_call 18; first
                | (refine (HTS.out HL.out _ _ _ sG).mono ?_; rintro e wS ⟨s', rfl, hss', sS, bS⟩; have tS := tG.trans (bS.mono tG.size); first | (have zS := keepQ zG bS) | skip)
                | (refine (HTS.out HL.out _ _ _ (sG.alloc _)).mono ?_; rintro e wS ⟨s', rfl, hss', sS, bS⟩; have tS := (tG.alloc tG.size _).trans (bS.mono (tG.alloc tG.size _).size); have zS := keepZ bS; have kl := sG.aw.lt; have km := tG.size))
            | (go_at_call 19; first
                | (refine (HIM.out HS.out HF.out HL.out HLS.out _ _ _ _ _ _ _ sS).mono ?_; rintro e w5 ⟨s1, s2, s3, s4, s5, s6, rfl, hao, sx5, b5⟩; have t5 := tS.trans (b5.mono tS.size); have hap := AcO.toP hao (Nat.le_refl _); first | (have z5 := keepQ zS b5; have z5q := z5.1; have z5f := z5.2.1; have HFN : Hid _ := And.intro (bsets t5 km (.int .i64 apid) (.int .i64 apc) (.slice s1 regs.length s2) (.slice s3 box.length s4) (.slice s5 aN s6)) (fin2 sx5.aw kl zS.2.2 z5q hap (.int .i64 apid) (.int .i64 apc) (.slice s1 regs.length s2) (.slice s3 box.length s4) (.slice s5 aN s6)); clear z5) | (have HFN : Hid _ := And.intro (t5.alloc t5.size (.cells #[.int .i64 apid, .int .i64 apc, .slice s1 regs.length s2, .slice s3 box.length s4, .slice s5 aN s6] 41)) (fin1 sx5.aw hap (.int .i64 apid) (.int .i64 apc) (.slice s1 regs.length s2) (.slice s3 box.length s4) (.slice s5 aN s6) 41)))
                | (refine (HIM.out HS.out HF.out HL.out HLS.out _ _ _ _ _ _ _ (sS.alloc _)).mono ?_; rintro e w5 ⟨s1, s2, s3, s4, s5, s6, rfl, hao, sx5, b5⟩; have t5 := (tS.alloc tS.size _).trans (b5.mono (tS.alloc tS.size _).size); have hap := AcO.toP hao (Nat.le_refl _); have z5 := keepZ b5; have z5q := z5.1; have z5f := z5.2.1; have HFN : Hid _ := And.intro (bsets t5 tS.size (.int .i64 apid) (.int .i64 apc) (.slice s1 regs.length s2) (.slice s3 box.length s4) (.slice s5 aN s6)) (fin2 sx5.aw sS.aw.lt (alloc_lt wS #[.int .i64 0, .int .i64 0, .slice none 0 0, .slice none 0 0, .slice none 0 0] 41) z5q hap (.int .i64 apid) (.int .i64 apc) (.slice s1 regs.length s2) (.slice s3 box.length s4) (.slice s5 aN s6)); clear z5))))
          all_goals
            clear hap hao sx5 t5 b5 sC bC sG bG sS bS tC tG tS
            go_wp2_with fail
            go_meet
            case rel => exact ⟨_, s1, s2, s3, s4, s5, s6, rfl, rfl, HFN.out⟩

        case rest =>
          obtain ⟨wX, hX⟩ : ∃ wX, wX = wc := ⟨_, rfl⟩
          obtain rfl := hX
          obtain ⟨kx, s1, s2, s3, s4, s5, s6, rfl, rfl, hbX, hawX, hqX, hrX⟩ := hcut
          have HPX : Hid (Pw W7 wX w4.heap.size w6.heap.size w8.heap.size w9.heap.size #[.int .i64 pid, .int .i64 pc, .slice (some ⟨x, 0, none⟩) R R, .slice (some ⟨y, 0, none⟩) B B, .slice (some ⟨z, 0, none⟩) N N, .int .i64 ha] #[.slice (some ⟨g, 0, none⟩) GN GN, .slice (some ⟨u, 0, none⟩) GM GM, .int .i64 mk] #[.int .i64 apid, .int .i64 apc, .slice ra9 regs.length rc9, .slice ba9 box.length bc9, .slice la9 aN lc9] (mrA A) ⟨ra9, rc9, ba9, bc9, la9, lc9⟩) := HPL.out.below HOD.out hbX
          have HRX : Hid (AcR wX A ⟨s1, s2, s3, s4, s5, s6⟩) := hrX
          have qw := HQW.out wX HPX.out.b7
          clear hbX hawX hrX q0 q1 q0a q1a HD0 HD1 HT0 HT1
          go_wp2_with (go_at_call 20; fail)
          clear qw hqX
          refine (HEA.out HS.out wX _ _ _ _ _ _ _ _ _ _ _ _ HRX.out (HR7.out.below HPX.out.b7)).mono ?_
          rintro e wY ⟨rfl, bY⟩
          have HPY : Hid (Pw W7 wY w4.heap.size w6.heap.size w8.heap.size w9.heap.size #[.int .i64 pid, .int .i64 pc, .slice (some ⟨x, 0, none⟩) R R, .slice (some ⟨y, 0, none⟩) B B, .slice (some ⟨z, 0, none⟩) N N, .int .i64 ha] #[.slice (some ⟨g, 0, none⟩) GN GN, .slice (some ⟨u, 0, none⟩) GM GM, .int .i64 mk] #[.int .i64 apid, .int .i64 apc, .slice ra9 regs.length rc9, .slice ba9 box.length bc9, .slice la9 aN lc9] (mrA A) ⟨ra9, rc9, ba9, bc9, la9, lc9⟩) := HPX.out.below HOD.out bY
          have q13 := HPY.out.q13
          clear bY HPX HRX
          go_wp2_with (go_at_call 26; fail)
          clear q13
          refine (HHA.out HS.out wY _ _ _ _ _ _ HPY.out.ow.rd).mono ?_
          rintro e wZ ⟨rfl, bZ⟩
          have HFZ : Hid (Below w.heap.size w wZ) := (HA7.out.next (HPY.out.below HOD.out bZ).b7).be
          clear bZ
          go_wp2_with fail
          go_ret
          exact ⟨rfl, HFZ.out⟩
end Go.Proofs.Ytjjmikfbongccaa.fnExactActorOf
namespace Go.Proofs.Ytjjmikfbongccaa.fnExactActorOf
open Go.RowKit Go.ChangeShapes Go.WideShapes Go.ChangeAt Go.Proofs.Ytjjmikfbongccaa Go.Proofs.Ytjjmikfbongccaa.Gn
set_option linter.unusedVariables false

theorem own : ownKnob Try.prog.godebug = none := by kernel_rfl
theorem laidOut : laidOutB Try.prog = true := by kernel_rfl
theorem cellsGens : Try.prog.cellsOf 35 = 3 := by kernel_rfl
theorem cellsInt : Try.prog.cellsOf 3 = 1 := by kernel_rfl
theorem cellsInts : Try.prog.cellsOf 22 = 1 := by kernel_rfl
theorem ints_open {H : Type} {enc : TypeId × Value → H} {w : World} {base : Nat} {spare : Nat → Bool} {held : Bool} (m : Nat) (v0 : Value) (y0 : DataW H × List MemPlace) (g0 : DataW.trod enc Try.prog w base spare held m 22 [v0] = some y0) :
    ∃ (ao : Option Addr) (N cap : Nat) (f : Nat → Int), v0 = .slice ao N cap ∧ RdI w ao N f ∧ N ≤ cap ∧ cap ≤ maxLen ∧ ∀ j, f j ≤ 9223372036854775807 := by
  rcases open_ints Try.underlying22 Try.underlying3 (by kernel_rfl) g0 with ⟨hcs, _⟩ | ⟨a, l, c, zs, hcs, _, hle, hm, hz, _, hcell, hwz⟩
  · simp only [List.cons.injEq, and_true] at hcs
    subst hcs
    exact ⟨none, 0, 0, fun _ => 0, rfl, fun h => absurd rfl h, Nat.le_refl _, Nat.zero_le _, fun _ => (by show (0 : Int) ≤ _; decide)⟩
  · simp only [List.cons.injEq, and_true] at hcs
    subst hcs
    refine ⟨some a, l, c, fun j => zs.getD j 0, rfl, fun hn => ?_, hle, hm, fun j => ?_⟩
    · have hzl : l ≤ zs.length := by rw [hz]; split <;> omega
      obtain ⟨b, off, spot⟩ := a
      have q0 := hcell 0 (by omega)
      have hs : spot = none := by simpa [Addr.add] using World.cell?_spot q0
      subst hs
      refine ⟨b, off, rfl, fun j hj => ?_⟩
      have := hcell j (by omega)
      rw [Addr.add_lit] at this
      exact this
    · show zs.getD j 0 ≤ _
      by_cases hj : j < zs.length
      · have e : zs.getD j 0 = zs[j] := by simp [hj]
        rw [e]
        exact i64_le (hwz _ (List.getElem_mem hj))
      · have e : zs.getD j 0 = 0 := by simp [hj]
        rw [e]; decide
set_option maxRecDepth 100000 in
theorem gens_open {H : Type} {enc : TypeId × Value → H} {w : World} {base : Nat} {spare : Nat → Bool} {held : Bool} (fuel : Nat) (cs : List Value) (x : DataW H × List MemPlace) (h : DataW.trod enc Try.prog w base spare held fuel 35 cs = some x) :
    ∃ (ao : Option Addr) (N cap : Nat) (f : Nat → Int) (yo : Option Addr) (M ycap : Nat) (fy : Nat → Int) (mk : Int), cs = [.slice ao N cap, .slice yo M ycap, .int .i64 mk] ∧ RdI w ao N f ∧ N ≤ cap ∧ cap ≤ maxLen ∧ (∀ j, f j ≤ 9223372036854775807) ∧ RdI w yo M fy ∧ M ≤ ycap ∧ ycap ≤ maxLen ∧ (∀ j, fy j ≤ 9223372036854775807) := by
  obtain ⟨xs, m, hfu, _, hl, hlen, hf⟩ := DataW.trod_struct Try.underlying35 h
  rw [cellsGens] at hl
  match cs, hl, xs, hlen with
  | [v0, v1, v2], _, [y0, y1, y2], _ =>
    have h0 : DataW.trod enc Try.prog w base spare held m 22 (([v0, v1, v2].drop 0).take (Try.prog.cellsOf 22)) = some y0 := hf 0 _ rfl
    have h1 : DataW.trod enc Try.prog w base spare held m 22 (([v0, v1, v2].drop 1).take (Try.prog.cellsOf 22)) = some y1 := hf 1 _ rfl
    have h2 : DataW.trod enc Try.prog w base spare held m 3 (([v0, v1, v2].drop 2).take (Try.prog.cellsOf 3)) = some y2 := hf 2 _ rfl
    rw [cellsInts] at h0 h1
    rw [cellsInt] at h2
    have g0 : DataW.trod enc Try.prog w base spare held m 22 [v0] = some y0 := h0
    have g1 : DataW.trod enc Try.prog w base spare held m 22 [v1] = some y1 := h1
    have g2 : DataW.trod enc Try.prog w base spare held m 3 [v2] = some y2 := h2
    obtain ⟨ao, N, cap, f, rfl, a1, a2, a3, a4⟩ := ints_open m v0 y0 g0
    obtain ⟨yo, M, ycap, fy, rfl, b1, b2, b3, b4⟩ := ints_open m v1 y1 g1
    obtain ⟨mk, e2, _, _⟩ := DataW.trod_int Try.underlying3 g2
    obtain rfl : v2 = .int .i64 mk := by simpa using e2
    exact ⟨ao, N, cap, f, yo, M, ycap, fy, mk, rfl, a1, a2, a3, a4, b1, b2, b3, b4⟩

theorem cellsCell : Try.prog.cellsOf 24 = 6 := by kernel_rfl
theorem row_big {N : Nat} {f : Nat → Int} (h : ∀ j, f j ≤ 9223372036854775807) : ∀ x ∈ rowL N f, x ≤ 9223372036854775807 := fun x hx => by
  obtain ⟨j, _, rfl⟩ := List.mem_map.1 hx
  exact h j
set_option maxRecDepth 100000 in
theorem open_cell {H : Type} {enc : TypeId × Value → H} {W : World} {r : Reach} {b0 base : Nat} {sp : Nat → Bool} {held : Bool} {v : Value} {d : DataW H} {p : List MemPlace}
    (hv : Value.okWide Try.prog W r b0 24 v) (h : DataW.Trod enc Try.prog W base sp held 24 v d p) :
    ∃ (c : Ce) (g : Cw), v = ceV c g ∧ CeR W c g ∧ c.R ≤ maxLen ∧ c.B ≤ maxLen ∧ c.N ≤ maxLen ∧ CeB c := by
  obtain ⟨cs, rfl, hsz⟩ := okWide_struct Try.underlying24 hv
  obtain ⟨fuel, hf⟩ := h
  obtain ⟨xs, n, _, _, hl, hlen, hf⟩ := DataW.trod_struct Try.underlying24 hf
  rw [cellsCell] at hsz
  obtain ⟨l⟩ := cs
  have hl6 : l.length = 6 := hsz
  match l, hl6, xs, hlen with
  | [v0, v1, v2, v3, v4, v5], _, [y0, y1, y2, y3, y4, y5], _ =>
    have k0 : DataW.trod enc Try.prog W base sp held n 3 ((([v0, v1, v2, v3, v4, v5] : List Value).drop 0).take (Try.prog.cellsOf 3)) = some y0 := hf 0 _ rfl
    have k1 : DataW.trod enc Try.prog W base sp held n 3 ((([v0, v1, v2, v3, v4, v5] : List Value).drop 1).take (Try.prog.cellsOf 3)) = some y1 := hf 1 _ rfl
    have k2 : DataW.trod enc Try.prog W base sp held n 22 ((([v0, v1, v2, v3, v4, v5] : List Value).drop 2).take (Try.prog.cellsOf 22)) = some y2 := hf 2 _ rfl
    have k3 : DataW.trod enc Try.prog W base sp held n 22 ((([v0, v1, v2, v3, v4, v5] : List Value).drop 3).take (Try.prog.cellsOf 22)) = some y3 := hf 3 _ rfl
    have k4 : DataW.trod enc Try.prog W base sp held n 22 ((([v0, v1, v2, v3, v4, v5] : List Value).drop 4).take (Try.prog.cellsOf 22)) = some y4 := hf 4 _ rfl
    have k5 : DataW.trod enc Try.prog W base sp held n 3 ((([v0, v1, v2, v3, v4, v5] : List Value).drop 5).take (Try.prog.cellsOf 3)) = some y5 := hf 5 _ rfl
    rw [cellsInt] at k0 k1 k5
    rw [cellsInts] at k2 k3 k4
    have g0 : DataW.trod enc Try.prog W base sp held n 3 [v0] = some y0 := k0
    have g1 : DataW.trod enc Try.prog W base sp held n 3 [v1] = some y1 := k1
    have g5 : DataW.trod enc Try.prog W base sp held n 3 [v5] = some y5 := k5
    obtain ⟨pid, e0, _, _⟩ := DataW.trod_int Try.underlying3 g0
    obtain ⟨pc, e1, _, _⟩ := DataW.trod_int Try.underlying3 g1
    obtain ⟨ha, e5, _, _⟩ := DataW.trod_int Try.underlying3 g5
    simp only [List.cons.injEq, and_true] at e0 e1 e5
    subst e0 e1 e5
    obtain ⟨ra, R, rc, r, rfl, r0, r1, r2, r3⟩ := ints_open n v2 y2 k2
    obtain ⟨ba, B, bc, b, rfl, b0, b1, b2, b3⟩ := ints_open n v3 y3 k3
    obtain ⟨la, N, lc, f, rfl, l0, l1, l2, _⟩ := ints_open n v4 y4 k4
    exact ⟨⟨pid, pc, R, r, B, b, N, f, ha⟩, ⟨ra, rc, ba, bc, la, lc⟩, rfl, ⟨r0, b0, l0⟩, Nat.le_trans r1 r2, Nat.le_trans b1 b2, Nat.le_trans l1 l2, row_big r3, row_big b3⟩
set_option maxRecDepth 100000 in
theorem lifted (os : Os) (started : os.Started) (H : Type) (enc : TypeId × Value → H) :
    ReturnsInHanded {} Try.checked os 4 .any (Rows.fnExactActorOfSpec.pre6 enc Try.prog Try.f4 Rows.fnExactActorOfRow.domain false) (Rows.fnExactActorOfSpec.post enc Try.prog Try.f4 false true false false) := by
  refine returnsInHanded_of_change (C := Try.checked) own started (by kernel_rfl) Try.func4
    (ChangeSpec.witness6 (enc := enc) (C := Try.checked) false ⟨#[], #[.agg #[.int .i64 0, .int .i64 0, .slice none 0 0, .slice none 0 0, .slice none 0 0, .int .i64 0], .agg #[.slice none 0 0, .slice none 0 0, .int .i64 0], .slice none 0 0], []⟩ 8 (by kernel_rfl) (by kernel_rfl) (by kernel_rfl) (by kernel_rfl)) ?_
  intro W base args ds gs before hval0 hW hcnd _
  have hval : ∀ (j : Nat) t v, Try.f4.params[j]? = some t → args[j]? = some v → Value.okWide Try.prog W .any base t v := hval0
  have hW' := hW
  obtain ⟨p, q, hA0, hV, rfl, hfz, hnd⟩ := hW
  have hA : DataW.TrodAll enc Try.prog W 0 (fun _ => true) true Try.f4.params.toList args.toList ds p := hA0
  rw [Try.params4] at hA hval
  obtain ⟨v0, vs0, d0, ds0, p0, q0, hargs, rfl, rfl, h0, r0⟩ := trodAll_cons hA
  obtain ⟨v1, vs1, d1, ds1, p1, q1, rfl, rfl, rfl, h1, r1⟩ := trodAll_cons r0
  obtain ⟨v2, vs2, d2, ds2, p2, q2, rfl, rfl, rfl, h2, r2⟩ := trodAll_cons r1
  obtain ⟨rfl, rfl, rfl⟩ := trodAll_nil r2
  obtain rfl : args = #[v0, v1, v2] := by cases args; simp_all
  obtain ⟨rfl, rfl⟩ := trodVars_none hV
  obtain ⟨cs, rfl, hsz0⟩ := okWide_struct Try.underlying35 (hval 1 35 v1 rfl rfl)
  obtain ⟨av, len, acap, rfl⟩ := okWide_slice Try.underlying36 (hval 2 36 v2 rfl rfl)
  have k0 := h0
  have k1 := h1
  have k2 := h2
  have lt2 : ∀ x ∈ p2, x.block < W.heap.size := by obtain ⟨m, hm⟩ := k2; exact DataW.trod_lt m _ _ _ hm
  obtain ⟨c, cw, rfl, hcr, hc1, hc2, hc3, hcb⟩ := open_cell (hval 0 24 v0 rfl rfl) h0
  have lt0 : ∀ x ∈ p0, x.block < W.heap.size := by obtain ⟨m, hm⟩ := k0; exact DataW.trod_lt m _ _ _ hm
  have lt1 : ∀ x ∈ p1, x.block < W.heap.size := by obtain ⟨m, hm⟩ := k1; exact DataW.trod_lt m _ _ _ hm
  obtain ⟨ao, N, cap, f, yo, M, ycap, fy, mk, rfl, hr, hle, hm, hfb, hry, hley, hmy, hfby⟩ : ∃ (ao : Option Addr) (N cap : Nat) (f : Nat → Int) (yo : Option Addr) (M ycap : Nat) (fy : Nat → Int) (mk : Int), cs = #[.slice ao N cap, .slice yo M ycap, .int .i64 mk] ∧ RdI W ao N f ∧ N ≤ cap ∧ cap ≤ maxLen ∧ (∀ j, f j ≤ 9223372036854775807) ∧ RdI W yo M fy ∧ M ≤ ycap ∧ ycap ≤ maxLen ∧ (∀ j, fy j ≤ 9223372036854775807) := by
    obtain ⟨fuel, hf⟩ := h1
    obtain ⟨ao, N, cap, f, yo, M, ycap, fy, mk, e, hh⟩ := gens_open fuel _ _ hf
    refine ⟨ao, N, cap, f, yo, M, ycap, fy, mk, ?_, hh⟩
    obtain ⟨l⟩ := cs
    simpa [Value.cells] using e
  obtain ⟨L, hL, hrT, hsz, hmL⟩ : ∃ L : List ByteArray, len = L.length ∧ RdT W av L ∧ (∀ x ∈ L, x.size ≤ maxLen) ∧ L.length ≤ maxLen := by
    obtain ⟨fuel, hf⟩ := h2
    rcases open_strings Try.underlying36 Try.underlying9 (by kernel_rfl) hf with ⟨hcs, hx⟩ | ⟨a, len2, cap2, ss, hcs, _, hl, hmm, hz, hx, hcell, hs⟩
    · have e : (Value.slice av len acap) = .slice none 0 0 := by simpa [Value.cells] using hcs
      cases e
      exact ⟨[], rfl, fun h => absurd rfl h, fun x hx => by simp at hx, Nat.zero_le _⟩
    · have e : (Value.slice av len acap) = .slice (some a) len2 cap2 := by simpa [Value.cells] using hcs
      cases e
      have hzl : len ≤ ss.length := by rw [hz]; split <;> omega
      have hln : (ss.take len).length = len := by simp; omega
      refine ⟨ss.take len, hln.symm, fun hn => ?_, fun x hx => hs x (List.mem_of_mem_take hx), by rw [hln]; exact Nat.le_trans hl hmm⟩
      obtain ⟨b, off, spot⟩ := a
      have q0 := hcell 0 (by omega)
      have hsp : spot = none := by simpa [Addr.add] using World.cell?_spot q0
      subst hsp
      refine ⟨b, off, rfl, fun j hj => ?_⟩
      have hj2 : j < ss.length := by omega
      have := hcell j hj2
      rw [Addr.add_lit, List.getD_eq_getElem?_getD, List.getElem?_eq_getElem hj2] at this
      rw [List.getElem_take]
      exact this
  subst hL
  clear hA0 hval0
  refine (walk c cw ao N cap f yo M ycap fy mk av acap L W hcr hc1 hc2 hc3 hcb ⟨hr, hry⟩ (Nat.le_trans hle hm) (Nat.le_trans hley hmy) hfb hfby hrT hmL hsz).mono fun e W' ⟨he, bel⟩ => ?_
  subst he
  exact ⟨_, rfl, _, _, _, [], _, [], hW', trodAll_mk1 (shut_bool Try.underlying4 _), (trodAll_cons_mk (Below.trod laidOut (by kernel_rfl) (of_decide_eq_true (by kernel_rfl)) k0 bel lt0) (trodAll_cons_mk (Below.trod laidOut (by kernel_rfl) (of_decide_eq_true (by kernel_rfl)) k1 bel lt1) (trodAll_cons_mk (Below.trod laidOut (by kernel_rfl) (of_decide_eq_true (by kernel_rfl)) k2 bel lt2) trodAll_mk0))), rfl, bel.frame _, fun h => by cases h⟩

theorem over : Rows.fnExactActorOfRow.holds Try.pinned (OpenSpec.ofChange Rows.fnExactActorOfSpec) :=
  OpenClaim.holds_of_wide 4 Try.f4 rfl rfl rfl rfl rfl rfl rfl ⟨rfl, rfl, rfl, rfl, rfl⟩ rfl rfl rfl rfl rfl (by kernel_rfl) Try.func4 (by kernel_rfl)
    (of_decide_eq_true (by kernel_rfl)) (by unfold Func.isWrapper; first | (rw [if_pos (by decide +kernel)]; kernel_rfl) | (rw [if_neg (by decide +kernel)]; exact ⟨rfl, rfl⟩))
    (fun os started H enc _ => lifted os started H enc)
end Go.Proofs.Ytjjmikfbongccaa.fnExactActorOf
namespace Go.Proofs.Ytjjmikfbongccaa
theorem fnExactActorOf_holds : Rows.FnExactActorOfSaid := fnExactActorOf.over
#print axioms fnExactActorOf_holds
end Go.Proofs.Ytjjmikfbongccaa
