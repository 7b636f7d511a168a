/-
  ActorOk: the specification's and the program's answer acB.
-/
import Derived.Test.YtgbopbpiciopdaaGreatDoorAcD
import Derived.Test.YtgbopbpiciopdaaGreatDoorCkB
import Derived.Test.YtgbopbpiciopdaaGreatDoorCkC
import Derived.Test.YtgbopbpiciopdaaGreatDoorSiA
import Derived.Test.YtgbopbpiciopdaaGreatDoorInn
namespace Go.Proofs.YtgbopbpiciopdaaGreatDoor
open Go.RowKit Atom
open Go.Proofs.YtgbopbpiciopdaaGreatDoor.Code
set_option linter.unusedVariables false

/-- An actor is right. -/
def acB (l : List I) (a : Ac) : Bool := codeB l && (pidB a.pid && (decide (0 ≤ a.pc ∧ a.pc < l.length) && (decide (a.regs.length = 8) && (allOk a.regs && (decide (a.box.length ≤ 30) && (allOk a.box && (lnkB a.f a.pid a.N && decide (a.N ≤ 50))))))))
theorem acB_no1 {l : List I} {a : Ac} (h : codeB l = false) : acB l a = false := by unfold acB; rw [h]; rfl
theorem acB_no2 {l : List I} {a : Ac} (h : ¬ (1 ≤ a.pid ∧ a.pid ≤ 99999)) : acB l a = false := by unfold acB pidB; rw [decide_eq_false h]; simp
theorem acB_no3 {l : List I} {a : Ac} (h : ¬ (0 ≤ a.pc ∧ a.pc < l.length)) : acB l a = false := by unfold acB; rw [decide_eq_false h]; simp
theorem acB_no4 {l : List I} {a : Ac} (h : ¬ a.regs.length = 8) : acB l a = false := by unfold acB; rw [decide_eq_false h]; simp
theorem acB_no5 {l : List I} {a : Ac} (h : ¬ a.box.length ≤ 30) : acB l a = false := by unfold acB; rw [decide_eq_false h]; simp
theorem acB_no6 {l : List I} {a : Ac} (h : allOk a.regs = false) : acB l a = false := by unfold acB; rw [h]; simp
theorem acB_no7 {l : List I} {a : Ac} (h : allOk a.box = false) : acB l a = false := by unfold acB; rw [h]; simp
theorem acB_is {l : List I} {a : Ac} (h1 : codeB l = true) (h2 : 1 ≤ a.pid ∧ a.pid ≤ 99999) (h3 : 0 ≤ a.pc ∧ a.pc < l.length) (h4 : a.regs.length = 8) (h5 : a.box.length ≤ 30) (h6 : allOk a.regs = true) (h7 : allOk a.box = true) :
    acB l a = (lnkB a.f a.pid a.N && decide (a.N ≤ 50)) := by
  unfold acB pidB
  rw [h1, decide_eq_true h2, decide_eq_true h3, decide_eq_true h4, decide_eq_true h5, h6, h7]; simp
theorem codeB_len {l : List I} (h : codeB l = true) : 1 ≤ l.length ∧ l.length ≤ 200 := by
  by_cases hn : 1 ≤ l.length ∧ l.length ≤ 200
  · exact hn
  · rw [codeB_no hn] at h; cases h

set_option maxHeartbeats 4000000 in
set_option maxRecDepth 100000 in
theorem specActorOk_any (l : List I) (lo : Option Addr) (lc2 : Nat) (a : Ac) (h : Wh) (w : World) (hl : RowI w lo l) (hsm : SmI maxLen l) (hln : l.length ≤ 1048576) (hr : AcR w a h) (hN : a.N ≤ 1048576) :
    Calls Tryz.prog 33 #[.slice lo l.length lc2, acV a h] w fun e w' => e = .returned (.bool (acB l a)) ∧ Below w.heap.size w w' := by
  obtain ⟨pid, pc, regs, box, N, f⟩ := a
  obtain ⟨ra, rc, ba, bc, la, lc⟩ := h
  have HR : Hid (AcR w ⟨pid, pc, regs, box, N, f⟩ ⟨ra, rc, ba, bc, la, lc⟩) := hr
  have HL : Hid (RowI w lo l) := hl
  have HSM : Hid (SmI maxLen l) := hsm
  have HLN : Hid (l.length ≤ 9223372036854775807) := by show _ ≤ _; omega
  have HN : Hid (N ≤ 1048576) := hN
  have hrm : (regs.length : Int) ≤ 9223372036854775807 := by have := Nat.le_trans hr.r1 hr.r2; unfold maxLen at this; simp only at this; omega
  have hbm : (box.length : Int) ≤ 9223372036854775807 := by have := Nat.le_trans hr.b1 hr.b2; unfold maxLen at this; simp only at this; omega
  obtain ⟨w0, hw0⟩ : ∃ w0, w0 = w.alloc (.cells #[.int .i64 pid, .int .i64 pc, .slice ra regs.length rc, .slice ba box.length bc, .slice la N lc] 64) := ⟨_, rfl⟩
  have HB0 : Hid (Below w.heap.size w w0) := by rw [hw0]; exact (Below.refl _ _).alloc (Nat.le_refl _) _
  have hq : ∀ j (v : Value), (#[.int .i64 pid, .int .i64 pc, .slice ra regs.length rc, .slice ba box.length bc, .slice la N lc] : Array Value)[j]? = some v → w0.cell? ⟨w.heap.size, j, none⟩ = some v := fun j v hv => by
    rw [hw0, World.cell?_alloc_new]; exact hv
  have HC : Hid (∀ w1, Below w0.heap.size w0 w1 → w1.cell? ⟨w.heap.size, 0, none⟩ = some (.int .i64 pid) ∧ w1.cell? ⟨w.heap.size, 1, none⟩ = some (.int .i64 pc) ∧ w1.cell? ⟨w.heap.size, 2, none⟩ = some (.slice ra regs.length rc) ∧ w1.cell? ⟨w.heap.size, 3, none⟩ = some (.slice ba box.length bc) ∧ w1.cell? ⟨w.heap.size, 4, none⟩ = some (.slice la N lc)) := fun w1 hb =>
    ⟨keepA hb (hq 0 _ rfl), keepA hb (hq 1 _ rfl), keepA hb (hq 2 _ rfl), keepA hb (hq 3 _ rfl), keepA hb (hq 4 _ rfl)⟩
  have HW : Hid (∀ w1, Below w0.heap.size w0 w1 → Below w.heap.size w w1) := fun w1 h => HB0.out.trans (h.mono HB0.out.size)
  have KCODE : Hid (∀ w1, Below w0.heap.size w0 w1 → Calls Tryz.prog 30 #[.slice lo l.length lc2] w1 fun e w2 => e = .returned (.bool (codeB l)) ∧ Below w0.heap.size w0 w2) := fun w1 hb => by
    have h := HW.out w1 hb
    exact (specCode_any l lo lc2 w1 (HL.out.below h) HSM.out HLN.out).mono fun e w2 ⟨h1, h2⟩ => ⟨h1, hb.trans (h2.mono hb.size)⟩
  have KREG : Hid (∀ w1, Below w0.heap.size w0 w1 → Calls Tryz.prog 72 #[.slice ra regs.length rc] w1 fun e w2 => e = .returned (.bool (allOk regs)) ∧ Below w0.heap.size w0 w2) := fun w1 hb =>
    (l9Terms_any regs ra rc w1 (HR.out.below (HW.out w1 hb)).regs HR.out.r1 HR.out.r2).mono fun e w2 ⟨h1, h2⟩ => ⟨h1, hb.trans (h2.mono hb.size)⟩
  have KBOX : Hid (∀ w1, Below w0.heap.size w0 w1 → Calls Tryz.prog 72 #[.slice ba box.length bc] w1 fun e w2 => e = .returned (.bool (allOk box)) ∧ Below w0.heap.size w0 w2) := fun w1 hb =>
    (l9Terms_any box ba bc w1 (HR.out.below (HW.out w1 hb)).box HR.out.b1 HR.out.b2).mono fun e w2 ⟨h1, h2⟩ => ⟨h1, hb.trans (h2.mono hb.size)⟩
  have KLNK : Hid (∀ w1, Below w0.heap.size w0 w1 → Calls Tryz.prog 73 #[.slice la N lc, .int .i64 pid] w1 fun e w2 => e = .returned (.bool (lnkB f pid N && decide (N ≤ 50))) ∧ Below w0.heap.size w0 w2) := fun w1 hb =>
    (l9Links_any la N lc f pid w1 (HR.out.below (HW.out w1 hb)).links HN.out).mono fun e w2 ⟨h1, h2⟩ => ⟨h1, hb.trans (h2.mono hb.size)⟩
  clear hq hl hsm hr hN
  go_enter Tryz.func33, Tryz.ntmps33
  go_wp2_with fail
  rw [← hw0]
  clear hw0
  refine (KCODE.out w0 (Below.refl _ _)).mono ?_
  rintro e w1 ⟨he, hb1⟩
  have HB1 : Hid (Below w0.heap.size w0 w1) := hb1
  obtain ⟨d0, d1, d2, d3, d4⟩ := HC.out w1 hb1
  clear hb1
  cases hc : codeB l
  · rw [hc] at he; subst he
    have HF : Hid (acB l ⟨pid, pc, regs, box, N, f⟩ = false) := acB_no1 hc
    clear hc
    go_wp2_with (first | (go_at_call 31; refine (Atom.in_any _ _ _ _).mono ?_; rintro e w' ⟨rfl, hw'⟩; obtain rfl := hw'.symm))
    go_ret
    exact ⟨ret_bool HF.out.symm, HW.out _ HB1.out⟩
  rw [hc] at he; subst he
  have hlen := codeB_len hc
  have HC1 : Hid (codeB l = true) := hc
  clear hc
  by_cases h2 : 1 ≤ pid ∧ pid ≤ 99999
  rotate_left
  · have q2 : Atom.inB pid 1 99999 = false := decide_eq_false h2
    have HF : Hid (acB l ⟨pid, pc, regs, box, N, f⟩ = false) := acB_no2 h2
    clear h2
    go_wp2_with (first | (go_at_call 31; refine (Atom.in_any _ _ _ _).mono ?_; rintro e w' ⟨rfl, hw'⟩; obtain rfl := hw'.symm))
    go_ret
    exact ⟨ret_bool HF.out.symm, HW.out _ HB1.out⟩
  have q2 : Atom.inB pid 1 99999 = true := decide_eq_true h2
  have H2 : Hid (1 ≤ pid ∧ pid ≤ 99999) := h2
  clear h2
  have ew : IntKind.i64.wrap ((l.length : Int) - 1) = (l.length : Int) - 1 := by rw [IntKind.wrap_i64]; omega
  by_cases h3 : 0 ≤ pc ∧ pc < l.length
  rotate_left
  · have q3 : Atom.inB pc 0 ((l.length : Int) - 1) = false := decide_eq_false (by omega)
    have HF : Hid (acB l ⟨pid, pc, regs, box, N, f⟩ = false) := acB_no3 h3
    clear h3
    go_wp2_with (first | (go_at_call 31; refine (Atom.in_any _ _ _ _).mono ?_; rintro e w' ⟨rfl, hw'⟩; obtain rfl := hw'.symm))
    go_ret
    exact ⟨ret_bool HF.out.symm, HW.out _ HB1.out⟩
  have q3 : Atom.inB pc 0 ((l.length : Int) - 1) = true := decide_eq_true (by omega)
  have H3 : Hid (0 ≤ pc ∧ pc < l.length) := h3
  clear h3
  by_cases h4 : regs.length = 8
  rotate_left
  · have q4 : ((regs.length : Int) != 8) = true := by simp; omega
    have HF : Hid (acB l ⟨pid, pc, regs, box, N, f⟩ = false) := acB_no4 h4
    clear h4
    go_wp2_with (first | (go_at_call 31; refine (Atom.in_any _ _ _ _).mono ?_; rintro e w' ⟨rfl, hw'⟩; obtain rfl := hw'.symm))
    go_ret
    exact ⟨ret_bool HF.out.symm, HW.out _ HB1.out⟩
  have q4 : ((regs.length : Int) != 8) = false := by simp; omega
  have H4 : Hid (regs.length = 8) := h4
  clear h4
  by_cases h5 : box.length ≤ 30
  rotate_left
  · have q5 : (30 : Int) < box.length := by omega
    have HF : Hid (acB l ⟨pid, pc, regs, box, N, f⟩ = false) := acB_no5 h5
    clear h5
    go_wp2_with (first | (go_at_call 31; refine (Atom.in_any _ _ _ _).mono ?_; rintro e w' ⟨rfl, hw'⟩; obtain rfl := hw'.symm))
    go_ret
    exact ⟨ret_bool HF.out.symm, HW.out _ HB1.out⟩
  have q5 : ¬ (30 : Int) < box.length := by omega
  have H5 : Hid (box.length ≤ 30) := h5
  clear h5
  go_wp2_with (first | (go_at_call 31; refine (Atom.in_any _ _ _ _).mono ?_; rintro e w' ⟨rfl, hw'⟩; obtain rfl := hw'.symm) | (go_at_call 72; fail))
  refine (KREG.out w1 HB1.out).mono ?_
  rintro e w2 ⟨he, hb2⟩
  have HB2 : Hid (Below w0.heap.size w0 w2) := hb2
  clear d0 d1 d2 d3 d4
  obtain ⟨d0, d1, d2, d3, d4⟩ := HC.out w2 hb2
  clear hb2
  cases h6 : allOk regs
  · rw [h6] at he; subst he
    have HF : Hid (acB l ⟨pid, pc, regs, box, N, f⟩ = false) := acB_no6 h6
    clear h6
    go_wp2_with (first | (go_at_call 31; refine (Atom.in_any _ _ _ _).mono ?_; rintro e w' ⟨rfl, hw'⟩; obtain rfl := hw'.symm))
    go_ret
    exact ⟨ret_bool HF.out.symm, HW.out _ HB2.out⟩
  rw [h6] at he; subst he
  have H6 : Hid (allOk regs = true) := h6
  clear h6
  go_wp2_with (first | (go_at_call 31; refine (Atom.in_any _ _ _ _).mono ?_; rintro e w' ⟨rfl, hw'⟩; obtain rfl := hw'.symm) | (go_at_call 72; fail))
  refine (KBOX.out w2 HB2.out).mono ?_
  rintro e w3 ⟨he, hb3⟩
  have HB3 : Hid (Below w0.heap.size w0 w3) := hb3
  clear d0 d1 d2 d3 d4
  obtain ⟨d0, d1, d2, d3, d4⟩ := HC.out w3 hb3
  clear hb3
  cases h7 : allOk box
  · rw [h7] at he; subst he
    have HF : Hid (acB l ⟨pid, pc, regs, box, N, f⟩ = false) := acB_no7 h7
    clear h7
    go_wp2_with (first | (go_at_call 31; refine (Atom.in_any _ _ _ _).mono ?_; rintro e w' ⟨rfl, hw'⟩; obtain rfl := hw'.symm))
    go_ret
    exact ⟨ret_bool HF.out.symm, HW.out _ HB3.out⟩
  rw [h7] at he; subst he
  have HF : Hid (acB l ⟨pid, pc, regs, box, N, f⟩ = (lnkB f pid N && decide (N ≤ 50))) := acB_is HC1.out H2.out H3.out H4.out H5.out H6.out h7
  clear h7
  go_wp2_with (first | (go_at_call 73; fail))
  refine (KLNK.out w3 HB3.out).mono ?_
  rintro e w4 ⟨rfl, hb4⟩
  have HB4 : Hid (Below w0.heap.size w0 w4) := hb4
  clear hb4 d0 d1 d2 d3 d4
  generalize (lnkB f pid N && decide (N ≤ 50)) = q at HF
  go_wp2_with fail
  go_ret
  exact ⟨ret_bool HF.out.symm, HW.out _ HB4.out⟩

theorem acB_eq (l : List I) (a : Ac) : acB l a = (stB l a.pid a.pc a.regs.length a.box.length a.f a.N && (allOk a.regs && allOk a.box)) := by
  unfold acB stB
  generalize codeB l = b1
  generalize pidB a.pid = b2
  generalize decide (0 ≤ a.pc ∧ a.pc < l.length) = b3
  generalize decide (a.regs.length = 8) = b4
  generalize allOk a.regs = b5
  generalize decide (a.box.length ≤ 30) = b6
  generalize allOk a.box = b7
  generalize (lnkB a.f a.pid a.N && decide (a.N ≤ 50)) = b8
  revert b1 b2 b3 b4 b5 b6 b7 b8
  decide
set_option maxHeartbeats 4000000 in
set_option maxRecDepth 100000 in
theorem implActorOk_any (l : List I) (lo : Option Addr) (lc2 : Nat) (a : Ac) (h : Wh) (w : World) (hl : RowI w lo l) (hsm : SmI maxLen l) (hln : l.length ≤ 1048576) (hr : AcR w a h) (hN : a.N ≤ 1048576) (hS : Shp w) (hP : Pow w) (hE : Es.Ety w) :
    Calls Tryz.prog 79 #[.slice lo l.length lc2, acV a h] w fun e w' => e = .returned (.bool (acB l a)) ∧ Below w.heap.size w w' := by
  rw [acB_eq]
  obtain ⟨pid, pc, regs, box, N, f⟩ := a
  obtain ⟨ra, rc, ba, bc, la, lc⟩ := h
  have HR : Hid (AcR w ⟨pid, pc, regs, box, N, f⟩ ⟨ra, rc, ba, bc, la, lc⟩) := hr
  obtain ⟨w0, hw0⟩ : ∃ w0, w0 = w.alloc (.cells #[.int .i64 pid, .int .i64 pc, .slice ra regs.length rc, .slice ba box.length bc, .slice la N lc] 64) := ⟨_, rfl⟩
  have HB0 : Hid (Below w.heap.size w w0) := by rw [hw0]; exact (Below.refl _ _).alloc (Nat.le_refl _) _
  have q0 : ∀ o, w0.cell? ⟨w.heap.size, o, none⟩ = (#[.int .i64 pid, .int .i64 pc, .slice ra regs.length rc, .slice ba box.length bc, .slice la N lc] : Array Value)[o]? := fun o => by rw [hw0]; exact World.cell?_alloc_new w _ _ o
  have hlt : w.heap.size < w0.heap.size := by rw [hw0, World.size_alloc]; omega
  have HQ : Hid (∀ w1, Below w0.heap.size w0 w1 → ∀ o, w1.cell? ⟨w.heap.size, o, none⟩ = (#[.int .i64 pid, .int .i64 pc, .slice ra regs.length rc, .slice ba box.length bc, .slice la N lc] : Array Value)[o]?) := fun w1 hb o => by rw [hb.cell (p := ⟨w.heap.size, o, none⟩) hlt]; exact q0 o
  have HW : Hid (∀ w1, Below w0.heap.size w0 w1 → Below w.heap.size w w1) := fun w1 h => HB0.out.trans (h.mono HB0.out.size)
  have KBO : Hid (∀ y : Inn w0, Calls Tryz.prog 115 #[.agg #[.int .i64 pid, .int .i64 pc, .slice ra regs.length rc, .slice ba box.length bc, .slice la N lc]] y.val fun e w2 => e = .returned (.agg #[.int .i64 pid, .int .i64 pc, .slice la N lc]) ∧ Below y.val.heap.size y.val w2) := fun y => bodyOf_any pid pc ra regs.length rc ba box.length bc la N lc y.val
  have KST : Hid (∀ y : Inn w0, Calls Tryz.prog 116 #[.agg #[.int .i64 pid, .int .i64 pc, .slice la N lc], .slice lo l.length lc2, .int .i64 regs.length, .int .i64 box.length] y.val fun e w2 => e = .returned (.bool (stB l pid pc regs.length box.length f N)) ∧ Below y.val.heap.size y.val w2) := fun y => by
    have h := HW.out y.val y.bel
    exact standsIn_any l lo lc2 pid pc la N lc f regs.length box.length y.val (hl.below h) hsm hln (hr.below h).links hN (Nat.le_trans hr.r1 hr.r2) (Nat.le_trans hr.b1 hr.b2) (hS.below h) (hP.below h) (hE.below h)
  have KREG : Hid (∀ y : Inn w0, Calls Tryz.prog 117 #[.slice ra regs.length rc] y.val fun e w2 => e = .returned (.bool (allOk regs)) ∧ Below y.val.heap.size y.val w2) := fun y =>
    termsOk_any regs ra rc y.val (HR.out.below (HW.out y.val y.bel)).regs HR.out.r1 HR.out.r2
  have KBOX : Hid (∀ y : Inn w0, Calls Tryz.prog 117 #[.slice ba box.length bc] y.val fun e w2 => e = .returned (.bool (allOk box)) ∧ Below y.val.heap.size y.val w2) := fun y =>
    termsOk_any box ba bc y.val (HR.out.below (HW.out y.val y.bel)).box HR.out.b1 HR.out.b2
  dsimp only
  clear hl hsm hln hr hN hS hP hE hlt
  obtain ⟨st, hst⟩ : ∃ st, stB l pid pc regs.length box.length f N = st := ⟨_, rfl⟩
  obtain ⟨a1, ha1⟩ : ∃ a1, allOk regs = a1 := ⟨_, rfl⟩
  obtain ⟨a2, ha2⟩ : ∃ a2, allOk box = a2 := ⟨_, rfl⟩
  rw [hst, ha1, ha2]
  rw [hst] at KST
  rw [ha1] at KREG
  rw [ha2] at KBOX
  clear hst ha1 ha2
  have d0 : w0.cell? ⟨w.heap.size, 0, none⟩ = some (.int .i64 pid) := q0 0
  have d1 : w0.cell? ⟨w.heap.size, 1, none⟩ = some (.int .i64 pc) := q0 1
  have d2 : w0.cell? ⟨w.heap.size, 2, none⟩ = some (.slice ra regs.length rc) := q0 2
  have d3 : w0.cell? ⟨w.heap.size, 3, none⟩ = some (.slice ba box.length bc) := q0 3
  have d4 : w0.cell? ⟨w.heap.size, 4, none⟩ = some (.slice la N lc) := q0 4
  have k0 := Inn.keep d0
  have k1 := Inn.keep d1
  have k2 := Inn.keep d2
  have k3 := Inn.keep d3
  have k4 := Inn.keep d4
  haveI := inn_ne w0
  go_enter Tryz.func79, Tryz.ntmps79
  go_wp2_with fail
  rw [← hw0]
  clear hw0
  cases st with
  | false =>
    refine wp_region_inn ?_ ?_ ?_
    · kernel_rfl
    · kernel_rfl
    repeat (go_big_quiet_step (first
      | (go_at_call 115; exact calls_inn (KBO.out _))
      | (go_at_call 116; exact calls_inn (KST.out _))
      | (go_at_call 117; first | with_reducible exact calls_inn (KREG.out _) | with_reducible exact calls_inn (KBOX.out _))))
    refine wpQuiet_nil ?_
    rintro w1 ⟨y1, h1⟩
    have hb1 : Below w0.heap.size w0 w1 := by rw [h1]; exact y1.bel
    have HF : Hid (Below w.heap.size w w1) := HW.out w1 hb1
    clear h1 hb1 y1 k0 k1 k2 k3 k4 d0 d1 d2 d3 d4 q0
    go_wp2_with fail
    go_ret
    exact ⟨rfl, HF.out⟩
  | true =>
    cases a1 with
    | false =>
      refine wp_region_inn ?_ ?_ ?_
      · kernel_rfl
      · kernel_rfl
      repeat (go_big_quiet_step (first
        | (go_at_call 115; exact calls_inn (KBO.out _))
        | (go_at_call 116; exact calls_inn (KST.out _))
        | (go_at_call 117; first | with_reducible exact calls_inn (KREG.out _) | with_reducible exact calls_inn (KBOX.out _))))
      refine wpQuiet_nil ?_
      rintro w1 ⟨y1, h1⟩
      have hb1 : Below w0.heap.size w0 w1 := by rw [h1]; exact y1.bel
      have HF : Hid (Below w.heap.size w w1) := HW.out w1 hb1
      clear h1 hb1 y1 k0 k1 k2 k3 k4 d0 d1 d2 d3 d4 q0
      go_wp2_with fail
      go_ret
      exact ⟨rfl, HF.out⟩
    | true =>
      cases a2 with
      | false =>
        refine wp_region_inn ?_ ?_ ?_
        · kernel_rfl
        · kernel_rfl
        repeat (go_big_quiet_step (first
          | (go_at_call 115; exact calls_inn (KBO.out _))
          | (go_at_call 116; exact calls_inn (KST.out _))
          | (go_at_call 117; first | with_reducible exact calls_inn (KREG.out _) | with_reducible exact calls_inn (KBOX.out _))))
        refine wpQuiet_nil ?_
        rintro w1 ⟨y1, h1⟩
        have hb1 : Below w0.heap.size w0 w1 := by rw [h1]; exact y1.bel
        have HF : Hid (Below w.heap.size w w1) := HW.out w1 hb1
        clear h1 hb1 y1 k0 k1 k2 k3 k4 d0 d1 d2 d3 d4 q0
        go_wp2_with fail
        go_ret
        exact ⟨rfl, HF.out⟩
      | true =>
        refine wp_region_inn ?_ ?_ ?_
        · kernel_rfl
        · kernel_rfl
        repeat (go_big_quiet_step (first
          | (go_at_call 115; exact calls_inn (KBO.out _))
          | (go_at_call 116; exact calls_inn (KST.out _))
          | (go_at_call 117; first | with_reducible exact calls_inn (KREG.out _) | with_reducible exact calls_inn (KBOX.out _))))
        refine wpQuiet_nil ?_
        rintro w1 ⟨y1, h1⟩
        have hb1 : Below w0.heap.size w0 w1 := by rw [h1]; exact y1.bel
        have HF : Hid (Below w.heap.size w w1) := HW.out w1 hb1
        clear h1 hb1 y1 k0 k1 k2 k3 k4 d0 d1 d2 d3 d4 q0
        go_wp2_with fail
        go_ret
        exact ⟨rfl, HF.out⟩
end Go.Proofs.YtgbopbpiciopdaaGreatDoor
