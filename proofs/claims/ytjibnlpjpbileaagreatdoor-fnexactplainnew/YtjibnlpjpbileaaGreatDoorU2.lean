/-
  The program's PlainOk, its parts: actors by their Pids, links of both sides, what was said.
  (Ahead of it, in this text: What an actor has of either kind, and whether it is right in its code: the program. ActorOk: the specification's and the program's answer acB. When a system on terms is right: reckoned. Maps whose keys are numbers: lookup, update, told by the list of what stands in them.)
-/
import Derived.Test.YtjibnlpjpbileaaGreatDoorAcB
import Derived.Test.YtjibnlpjpbileaaGreatDoorU1
import Derived.RegionTactic
import Derived.Test.YtjibnlpjpbileaaGreatDoorAcD
import Derived.Test.YtjibnlpjpbileaaGreatDoorInn
import Derived.Test.YtjibnlpjpbileaaGreatDoorPlA
import Derived.Test.YtjibnlpjpbileaaGreatDoorProg
import Derived.Test.YtjibnlpjpbileaaGreatDoorCurA
import Derived.Laws.World
import Derived.LaidEql
import Derived.Below
import Derived.MapKept
import Derived.MapFrom
import Derived.Test.YtjibnlpjpbileaaGreatDoorShelf
namespace Go.Proofs.YtjibnlpjpbileaaGreatDoor
open Go.RowKit Atom
open Go.Proofs.YtjibnlpjpbileaaGreatDoor.Code
set_option linter.unusedVariables false

theorem keepS {w w' : World} (h : Below w.heap.size w w') {b o : Nat} {v : Value} (hc : w.cell? ⟨b, o, none⟩ = some v) : w'.cell? ⟨b, o, none⟩ = some v := by
  rw [h.cell (p := ⟨b, o, none⟩) (World.block_lt_of_cell? w _ hc)]; exact hc
def stB (l : List I) (pid pc : Int) (nR nB : Nat) (f : Nat → Int) (N : Nat) : Bool := codeB l && (pidB pid && (decide (0 ≤ pc ∧ pc < l.length) && (decide (nR = 8) && (decide (nB ≤ 30) && (lnkB f pid N && decide (N ≤ 50))))))
theorem stB_no1 {l : List I} {pid pc : Int} {nR nB : Nat} {f : Nat → Int} {N : Nat} (h : codeB l = false) : stB l pid pc nR nB f N = false := by unfold stB; rw [h]; rfl
theorem stB_no2 {l : List I} {pid pc : Int} {nR nB : Nat} {f : Nat → Int} {N : Nat} (h : ¬ (1 ≤ pid ∧ pid ≤ 99999)) : stB l pid pc nR nB f N = false := by unfold stB pidB; rw [decide_eq_false h]; simp
theorem stB_no3 {l : List I} {pid pc : Int} {nR nB : Nat} {f : Nat → Int} {N : Nat} (h : ¬ (0 ≤ pc ∧ pc < l.length)) : stB l pid pc nR nB f N = false := by unfold stB; rw [decide_eq_false h]; simp
theorem stB_no4 {l : List I} {pid pc : Int} {nR nB : Nat} {f : Nat → Int} {N : Nat} (h : ¬ nR = 8) : stB l pid pc nR nB f N = false := by unfold stB; rw [decide_eq_false h]; simp
theorem stB_no5 {l : List I} {pid pc : Int} {nR nB : Nat} {f : Nat → Int} {N : Nat} (h : ¬ nB ≤ 30) : stB l pid pc nR nB f N = false := by unfold stB; rw [decide_eq_false h]; simp
theorem stB_is {l : List I} {pid pc : Int} {nR nB : Nat} {f : Nat → Int} {N : Nat} (h1 : codeB l = true) (h2 : 1 ≤ pid ∧ pid ≤ 99999) (h3 : 0 ≤ pc ∧ pc < l.length) (h4 : nR = 8) (h5 : nB ≤ 30) : stB l pid pc nR nB f N = (lnkB f pid N && decide (N ≤ 50)) := by
  unfold stB pidB; rw [h1, decide_eq_true h2, decide_eq_true h3, decide_eq_true h4, decide_eq_true h5]; simp
theorem codeB_lenS {l : List I} (h : codeB l = true) : 1 ≤ l.length ∧ l.length ≤ 200 := by
  by_cases hn : 1 ≤ l.length ∧ l.length ≤ 200
  · exact hn
  · rw [codeB_no hn] at h; cases h
set_option maxHeartbeats 4000000 in
set_option maxRecDepth 100000 in
theorem standsIn_any (l : List I) (lo : Option Addr) (lc2 : Nat) (pid pc : Int) (la : Option Addr) (N lc : Nat) (f : Nat → Int) (nR nB : Nat) (w : World) (hl : RowI w lo l) (hsm : SmI maxLen l) (hln : l.length ≤ 1048576) (hr : RdI w la N f) (hN : N ≤ 1048576) (hnR : nR ≤ maxLen) (hnB : nB ≤ maxLen) (hS : Shp w) (hP : Pow w) (hE : Es.Ety w) :
    Calls Tryz.prog 135 #[.agg #[.int .i64 pid, .int .i64 pc, .slice la N lc], .slice lo l.length lc2, .int .i64 nR, .int .i64 nB] w fun e w' => e = .returned (.bool (stB l pid pc nR nB f N)) ∧ Below w.heap.size w w' := by
  have HR : Hid (RdI w la N f) := hr
  have HL : Hid (RowI w lo l) := hl
  have HSM : Hid (SmI maxLen l) := hsm
  have HLN : Hid (l.length ≤ 9223372036854775807) := by show _ ≤ _; omega
  have HN : Hid (N ≤ 1048576) := hN
  have HTAB : Hid (Shp w ∧ Pow w ∧ Es.Ety w) := ⟨hS, hP, hE⟩
  clear hS hP hE
  have hrm : (nR : Int) ≤ 9223372036854775807 := by unfold maxLen at hnR; omega
  have hbm : (nB : Int) ≤ 9223372036854775807 := by unfold maxLen at hnB; omega
  obtain ⟨w0, hw0⟩ : ∃ w0, w0 = w.alloc (.cells #[.int .i64 pid, .int .i64 pc, .slice la N lc] 164) := ⟨_, rfl⟩
  have HB0 : Hid (Below w.heap.size w w0) := by rw [hw0]; exact (Below.refl _ _).alloc (Nat.le_refl _) _
  have hq : ∀ j (v : Value), (#[.int .i64 pid, .int .i64 pc, .slice la N lc] : Array Value)[j]? = some v → w0.cell? ⟨w.heap.size, j, none⟩ = some v := fun j v hv => by
    rw [hw0, World.cell?_alloc_new]; exact hv
  have HC : Hid (∀ w1, Below w0.heap.size w0 w1 → w1.cell? ⟨w.heap.size, 0, none⟩ = some (.int .i64 pid) ∧ w1.cell? ⟨w.heap.size, 1, none⟩ = some (.int .i64 pc) ∧ w1.cell? ⟨w.heap.size, 2, none⟩ = some (.slice la N lc)) := fun w1 hb =>
    ⟨keepS hb (hq 0 _ rfl), keepS hb (hq 1 _ rfl), keepS hb (hq 2 _ rfl)⟩
  have HW : Hid (∀ w1, Below w0.heap.size w0 w1 → Below w.heap.size w w1) := fun w1 h => HB0.out.trans (h.mono HB0.out.size)
  have KCODE : Hid (∀ w1, Below w0.heap.size w0 w1 → Calls Tryz.prog 75 #[.slice lo l.length lc2] w1 fun e w2 => e = .returned (.bool (codeB l)) ∧ Below w0.heap.size w0 w2) := fun w1 hb => by
    have h := HW.out w1 hb
    exact (implCode_any l lo lc2 w1 (HL.out.below h) HSM.out HLN.out (HTAB.out.1.below h) (HTAB.out.2.1.below h) (HTAB.out.2.2.below h)).mono fun e w2 ⟨h1, h2⟩ => ⟨h1, hb.trans (h2.mono hb.size)⟩
  have KLNK : Hid (∀ w1, Below w0.heap.size w0 w1 → Calls Tryz.prog 170 #[.slice la N lc, .int .i64 pid] w1 fun e w2 => e = .returned (.bool (lnkB f pid N && decide (N ≤ 50))) ∧ Below w0.heap.size w0 w2) := fun w1 hb =>
    (linksOk_any la N lc f pid w1 (HR.out.below (HW.out w1 hb)) HN.out).mono fun e w2 ⟨h1, h2⟩ => ⟨h1, hb.trans (h2.mono hb.size)⟩
  clear hq hl hsm hr hN hnR hnB
  go_enter Tryz.func135, Tryz.ntmps135
  go_wp2_with fail
  rw [← hw0]
  clear hw0
  refine (KCODE.out w0 (Below.refl _ _)).mono ?_
  rintro e w1 ⟨he, hb1⟩
  have HB1 : Hid (Below w0.heap.size w0 w1) := hb1
  obtain ⟨d0, d1, d2⟩ := HC.out w1 hb1
  clear hb1
  cases hc : codeB l
  · rw [hc] at he; subst he
    have HF : Hid (stB l pid pc nR nB f N = false) := stB_no1 hc
    clear hc
    go_wp2_with (first | (go_at_call 103; refine (isPid_any _ _).mono ?_; rintro e w' ⟨rfl, hw'⟩; obtain rfl := hw'.symm))
    go_ret
    exact ⟨ret_bool HF.out.symm, HW.out _ HB1.out⟩
  rw [hc] at he; subst he
  have hlen := codeB_lenS hc
  have HC1 : Hid (codeB l = true) := hc
  clear hc
  by_cases h2 : 1 ≤ pid ∧ pid ≤ 99999
  rotate_left
  · have q2 : pidB pid = false := decide_eq_false h2
    have HF : Hid (stB l pid pc nR nB f N = false) := stB_no2 h2
    clear h2
    go_wp2_with (first | (go_at_call 103; refine (isPid_any _ _).mono ?_; rintro e w' ⟨rfl, hw'⟩; obtain rfl := hw'.symm))
    go_ret
    exact ⟨ret_bool HF.out.symm, HW.out _ HB1.out⟩
  have q2 : pidB pid = true := decide_eq_true h2
  have H2 : Hid (1 ≤ pid ∧ pid ≤ 99999) := h2
  clear h2
  by_cases h3 : 0 ≤ pc ∧ pc < l.length
  rotate_left
  · have HF : Hid (stB l pid pc nR nB f N = false) := stB_no3 h3
    by_cases h3a : 0 ≤ pc
    · have h3b : ¬ pc < (l.length : Int) := by omega
      clear h3
      go_wp2_with (first | (go_at_call 103; refine (isPid_any _ _).mono ?_; rintro e w' ⟨rfl, hw'⟩; obtain rfl := hw'.symm))
      go_ret
      exact ⟨ret_bool HF.out.symm, HW.out _ HB1.out⟩
    · clear h3
      go_wp2_with (first | (go_at_call 103; refine (isPid_any _ _).mono ?_; rintro e w' ⟨rfl, hw'⟩; obtain rfl := hw'.symm))
      go_ret
      exact ⟨ret_bool HF.out.symm, HW.out _ HB1.out⟩
  have h3a := h3.1
  have h3b := h3.2
  have H3 : Hid (0 ≤ pc ∧ pc < l.length) := h3
  clear h3
  by_cases h4 : nR = 8
  rotate_left
  · have q4 : ((nR : Int) == 8) = false := by simp; omega
    have HF : Hid (stB l pid pc nR nB f N = false) := stB_no4 h4
    clear h4
    go_wp2_with (first | (go_at_call 103; refine (isPid_any _ _).mono ?_; rintro e w' ⟨rfl, hw'⟩; obtain rfl := hw'.symm))
    go_ret
    exact ⟨ret_bool HF.out.symm, HW.out _ HB1.out⟩
  have q4 : ((nR : Int) == 8) = true := by simp; omega
  have H4 : Hid (nR = 8) := h4
  clear h4
  by_cases h5 : nB ≤ 30
  rotate_left
  · have q5 : ¬ (nB : Int) ≤ 30 := by omega
    have HF : Hid (stB l pid pc nR nB f N = false) := stB_no5 h5
    clear h5
    go_wp2_with (first | (go_at_call 103; refine (isPid_any _ _).mono ?_; rintro e w' ⟨rfl, hw'⟩; obtain rfl := hw'.symm))
    go_ret
    exact ⟨ret_bool HF.out.symm, HW.out _ HB1.out⟩
  have q5 : (nB : Int) ≤ 30 := by omega
  have H5 : Hid (nB ≤ 30) := h5
  clear h5
  have HF : Hid (stB l pid pc nR nB f N = (lnkB f pid N && decide (N ≤ 50))) := stB_is HC1.out H2.out H3.out H4.out H5.out
  go_wp2_with (first | (go_at_call 103; refine (isPid_any _ _).mono ?_; rintro e w' ⟨rfl, hw'⟩; obtain rfl := hw'.symm) | (go_at_call 170; fail))
  refine (KLNK.out w1 HB1.out).mono ?_
  rintro e w4 ⟨rfl, hb4⟩
  have HB4 : Hid (Below w0.heap.size w0 w4) := hb4
  clear hb4 d0 d1 d2
  generalize (lnkB f pid N && decide (N ≤ 50)) = q at HF
  go_wp2_with fail
  go_ret
  exact ⟨ret_bool HF.out.symm, HW.out _ HB4.out⟩

theorem bodyOf_any (pid pc : Int) (ra : Option Addr) (nR rc : Nat) (ba : Option Addr) (nB bc : Nat) (la : Option Addr) (N lc : Nat) (w : World) :
    Calls Tryz.prog 134 #[.agg #[.int .i64 pid, .int .i64 pc, .slice ra nR rc, .slice ba nB bc, .slice la N lc]] w fun e w' => e = .returned (.agg #[.int .i64 pid, .int .i64 pc, .slice la N lc]) ∧ Below w.heap.size w w' := by
  go_enter Tryz.func134, Tryz.ntmps134
  go_wp2
  refine bodyPost_ret (v := .agg #[.int .i64 pid, .int .i64 pc, .slice la N lc]) (by simp [results, Tryz.results134, go_sem]) rfl ⟨rfl, ?_⟩
  exact ((Below.refl _ _).alloc (Nat.le_refl _) _).alloc (by simp) _
end Go.Proofs.YtjibnlpjpbileaaGreatDoor
namespace Go.Proofs.YtjibnlpjpbileaaGreatDoor
open Go.RowKit Atom
open Go.Proofs.YtjibnlpjpbileaaGreatDoor.Code
set_option linter.unusedVariables false

/-- An actor is right. -/
def acB (l : List I) (a : Ac) : Bool := codeB l && (pidB a.pid && (decide (0 ≤ a.pc ∧ a.pc < l.length) && (decide (a.regs.length = 8) && (allOk a.regs && (decide (a.box.length ≤ 30) && (allOk a.box && (lnkB a.f a.pid a.N && decide (a.N ≤ 50))))))))
theorem acB_no1 {l : List I} {a : Ac} (h : codeB l = false) : acB l a = false := by unfold acB; rw [h]; rfl
theorem acB_no2 {l : List I} {a : Ac} (h : ¬ (1 ≤ a.pid ∧ a.pid ≤ 99999)) : acB l a = false := by unfold acB pidB; rw [decide_eq_false h]; simp
theorem acB_no3 {l : List I} {a : Ac} (h : ¬ (0 ≤ a.pc ∧ a.pc < l.length)) : acB l a = false := by unfold acB; rw [decide_eq_false h]; simp
theorem acB_no4 {l : List I} {a : Ac} (h : ¬ a.regs.length = 8) : acB l a = false := by unfold acB; rw [decide_eq_false h]; simp
theorem acB_no5 {l : List I} {a : Ac} (h : ¬ a.box.length ≤ 30) : acB l a = false := by unfold acB; rw [decide_eq_false h]; simp
theorem acB_no6 {l : List I} {a : Ac} (h : allOk a.regs = false) : acB l a = false := by unfold acB; rw [h]; simp
theorem acB_no7 {l : List I} {a : Ac} (h : allOk a.box = false) : acB l a = false := by unfold acB; rw [h]; simp
theorem acB_is {l : List I} {a : Ac} (h1 : codeB l = true) (h2 : 1 ≤ a.pid ∧ a.pid ≤ 99999) (h3 : 0 ≤ a.pc ∧ a.pc < l.length) (h4 : a.regs.length = 8) (h5 : a.box.length ≤ 30) (h6 : allOk a.regs = true) (h7 : allOk a.box = true) :
    acB l a = (lnkB a.f a.pid a.N && decide (a.N ≤ 50)) := by
  unfold acB pidB
  rw [h1, decide_eq_true h2, decide_eq_true h3, decide_eq_true h4, decide_eq_true h5, h6, h7]; simp
theorem codeB_len {l : List I} (h : codeB l = true) : 1 ≤ l.length ∧ l.length ≤ 200 := by
  by_cases hn : 1 ≤ l.length ∧ l.length ≤ 200
  · exact hn
  · rw [codeB_no hn] at h; cases h

set_option maxHeartbeats 4000000 in
set_option maxRecDepth 100000 in
theorem specActorOk_any (l : List I) (lo : Option Addr) (lc2 : Nat) (a : Ac) (h : Wh) (w : World) (hl : RowI w lo l) (hsm : SmI maxLen l) (hln : l.length ≤ 1048576) (hr : AcR w a h) (hN : a.N ≤ 1048576) :
    Calls Tryz.prog 65 #[.slice lo l.length lc2, acV a h] w fun e w' => e = .returned (.bool (acB l a)) ∧ Below w.heap.size w w' := by
  obtain ⟨pid, pc, regs, box, N, f⟩ := a
  obtain ⟨ra, rc, ba, bc, la, lc⟩ := h
  have HR : Hid (AcR w ⟨pid, pc, regs, box, N, f⟩ ⟨ra, rc, ba, bc, la, lc⟩) := hr
  have HL : Hid (RowI w lo l) := hl
  have HSM : Hid (SmI maxLen l) := hsm
  have HLN : Hid (l.length ≤ 9223372036854775807) := by show _ ≤ _; omega
  have HN : Hid (N ≤ 1048576) := hN
  have hrm : (regs.length : Int) ≤ 9223372036854775807 := by have := Nat.le_trans hr.r1 hr.r2; unfold maxLen at this; simp only at this; omega
  have hbm : (box.length : Int) ≤ 9223372036854775807 := by have := Nat.le_trans hr.b1 hr.b2; unfold maxLen at this; simp only at this; omega
  obtain ⟨w0, hw0⟩ : ∃ w0, w0 = w.alloc (.cells #[.int .i64 pid, .int .i64 pc, .slice ra regs.length rc, .slice ba box.length bc, .slice la N lc] 61) := ⟨_, rfl⟩
  have HB0 : Hid (Below w.heap.size w w0) := by rw [hw0]; exact (Below.refl _ _).alloc (Nat.le_refl _) _
  have hq : ∀ j (v : Value), (#[.int .i64 pid, .int .i64 pc, .slice ra regs.length rc, .slice ba box.length bc, .slice la N lc] : Array Value)[j]? = some v → w0.cell? ⟨w.heap.size, j, none⟩ = some v := fun j v hv => by
    rw [hw0, World.cell?_alloc_new]; exact hv
  have HC : Hid (∀ w1, Below w0.heap.size w0 w1 → w1.cell? ⟨w.heap.size, 0, none⟩ = some (.int .i64 pid) ∧ w1.cell? ⟨w.heap.size, 1, none⟩ = some (.int .i64 pc) ∧ w1.cell? ⟨w.heap.size, 2, none⟩ = some (.slice ra regs.length rc) ∧ w1.cell? ⟨w.heap.size, 3, none⟩ = some (.slice ba box.length bc) ∧ w1.cell? ⟨w.heap.size, 4, none⟩ = some (.slice la N lc)) := fun w1 hb =>
    ⟨keepA hb (hq 0 _ rfl), keepA hb (hq 1 _ rfl), keepA hb (hq 2 _ rfl), keepA hb (hq 3 _ rfl), keepA hb (hq 4 _ rfl)⟩
  have HW : Hid (∀ w1, Below w0.heap.size w0 w1 → Below w.heap.size w w1) := fun w1 h => HB0.out.trans (h.mono HB0.out.size)
  have KCODE : Hid (∀ w1, Below w0.heap.size w0 w1 → Calls Tryz.prog 63 #[.slice lo l.length lc2] w1 fun e w2 => e = .returned (.bool (codeB l)) ∧ Below w0.heap.size w0 w2) := fun w1 hb => by
    have h := HW.out w1 hb
    exact (specCode_any l lo lc2 w1 (HL.out.below h) HSM.out HLN.out).mono fun e w2 ⟨h1, h2⟩ => ⟨h1, hb.trans (h2.mono hb.size)⟩
  have KREG : Hid (∀ w1, Below w0.heap.size w0 w1 → Calls Tryz.prog 97 #[.slice ra regs.length rc] w1 fun e w2 => e = .returned (.bool (allOk regs)) ∧ Below w0.heap.size w0 w2) := fun w1 hb =>
    (l9Terms_any regs ra rc w1 (HR.out.below (HW.out w1 hb)).regs HR.out.r1 HR.out.r2).mono fun e w2 ⟨h1, h2⟩ => ⟨h1, hb.trans (h2.mono hb.size)⟩
  have KBOX : Hid (∀ w1, Below w0.heap.size w0 w1 → Calls Tryz.prog 97 #[.slice ba box.length bc] w1 fun e w2 => e = .returned (.bool (allOk box)) ∧ Below w0.heap.size w0 w2) := fun w1 hb =>
    (l9Terms_any box ba bc w1 (HR.out.below (HW.out w1 hb)).box HR.out.b1 HR.out.b2).mono fun e w2 ⟨h1, h2⟩ => ⟨h1, hb.trans (h2.mono hb.size)⟩
  have KLNK : Hid (∀ w1, Below w0.heap.size w0 w1 → Calls Tryz.prog 98 #[.slice la N lc, .int .i64 pid] w1 fun e w2 => e = .returned (.bool (lnkB f pid N && decide (N ≤ 50))) ∧ Below w0.heap.size w0 w2) := fun w1 hb =>
    (l9Links_any la N lc f pid w1 (HR.out.below (HW.out w1 hb)).links HN.out).mono fun e w2 ⟨h1, h2⟩ => ⟨h1, hb.trans (h2.mono hb.size)⟩
  clear hq hl hsm hr hN
  go_enter Tryz.func65, Tryz.ntmps65
  go_wp2_with fail
  rw [← hw0]
  clear hw0
  refine (KCODE.out w0 (Below.refl _ _)).mono ?_
  rintro e w1 ⟨he, hb1⟩
  have HB1 : Hid (Below w0.heap.size w0 w1) := hb1
  obtain ⟨d0, d1, d2, d3, d4⟩ := HC.out w1 hb1
  clear hb1
  cases hc : codeB l
  · rw [hc] at he; subst he
    have HF : Hid (acB l ⟨pid, pc, regs, box, N, f⟩ = false) := acB_no1 hc
    clear hc
    go_wp2_with (first | (go_at_call 60; refine (Atom.in_any _ _ _ _).mono ?_; rintro e w' ⟨rfl, hw'⟩; obtain rfl := hw'.symm))
    go_ret
    exact ⟨ret_bool HF.out.symm, HW.out _ HB1.out⟩
  rw [hc] at he; subst he
  have hlen := codeB_len hc
  have HC1 : Hid (codeB l = true) := hc
  clear hc
  by_cases h2 : 1 ≤ pid ∧ pid ≤ 99999
  rotate_left
  · have q2 : Atom.inB pid 1 99999 = false := decide_eq_false h2
    have HF : Hid (acB l ⟨pid, pc, regs, box, N, f⟩ = false) := acB_no2 h2
    clear h2
    go_wp2_with (first | (go_at_call 60; refine (Atom.in_any _ _ _ _).mono ?_; rintro e w' ⟨rfl, hw'⟩; obtain rfl := hw'.symm))
    go_ret
    exact ⟨ret_bool HF.out.symm, HW.out _ HB1.out⟩
  have q2 : Atom.inB pid 1 99999 = true := decide_eq_true h2
  have H2 : Hid (1 ≤ pid ∧ pid ≤ 99999) := h2
  clear h2
  have ew : IntKind.i64.wrap ((l.length : Int) - 1) = (l.length : Int) - 1 := by rw [IntKind.wrap_i64]; omega
  by_cases h3 : 0 ≤ pc ∧ pc < l.length
  rotate_left
  · have q3 : Atom.inB pc 0 ((l.length : Int) - 1) = false := decide_eq_false (by omega)
    have HF : Hid (acB l ⟨pid, pc, regs, box, N, f⟩ = false) := acB_no3 h3
    clear h3
    go_wp2_with (first | (go_at_call 60; refine (Atom.in_any _ _ _ _).mono ?_; rintro e w' ⟨rfl, hw'⟩; obtain rfl := hw'.symm))
    go_ret
    exact ⟨ret_bool HF.out.symm, HW.out _ HB1.out⟩
  have q3 : Atom.inB pc 0 ((l.length : Int) - 1) = true := decide_eq_true (by omega)
  have H3 : Hid (0 ≤ pc ∧ pc < l.length) := h3
  clear h3
  by_cases h4 : regs.length = 8
  rotate_left
  · have q4 : ((regs.length : Int) != 8) = true := by simp; omega
    have HF : Hid (acB l ⟨pid, pc, regs, box, N, f⟩ = false) := acB_no4 h4
    clear h4
    go_wp2_with (first | (go_at_call 60; refine (Atom.in_any _ _ _ _).mono ?_; rintro e w' ⟨rfl, hw'⟩; obtain rfl := hw'.symm))
    go_ret
    exact ⟨ret_bool HF.out.symm, HW.out _ HB1.out⟩
  have q4 : ((regs.length : Int) != 8) = false := by simp; omega
  have H4 : Hid (regs.length = 8) := h4
  clear h4
  by_cases h5 : box.length ≤ 30
  rotate_left
  · have q5 : (30 : Int) < box.length := by omega
    have HF : Hid (acB l ⟨pid, pc, regs, box, N, f⟩ = false) := acB_no5 h5
    clear h5
    go_wp2_with (first | (go_at_call 60; refine (Atom.in_any _ _ _ _).mono ?_; rintro e w' ⟨rfl, hw'⟩; obtain rfl := hw'.symm))
    go_ret
    exact ⟨ret_bool HF.out.symm, HW.out _ HB1.out⟩
  have q5 : ¬ (30 : Int) < box.length := by omega
  have H5 : Hid (box.length ≤ 30) := h5
  clear h5
  go_wp2_with (first | (go_at_call 60; refine (Atom.in_any _ _ _ _).mono ?_; rintro e w' ⟨rfl, hw'⟩; obtain rfl := hw'.symm) | (go_at_call 97; fail))
  refine (KREG.out w1 HB1.out).mono ?_
  rintro e w2 ⟨he, hb2⟩
  have HB2 : Hid (Below w0.heap.size w0 w2) := hb2
  clear d0 d1 d2 d3 d4
  obtain ⟨d0, d1, d2, d3, d4⟩ := HC.out w2 hb2
  clear hb2
  cases h6 : allOk regs
  · rw [h6] at he; subst he
    have HF : Hid (acB l ⟨pid, pc, regs, box, N, f⟩ = false) := acB_no6 h6
    clear h6
    go_wp2_with (first | (go_at_call 60; refine (Atom.in_any _ _ _ _).mono ?_; rintro e w' ⟨rfl, hw'⟩; obtain rfl := hw'.symm))
    go_ret
    exact ⟨ret_bool HF.out.symm, HW.out _ HB2.out⟩
  rw [h6] at he; subst he
  have H6 : Hid (allOk regs = true) := h6
  clear h6
  go_wp2_with (first | (go_at_call 60; refine (Atom.in_any _ _ _ _).mono ?_; rintro e w' ⟨rfl, hw'⟩; obtain rfl := hw'.symm) | (go_at_call 97; fail))
  refine (KBOX.out w2 HB2.out).mono ?_
  rintro e w3 ⟨he, hb3⟩
  have HB3 : Hid (Below w0.heap.size w0 w3) := hb3
  clear d0 d1 d2 d3 d4
  obtain ⟨d0, d1, d2, d3, d4⟩ := HC.out w3 hb3
  clear hb3
  cases h7 : allOk box
  · rw [h7] at he; subst he
    have HF : Hid (acB l ⟨pid, pc, regs, box, N, f⟩ = false) := acB_no7 h7
    clear h7
    go_wp2_with (first | (go_at_call 60; refine (Atom.in_any _ _ _ _).mono ?_; rintro e w' ⟨rfl, hw'⟩; obtain rfl := hw'.symm))
    go_ret
    exact ⟨ret_bool HF.out.symm, HW.out _ HB3.out⟩
  rw [h7] at he; subst he
  have HF : Hid (acB l ⟨pid, pc, regs, box, N, f⟩ = (lnkB f pid N && decide (N ≤ 50))) := acB_is HC1.out H2.out H3.out H4.out H5.out H6.out h7
  clear h7
  go_wp2_with (first | (go_at_call 98; fail))
  refine (KLNK.out w3 HB3.out).mono ?_
  rintro e w4 ⟨rfl, hb4⟩
  have HB4 : Hid (Below w0.heap.size w0 w4) := hb4
  clear hb4 d0 d1 d2 d3 d4
  generalize (lnkB f pid N && decide (N ≤ 50)) = q at HF
  go_wp2_with fail
  go_ret
  exact ⟨ret_bool HF.out.symm, HW.out _ HB4.out⟩

theorem acB_eq (l : List I) (a : Ac) : acB l a = (stB l a.pid a.pc a.regs.length a.box.length a.f a.N && (allOk a.regs && allOk a.box)) := by
  unfold acB stB
  generalize codeB l = b1
  generalize pidB a.pid = b2
  generalize decide (0 ≤ a.pc ∧ a.pc < l.length) = b3
  generalize decide (a.regs.length = 8) = b4
  generalize allOk a.regs = b5
  generalize decide (a.box.length ≤ 30) = b6
  generalize allOk a.box = b7
  generalize (lnkB a.f a.pid a.N && decide (a.N ≤ 50)) = b8
  revert b1 b2 b3 b4 b5 b6 b7 b8
  decide
set_option maxHeartbeats 4000000 in
set_option maxRecDepth 100000 in
theorem implActorOk_any (l : List I) (lo : Option Addr) (lc2 : Nat) (a : Ac) (h : Wh) (w : World) (hl : RowI w lo l) (hsm : SmI maxLen l) (hln : l.length ≤ 1048576) (hr : AcR w a h) (hN : a.N ≤ 1048576) (hS : Shp w) (hP : Pow w) (hE : Es.Ety w) :
    Calls Tryz.prog 110 #[.slice lo l.length lc2, acV a h] w fun e w' => e = .returned (.bool (acB l a)) ∧ Below w.heap.size w w' := by
  rw [acB_eq]
  obtain ⟨pid, pc, regs, box, N, f⟩ := a
  obtain ⟨ra, rc, ba, bc, la, lc⟩ := h
  have HR : Hid (AcR w ⟨pid, pc, regs, box, N, f⟩ ⟨ra, rc, ba, bc, la, lc⟩) := hr
  obtain ⟨w0, hw0⟩ : ∃ w0, w0 = w.alloc (.cells #[.int .i64 pid, .int .i64 pc, .slice ra regs.length rc, .slice ba box.length bc, .slice la N lc] 61) := ⟨_, rfl⟩
  have HB0 : Hid (Below w.heap.size w w0) := by rw [hw0]; exact (Below.refl _ _).alloc (Nat.le_refl _) _
  have q0 : ∀ o, w0.cell? ⟨w.heap.size, o, none⟩ = (#[.int .i64 pid, .int .i64 pc, .slice ra regs.length rc, .slice ba box.length bc, .slice la N lc] : Array Value)[o]? := fun o => by rw [hw0]; exact World.cell?_alloc_new w _ _ o
  have hlt : w.heap.size < w0.heap.size := by rw [hw0, World.size_alloc]; omega
  have HQ : Hid (∀ w1, Below w0.heap.size w0 w1 → ∀ o, w1.cell? ⟨w.heap.size, o, none⟩ = (#[.int .i64 pid, .int .i64 pc, .slice ra regs.length rc, .slice ba box.length bc, .slice la N lc] : Array Value)[o]?) := fun w1 hb o => by rw [hb.cell (p := ⟨w.heap.size, o, none⟩) hlt]; exact q0 o
  have HW : Hid (∀ w1, Below w0.heap.size w0 w1 → Below w.heap.size w w1) := fun w1 h => HB0.out.trans (h.mono HB0.out.size)
  have KBO : Hid (∀ y : Inn w0, Calls Tryz.prog 134 #[.agg #[.int .i64 pid, .int .i64 pc, .slice ra regs.length rc, .slice ba box.length bc, .slice la N lc]] y.val fun e w2 => e = .returned (.agg #[.int .i64 pid, .int .i64 pc, .slice la N lc]) ∧ Below y.val.heap.size y.val w2) := fun y => bodyOf_any pid pc ra regs.length rc ba box.length bc la N lc y.val
  have KST : Hid (∀ y : Inn w0, Calls Tryz.prog 135 #[.agg #[.int .i64 pid, .int .i64 pc, .slice la N lc], .slice lo l.length lc2, .int .i64 regs.length, .int .i64 box.length] y.val fun e w2 => e = .returned (.bool (stB l pid pc regs.length box.length f N)) ∧ Below y.val.heap.size y.val w2) := fun y => by
    have h := HW.out y.val y.bel
    exact standsIn_any l lo lc2 pid pc la N lc f regs.length box.length y.val (hl.below h) hsm hln (hr.below h).links hN (Nat.le_trans hr.r1 hr.r2) (Nat.le_trans hr.b1 hr.b2) (hS.below h) (hP.below h) (hE.below h)
  have KREG : Hid (∀ y : Inn w0, Calls Tryz.prog 136 #[.slice ra regs.length rc] y.val fun e w2 => e = .returned (.bool (allOk regs)) ∧ Below y.val.heap.size y.val w2) := fun y =>
    termsOk_any regs ra rc y.val (HR.out.below (HW.out y.val y.bel)).regs HR.out.r1 HR.out.r2
  have KBOX : Hid (∀ y : Inn w0, Calls Tryz.prog 136 #[.slice ba box.length bc] y.val fun e w2 => e = .returned (.bool (allOk box)) ∧ Below y.val.heap.size y.val w2) := fun y =>
    termsOk_any box ba bc y.val (HR.out.below (HW.out y.val y.bel)).box HR.out.b1 HR.out.b2
  dsimp only
  clear hl hsm hln hr hN hS hP hE hlt
  obtain ⟨st, hst⟩ : ∃ st, stB l pid pc regs.length box.length f N = st := ⟨_, rfl⟩
  obtain ⟨a1, ha1⟩ : ∃ a1, allOk regs = a1 := ⟨_, rfl⟩
  obtain ⟨a2, ha2⟩ : ∃ a2, allOk box = a2 := ⟨_, rfl⟩
  rw [hst, ha1, ha2]
  rw [hst] at KST
  rw [ha1] at KREG
  rw [ha2] at KBOX
  clear hst ha1 ha2
  have d0 : w0.cell? ⟨w.heap.size, 0, none⟩ = some (.int .i64 pid) := q0 0
  have d1 : w0.cell? ⟨w.heap.size, 1, none⟩ = some (.int .i64 pc) := q0 1
  have d2 : w0.cell? ⟨w.heap.size, 2, none⟩ = some (.slice ra regs.length rc) := q0 2
  have d3 : w0.cell? ⟨w.heap.size, 3, none⟩ = some (.slice ba box.length bc) := q0 3
  have d4 : w0.cell? ⟨w.heap.size, 4, none⟩ = some (.slice la N lc) := q0 4
  have k0 := Inn.keep d0
  have k1 := Inn.keep d1
  have k2 := Inn.keep d2
  have k3 := Inn.keep d3
  have k4 := Inn.keep d4
  haveI := inn_ne w0
  go_enter Tryz.func110, Tryz.ntmps110
  go_wp2_with fail
  rw [← hw0]
  clear hw0
  cases st with
  | false =>
    refine wp_region_inn ?_ ?_ ?_
    · kernel_rfl
    · kernel_rfl
    repeat (go_big_quiet_step (first
      | (go_at_call 134; exact calls_inn (KBO.out _))
      | (go_at_call 135; exact calls_inn (KST.out _))
      | (go_at_call 136; first | with_reducible exact calls_inn (KREG.out _) | with_reducible exact calls_inn (KBOX.out _))))
    refine wpQuiet_nil ?_
    rintro w1 ⟨y1, h1⟩
    have hb1 : Below w0.heap.size w0 w1 := by rw [h1]; exact y1.bel
    have HF : Hid (Below w.heap.size w w1) := HW.out w1 hb1
    clear h1 hb1 y1 k0 k1 k2 k3 k4 d0 d1 d2 d3 d4 q0
    go_wp2_with fail
    go_ret
    exact ⟨rfl, HF.out⟩
  | true =>
    cases a1 with
    | false =>
      refine wp_region_inn ?_ ?_ ?_
      · kernel_rfl
      · kernel_rfl
      repeat (go_big_quiet_step (first
        | (go_at_call 134; exact calls_inn (KBO.out _))
        | (go_at_call 135; exact calls_inn (KST.out _))
        | (go_at_call 136; first | with_reducible exact calls_inn (KREG.out _) | with_reducible exact calls_inn (KBOX.out _))))
      refine wpQuiet_nil ?_
      rintro w1 ⟨y1, h1⟩
      have hb1 : Below w0.heap.size w0 w1 := by rw [h1]; exact y1.bel
      have HF : Hid (Below w.heap.size w w1) := HW.out w1 hb1
      clear h1 hb1 y1 k0 k1 k2 k3 k4 d0 d1 d2 d3 d4 q0
      go_wp2_with fail
      go_ret
      exact ⟨rfl, HF.out⟩
    | true =>
      cases a2 with
      | false =>
        refine wp_region_inn ?_ ?_ ?_
        · kernel_rfl
        · kernel_rfl
        repeat (go_big_quiet_step (first
          | (go_at_call 134; exact calls_inn (KBO.out _))
          | (go_at_call 135; exact calls_inn (KST.out _))
          | (go_at_call 136; first | with_reducible exact calls_inn (KREG.out _) | with_reducible exact calls_inn (KBOX.out _))))
        refine wpQuiet_nil ?_
        rintro w1 ⟨y1, h1⟩
        have hb1 : Below w0.heap.size w0 w1 := by rw [h1]; exact y1.bel
        have HF : Hid (Below w.heap.size w w1) := HW.out w1 hb1
        clear h1 hb1 y1 k0 k1 k2 k3 k4 d0 d1 d2 d3 d4 q0
        go_wp2_with fail
        go_ret
        exact ⟨rfl, HF.out⟩
      | true =>
        refine wp_region_inn ?_ ?_ ?_
        · kernel_rfl
        · kernel_rfl
        repeat (go_big_quiet_step (first
          | (go_at_call 134; exact calls_inn (KBO.out _))
          | (go_at_call 135; exact calls_inn (KST.out _))
          | (go_at_call 136; first | with_reducible exact calls_inn (KREG.out _) | with_reducible exact calls_inn (KBOX.out _))))
        refine wpQuiet_nil ?_
        rintro w1 ⟨y1, h1⟩
        have hb1 : Below w0.heap.size w0 w1 := by rw [h1]; exact y1.bel
        have HF : Hid (Below w.heap.size w w1) := HW.out w1 hb1
        clear h1 hb1 y1 k0 k1 k2 k3 k4 d0 d1 d2 d3 d4 q0
        go_wp2_with fail
        go_ret
        exact ⟨rfl, HF.out⟩
end Go.Proofs.YtjibnlpjpbileaaGreatDoor
namespace Go.Proofs.YtjibnlpjpbileaaGreatDoor
open Go.RowKit Atom
open Go.Proofs.YtjibnlpjpbileaaGreatDoor.Code
set_option linter.unusedVariables false

def hasB (f : Nat → Int) (N : Nat) (x : Int) : Bool := (List.range N).any fun j => f j == x
theorem hasB_yes {f : Nat → Int} {N : Nat} {x : Int} {k : Nat} (hk : k < N) (h : f k = x) : hasB f N x = true := by
  unfold hasB
  rw [List.any_eq_true]
  exact ⟨k, by simp; exact hk, by simp [h]⟩
theorem hasB_no {f : Nat → Int} {N : Nat} {x : Int} (h : ∀ j, j < N → f j ≠ x) : hasB f N x = false := by
  unfold hasB
  rw [List.any_eq_false]
  intro j hj
  simp only [List.mem_range] at hj
  simp [h j hj]
def findA (l : List Ac) (pid : Int) : Option Ac := l.find? fun a => a.pid == pid
theorem findA_yes {l : List Ac} {pid : Int} {m : Nat} (hm : m < l.length) (h : l[m].pid = pid) (hn : ∀ j (hj : j < l.length), j < m → l[j].pid ≠ pid) : findA l pid = some l[m] := by
  unfold findA
  rw [List.find?_eq_some_iff_getElem]
  refine ⟨by simp [h], m, hm, rfl, fun j hj => ?_⟩
  simp [hn j (by omega) hj]
theorem findA_no {l : List Ac} {pid : Int} (hn : ∀ j (hj : j < l.length), l[j].pid ≠ pid) : findA l pid = none := by
  unfold findA
  rw [List.find?_eq_none]
  intro a ha
  obtain ⟨j, hj, rfl⟩ := List.mem_iff_getElem.1 ha
  simp [hn j hj]
/-- The place of the actor of this Pid; -1: there is none. -/
def atZ (l : List Ac) (pid : Int) : Int := match l.findIdx? (fun a => a.pid == pid) with
  | none => -1
  | some m => (m : Int)
theorem atZ_yes {l : List Ac} {pid : Int} {m : Nat} (hm : m < l.length) (h : l[m].pid = pid) (hn : ∀ j (hj : j < l.length), j < m → l[j].pid ≠ pid) : atZ l pid = m := by
  have h1 : l.findIdx? (fun a => a.pid == pid) = some m := List.findIdx?_eq_some_iff_getElem.2 ⟨hm, by simp [h], fun j hj => by simp [hn j (by omega) hj]⟩
  unfold atZ; rw [h1]
theorem atZ_no {l : List Ac} {pid : Int} (hn : ∀ j (hj : j < l.length), l[j].pid ≠ pid) : atZ l pid = -1 := by
  have h1 : l.findIdx? (fun a => a.pid == pid) = none := List.findIdx?_eq_none_iff.2 fun a ha => by
    obtain ⟨j, hj, rfl⟩ := List.mem_iff_getElem.1 ha
    simp [hn j hj]
  unfold atZ; rw [h1]
theorem atZ_cases (l : List Ac) (pid : Int) : (atZ l pid = -1 ∧ findA l pid = none) ∨ ∃ m, ∃ hm : m < l.length, atZ l pid = m ∧ findA l pid = some l[m] := by
  cases h : l.findIdx? (fun a => a.pid == pid) with
  | none =>
    have hn := List.findIdx?_eq_none_iff.1 h
    have hn' : ∀ j (hj : j < l.length), l[j].pid ≠ pid := fun j hj => by have := hn _ (List.getElem_mem hj); simpa using this
    exact .inl ⟨atZ_no hn', findA_no hn'⟩
  | some m =>
    obtain ⟨hm, h1, h2⟩ := List.findIdx?_eq_some_iff_getElem.1 h
    have h1' : l[m].pid = pid := by simpa using h1
    have h2' : ∀ j (hj : j < l.length), j < m → l[j].pid ≠ pid := fun j hj hjm => by have := h2 j hjm; simpa using this
    exact .inr ⟨m, hm, atZ_yes hm h1' h2', findA_yes hm h1' h2'⟩
def bothAt (l : List Ac) (a : Ac) (k : Nat) : Bool := match findA l (a.f k) with
  | none => true
  | some m => hasB m.f m.N a.pid
def bothB (l : List Ac) (a : Ac) : Bool := (List.range a.N).all (bothAt l a)
theorem bothB_no {l : List Ac} {a : Ac} {k : Nat} (hk : k < a.N) (h : bothAt l a k = false) : bothB l a = false := by
  unfold bothB
  rw [List.all_eq_false]
  exact ⟨k, by simp; exact hk, by simp [h]⟩
theorem bothB_yes {l : List Ac} {a : Ac} (h : ∀ k, k < a.N → bothAt l a k = true) : bothB l a = true := by
  unfold bothB
  rw [List.all_eq_true]
  intro k hk
  simp only [List.mem_range] at hk
  exact h k hk
theorem bothAt_none {l : List Ac} {a : Ac} {k : Nat} (h : findA l (a.f k) = none) : bothAt l a k = true := by unfold bothAt; rw [h]
theorem bothAt_some {l : List Ac} {a m : Ac} {k : Nat} (h : findA l (a.f k) = some m) : bothAt l a k = hasB m.f m.N a.pid := by unfold bothAt; rw [h]
def sdB (x : Sd) : Bool := decide (1 ≤ x.kind ∧ x.kind ≤ 3) && (pidB x.pid && okT x.t)
def saidB (l : List Sd) : Bool := l.all sdB && decide (l.length ≤ 500)
theorem saidB_no {l : List Sd} {k : Nat} (hk : k < l.length) (h : sdB l[k] = false) : saidB l = false := by
  unfold saidB
  have : l.all sdB = false := by
    rw [List.all_eq_false]
    exact ⟨l[k], List.getElem_mem hk, by rw [h]; simp⟩
  rw [this]; rfl
theorem saidB_long {l : List Sd} (h : ¬ l.length ≤ 500) : saidB l = false := by
  unfold saidB; rw [decide_eq_false h]; simp
theorem saidB_is {l : List Sd} (h : ∀ k (hk : k < l.length), sdB l[k] = true) : saidB l = decide (l.length ≤ 500) := by
  unfold saidB
  have : l.all sdB = true := by
    rw [List.all_eq_true]
    intro x hx
    obtain ⟨k, hk, rfl⟩ := List.mem_iff_getElem.1 hx
    exact h k hk
  rw [this]; simp
/-- The i-th actor is right where it stands. -/
def ActP (p : Pl) (i : Nat) (hi : i < p.acts.length) : Prop := acB p.code p.acts[i] = true ∧ p.acts[i].pid < p.next ∧ ∀ j (hj : j + 1 = i), (p.acts[j]'(by omega)).pid < p.acts[i].pid
/-- Its actors are right, and linked both ways. -/
def AcsP (p : Pl) : Prop := p.acts.length ≤ 20 ∧ (∀ i (hi : i < p.acts.length), ActP p i hi) ∧ ∀ i (hi : i < p.acts.length), bothB p.acts p.acts[i] = true
def PlP (p : Pl) : Prop := codeB p.code = true ∧ (1 ≤ p.next ∧ p.next ≤ 90000) ∧ AcsP p ∧ saidB p.out = true
open Classical in
noncomputable def acsB (p : Pl) : Bool := decide (AcsP p)
open Classical in
noncomputable def plB (p : Pl) : Bool := decide (PlP p)
open Classical in
theorem acsB_no {p : Pl} (h : ¬ AcsP p) : acsB p = false := by unfold acsB; exact decide_eq_false h
open Classical in
theorem acsB_yes {p : Pl} (h : AcsP p) : acsB p = true := by unfold acsB; exact decide_eq_true h
open Classical in
theorem plB_no {p : Pl} (h : ¬ PlP p) : plB p = false := by unfold plB; exact decide_eq_false h
open Classical in
theorem plB_yes {p : Pl} (h : PlP p) : plB p = true := by unfold plB; exact decide_eq_true h
theorem plB_is {p : Pl} (h1 : codeB p.code = true) (h2 : 1 ≤ p.next ∧ p.next ≤ 90000) (h3 : acsB p = true) : plB p = saidB p.out := by
  have h3' : AcsP p := by
    by_cases h : AcsP p
    · exact h
    · rw [acsB_no h] at h3; cases h3
  cases h : saidB p.out
  · exact plB_no fun q => by rw [q.2.2.2] at h; cases h
  · exact plB_yes ⟨h1, h2, h3', h⟩
/-- The Pids rise: no two alike. -/
theorem rises {p : Pl} (h : ∀ i (hi : i < p.acts.length), ActP p i hi) : ∀ (d i : Nat) (hi : i + d + 1 < p.acts.length), (p.acts[i]'(by omega)).pid < (p.acts[i + d + 1]'hi).pid
  | 0, i, hi => (h (i + 1) hi).2.2 i rfl
  | d + 1, i, hi => by
    have h1 := rises h d i (by omega)
    have h2 := (h (i + d + 1 + 1) (by omega)).2.2 (i + d + 1) rfl
    have e : i + (d + 1) + 1 = i + d + 1 + 1 := by omega
    simp only [e]
    omega
theorem unlike {p : Pl} (h : ∀ i (hi : i < p.acts.length), ActP p i hi) (i j : Nat) (hi : i < p.acts.length) (hj : j < p.acts.length) (hne : i ≠ j) : p.acts[i].pid ≠ p.acts[j].pid := by
  rcases Nat.lt_or_ge i j with h1 | h1
  · have := rises h (j - i - 1) i (by omega)
    have e : i + (j - i - 1) + 1 = j := by omega
    simp only [e] at this
    omega
  · have := rises h (i - j - 1) j (by omega)
    have e : j + (i - j - 1) + 1 = i := by omega
    simp only [e] at this
    omega
end Go.Proofs.YtjibnlpjpbileaaGreatDoor
namespace Go.Proofs.YtjibnlpjpbileaaGreatDoor
open Go.RowKit
set_option linter.unusedVariables false

/-- The block mb is a map of these numbers to these values, in the order in which they came. -/
def ImMap (w : World) (mb : Nat) (es : List (Int × Value)) : Prop := ∃ arr clk, w.heap[mb]? = some (.map arr clk) ∧ arr.toList.map (fun e => (e.key, e.val)) = es.map (fun p => (Value.int .i64 p.1, p.2)) ∧ MapKept.Stamped arr clk
theorem ImMap.keep {w w' : World} {mb : Nat} {es : List (Int × Value)} (h : ImMap w mb es) (hk : w'.heap[mb]? = w.heap[mb]?) : ImMap w' mb es := by
  obtain ⟨arr, clk, hm, he⟩ := h
  exact ⟨arr, clk, hk.trans hm, he⟩
theorem ImMap.lt {w : World} {mb : Nat} {es : List (Int × Value)} (h : ImMap w mb es) : mb < w.heap.size := by
  obtain ⟨arr, clk, hm, he⟩ := h
  rcases Nat.lt_or_ge mb w.heap.size with h | h
  · exact h
  · rw [Array.getElem?_eq_none h] at hm; cases hm
theorem ImMap.below {w w' : World} {mb : Nat} {es : List (Int × Value)} (h : ImMap w mb es) (hb : Below w.heap.size w w') : ImMap w' mb es := h.keep (hb.block mb h.lt)
theorem ImMap.made (w : World) : ImMap (w.alloc (.map #[] 0)) w.heap.size [] := ⟨#[], 0, (MapKept.heap_alloc w _).1, rfl, MapKept.stamped_empty 0⟩
def imFind (p : Int) : List (Int × Value) → Nat → Option (Nat × Value)
  | [], _ => none
  | x :: es, i => if p = x.1 then some (i, x.2) else imFind p es (i + 1)
def imGet (es : List (Int × Value)) (p : Int) : Option Value := (imFind p es 0).map (·.2)
theorem imFind_shift (p : Int) : ∀ (es : List (Int × Value)) (i : Nat), imFind p es (i + 1) = (imFind p es i).map (fun x => (x.1 + 1, x.2))
  | [], i => rfl
  | x :: es, i => by
    rw [imFind, imFind]
    split
    · rfl
    · exact imFind_shift p es (i + 1)
theorem imGet_nil (p : Int) : imGet [] p = none := rfl
theorem imGet_cons (p : Int) (x : Int × Value) (es : List (Int × Value)) : imGet (x :: es) p = if p = x.1 then some x.2 else imGet es p := by
  unfold imGet
  rw [imFind]
  split
  · rfl
  · rw [imFind_shift]
    cases imFind p es 0 <;> rfl
theorem findNow_int (p : Int) : ∀ (l : List MapEntry) (es : List (Int × Value)) (i : Nat), l.map (fun e => (e.key, e.val)) = es.map (fun p => (Value.int .i64 p.1, p.2)) → Instr.findNow (.int .i64) (.int .i64 p) l i = some (imFind p es i)
  | [], es, i, h => by
    have : es = [] := by simpa using h.symm
    subst this; rfl
  | e :: l, es, i, h => by
    cases es with
    | nil => simp at h
    | cons x es =>
      simp only [List.map_cons, List.cons.injEq, Prod.mk.injEq] at h
      obtain ⟨⟨hk, hv⟩, hr⟩ := h
      have ih := findNow_int p l es (i + 1) hr
      rw [Instr.findNow, hk, imFind]
      by_cases hq : p = x.1
      · rw [if_pos hq]
        simp [Instr.sameNow, hq, hv]
      · rw [if_neg hq]
        have : (p == x.1) = false := by simp [hq]
        simp [Instr.sameNow, this, ih]
theorem run_check_int {w : World} (em : Bool) (d : Nat) (v : Value) : (Instr.checkKey em (d + 1) 3 v).run Tryz.prog w = .ok () w := by simp [Instr.checkKey, run_underlying Tryz.underlying3]
theorem run_find_int {w : World} {arr : Array MapEntry} {es : List (Int × Value)} (p : Int) (h : arr.toList.map (fun e => (e.key, e.val)) = es.map (fun p => (Value.int .i64 p.1, p.2))) : (Instr.findKey 3 (.int .i64 p) arr.toList).run Tryz.prog w = .ok (imFind p es 0) w :=
  MapKept.run_findKey Tryz.underlying3 (findNow_int p arr.toList es 0 h)
/-- Lookup that tells whether there is one; z is the zero value. -/
theorem look_int {w : World} {mb : Nat} {es : List (Int × Value)} (h : ImMap w mb es) {t e : TypeId} (ht : Tryz.prog.underlying t = some (.map 3 e)) {z : Value} (hz : ∀ w', (zeroValue e).run Tryz.prog w' = .ok z w') (p : Int) :
    ∀ w' : World, w'.heap[mb]? = w.heap[mb]? → (Instr.lookup t (.map (some mb)) (.int .i64 p) true).run Tryz.prog w' = .ok (.tuple #[(imGet es p).getD z, .bool (imGet es p).isSome]) w' := by
  obtain ⟨arr, clk, hm, he, _⟩ := h
  intro w' hw
  have hm' : w'.heap[mb]? = some (.map arr clk) := hw.trans hm
  have hf := run_find_int (w := w') p he
  have hc := run_check_int (w := w') arr.isEmpty 9999 (.int .i64 p)
  unfold imGet
  cases hr : imFind p es 0 with
  | none =>
    rw [hr] at hf
    simp [Instr.lookup, run_underlying ht, MapKept.run_getObj_map hm', hc, hf, hz]
  | some x =>
    rw [hr] at hf
    simp [Instr.lookup, run_underlying ht, MapKept.run_getObj_map hm', hc, hf]
/-- Lookup of the value alone. -/
theorem look_int1 {w : World} {mb : Nat} {es : List (Int × Value)} (h : ImMap w mb es) {t e : TypeId} (ht : Tryz.prog.underlying t = some (.map 3 e)) {z : Value} (hz : ∀ w', (zeroValue e).run Tryz.prog w' = .ok z w') (p : Int) :
    ∀ w' : World, w'.heap[mb]? = w.heap[mb]? → (Instr.lookup t (.map (some mb)) (.int .i64 p) false).run Tryz.prog w' = .ok ((imGet es p).getD z) w' := by
  obtain ⟨arr, clk, hm, he, _⟩ := h
  intro w' hw
  have hm' : w'.heap[mb]? = some (.map arr clk) := hw.trans hm
  have hf := run_find_int (w := w') p he
  have hc := run_check_int (w := w') arr.isEmpty 9999 (.int .i64 p)
  unfold imGet
  cases hr : imFind p es 0 with
  | none =>
    rw [hr] at hf
    simp [Instr.lookup, run_underlying ht, MapKept.run_getObj_map hm', hc, hf, hz]
  | some x =>
    rw [hr] at hf
    simp [Instr.lookup, run_underlying ht, MapKept.run_getObj_map hm', hc, hf]
theorem imFind_none {p : Int} : ∀ {es : List (Int × Value)} {i : Nat}, (∀ x ∈ es, x.1 ≠ p) → imFind p es i = none
  | [], i, h => rfl
  | x :: es, i, h => by
    rw [imFind, if_neg (fun q => h x (by simp) q.symm)]
    exact imFind_none (fun y hy => h y (by simp [hy]))
theorem imGet_none {p : Int} {es : List (Int × Value)} (h : ∀ x ∈ es, x.1 ≠ p) : imGet es p = none := by unfold imGet; rw [imFind_none h]; rfl
/-- A number that is new: it stands last. -/
theorem add_int {w : World} {mb : Nat} {es : List (Int × Value)} (h : ImMap w mb es) {t e : TypeId} (ht : Tryz.prog.underlying t = some (.map 3 e)) (p : Int) (v : Value) (hn : ∀ x ∈ es, x.1 ≠ p) :
    ∃ w', (Instr.mapUpdate t (.map (some mb)) (.int .i64 p) v).run Tryz.prog w = .ok () w' ∧ Turn mb w w' ∧ ImMap w' mb (es ++ [(p, v)]) := by
  have hml := h.lt
  obtain ⟨arr, clk, hm, he, hs⟩ := h
  have hf := run_find_int (w := w) p he
  rw [imFind_none hn] at hf
  have hc := run_check_int (w := w) false 9999 (.int .i64 p)
  refine ⟨{ w with heap := w.heap.setIfInBounds mb (.map (arr.push ⟨.int .i64 p, v, clk⟩) (clk + 1)) }, by simp [Instr.mapUpdate, run_underlying ht, MapKept.run_getObj_map hm, hc, hf, MapKept.run_setObj_map _ hm], ⟨rfl, rfl, rfl, by simp, fun k hk hne => by
    show (w.heap.setIfInBounds mb _)[k]? = _
    rw [Array.getElem?_setIfInBounds_ne (Ne.symm hne)]⟩, arr.push ⟨.int .i64 p, v, clk⟩, clk + 1, ?_, ?_, ?_⟩
  · show (w.heap.setIfInBounds mb _)[mb]? = _
    rw [Array.getElem?_setIfInBounds_self_of_lt hml]
  · rw [Array.toList_push, List.map_append, he, List.map_append]; rfl
  · refine MapKept.stamped_push hs (fun x hx => ?_)
    intro q
    have h1 : (x.key, x.val) ∈ es.map (fun p => (Value.int .i64 p.1, p.2)) := by rw [← he]; exact List.mem_map.2 ⟨x, hx, rfl⟩
    obtain ⟨y, hy, e1⟩ := List.mem_map.1 h1
    simp only [Prod.mk.injEq] at e1
    rw [q] at e1
    simp only [Value.int.injEq, true_and] at e1
    exact hn y hy e1.1
end Go.Proofs.YtjibnlpjpbileaaGreatDoor
namespace Go.Proofs.YtjibnlpjpbileaaGreatDoor
open Go.RowKit Atom
open Go.Proofs.YtjibnlpjpbileaaGreatDoor.Code
set_option linter.unusedVariables false

theorem contains_any (ao : Option Addr) (N cap : Nat) (f : Nat → Int) (x : Int) (w : World) (hr : RdI w ao N f) (hN : N ≤ maxLen) :
    Calls Tryz.prog 137 #[.slice ao N cap, .int .i64 x] w fun e w' => e = .returned (.bool (hasB f N x)) ∧ w' = w := by
  unfold maxLen at hN
  by_cases h0 : N = 0
  · subst h0
    exact Tryz.slices_Contains_int_empty ao cap x w
  · obtain ⟨b, o, rfl, hc⟩ := hr h0
    have hg : ∀ j, j < N → ((List.range N).map f).getD j 0 = f j := fun j hj => by simp [List.getD, hj]
    have := Tryz.slices_Contains_int b o N cap ((List.range N).map f) x w (by simp) hN (fun j hj => by
      have hj' : j < N := by simpa using hj
      rw [hg j hj']; exact hc j hj')
    have e : (((List.range N).map f).take N).contains x = hasB f N x := by
      rw [List.take_of_length_le (by simp)]
      unfold hasB
      rw [List.contains_eq_any_beq, List.any_map]
      congr 1
      funext j
      simp [Bool.beq_comm]
    rw [e] at this
    exact this

/-! ### Actors by their Pids -/
/-- es are the actors of l by their Pids. -/
def EntA (w : World) : List (Int × Value) → List Ac → Prop
  | [], [] => True
  | e :: es, a :: l => (∃ h, e = (a.pid, acV a h) ∧ AcR w a h) ∧ EntA w es l
  | _, _ => False
theorem EntA.below {w w' : World} (hb : Below w.heap.size w w') : ∀ {es : List (Int × Value)} {l : List Ac}, EntA w es l → EntA w' es l
  | [], [], _ => trivial
  | e :: es, a :: l, ⟨⟨h, e1, x⟩, r⟩ => ⟨⟨h, e1, x.below hb⟩, EntA.below hb r⟩
  | [], _ :: _, h => h.elim
  | _ :: _, [], h => h.elim
theorem EntA.turn {w w' : World} {mb : Nat} (ht : ∀ a h, AcR w a h → AcR w' a h) : ∀ {es : List (Int × Value)} {l : List Ac}, EntA w es l → EntA w' es l
  | [], [], _ => trivial
  | e :: es, a :: l, ⟨⟨h, e1, x⟩, r⟩ => ⟨⟨h, e1, ht _ _ x⟩, EntA.turn (mb := mb) ht r⟩
  | [], _ :: _, h => h.elim
  | _ :: _, [], h => h.elim
theorem EntA.snoc {w : World} {a : Ac} {h : Wh} (hr : AcR w a h) : ∀ {es : List (Int × Value)} {l : List Ac}, EntA w es l → EntA w (es ++ [(a.pid, acV a h)]) (l ++ [a])
  | [], [], _ => ⟨⟨h, rfl, hr⟩, trivial⟩
  | e :: es, b :: l, ⟨x, r⟩ => ⟨x, EntA.snoc hr r⟩
  | [], _ :: _, h => h.elim
  | _ :: _, [], h => h.elim
theorem EntA.keys {w : World} : ∀ {es : List (Int × Value)} {l : List Ac}, EntA w es l → es.map (·.1) = l.map (·.pid)
  | [], [], _ => rfl
  | e :: es, a :: l, ⟨⟨h, e1, x⟩, r⟩ => by rw [List.map_cons, List.map_cons, EntA.keys r, e1]
  | [], _ :: _, h => h.elim
  | _ :: _, [], h => h.elim
theorem EntA.get {w : World} (p : Int) : ∀ {es : List (Int × Value)} {l : List Ac}, EntA w es l → (imGet es p = none ∧ findA l p = none) ∨ ∃ a h, imGet es p = some (acV a h) ∧ findA l p = some a ∧ AcR w a h
  | [], [], _ => .inl ⟨rfl, rfl⟩
  | e :: es, a :: l, ⟨⟨h, e1, x⟩, r⟩ => by
    subst e1
    rw [imGet_cons]
    have hf : findA (a :: l) p = if p = a.pid then some a else findA l p := by
      unfold findA
      rw [List.find?_cons]
      by_cases hq : p = a.pid
      · subst hq; simp
      · have : (a.pid == p) = false := by simp; omega
        rw [this, if_neg hq]
    rw [hf]
    by_cases hq : p = a.pid
    · right
      exact ⟨a, h, by simp [hq], by simp [hq], x⟩
    · have hq' : ¬ p = (a.pid, acV a h).1 := hq
      rw [if_neg hq', if_neg hq]
      exact EntA.get p r
  | [], _ :: _, h => h.elim
  | _ :: _, [], h => h.elim
theorem und_mapA : Tryz.prog.underlying 101 = some (.map 3 61) := by kernel_rfl
theorem run_makeMapN (n : Nat) (w : World) : (Instr.makeMap 101 (some (.int .i64 (n : Int)))).run Tryz.prog w = .ok (.map (some w.heap.size)) (w.alloc (.map #[] 0)) := by
  simp [Instr.makeMap, run_underlying und_mapA, asInt, newObj, Result.andThen]
  rfl
theorem acR_turn {w w' : World} {mb : Nat} {es : Array MapEntry} {clk : Nat} (ht : Turn mb w w') (hm : w.heap[mb]? = some (.map es clk)) {a : Ac} {h : Wh} (x : AcR w a h) : AcR w' a h := by
  have hc : ∀ b o v, w.cell? ⟨b, o, none⟩ = some v → w'.cell? ⟨b, o, none⟩ = some v := fun b o v hv => by
    have hne : b ≠ mb := fun e => by
      subst e
      simp [World.cell?, hm] at hv
    rw [World.cell?_of_block (w := w) (ht.block b (World.block_lt_of_cell? w _ hv) hne)]; exact hv
  have hk : Keeps 0 w w' := fun b o v _ hv => hc b o v hv
  refine ⟨hk.repL _ _ x.regs, hk.repL _ _ x.box, fun hn => ?_, x.r1, x.r2, x.b1, x.b2, x.l1, x.l2⟩
  obtain ⟨b, o, e, hj⟩ := x.links hn
  exact ⟨b, o, e, fun j hjn => hc _ _ _ (hj j hjn)⟩

set_option maxHeartbeats 1000000 in
set_option maxRecDepth 100000 in
theorem byPid_any (l : List Ac) (ao : Option Addr) (cap : Nat) (w : World) (hr : RowA w ao l) (hl : l.length ≤ maxLen) (hd : ∀ i j (hi : i < l.length) (hj : j < l.length), i ≠ j → l[i].pid ≠ l[j].pid) :
    Calls Tryz.prog 67 #[.slice ao l.length cap] w fun e w' => ∃ mb es, e = .returned (.map (some mb)) ∧ ImMap w' mb es ∧ EntA w' es l ∧ w.heap.size ≤ mb ∧ Below w.heap.size w w' := by
  have HR : Hid (RowA w ao l) := hr
  have HD : Hid (∀ i j (hi : i < l.length) (hj : j < l.length), i ≠ j → l[i].pid ≠ l[j].pid) := hd
  clear hr hd
  unfold maxLen at hl
  have hmm := run_makeMapN l.length
  go_enter Tryz.func67, Tryz.ntmps67
  go_wp2_with fail
  clear hmm
  go_loopw [11] (fun iv wr => ∃ (k : Nat) (es : List (Int × Value)), k ≤ l.length ∧ iv = .int .i64 k ∧ ImMap wr w.heap.size es ∧ EntA wr es (l.take k) ∧ Below w.heap.size w wr) (fun iv _ => l.length - (intOf iv).toNat)
  case atStart => exact ⟨0, [], Nat.zero_le _, rfl, ImMap.made w, trivial, (Below.refl _ _).alloc (Nat.le_refl _) _⟩
  case round =>
    obtain ⟨k, es, hk, rfl, hm, he, hb⟩ := hrel
    have HM : Hid (ImMap wr w.heap.size es ∧ EntA wr es (l.take k)) := ⟨hm, he⟩
    have HB : Hid (Below w.heap.size w wr) := hb
    clear hm he hb
    by_cases hlt : k < l.length
    · rcases HR.out.below HB.out with h0 | ⟨b, o, rfl, hrow⟩
      · rw [h0] at hlt; simp at hlt
      obtain ⟨hh, hbx, hac⟩ := hrow k hlt
      have hnew : ∀ x ∈ es, x.1 ≠ l[k].pid := fun x hx hq => by
        have h1 : x.1 ∈ (l.take k).map (·.pid) := by rw [← HM.out.2.keys]; exact List.mem_map.2 ⟨x, hx, rfl⟩
        obtain ⟨a, ha, e1⟩ := List.mem_map.1 h1
        obtain ⟨j, hj, rfl⟩ := List.mem_iff_getElem.1 ha
        have hj' : j < k := by simp at hj; omega
        have := HD.out j k (by omega) hlt (by omega)
        rw [List.getElem_take] at e1
        rw [← e1] at hq
        exact this hq
      have HTK : Hid (l.take (k + 1) = l.take k ++ [l[k]]) := List.take_succ_eq_append_getElem hlt
      obtain ⟨wa, hwa⟩ : ∃ wa, wa = wr.alloc (.cells #[.int .i64 l[k].pid, .int .i64 l[k].pc, .slice hh.ra l[k].regs.length hh.rc, .slice hh.ba l[k].box.length hh.bc, .slice hh.la l[k].N hh.lc] 61) := ⟨_, rfl⟩
      have hba : Below wr.heap.size wr wa := by rw [hwa]; exact (Below.refl _ _).alloc (Nat.le_refl _) _
      obtain ⟨w2, hup, ht, hm2⟩ := add_int (HM.out.1.below hba) und_mapA l[k].pid (acV l[k] hh) hnew
      have HE2 : Hid (EntA w2 (es ++ [(l[k].pid, acV l[k] hh)]) (l.take k ++ [l[k]]) ∧ ImMap w2 w.heap.size (es ++ [(l[k].pid, acV l[k] hh)]) ∧ Below w.heap.size w w2) := by
        obtain ⟨arr, clk, hmb, _⟩ := HM.out.1.below hba
        refine ⟨EntA.snoc (acR_turn ht hmb (hac.below hba)) (EntA.turn (mb := 0) (fun a h x => acR_turn ht hmb x) (HM.out.2.below hba)), hm2, ?_⟩
        have h1 : Below w.heap.size w wa := HB.out.trans (hba.mono HB.out.size)
        exact ⟨ht.os.trans h1.os, ht.tape.trans h1.tape, ht.output.trans h1.output, Nat.le_trans h1.size ht.size, fun x hx => (ht.block x (Nat.lt_of_lt_of_le hx h1.size) (by omega)).trans (h1.block x hx)⟩
      have c0 := hbx.c0
      have c1 := hbx.c1
      have c2 := hbx.c2
      have c3 := hbx.c3
      have c4 := hbx.c4
      rw [hwa] at hup
      clear hbx hac hrow hnew ht hm2 hba hwa
      rw [← HTK.out] at HE2
      clear HTK
      generalize l[k] = a at *
      obtain ⟨pid, pc, regs, box, N, f⟩ := a
      dsimp only at c0 c1 c2 c3 c4 hup HE2
      go_wp2_with fail
      go_roundw
      case rel => exact ⟨k + 1, _, by omega, by go_num, HE2.out.2.1, HE2.out.1, HE2.out.2.2⟩
      case measure => simp [intOf]; omega
    · have HF : Hid (ImMap wr w.heap.size es ∧ EntA wr es l) := by
        have := HM.out
        rw [List.take_of_length_le (by omega)] at this
        exact this
      go_wp2_with fail
      go_ret
      exact ⟨w.heap.size, es, rfl, HF.out.1, HF.out.2, Nat.le_refl _, HB.out⟩

/-! ### Links of both sides -/
def linkB (l : List Ac) : Bool := l.all (bothB l)
theorem linkB_no {l : List Ac} {k : Nat} (hk : k < l.length) (h : bothB l l[k] = false) : linkB l = false := by
  unfold linkB
  rw [List.all_eq_false]
  exact ⟨l[k], List.getElem_mem hk, by rw [h]; simp⟩
theorem linkB_yes {l : List Ac} (h : ∀ k (hk : k < l.length), bothB l l[k] = true) : linkB l = true := by
  unfold linkB
  rw [List.all_eq_true]
  intro x hx
  obtain ⟨k, hk, rfl⟩ := List.mem_iff_getElem.1 hx
  exact h k hk

set_option maxHeartbeats 2000000 in
set_option maxRecDepth 100000 in
theorem linked_any (l : List Ac) (ao : Option Addr) (cap : Nat) (w : World) (hr : RowA w ao l) (hl : l.length ≤ maxLen) (hd : ∀ i j (hi : i < l.length) (hj : j < l.length), i ≠ j → l[i].pid ≠ l[j].pid) :
    Calls Tryz.prog 111 #[.slice ao l.length cap] w fun e w' => e = .returned (.bool (linkB l)) ∧ Below w.heap.size w w' := by
  have HR : Hid (RowA w ao l) := hr
  have HC : Hid (Calls Tryz.prog 67 #[.slice ao l.length cap] w fun e w' => ∃ mb es, e = .returned (.map (some mb)) ∧ ImMap w' mb es ∧ EntA w' es l ∧ w.heap.size ≤ mb ∧ Below w.heap.size w w') := byPid_any l ao cap w hr hl hd
  clear hr hd
  unfold maxLen at hl
  go_enter Tryz.func111, Tryz.ntmps111
  go_wp2_with (go_at_call 67; fail)
  refine HC.out.mono ?_
  rintro e w1 ⟨mb, es, rfl, hm, hen, hmb, hb1⟩
  have HM : Hid (ImMap w1 mb es ∧ EntA w1 es l) := ⟨hm, hen⟩
  have HB1 : Hid (Below w.heap.size w w1) := hb1
  clear hm hen hmb hb1 HC
  go_wp2_with fail
  go_loopw [14] (fun iv wr => ∃ k : Nat, k ≤ l.length ∧ iv = .int .i64 k ∧ Below w1.heap.size w1 wr ∧ ∀ j (hj : j < l.length), j < k → bothB l l[j] = true) (fun iv _ => l.length - (intOf iv).toNat)
  case atStart => exact ⟨0, Nat.zero_le _, rfl, Below.refl _ _, fun j _ hj => absurd hj (Nat.not_lt_zero _)⟩
  case round =>
    obtain ⟨k, hk, rfl, hb, hn⟩ := hrel
    have HB : Hid (Below w1.heap.size w1 wr) := hb
    have HBW : Hid (Below w.heap.size w wr) := HB1.out.trans (hb.mono HB1.out.size)
    have HN : Hid (∀ j (hj : j < l.length), j < k → bothB l l[j] = true) := hn
    clear hn hb
    by_cases hlt : k < l.length
    · rcases HR.out.below HBW.out with h0 | ⟨b, o, rfl, hrow⟩
      · rw [h0] at hlt; simp at hlt
      obtain ⟨hh, hbx, hac⟩ := hrow k hlt
      have HS : Hid (bothB l l[k] = true → ∀ j (hj : j < l.length), j < k + 1 → bothB l l[j] = true) := fun hq j hj hjk => by
        rcases Nat.lt_or_ge j k with h | h
        · exact HN.out j hj h
        · have : j = k := by omega
          subst this; exact hq
      have HX : Hid (bothB l l[k] = false → linkB l = false) := fun h => linkB_no hlt h
      have HBO : Hid (∀ j, j < l[k].N → bothAt l l[k] j = false → bothB l l[k] = false) := fun j hj hf => bothB_no hj hf
      have HBY : Hid ((∀ j, j < l[k].N → bothAt l l[k] j = true) → bothB l l[k] = true) := bothB_yes
      have HBN : Hid (∀ j, findA l (l[k].f j) = none → bothAt l l[k] j = true) := fun j hq => bothAt_none hq
      have HBS : Hid (∀ j m, findA l (l[k].f j) = some m → bothAt l l[k] j = hasB m.f m.N l[k].pid) := fun j m hq => bothAt_some hq
      have c0 := hbx.c0
      have c1 := hbx.c1
      have c2 := hbx.c2
      have c3 := hbx.c3
      have c4 := hbx.c4
      have HLK : Hid (RdI wr hh.la l[k].N l[k].f ∧ l[k].N ≤ maxLen) := ⟨hac.links, Nat.le_trans hac.l1 hac.l2⟩
      clear hbx hac hrow
      generalize hbk : bothB l l[k] = bk at HS HX HBO HBY
      generalize bothAt l l[k] = bat at *
      clear hbk
      generalize l[k].f = f at *
      generalize l[k].pid = pid at *
      generalize l[k].pc = pc at *
      generalize l[k].regs.length = nR at *
      generalize l[k].box.length = nB at *
      generalize l[k].N = N at *
      have hNm : N ≤ 9223372036854775807 := by have := HLK.out.2; unfold maxLen at this; omega
      obtain ⟨wa, hwa⟩ : ∃ wa, wa = wr.alloc (.cells #[.int .i64 pid, .int .i64 pc, .slice hh.ra nR hh.rc, .slice hh.ba nB hh.bc, .slice hh.la N hh.lc] 61) := ⟨_, rfl⟩
      have hba : Below wr.heap.size wr wa := by rw [hwa]; exact (Below.refl _ _).alloc (Nat.le_refl _) _
      have HBA : Hid (Below w1.heap.size w1 wa ∧ Below w.heap.size w wa ∧ RdI wa hh.la N f) := ⟨HB.out.trans (hba.mono HB.out.size), HBW.out.trans (hba.mono HBW.out.size), HLK.out.1.below hba⟩
      have HQA : Hid (∀ wc, Below wa.heap.size wa wc → wc.cell? ⟨wr.heap.size, 0, none⟩ = some (.int .i64 pid)) := fun wc hb => keepA hb (by rw [hwa, World.cell?_alloc_new]; rfl)
      clear hba
      go_wp2_with fail
      rw [← hwa]
      clear hwa c0 c1 c2 c3 c4
      obtain ⟨A, hA⟩ : ∃ A, A = wr.heap.size := ⟨_, rfl⟩
      rw [← hA] at HQA ⊢
      clear hA
      clear HLK HB HBW
      revert wr
      intro wo
      go_loopw [21] (fun iv wr => ∃ j : Nat, j ≤ N ∧ iv = .int .i64 j ∧ Below wa.heap.size wa wr ∧ ∀ i, i < j → bat i = true) (fun iv _ => N - (intOf iv).toNat)
      case atStart => exact ⟨0, Nat.zero_le _, rfl, Below.refl _ _, fun j hj => absurd hj (Nat.not_lt_zero _)⟩
      case round =>
        obtain ⟨j, hj, rfl, hb, hn⟩ := hrel
        have HBj : Hid (Below wa.heap.size wa wr) := hb
        have HW1 : Hid (Below w1.heap.size w1 wr ∧ Below w.heap.size w wr) := ⟨HBA.out.1.trans (hb.mono HBA.out.1.size), HBA.out.2.1.trans (hb.mono HBA.out.2.1.size)⟩
        have HNj : Hid (∀ i, i < j → bat i = true) := hn
        clear hn hb
        by_cases hjl : j < N
        · obtain ⟨lb, lo, hla, hc⟩ := HBA.out.2.2.below HBj.out (by omega)
          have ck := hc j hjl
          have HSj : Hid (bat j = true → ∀ i, i < j + 1 → bat i = true) := fun hq i hi => by
            rcases Nat.lt_or_ge i j with h | h
            · exact HNj.out i h
            · have : i = j := by omega
              subst this; exact hq
          have HNOj : Hid (bat j = false → linkB l = false) := fun hq => HX.out (HBO.out j hjl hq)
          have HNK : Hid (findA l (f j) = none → bat j = true) := HBN.out j
          have HSK : Hid (∀ m, findA l (f j) = some m → bat j = hasB m.f m.N pid) := HBS.out j
          have hlk := look_int (HM.out.1.below HW1.out.1) und_mapA Tryz.zeroValue61 (f j) wr rfl
          have hget := EntA.get (f j) (HM.out.2.below HW1.out.1)
          generalize f j = x at *
          generalize bat j = bj at *
          rw [hla]
          clear hc hla
          rcases hget with ⟨g1, g2⟩ | ⟨a, h, g1, g2, g3⟩
          · rw [g1] at hlk
            have HF : Hid (∀ i, i < j + 1 → bat i = true) := HSj.out (HNK.out g2)
            clear g1 g2
            simp only [Option.getD_none, Option.isSome_none] at hlk
            go_wp2_with fail
            go_roundw
            case rel => exact ⟨j + 1, by omega, by go_num, HBj.out.alloc HBj.out.size _, HF.out⟩
            case measure => simp [intOf]; omega
          · rw [g1] at hlk
            have HE : Hid (bj = hasB a.f a.N pid) := HSK.out a g2
            obtain ⟨pid2, pc2, regs2, box2, N2, f2⟩ := a
            obtain ⟨ra2, rc2, ba2, bc2, la2, lc2⟩ := h
            have KC : Hid (∀ wc, Below wr.heap.size wr wc → Calls Tryz.prog 137 #[.slice la2 N2 lc2, .int .i64 pid] wc fun e w' => e = .returned (.bool (hasB f2 N2 pid)) ∧ w' = wc) := fun wc hb => contains_any la2 N2 lc2 f2 pid wc (g3.links.below hb) (Nat.le_trans g3.l1 g3.l2)
            clear g1 g2 g3
            simp only [Option.getD_some, Option.isSome_some] at hlk
            dsimp only at HE
            generalize hasB f2 N2 pid = q at *
            have HBb : Hid (Below wr.heap.size wr (wr.alloc (.cells #[.int .i64 pid2, .int .i64 pc2, .slice ra2 regs2.length rc2, .slice ba2 box2.length bc2, .slice la2 N2 lc2] 61))) := (Below.refl _ _).alloc (Nat.le_refl _) _
            have hq0 := keepA HBb.out (HQA.out wr HBj.out)
            have HBc : Hid (Below wa.heap.size wa (wr.alloc (.cells #[.int .i64 pid2, .int .i64 pc2, .slice ra2 regs2.length rc2, .slice ba2 box2.length bc2, .slice la2 N2 lc2] 61))) := HBj.out.alloc HBj.out.size _
            cases q
            · have HF : Hid (linkB l = false) := HNOj.out HE.out
              have HBd : Hid (Below w.heap.size w (wr.alloc (.cells #[.int .i64 pid2, .int .i64 pc2, .slice ra2 regs2.length rc2, .slice ba2 box2.length bc2, .slice la2 N2 lc2] 61))) := HW1.out.2.alloc HW1.out.2.size _
              go_wp2_with (go_at_call 137; refine (KC.out _ HBb.out).mono ?_; rintro e w' ⟨rfl, hw'⟩; obtain rfl := hw'.symm)
              go_ret
              exact ⟨ret_bool HF.out.symm, HBd.out⟩
            · have HF : Hid (∀ i, i < j + 1 → bat i = true) := HSj.out HE.out
              go_wp2_with (go_at_call 137; refine (KC.out _ HBb.out).mono ?_; rintro e w' ⟨rfl, hw'⟩; obtain rfl := hw'.symm)
              go_roundw
              case rel => exact ⟨j + 1, by omega, by go_num, HBc.out, HF.out⟩
              case measure => simp [intOf]; omega
        · have HF : Hid (∀ i (hi : i < l.length), i < k + 1 → bothB l l[i] = true) := HS.out (HBY.out fun i hi => HNj.out i (by omega))
          go_wp2_with fail
          go_roundw
          case rel => exact ⟨k + 1, by omega, by go_num, HW1.out.1, HF.out⟩
          case measure => simp [intOf]; omega
    · have HF : Hid (linkB l = true) := linkB_yes fun j hj => HN.out j hj (by omega)
      go_wp2_with fail
      go_ret
      exact ⟨ret_bool HF.out.symm, HBW.out⟩
end Go.Proofs.YtjibnlpjpbileaaGreatDoor
