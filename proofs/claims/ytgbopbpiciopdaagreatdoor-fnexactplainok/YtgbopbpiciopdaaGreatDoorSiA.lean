/-
  What an actor has of either kind, and whether it is right in its code: the program.
-/
import Derived.Test.YtgbopbpiciopdaaGreatDoorAcB
import Derived.Test.YtgbopbpiciopdaaGreatDoorCkB
import Derived.Test.YtgbopbpiciopdaaGreatDoorCkC
import Derived.RegionTactic
namespace Go.Proofs.YtgbopbpiciopdaaGreatDoor
open Go.RowKit Atom
open Go.Proofs.YtgbopbpiciopdaaGreatDoor.Code
set_option linter.unusedVariables false

theorem keepS {w w' : World} (h : Below w.heap.size w w') {b o : Nat} {v : Value} (hc : w.cell? ⟨b, o, none⟩ = some v) : w'.cell? ⟨b, o, none⟩ = some v := by
  rw [h.cell (p := ⟨b, o, none⟩) (World.block_lt_of_cell? w _ hc)]; exact hc
def stB (l : List I) (pid pc : Int) (nR nB : Nat) (f : Nat → Int) (N : Nat) : Bool := codeB l && (pidB pid && (decide (0 ≤ pc ∧ pc < l.length) && (decide (nR = 8) && (decide (nB ≤ 30) && (lnkB f pid N && decide (N ≤ 50))))))
theorem stB_no1 {l : List I} {pid pc : Int} {nR nB : Nat} {f : Nat → Int} {N : Nat} (h : codeB l = false) : stB l pid pc nR nB f N = false := by unfold stB; rw [h]; rfl
theorem stB_no2 {l : List I} {pid pc : Int} {nR nB : Nat} {f : Nat → Int} {N : Nat} (h : ¬ (1 ≤ pid ∧ pid ≤ 99999)) : stB l pid pc nR nB f N = false := by unfold stB pidB; rw [decide_eq_false h]; simp
theorem stB_no3 {l : List I} {pid pc : Int} {nR nB : Nat} {f : Nat → Int} {N : Nat} (h : ¬ (0 ≤ pc ∧ pc < l.length)) : stB l pid pc nR nB f N = false := by unfold stB; rw [decide_eq_false h]; simp
theorem stB_no4 {l : List I} {pid pc : Int} {nR nB : Nat} {f : Nat → Int} {N : Nat} (h : ¬ nR = 8) : stB l pid pc nR nB f N = false := by unfold stB; rw [decide_eq_false h]; simp
theorem stB_no5 {l : List I} {pid pc : Int} {nR nB : Nat} {f : Nat → Int} {N : Nat} (h : ¬ nB ≤ 30) : stB l pid pc nR nB f N = false := by unfold stB; rw [decide_eq_false h]; simp
theorem stB_is {l : List I} {pid pc : Int} {nR nB : Nat} {f : Nat → Int} {N : Nat} (h1 : codeB l = true) (h2 : 1 ≤ pid ∧ pid ≤ 99999) (h3 : 0 ≤ pc ∧ pc < l.length) (h4 : nR = 8) (h5 : nB ≤ 30) : stB l pid pc nR nB f N = (lnkB f pid N && decide (N ≤ 50)) := by
  unfold stB pidB; rw [h1, decide_eq_true h2, decide_eq_true h3, decide_eq_true h4, decide_eq_true h5]; simp
theorem codeB_lenS {l : List I} (h : codeB l = true) : 1 ≤ l.length ∧ l.length ≤ 200 := by
  by_cases hn : 1 ≤ l.length ∧ l.length ≤ 200
  · exact hn
  · rw [codeB_no hn] at h; cases h
set_option maxHeartbeats 4000000 in
set_option maxRecDepth 100000 in
theorem standsIn_any (l : List I) (lo : Option Addr) (lc2 : Nat) (pid pc : Int) (la : Option Addr) (N lc : Nat) (f : Nat → Int) (nR nB : Nat) (w : World) (hl : RowI w lo l) (hsm : SmI maxLen l) (hln : l.length ≤ 1048576) (hr : RdI w la N f) (hN : N ≤ 1048576) (hnR : nR ≤ maxLen) (hnB : nB ≤ maxLen) (hS : Shp w) (hP : Pow w) (hE : Es.Ety w) :
    Calls Tryz.prog 116 #[.agg #[.int .i64 pid, .int .i64 pc, .slice la N lc], .slice lo l.length lc2, .int .i64 nR, .int .i64 nB] w fun e w' => e = .returned (.bool (stB l pid pc nR nB f N)) ∧ Below w.heap.size w w' := by
  have HR : Hid (RdI w la N f) := hr
  have HL : Hid (RowI w lo l) := hl
  have HSM : Hid (SmI maxLen l) := hsm
  have HLN : Hid (l.length ≤ 9223372036854775807) := by show _ ≤ _; omega
  have HN : Hid (N ≤ 1048576) := hN
  have HTAB : Hid (Shp w ∧ Pow w ∧ Es.Ety w) := ⟨hS, hP, hE⟩
  clear hS hP hE
  have hrm : (nR : Int) ≤ 9223372036854775807 := by unfold maxLen at hnR; omega
  have hbm : (nB : Int) ≤ 9223372036854775807 := by unfold maxLen at hnB; omega
  obtain ⟨w0, hw0⟩ : ∃ w0, w0 = w.alloc (.cells #[.int .i64 pid, .int .i64 pc, .slice la N lc] 148) := ⟨_, rfl⟩
  have HB0 : Hid (Below w.heap.size w w0) := by rw [hw0]; exact (Below.refl _ _).alloc (Nat.le_refl _) _
  have hq : ∀ j (v : Value), (#[.int .i64 pid, .int .i64 pc, .slice la N lc] : Array Value)[j]? = some v → w0.cell? ⟨w.heap.size, j, none⟩ = some v := fun j v hv => by
    rw [hw0, World.cell?_alloc_new]; exact hv
  have HC : Hid (∀ w1, Below w0.heap.size w0 w1 → w1.cell? ⟨w.heap.size, 0, none⟩ = some (.int .i64 pid) ∧ w1.cell? ⟨w.heap.size, 1, none⟩ = some (.int .i64 pc) ∧ w1.cell? ⟨w.heap.size, 2, none⟩ = some (.slice la N lc)) := fun w1 hb =>
    ⟨keepS hb (hq 0 _ rfl), keepS hb (hq 1 _ rfl), keepS hb (hq 2 _ rfl)⟩
  have HW : Hid (∀ w1, Below w0.heap.size w0 w1 → Below w.heap.size w w1) := fun w1 h => HB0.out.trans (h.mono HB0.out.size)
  have KCODE : Hid (∀ w1, Below w0.heap.size w0 w1 → Calls Tryz.prog 37 #[.slice lo l.length lc2] w1 fun e w2 => e = .returned (.bool (codeB l)) ∧ Below w0.heap.size w0 w2) := fun w1 hb => by
    have h := HW.out w1 hb
    exact (implCode_any l lo lc2 w1 (HL.out.below h) HSM.out HLN.out (HTAB.out.1.below h) (HTAB.out.2.1.below h) (HTAB.out.2.2.below h)).mono fun e w2 ⟨h1, h2⟩ => ⟨h1, hb.trans (h2.mono hb.size)⟩
  have KLNK : Hid (∀ w1, Below w0.heap.size w0 w1 → Calls Tryz.prog 144 #[.slice la N lc, .int .i64 pid] w1 fun e w2 => e = .returned (.bool (lnkB f pid N && decide (N ≤ 50))) ∧ Below w0.heap.size w0 w2) := fun w1 hb =>
    (linksOk_any la N lc f pid w1 (HR.out.below (HW.out w1 hb)) HN.out).mono fun e w2 ⟨h1, h2⟩ => ⟨h1, hb.trans (h2.mono hb.size)⟩
  clear hq hl hsm hr hN hnR hnB
  go_enter Tryz.func116, Tryz.ntmps116
  go_wp2_with fail
  rw [← hw0]
  clear hw0
  refine (KCODE.out w0 (Below.refl _ _)).mono ?_
  rintro e w1 ⟨he, hb1⟩
  have HB1 : Hid (Below w0.heap.size w0 w1) := hb1
  obtain ⟨d0, d1, d2⟩ := HC.out w1 hb1
  clear hb1
  cases hc : codeB l
  · rw [hc] at he; subst he
    have HF : Hid (stB l pid pc nR nB f N = false) := stB_no1 hc
    clear hc
    go_wp2_with (first | (go_at_call 81; refine (isPid_any _ _).mono ?_; rintro e w' ⟨rfl, hw'⟩; obtain rfl := hw'.symm))
    go_ret
    exact ⟨ret_bool HF.out.symm, HW.out _ HB1.out⟩
  rw [hc] at he; subst he
  have hlen := codeB_lenS hc
  have HC1 : Hid (codeB l = true) := hc
  clear hc
  by_cases h2 : 1 ≤ pid ∧ pid ≤ 99999
  rotate_left
  · have q2 : pidB pid = false := decide_eq_false h2
    have HF : Hid (stB l pid pc nR nB f N = false) := stB_no2 h2
    clear h2
    go_wp2_with (first | (go_at_call 81; refine (isPid_any _ _).mono ?_; rintro e w' ⟨rfl, hw'⟩; obtain rfl := hw'.symm))
    go_ret
    exact ⟨ret_bool HF.out.symm, HW.out _ HB1.out⟩
  have q2 : pidB pid = true := decide_eq_true h2
  have H2 : Hid (1 ≤ pid ∧ pid ≤ 99999) := h2
  clear h2
  by_cases h3 : 0 ≤ pc ∧ pc < l.length
  rotate_left
  · have HF : Hid (stB l pid pc nR nB f N = false) := stB_no3 h3
    by_cases h3a : 0 ≤ pc
    · have h3b : ¬ pc < (l.length : Int) := by omega
      clear h3
      go_wp2_with (first | (go_at_call 81; refine (isPid_any _ _).mono ?_; rintro e w' ⟨rfl, hw'⟩; obtain rfl := hw'.symm))
      go_ret
      exact ⟨ret_bool HF.out.symm, HW.out _ HB1.out⟩
    · clear h3
      go_wp2_with (first | (go_at_call 81; refine (isPid_any _ _).mono ?_; rintro e w' ⟨rfl, hw'⟩; obtain rfl := hw'.symm))
      go_ret
      exact ⟨ret_bool HF.out.symm, HW.out _ HB1.out⟩
  have h3a := h3.1
  have h3b := h3.2
  have H3 : Hid (0 ≤ pc ∧ pc < l.length) := h3
  clear h3
  by_cases h4 : nR = 8
  rotate_left
  · have q4 : ((nR : Int) == 8) = false := by simp; omega
    have HF : Hid (stB l pid pc nR nB f N = false) := stB_no4 h4
    clear h4
    go_wp2_with (first | (go_at_call 81; refine (isPid_any _ _).mono ?_; rintro e w' ⟨rfl, hw'⟩; obtain rfl := hw'.symm))
    go_ret
    exact ⟨ret_bool HF.out.symm, HW.out _ HB1.out⟩
  have q4 : ((nR : Int) == 8) = true := by simp; omega
  have H4 : Hid (nR = 8) := h4
  clear h4
  by_cases h5 : nB ≤ 30
  rotate_left
  · have q5 : ¬ (nB : Int) ≤ 30 := by omega
    have HF : Hid (stB l pid pc nR nB f N = false) := stB_no5 h5
    clear h5
    go_wp2_with (first | (go_at_call 81; refine (isPid_any _ _).mono ?_; rintro e w' ⟨rfl, hw'⟩; obtain rfl := hw'.symm))
    go_ret
    exact ⟨ret_bool HF.out.symm, HW.out _ HB1.out⟩
  have q5 : (nB : Int) ≤ 30 := by omega
  have H5 : Hid (nB ≤ 30) := h5
  clear h5
  have HF : Hid (stB l pid pc nR nB f N = (lnkB f pid N && decide (N ≤ 50))) := stB_is HC1.out H2.out H3.out H4.out H5.out
  go_wp2_with (first | (go_at_call 81; refine (isPid_any _ _).mono ?_; rintro e w' ⟨rfl, hw'⟩; obtain rfl := hw'.symm) | (go_at_call 144; fail))
  refine (KLNK.out w1 HB1.out).mono ?_
  rintro e w4 ⟨rfl, hb4⟩
  have HB4 : Hid (Below w0.heap.size w0 w4) := hb4
  clear hb4 d0 d1 d2
  generalize (lnkB f pid N && decide (N ≤ 50)) = q at HF
  go_wp2_with fail
  go_ret
  exact ⟨ret_bool HF.out.symm, HW.out _ HB4.out⟩

theorem bodyOf_any (pid pc : Int) (ra : Option Addr) (nR rc : Nat) (ba : Option Addr) (nB bc : Nat) (la : Option Addr) (N lc : Nat) (w : World) :
    Calls Tryz.prog 115 #[.agg #[.int .i64 pid, .int .i64 pc, .slice ra nR rc, .slice ba nB bc, .slice la N lc]] w fun e w' => e = .returned (.agg #[.int .i64 pid, .int .i64 pc, .slice la N lc]) ∧ Below w.heap.size w w' := by
  go_enter Tryz.func115, Tryz.ntmps115
  go_wp2
  refine bodyPost_ret (v := .agg #[.int .i64 pid, .int .i64 pc, .slice la N lc]) (by simp [results, Tryz.results115, go_sem]) rfl ⟨rfl, ?_⟩
  exact ((Below.refl _ _).alloc (Nat.le_refl _) _).alloc (by simp) _
end Go.Proofs.YtgbopbpiciopdaaGreatDoor
