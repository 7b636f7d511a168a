/-
  A line read as an instruction: the specification's l8Set and l8Ins.
-/
import Derived.Test.YtfjaphhijefdlaaGreatDoorPaB
import Derived.Test.YtfjaphhijefdlaaGreatDoorCoH
import Derived.Test.YtfjaphhijefdlaaGreatDoorCkA
import Derived.Test.YtfjaphhijefdlaaGreatDoorCtB
namespace Go.Proofs.YtfjaphhijefdlaaGreatDoor.Code
open Go.RowKit
open Go.Proofs.YtfjaphhijefdlaaGreatDoor.Atom
set_option linter.unusedVariables false

def setI (x : I) (ch : UInt8) (wd : List UInt8) : I :=
  if ch = 83 then { x with s := ⟨wd.toArray⟩ } else if ch = 65 then { x with a := wholeV wd } else if ch = 66 then { x with b := wholeV wd } else if ch = 67 then { x with c := wholeV wd } else { x with n := wholeV wd }
def setB (ch : UInt8) (wd : List UInt8) : Bool := if ch = 83 then true else wholeB wd

theorem u8ne {ch : UInt8} {k : Nat} {u : UInt8} (hu : u.toNat = k) (h : ch ≠ u) : ((ch.toNat : Int) == (k : Int)) = false := by
  rw [beq_eq_false_iff_ne]
  intro e
  exact h (UInt8.toNat_inj.1 (by omega))
theorem dat_back (s : ByteArray) : (⟨(dat s).toArray⟩ : ByteArray) = s := by simp [dat]

theorem set_any (ch : UInt8) (chi : Int) (hch : chi = (ch.toNat : Int)) (wd : ByteArray) (hwd : wd.size ≤ maxLen) (R : Nat) (x : I) (w : World) (h : w.heap[R]? = some (.cells (insV x) 77 (0, 0))) :
    Calls Tryz.prog 76 #[.pointer (some ⟨R, 0, none⟩), .int .u8 chi, .string wd] w fun e w' => e = .returned (.bool (setB ch (dat wd))) ∧ w'.heap[R]? = some (.cells (insV (setI x ch (dat wd))) 77 (0, 0)) ∧ ∃ i v, w' = w.setCell ⟨R, i, none⟩ v := by
  obtain ⟨op, a, b, c, n, s⟩ := x
  have rf := fun i => blk_free h i
  subst hch
  by_cases h83 : ch = 83
  · subst h83
    have c5 := blk_at h 5
    simp only [insV, List.getElem?_toArray, List.getElem?_cons_zero, List.getElem?_cons_succ] at c5
    have HS : Hid ((w.setCell ⟨R, 5, none⟩ (.string wd)).heap[R]? = some (.cells (insV (setI ⟨op, a, b, c, n, s⟩ 83 (dat wd))) 77 (0, 0))) := by
      show _ = _
      rw [set_blk h]
      unfold setI
      rw [if_pos rfl, dat_back]; rfl
    go_enter Tryz.func76, Tryz.ntmps76
    go_wp2
    go_ret
    exact ⟨rfl, HS.out, _, _, rfl⟩
  · have HB : Hid (setB ch (dat wd) = wholeB (dat wd)) := if_neg h83
    have q83 : ((ch.toNat : Int) == 83) = false := u8ne (k := 83) (u := 83) rfl h83
    have HW : Hid (∀ w', Calls Tryz.prog 92 #[.string wd] w' fun e w'' => e = .returned (.tuple #[.int .i64 (wholeV (dat wd)), .bool (wholeB (dat wd))]) ∧ w'' = w') := fun w' => whole_text wd w' hwd
    have HSI : Hid (setI ⟨op, a, b, c, n, s⟩ ch (dat wd) = if ch = 65 then ⟨op, wholeV (dat wd), b, c, n, s⟩ else if ch = 66 then ⟨op, a, wholeV (dat wd), c, n, s⟩ else if ch = 67 then ⟨op, a, b, wholeV (dat wd), n, s⟩ else ⟨op, a, b, c, wholeV (dat wd), s⟩) := by
      show _ = _; unfold setI; rw [if_neg h83]
    generalize wholeV (dat wd) = V at HW HSI
    generalize wholeB (dat wd) = Q at HW HB
    have fin : ∀ (i : Nat), i < 6 → ∃ v, w.cell? ⟨R, i, none⟩ = some v := fun i hi => by
      rw [blk_at h i, Array.getElem?_eq_getElem (by simpa [insV] using hi)]; exact ⟨_, rfl⟩
    obtain ⟨v1, d1⟩ := fin 1 (by omega)
    obtain ⟨v2, d2⟩ := fin 2 (by omega)
    obtain ⟨v3, d3⟩ := fin 3 (by omega)
    obtain ⟨v4, d4⟩ := fin 4 (by omega)
    clear fin
    by_cases h65 : ch = 65
    · have HS : Hid ((w.setCell ⟨R, 1, none⟩ (.int .i64 V)).heap[R]? = some (.cells (insV (setI ⟨op, a, b, c, n, s⟩ ch (dat wd))) 77 (0, 0))) := by
        show _ = _; rw [set_blk h, HSI.out, if_pos h65]; rfl
      have q : (ch.toNat : Int) = 65 := by rw [h65]; rfl
      go_enter Tryz.func76, Tryz.ntmps76
      go_wp2_with (go_at_call 92; refine (HW.out _).mono ?_; rintro e w' ⟨rfl, rfl⟩)
      go_ret
      exact ⟨by rw [HB.out]; rfl, HS.out, _, _, rfl⟩
    by_cases h66 : ch = 66
    · have HS : Hid ((w.setCell ⟨R, 2, none⟩ (.int .i64 V)).heap[R]? = some (.cells (insV (setI ⟨op, a, b, c, n, s⟩ ch (dat wd))) 77 (0, 0))) := by
        show _ = _; rw [set_blk h, HSI.out, if_neg h65, if_pos h66]; rfl
      have q : (ch.toNat : Int) = 66 := by rw [h66]; rfl
      go_enter Tryz.func76, Tryz.ntmps76
      go_wp2_with (go_at_call 92; refine (HW.out _).mono ?_; rintro e w' ⟨rfl, rfl⟩)
      go_ret
      exact ⟨by rw [HB.out]; rfl, HS.out, _, _, rfl⟩
    by_cases h67 : ch = 67
    · have HS : Hid ((w.setCell ⟨R, 3, none⟩ (.int .i64 V)).heap[R]? = some (.cells (insV (setI ⟨op, a, b, c, n, s⟩ ch (dat wd))) 77 (0, 0))) := by
        show _ = _; rw [set_blk h, HSI.out, if_neg h65, if_neg h66, if_pos h67]; rfl
      have q : (ch.toNat : Int) = 67 := by rw [h67]; rfl
      go_enter Tryz.func76, Tryz.ntmps76
      go_wp2_with (go_at_call 92; refine (HW.out _).mono ?_; rintro e w' ⟨rfl, rfl⟩)
      go_ret
      exact ⟨by rw [HB.out]; rfl, HS.out, _, _, rfl⟩
    · have HS : Hid ((w.setCell ⟨R, 4, none⟩ (.int .i64 V)).heap[R]? = some (.cells (insV (setI ⟨op, a, b, c, n, s⟩ ch (dat wd))) 77 (0, 0))) := by
        show _ = _; rw [set_blk h, HSI.out, if_neg h65, if_neg h66, if_neg h67]; rfl
      have q1 : ((ch.toNat : Int) == 65) = false := u8ne (k := 65) (u := 65) rfl h65
      have q2 : ((ch.toNat : Int) == 66) = false := u8ne (k := 66) (u := 66) rfl h66
      have q3 : ((ch.toNat : Int) == 67) = false := u8ne (k := 67) (u := 67) rfl h67
      go_enter Tryz.func76, Tryz.ntmps76
      go_wp2_with (go_at_call 92; refine (HW.out _).mono ?_; rintro e w' ⟨rfl, rfl⟩)
      go_ret
      exact ⟨by rw [HB.out]; rfl, HS.out, _, _, rfl⟩

/-- The letters set, one by one, as long as all is well. -/
def setAll (x : I) (ok : Bool) : List UInt8 → List (List UInt8) → I × Bool
  | ch :: us, wd :: ws => if ok then setAll (setI x ch wd) (setB ch wd) us ws else (x, ok)
  | _, _ => (x, ok)
theorem setAll_no (x : I) (us : List UInt8) (ws : List (List UInt8)) : setAll x false us ws = (x, false) := by
  cases us <;> cases ws <;> simp [setAll]
theorem setAll_nil (x : I) (ok : Bool) (ws : List (List UInt8)) : setAll x ok [] ws = (x, ok) := by cases ws <;> rfl
def opI (k : Nat) : I := ⟨(k : Int) + 1, 0, 0, 0, 0, ByteArray.empty⟩
/-- The words of a line as an instruction, from the k-th word on. -/
def insW (ws : List (List UInt8)) : Nat → Nat → I × Bool
  | _, 0 => (zeroI, false)
  | k, m + 1 => if some (word (k + 1)) = ws.head? then setAll (opI k) (decide (ws.length = (uses (k + 1)).length + 1)) (uses (k + 1)) ws.tail else insW ws (k + 1) m
def insP (line : List UInt8) : I × Bool := insW (spl 32 [] line) 0 20
end Go.Proofs.YtfjaphhijefdlaaGreatDoor.Code
