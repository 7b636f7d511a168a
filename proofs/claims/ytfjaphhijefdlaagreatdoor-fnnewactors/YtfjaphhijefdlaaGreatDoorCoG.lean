/-
  The program's slots: whether what is named is right; how it is blanked; the program's InsOk: it answers implOk.
-/
import Derived.Test.YtfjaphhijefdlaaGreatDoorCoF
namespace Go.Proofs.YtfjaphhijefdlaaGreatDoor.Code
open Go.RowKit
open Go.Proofs.YtfjaphhijefdlaaGreatDoor.Atom
set_option linter.unusedVariables false

theorem atom_below (s : ByteArray) (w : World) (hs : s.size ≤ maxLen) :
    Calls Tryz.prog 68 #[.string s] w fun e w' => e = .returned (.bool (atomB s)) ∧ Below w.heap.size w w' :=
  (Atom.impl_any s w hs).mono fun e w' ⟨he, hw⟩ => ⟨he, by
    rcases hw with rfl | ⟨pos, rfl⟩
    · exact Below.refl _ _
    · exact ⟨rfl, rfl, rfl, by simp [World.iter], fun i hi => by
        show (Array.push _ _)[i]? = _
        rw [Array.getElem?_push, if_neg (by omega)]⟩⟩

/-- The number that stands at a slot. -/
def val (x : I) : Nat → Int
  | 1 => x.a | 2 => x.b | 3 => x.c | 4 => x.b | _ => x.n
theorem right_eq (x : I) (N : Int) (k : Nat) (h1 : 1 ≤ k) (h8 : k ≤ 8) : right x N k = Atom.inB (val x k) (lowS k) (highS x.b N k) := by
  have : k = 1 ∨ k = 2 ∨ k = 3 ∨ k = 4 ∨ k = 5 ∨ k = 6 ∨ k = 7 ∨ k = 8 := by omega
  rcases this with rfl | rfl | rfl | rfl | rfl | rfl | rfl | rfl <;> rfl
theorem box_fld {w : World} {B o : Nat} {x : I} (h : Bx6 w B o x) (k : Nat) (h1 : 1 ≤ k) (h8 : k ≤ 8) : w.cell? ⟨B, o + fld k, none⟩ = some (.int .i64 (val x k)) := by
  have : k = 1 ∨ k = 2 ∨ k = 3 ∨ k = 4 ∨ k = 5 ∨ k = 6 ∨ k = 7 ∨ k = 8 := by omega
  rcases this with rfl | rfl | rfl | rfl | rfl | rfl | rfl | rfl
  · exact h.c1
  · exact h.c2
  · exact h.c3
  · exact h.c2
  · exact h.c4
  · exact h.c4
  · exact h.c4
  · exact h.c4
theorem box_new (op a b c n : Int) (s : ByteArray) (w : World) : Bx6 (w.alloc (.cells #[.int .i64 op, .int .i64 a, .int .i64 b, .int .i64 c, .int .i64 n, .string s] 77)) w.heap.size 0 ⟨op, a, b, c, n, s⟩ := by
  constructor <;> rw [World.cell?_alloc_new] <;> rfl

theorem isRight_any (k : Nat) (h1 : 1 ≤ k) (h9 : k ≤ 9) (op a b c n N : Int) (s : ByteArray) (w : World) (hs : s.size ≤ maxLen) :
    Calls Tryz.prog 89 #[.int .i64 (k : Int), .agg #[.int .i64 op, .int .i64 a, .int .i64 b, .int .i64 c, .int .i64 n, .string s], .int .i64 N] w fun e w' => e = .returned (.bool (right ⟨op, a, b, c, n, s⟩ N k)) ∧ Below w.heap.size w w' := by
  have hbn := (Below.refl w.heap.size w).alloc (Nat.le_refl _) (.cells #[.int .i64 op, .int .i64 a, .int .i64 b, .int .i64 c, .int .i64 n, .string s] 77)
  have hbx := box_new op a b c n s w
  by_cases e9 : k = 9
  · subst e9
    have HB : Hid (Below w.heap.size w _) := hbn
    clear hbn hbx
    go_enter Tryz.func89, Tryz.ntmps89
    go_wp2_with (go_at_call 68; refine (atom_below s _ hs).mono ?_; rintro e w1 ⟨rfl, hb1⟩; have HB1 : Hid (Below _ _ _) := hb1; clear hb1)
    go_ret
    exact ⟨rfl, HB.out.trans (HB1.out.mono HB.out.size)⟩
  · have h8 : k ≤ 8 := by omega
    have k9 : ((k : Int) == 9) = false := by simp; omega
    have HB : Hid (Below w.heap.size w (w.alloc (.cells #[.int .i64 op, .int .i64 a, .int .i64 b, .int .i64 c, .int .i64 n, .string s] 77))) := hbn
    have HX : Hid (Bx6 (w.alloc (.cells #[.int .i64 op, .int .i64 a, .int .i64 b, .int .i64 c, .int .i64 n, .string s] 77)) w.heap.size 0 ⟨op, a, b, c, n, s⟩) := hbx
    have HR : Hid (right ⟨op, a, b, c, n, s⟩ N k = Atom.inB (val ⟨op, a, b, c, n, s⟩ k) (lowS k) (highS b N k)) := right_eq _ N k h1 h8
    clear hbn hbx e9
    generalize hv : val ⟨op, a, b, c, n, s⟩ k = v at HR
    generalize hlo : lowS k = lo at HR
    generalize hhi : highS b N k = hi at HR
    have KB : Hid (∀ w, Calls Tryz.prog 98 #[.int .i64 (k : Int), .agg #[.int .i64 op, .int .i64 a, .int .i64 b, .int .i64 c, .int .i64 n, .string s], .int .i64 N] w fun e w' => e = .returned (.tuple #[.int .i64 lo, .int .i64 hi]) ∧ Below w.heap.size w w') := fun w => by
      have := bounds_any k h1 h9 op a b c n N s w
      rw [hlo, hhi] at this; exact this
    have KX : Hid (∀ w1, Below (w.alloc (.cells #[.int .i64 op, .int .i64 a, .int .i64 b, .int .i64 c, .int .i64 n, .string s] 77)).heap.size (w.alloc (.cells #[.int .i64 op, .int .i64 a, .int .i64 b, .int .i64 c, .int .i64 n, .string s] 77)) w1 → w1.cell? ⟨w.heap.size, fld k, none⟩ = some (.int .i64 v)) := fun w1 hb1 => by
      have := box_fld (HX.out.below hb1) k h1 h8
      rw [hv, Nat.zero_add] at this; exact this
    clear hv hlo hhi
    by_cases hle : lo ≤ v
    · have HR2 : Hid (right ⟨op, a, b, c, n, s⟩ N k = decide (v ≤ hi)) := by show _ = _; rw [HR.out]; simp [Atom.inB, hle]
      clear HR
      go_enter Tryz.func89, Tryz.ntmps89
      go_wp2_with (first
        | (go_at_call 98; refine (KB.out _).mono ?_; rintro e w1 ⟨rfl, hb1⟩; have HB1 : Hid (Below _ _ w1) := hb1; have hc := KX.out w1 hb1; clear hb1)
        | (go_at_call 99; refine (number_any k h1 h9 _ _ _).mono ?_; rintro e w2 ⟨rfl, rfl⟩))
      go_ret
      exact ⟨ret_bool HR2.out.symm, HB.out.trans (HB1.out.mono HB.out.size)⟩
    · have HR2 : Hid (right ⟨op, a, b, c, n, s⟩ N k = false) := by show _ = _; rw [HR.out]; simp [Atom.inB, hle]
      clear HR
      go_enter Tryz.func89, Tryz.ntmps89
      go_wp2_with (first
        | (go_at_call 98; refine (KB.out _).mono ?_; rintro e w1 ⟨rfl, hb1⟩; have HB1 : Hid (Below _ _ w1) := hb1; have hc := KX.out w1 hb1; clear hb1)
        | (go_at_call 99; refine (number_any k h1 h9 _ _ _).mono ?_; rintro e w2 ⟨rfl, rfl⟩))
      go_ret
      exact ⟨ret_bool HR2.out.symm, HB.out.trans (HB1.out.mono HB.out.size)⟩
end Go.Proofs.YtfjaphhijefdlaaGreatDoor.Code
