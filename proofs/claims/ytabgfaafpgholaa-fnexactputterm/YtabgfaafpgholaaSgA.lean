/-
  Rows of strings: where one stands first; what both kinds of AtomAt answer; how the laws compare two rows.
-/
import Derived.Test.YtabgfaafpgholaaCurA
import Derived.Test.YtabgfaafpgholaaAtB
import Derived.Deep.OwnRows
namespace Go.Proofs.Ytabgfaafpgholaa
open Go.RowKit
set_option linter.unusedVariables false

/-- The strings L stand in the block b from o on. -/
def Txt (w : World) (b o : Nat) (L : List ByteArray) : Prop := ∀ j (h : j < L.length), w.cell? ⟨b, o + j, none⟩ = some (.string L[j])
theorem Txt.below {w w' : World} {b o : Nat} {L : List ByteArray} (h : Txt w b o L) (hb : Below w.heap.size w w') : Txt w' b o L := fun j hj => by
  rw [hb.cell (p := ⟨b, o + j, none⟩) (World.block_lt_of_cell? w _ (h j hj))]; exact h j hj
theorem Txt.turn {cb : Nat} {w w' : World} {b o : Nat} {L : List ByteArray} (h : Txt w b o L) (t : Turn cb w w') (hn : b ≠ cb) : Txt w' b o L := fun j hj => t.cell hn (h j hj)

/-- Where s stands first among the first n; -1: nowhere. -/
def idx (L : List ByteArray) (s : ByteArray) : Int := match L with
  | [] => -1
  | x :: l => if x = s then 0 else if idx l s = -1 then -1 else idx l s + 1
theorem idx_ge (L : List ByteArray) (s : ByteArray) : -1 ≤ idx L s := by
  induction L with
  | nil => simp [idx]
  | cons x l ih => rw [idx]; repeat (first | omega | split)
theorem idx_none {L : List ByteArray} {s : ByteArray} (h : ∀ j (hj : j < L.length), L[j] ≠ s) : idx L s = -1 := by
  induction L with
  | nil => rfl
  | cons x l ih =>
    have h0 : x ≠ s := h 0 (by simp)
    have hl := ih (fun j hj => h (j + 1) (by simp; omega))
    rw [idx, if_neg h0, if_pos hl]
theorem idx_at {L : List ByteArray} {s : ByteArray} (m : Nat) (hm : m < L.length) (he : L[m] = s) (h : ∀ j (hj : j < m), L[j] ≠ s) : idx L s = m := by
  induction L generalizing m with
  | nil => simp at hm
  | cons x l ih =>
    cases m with
    | zero => rw [idx, if_pos (show x = s from he)]; rfl
    | succ k =>
      have h0 : x ≠ s := h 0 (by omega)
      have hl := ih k (by simpa using hm) (by simpa using he) (fun j hj => h (j + 1) (by omega))
      rw [idx, if_neg h0, hl, if_neg (by omega)]; omega
/-- Either it stands nowhere, or there is a first place. -/
theorem idx_cases (L : List ByteArray) (s : ByteArray) : (idx L s = -1 ∧ ∀ j (hj : j < L.length), L[j] ≠ s) ∨ ∃ m, ∃ hm : m < L.length, idx L s = m ∧ L[m] = s ∧ ∀ j (hj : j < m), L[j] ≠ s := by
  induction L with
  | nil => exact .inl ⟨rfl, fun j hj => absurd hj (by simp)⟩
  | cons x l ih =>
    by_cases h0 : x = s
    · exact .inr ⟨0, by simp, by rw [idx, if_pos h0]; rfl, h0, fun j hj => absurd hj (by omega)⟩
    · rcases ih with ⟨h1, h2⟩ | ⟨m, hm, h1, h2, h3⟩
      · refine .inl ⟨by rw [idx, if_neg h0, if_pos h1], fun j hj => ?_⟩
        cases j with
        | zero => exact h0
        | succ k => exact h2 k (by simpa using hj)
      · refine .inr ⟨m + 1, by simp; omega, by rw [idx, if_neg h0, h1, if_neg (by omega)]; omega, h2, fun j hj => ?_⟩
        cases j with
        | zero => exact h0
        | succ k => exact h3 k (by omega)
theorem idx_lt (L : List ByteArray) (s : ByteArray) : idx L s < L.length ∨ idx L s = -1 := by
  rcases idx_cases L s with ⟨h, _⟩ | ⟨m, hm, h, _⟩
  · exact .inr h
  · exact .inl (by omega)
theorem idx_mem {L : List ByteArray} {s : ByteArray} (h : 0 ≤ idx L s) : s ∈ L := by
  rcases idx_cases L s with ⟨h1, _⟩ | ⟨m, hm, h1, h2, _⟩
  · omega
  · rw [← h2]; exact List.getElem_mem hm


theorem toList_ne {a b : ByteArray} (h : a ≠ b) : (a.toList == b.toList) = false := by
  rw [beq_eq_false_iff_ne]
  intro e
  rw [ByteArray.toList_eq, ByteArray.toList_eq] at e
  apply h
  cases a; cases b
  simpa using e

set_option maxHeartbeats 1000000 in
theorem specAtomAt_any (b o cap : Nat) (L : List ByteArray) (s : ByteArray) (w : World) (hr : Txt w b o L) (hN : L.length ≤ 1048576) :
    Calls Try.prog 91 #[.slice (some ⟨b, o, none⟩) L.length cap, .string s] w fun e w' => e = .returned (.int .i64 (idx L s)) ∧ w' = w := by
  have HR : Hid (Txt w b o L) := hr
  clear hr
  go_enter Try.func91, Try.ntmps91
  go_wp2_with fail
  go_loop [5] (fun i => ∃ m : Nat, m ≤ L.length ∧ i = .int .i64 m ∧ ∀ j (hj : j < m) (h : j < L.length), L[j] ≠ s) (fun i => L.length - (intOf i).toNat)
  case atStart => exact ⟨0, Nat.zero_le _, rfl, fun j hj => absurd hj (by omega)⟩
  case round =>
    obtain ⟨m, hm, rfl, ha⟩ := hrel
    have HA : Hid (∀ j (hj : j < m) (h : j < L.length), L[j] ≠ s) := ha
    clear ha
    by_cases hlt : m < L.length
    · have q := HR.out m hlt
      by_cases he : L[m] = s
      · have HI : Hid (idx L s = m) := idx_at m hlt he (fun j hj => HA.out j hj (by omega))
        rw [he] at q
        clear he
        go_wp2_with fail
        go_ret
        exact ⟨ret_int HI.out.symm, rfl⟩
      · have HE : Hid (L[m] ≠ s) := he
        generalize hx : L[m] = x at *
        have HX : Hid (L[m] = x) := hx
        clear hx
        have hne := toList_ne he
        go_wp2_with fail
        go_round
        case rel =>
          refine ⟨m + 1, by omega, by go_num, fun j hj h => ?_⟩
          by_cases e : j = m
          · subst e; rw [HX.out]; exact HE.out
          · exact HA.out j (by omega) h
        case measure => simp [intOf]; omega
    · have HI : Hid (idx L s = -1) := idx_none (fun j hj => HA.out j (by omega) hj)
      go_wp2_with fail
      go_ret
      exact ⟨ret_int HI.out.symm, rfl⟩

set_option maxHeartbeats 1000000 in
theorem index_any (b o cap : Nat) (L : List ByteArray) (s : ByteArray) (w : World) (hr : Txt w b o L) (hN : L.length ≤ 1048576) :
    Calls Try.prog 105 #[.slice (some ⟨b, o, none⟩) L.length cap, .string s] w fun e w' => e = .returned (.int .i64 (idx L s)) ∧ w' = w := by
  have HR : Hid (Txt w b o L) := hr
  clear hr
  go_enter Try.func105, Try.ntmps105
  go_wp2_with fail
  go_loop [8] (fun i => ∃ m : Nat, m ≤ L.length ∧ i = .int .i64 m ∧ ∀ j (hj : j < m) (h : j < L.length), L[j] ≠ s) (fun i => L.length - (intOf i).toNat)
  case atStart => exact ⟨0, Nat.zero_le _, rfl, fun j hj => absurd hj (by omega)⟩
  case round =>
    obtain ⟨m, hm, rfl, ha⟩ := hrel
    have HA : Hid (∀ j (hj : j < m) (h : j < L.length), L[j] ≠ s) := ha
    clear ha
    by_cases hlt : m < L.length
    · have q := HR.out m hlt
      by_cases he : L[m] = s
      · have HI : Hid (idx L s = m) := idx_at m hlt he (fun j hj => HA.out j hj (by omega))
        rw [he] at q
        clear he
        go_wp2_with fail
        go_ret
        exact ⟨ret_int HI.out.symm, rfl⟩
      · have HE : Hid (L[m] ≠ s) := he
        generalize hx : L[m] = x at *
        have HX : Hid (L[m] = x) := hx
        clear hx
        have hne := toList_ne (fun e : s = x => he e.symm)
        go_wp2_with fail
        go_round
        case rel =>
          refine ⟨m + 1, by omega, by go_num, fun j hj h => ?_⟩
          by_cases e : j = m
          · subst e; rw [HX.out]; exact HE.out
          · exact HA.out j (by omega) h
        case measure => simp [intOf]; omega
    · have HI : Hid (idx L s = -1) := idx_none (fun j hj => HA.out j (by omega) hj)
      go_wp2_with fail
      go_ret
      exact ⟨ret_int HI.out.symm, rfl⟩

theorem implAtomAt_any (b o cap : Nat) (L : List ByteArray) (s : ByteArray) (w : World) (hr : Txt w b o L) (hN : L.length ≤ 1048576) :
    Calls Try.prog 77 #[.slice (some ⟨b, o, none⟩) L.length cap, .string s] w fun e w' => e = .returned (.int .i64 (idx L s)) ∧ w' = w := by
  have HR : Hid (Txt w b o L) := hr
  clear hr
  go_enter Try.func77, Try.ntmps77
  go_wp2_with fail
  refine (index_any b o cap L s _ HR.out hN).mono ?_
  rintro e w' ⟨rfl, rfl⟩
  go_wp2_with fail
  go_ret
  exact ⟨rfl, rfl⟩
end Go.Proofs.Ytabgfaafpgholaa
