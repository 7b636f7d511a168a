/-
  The walk of the law FnExactParseCode.
-/
import Derived.Test.YtllogpekbdlfiabGreatDoorRqD
namespace Go.Proofs.YtllogpekbdlfiabGreatDoor.Code
open Go.RowKit
open Go.Proofs.YtllogpekbdlfiabGreatDoor.Atom
set_option linter.unusedVariables false

theorem mark_nil (ao : Option Addr) (cap : Nat) (q : Int) (w : World) :
    Calls Tryz.prog 7 #[.slice ao 0 cap, .int .i64 q] w fun e w' => e = .returned (.int .i64 q) ∧ w' = w := by
  go_enter Tryz.func7, Tryz.ntmps7
  go_wp2_with fail
  go_loopw [1, 5] (fun kv iv wr => iv = .int .i64 0 ∧ kv = .int .i64 q ∧ wr = w) (fun kv iv wr => 0)
  case atStart => exact ⟨rfl, rfl, rfl⟩
  case round =>
    obtain ⟨rfl, rfl, rfl⟩ := hrel
    go_wp2_with fail
    go_ret
    exact ⟨rfl, rfl⟩
theorem held_nil (ao : Option Addr) (cap : Nat) (q : Int) (w : World) :
    Calls Tryz.prog 8 #[.slice ao 0 cap, .int .i64 q] w fun e w' => e = .returned (.int .i64 q) ∧ w' = w := by
  go_enter Tryz.func8, Tryz.ntmps8
  go_wp2_with fail
  go_loopw [1, 5] (fun kv iv wr => iv = .int .i64 0 ∧ kv = .int .i64 q ∧ wr = w) (fun kv iv wr => 0)
  case atStart => exact ⟨rfl, rfl, rfl⟩
  case round =>
    obtain ⟨rfl, rfl, rfl⟩ := hrel
    go_wp2_with fail
    go_ret
    exact ⟨rfl, rfl⟩

theorem same_list {o : Option (List I)} {l m : List I} (h : o = some l ∨ o = none ∧ l = []) (h' : o = some m ∨ o = none ∧ m = []) : l = m := by
  rcases h with h | ⟨h, rfl⟩ <;> rcases h' with h' | ⟨h', rfl⟩
  · rw [h] at h'; exact Option.some.inj h'
  · rw [h] at h'; cases h'
  · rw [h] at h'; cases h'
  · rfl
theorem list_len {t : List UInt8} {l : List I} (h : parseP t = some l ∨ parseP t = none ∧ l = []) : l.length ≤ 200 := by
  rcases h with h | ⟨_, rfl⟩
  · have := (parse_back h).2
    unfold codeB at this
    simp only [Bool.and_eq_true] at this
    exact (of_decide_eq_true this.1).2
  · exact Nat.zero_le _
/-- The marks in the row v of n instructions: what lies above or is its own may change. -/
def Mkd (v : Value) (n : Nat) (w : World) : Prop := n = 0 ∨ ∃ g cap, v = .slice (some ⟨g, 0, none⟩) n cap ∧ RowF w g n (mk6 1)
theorem Mkd.below {v : Value} {n : Nat} {w w' : World} (h : Mkd v n w) (hb : Below w.heap.size w w') : Mkd v n w' := by
  rcases h with h | ⟨g, cap, e, h⟩
  · exact .inl h
  · exact .inr ⟨g, cap, e, h.below hb⟩
theorem markRow_any (va : Option Addr) (vc : Nat) (l : List I) (B : Nat) (w : World) (hl : l.length ≤ 200) (hr : IRow w B (.slice va l.length vc) l) (v0 : Value) (B0 : Nat) (h0 : IRow w B0 v0 l) (hlow : ∀ x, v0.ownBlock = some x → x < B) (W : World) (hW : Below W.heap.size W w) (hWB : W.heap.size ≤ B) :
    Calls Tryz.prog 7 #[.slice va l.length vc, .int .i64 1] w fun e w' => e = .returned (.int .i64 ((1 + 6 * l.length : Nat) : Int)) ∧ Mkd (.slice va l.length vc) l.length w' ∧ IRow w' B0 v0 l ∧ Below W.heap.size W w' := by
  by_cases hn : l.length = 0
  · rw [hn]
    refine (mark_nil va vc 1 w).mono ?_
    rintro e w' ⟨rfl, rfl⟩
    exact ⟨rfl, .inl rfl, h0, hW⟩
  · rcases hr.2 with ⟨_, h⟩ | ⟨g, cap, cur, hv, hB, hg, _, _, _, _⟩
    · exact absurd h hn
    · simp only [Value.slice.injEq] at hv
      obtain ⟨rfl, _, rfl⟩ := hv
      have hrows : RowF w g l.length (fun j => l.getD j zeroI) := by
        refine ⟨blk_lt hg, fun i => blk_free hg i, fun j hj => ?_⟩
        rcases hr.row with e | ⟨g', o', e, hc⟩
        · rw [e] at hn; exact absurd rfl hn
        · simp only [Option.some.injEq, Addr.mk.injEq, and_true] at e
          obtain ⟨rfl, rfl⟩ := e
          have := hc j hj
          rw [Nat.zero_add] at this
          rw [List.getD_eq_getElem?_getD, List.getElem?_eq_getElem hj]; exact this
      refine (mark_any g l.length vc 1 _ (by omega) (by omega) (by omega) w hrows).mono ?_
      rintro e w' ⟨rfl, hm, ht⟩
      refine ⟨rfl, .inr ⟨g, vc, rfl, hm⟩, ?_, Turn.below hW hW.size ht (by omega)⟩
      refine World.ownsRow.kept h0 ht.grown ?_
      cases hv : v0.ownBlock with
      | none => exact .inl rfl
      | some x =>
        refine .inr fun e => ?_
        have := hlow x hv
        simp only [Option.some.injEq] at e
        omega
theorem heldRow_any (va : Option Addr) (vc n : Nat) (w : World) (hl : n ≤ 200) (h : Mkd (.slice va n vc) n w) :
    Calls Tryz.prog 8 #[.slice va n vc, .int .i64 1] w fun e w' => e = .returned (.int .i64 ((1 + 6 * n : Nat) : Int)) ∧ Below w.heap.size w w' := by
  rcases h with rfl | ⟨g, cap, hv, h⟩
  · refine (held_nil va vc 1 w).mono ?_
    rintro e w' ⟨rfl, rfl⟩
    exact ⟨rfl, Below.refl _ _⟩
  · simp only [Value.slice.injEq] at hv
    obtain ⟨rfl, _, rfl⟩ := hv
    exact held_any g n vc 1 (by omega) (by omega) (by omega) w h
end Go.Proofs.YtllogpekbdlfiabGreatDoor.Code
