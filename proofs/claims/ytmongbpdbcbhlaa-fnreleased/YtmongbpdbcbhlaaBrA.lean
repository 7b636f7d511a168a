/-
  What the program's Release answers of an arena that is not whole; what the laws' at answers.
-/
import Derived.Test.YtmongbpdbcbhlaaAiA
import Derived.Test.YtmongbpdbcbhlaaDaA
namespace Go.Proofs.Ytmongbpdbcbhlaa
open Go.RowKit
set_option linter.unusedVariables false

set_option maxRecDepth 100000 in
set_option maxHeartbeats 2000000 in
theorem release_broken (ao : Option Addr) (N cap : Nat) (f : Nat → Int) (x : Int) (w : World) (hr : Rd w ao N f) (hN : N ≤ 1048576) (hcap : N ≤ cap) (hW : ¬ Whole f N) :
    Calls Try.prog 8 #[.agg #[.slice ao N cap], .int .i64 x] w fun e w' => ∃ g, e = .returned (.tuple #[.agg #[.slice (some ⟨g, 0, none⟩) N N], .int .i64 3]) ∧ w.heap.size ≤ g ∧ g < w'.heap.size ∧ Ints w' g 0 N f ∧ Below w.heap.size w w' := by
  have HR : Hid (Rd w ao N f) := hr
  have HW : Hid (¬ Whole f N) := hW
  clear hr hW
  go_enter Try.func8, Try.ntmps8
  go_wp2_with fail
  have hB : Below w.heap.size w ((w.alloc (.cells #[.slice ao N cap] 26)).alloc (.cells #[.slice none 0 0] 26)) := ((Below.refl _ w).alloc (Nat.le_refl _) _).alloc (by simp) _
  have q0 := (Boxed.new w 26 (.slice ao N cap)).alloc (.cells #[.slice none 0 0] 26)
  have q1 := Boxed.new (w.alloc (.cells #[.slice ao N cap] 26)) 26 (.slice none 0 0)
  rw [World.size_alloc] at q1
  have hz : ((w.alloc (.cells #[.slice ao N cap] 26)).alloc (.cells #[.slice none 0 0] 26)).heap.size = w.heap.size + 2 := by simp
  refine (own_any ao N cap f _ (HR.out.below hB) hN).mono ?_
  rintro e w1 ⟨g, rfl, hg, hl, hi, hb⟩
  have hbn := (Below.refl w1.heap.size w1).alloc (Nat.le_refl _) (.cells #[.slice (some ⟨g, 0, none⟩) N N] 26)
  have hb2 := below_join hb hbn
  have c0 := (boxed_below q0 hb2).cell
  have HS : Hid (Below w.heap.size w (w1.alloc (.cells #[.slice (some ⟨g, 0, none⟩) N N] 26)) ∧ Boxed (w1.alloc (.cells #[.slice (some ⟨g, 0, none⟩) N N] 26)) (w.heap.size + 1) 26 (.slice none 0 0) ∧ Boxed (w1.alloc (.cells #[.slice (some ⟨g, 0, none⟩) N N] 26)) w1.heap.size 26 (.slice (some ⟨g, 0, none⟩) N N) ∧ Ints (w1.alloc (.cells #[.slice (some ⟨g, 0, none⟩) N N] 26)) g 0 N f ∧ g < w1.heap.size ∧ w.heap.size + 2 ≤ g) :=
    ⟨below_join hB hb2, boxed_below q1 hb2, Boxed.new w1 _ _, hi.below hbn hl, hl, by omega⟩
  clear hB q0 q1 hz hg hl hi hb hbn hb2
  go_wp2_with fail
  clear c0
  have hs := HS.out
  clear HS
  generalize (w1.alloc (.cells #[.slice (some ⟨g, 0, none⟩) N N] 26)) = w2 at hs ⊢
  generalize w1.heap.size = Bo at hs ⊢
  obtain ⟨k1, k2, k3, k4, k5, k6⟩ := hs
  refine (implAudit_any ao N cap f w2 (HR.out.below k1) hN hcap).mono ?_
  rintro e w3 ⟨rfl, hb3⟩
  have hy : (aud f N 0 false == -1) = false := by simpa [Whole] using HW.out
  have b2 := boxed_below k2 hb3
  have b3 := boxed_below k3 hb3
  have HI3 : Hid (Ints w3 g 0 N f ∧ Below w.heap.size w w3 ∧ g < w3.heap.size) := ⟨k4.below hb3 (by have := k3.lt; omega), below_join k1 hb3, by have := b3.lt; omega⟩
  have c2 := b2.cell
  have f2 := b2.frozen
  have c3 := b3.cell
  clear hb3 k1 k2 k3 k4 b2 b3
  generalize aud f N 0 false = y at *
  go_wp2_with fail
  obtain ⟨i3, i4, i5⟩ := HI3.out
  refine bodyPost_ret (v := .tuple #[.agg #[.slice (some ⟨g, 0, none⟩) N N], .int .i64 3]) (by simp [results, Try.results8, go_sem, c2]) rfl ⟨g, rfl, by omega, by rw [World.size_setCell]; exact i5, i3.turn ((Turn.refl (w.heap.size + 1) _).set 0 _) (by omega) i5, i4.setCell (p := ⟨w.heap.size + 1, 0, none⟩) (by show _ ≤ w.heap.size + 1; omega) _⟩

/-- What at answers. -/
def atV (zs : List Int) (len i : Nat) : Int := if i < len then zs.getD i 0 else ((i * 31 + len * 7 : Nat) : Int) % 256
theorem atV_rng {w : World} {ao : Option Addr} {len cap : Nat} {zs : List Int} (h : IsRow w ao len cap zs) (i : Nat) : 0 ≤ atV zs len i ∧ atV zs len i ≤ 255 := by
  unfold atV
  split
  · exact h.rng i
  · omega
theorem at_any (w : World) (ao : Option Addr) (len cap : Nat) (zs : List Int) (hr : IsRow w ao len cap zs) (hsm : len ≤ 1048576) (i : Nat) (hi : i ≤ 100) :
    Calls Try.prog 12 #[.slice ao len cap, .int .i64 i] w fun e w' => e = .returned (.int .i64 (atV zs len i)) ∧ w' = w := by
  have HV := atV_rng hr i
  by_cases h : i < len
  · obtain ⟨b, o, rfl, hc⟩ := hr.at (by omega)
    have ci := hc i h
    have e : atV zs len i = zs.getD i 0 := by unfold atV; rw [if_pos h]
    have HE : Hid (atV zs len i = zs.getD i 0) := e
    rw [e] at HV
    clear hc e
    generalize zs.getD i 0 = y at *
    go_enter Try.func12, Try.ntmps12
    go_wp2_with fail
    go_ret
    exact ⟨ret_int (by rw [HE.out]), rfl⟩
  · have e : atV zs len i = ((i * 31 + len * 7 : Nat) : Int) % 256 := by unfold atV; rw [if_neg h]
    have HE : Hid (atV zs len i = ((i * 31 + len * 7 : Nat) : Int) % 256) := e
    clear e hr HV
    go_enter Try.func12, Try.ntmps12
    go_wp2_with fail
    go_ret
    exact ⟨ret_int (by rw [HE.out]; push_cast; rfl), rfl⟩
end Go.Proofs.Ytmongbpdbcbhlaa
