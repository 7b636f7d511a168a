/-
  What the program's Alloc answers.
-/
import Derived.Test.YtikedjdjfncgkaaAiC
namespace Go.Proofs.Ytikedjdjfncgkaa
open Go.RowKit
set_option linter.unusedVariables false

theorem implAlloc_any (ao : Option Addr) (N cap : Nat) (f : Nat → Int) (x : Int) (w : World) (hr : Rd w ao N f) (hN : N ≤ 4000) (h0 : 0 < N) (hcap : N ≤ cap) :
    Calls Try.prog 11 #[.agg #[.slice ao N cap], .int .i64 x] w fun e w' => ∃ (g : Nat) (F : Nat → Int) (p code : Int), e = .returned (.tuple #[.agg #[.slice (some ⟨g, 0, none⟩) N N], .int .i64 p, .int .i64 code]) ∧ w.heap.size ≤ g ∧ g < w'.heap.size ∧ Ints w' g 0 N F ∧ AllocR f N x F p code ∧ Below w.heap.size w w' := by
  by_cases hW : Whole f N
  · by_cases hx : 1 ≤ x ∧ x ≤ 4000
    · obtain ⟨y, rfl⟩ : ∃ y : Nat, x = y := ⟨x.toNat, by omega⟩
      exact alloc_whole ao N cap f y w hr hN h0 hcap hW (by omega) (by omega)
    · exact (alloc_form ao N cap f x w hr (by omega) hcap hW hx).mono fun e w' ⟨g, h1, h2, h3, h4, h5⟩ => ⟨g, f, 0, 2, h1, h2, h3, h4, .inr (.inl ⟨rfl, hW, hx, rfl, rfl⟩), h5⟩
  · exact (alloc_broken ao N cap f x w hr (by omega) hcap hW).mono fun e w' ⟨g, h1, h2, h3, h4, h5⟩ => ⟨g, f, 0, 3, h1, h2, h3, h4, .inl ⟨rfl, hW, rfl, rfl⟩, h5⟩
end Go.Proofs.Ytikedjdjfncgkaa
