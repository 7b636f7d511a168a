/-
  What the program's Alloc answers.
  An arena in a box of its own.
-/
import Derived.Test.YtmongbpdbcbhlaaAiC
namespace Go.Proofs.Ytmongbpdbcbhlaa
open Go.RowKit
set_option linter.unusedVariables false

theorem implAlloc_any (ao : Option Addr) (N cap : Nat) (f : Nat → Int) (x : Int) (w : World) (hr : Rd w ao N f) (hN : N ≤ 4000) (h0 : 0 < N) (hcap : N ≤ cap) :
    Calls Try.prog 11 #[.agg #[.slice ao N cap], .int .i64 x] w fun e w' => ∃ (g : Nat) (F : Nat → Int) (p code : Int), e = .returned (.tuple #[.agg #[.slice (some ⟨g, 0, none⟩) N N], .int .i64 p, .int .i64 code]) ∧ w.heap.size ≤ g ∧ g < w'.heap.size ∧ Ints w' g 0 N F ∧ AllocR f N x F p code ∧ Below w.heap.size w w' := by
  by_cases hW : Whole f N
  · by_cases hx : 1 ≤ x ∧ x ≤ 4000
    · obtain ⟨y, rfl⟩ : ∃ y : Nat, x = y := ⟨x.toNat, by omega⟩
      exact alloc_whole ao N cap f y w hr hN h0 hcap hW (by omega) (by omega)
    · exact (alloc_form ao N cap f x w hr (by omega) hcap hW hx).mono fun e w' ⟨g, h1, h2, h3, h4, h5⟩ => ⟨g, f, 0, 2, h1, h2, h3, h4, .inr (.inl ⟨rfl, hW, hx, rfl, rfl⟩), h5⟩
  · exact (alloc_broken ao N cap f x w hr (by omega) hcap hW).mono fun e w' ⟨g, h1, h2, h3, h4, h5⟩ => ⟨g, f, 0, 3, h1, h2, h3, h4, .inl ⟨rfl, hW, rfl, rfl⟩, h5⟩
end Go.Proofs.Ytmongbpdbcbhlaa

namespace Go.Proofs.Ytmongbpdbcbhlaa
open Go.RowKit
set_option linter.unusedVariables false

/-- An arena in the box X. -/
structure Bx1 (w wx : World) (X g M : Nat) (G : Nat → Int) : Prop where
  below : Below w.heap.size w wx
  box : wx.cell? ⟨X, 0, none⟩ = some (.slice (some ⟨g, 0, none⟩) M M)
  rd : Rd wx (some ⟨g, 0, none⟩) M G
theorem Bx1.call {w wx wy : World} {X g M : Nat} {G : Nat → Int} (h : Bx1 w wx X g M G) (hb : Below wx.heap.size wx wy) : Bx1 w wy X g M G :=
  ⟨below_join h.below hb, (hb.cell (p := ⟨X, 0, none⟩) (World.block_lt_of_cell? _ _ h.box)).trans h.box, h.rd.below hb⟩
theorem Bx1.base {w wx wy : World} {X g M : Nat} {G : Nat → Int} (h : Bx1 wx wy X g M G) (hb : Below w.heap.size w wx) : Bx1 w wy X g M G := ⟨below_join hb h.below, h.box, h.rd⟩
theorem bx_set {w w4 : World} {X g M cc : Nat} {G : Nat → Int} (hb : Below w.heap.size w w4) (hX : w.heap.size ≤ X) (hc : ∃ v, w4.cell? ⟨X, 0, none⟩ = some v) (hi : Ints w4 g 0 M G) (hg : X ≠ g) (h0 : 0 < M) :
    Below w.heap.size w (w4.setCell ⟨X, 0, none⟩ (.slice (some ⟨g, 0, none⟩) M cc)) ∧ (w4.setCell ⟨X, 0, none⟩ (.slice (some ⟨g, 0, none⟩) M cc)).cell? ⟨X, 0, none⟩ = some (.slice (some ⟨g, 0, none⟩) M cc) ∧ Rd (w4.setCell ⟨X, 0, none⟩ (.slice (some ⟨g, 0, none⟩) M cc)) (some ⟨g, 0, none⟩) M G := by
  obtain ⟨v, hv⟩ := hc
  exact ⟨hb.setCell hX _, World.cell?_setCell_same w4 _ _ hv, (hi.turn ((Turn.refl X _).set 0 _) (fun e => hg e.symm) (hi.lt h0)).rd⟩
theorem bx_new {w w4 : World} {g M cc : Nat} {t : TypeId} {G : Nat → Int} (hb : Below w.heap.size w w4) (hi : Ints w4 g 0 M G) (h0 : 0 < M) :
    Below w.heap.size w (w4.alloc (.cells #[.slice (some ⟨g, 0, none⟩) M cc] t)) ∧ (w4.alloc (.cells #[.slice (some ⟨g, 0, none⟩) M cc] t)).cell? ⟨w4.heap.size, 0, none⟩ = some (.slice (some ⟨g, 0, none⟩) M cc) ∧ Rd (w4.alloc (.cells #[.slice (some ⟨g, 0, none⟩) M cc] t)) (some ⟨g, 0, none⟩) M G :=
  ⟨hb.alloc hb.size _, World.cell?_alloc_new w4 _ _ 0, (hi.below ((Below.refl _ _).alloc (Nat.le_refl _) _) (hi.lt h0)).rd⟩
theorem keepN1 {w7 w8 : World} {v : Value} {t : TypeId} (hb : Below (w7.alloc (.cells #[v] t)).drew.heap.size (w7.alloc (.cells #[v] t)).drew w8) : w8.cell? ⟨w7.heap.size, 0, none⟩ = some v ∧ w8.frozen? ⟨w7.heap.size, 0, none⟩ = false := by
  have hb2 : Below (w7.alloc (.cells #[v] t)).heap.size (w7.alloc (.cells #[v] t)) w8 := ⟨hb.os, hb.tape, hb.output, hb.size, hb.block⟩
  have h1 := World.cell?_alloc_new w7 #[v] t 0
  have h2 := World.frozen?_alloc_new w7 #[v] t 0
  have hl := World.block_lt_of_cell? _ _ h1
  exact ⟨(hb2.cell (p := ⟨w7.heap.size, 0, none⟩) hl).trans h1, (hb2.frozen (p := ⟨w7.heap.size, 0, none⟩) hl).trans h2⟩

theorem ne_of_alloc {w : World} {v : Array Value} {t : TypeId} {g : Nat} (h : (w.alloc (.cells v t)).drew.heap.size ≤ g) : w.heap.size ≠ g := by
  have : (w.alloc (.cells v t)).drew.heap.size = w.heap.size + 1 := World.size_alloc _ _
  omega

end Go.Proofs.Ytmongbpdbcbhlaa
