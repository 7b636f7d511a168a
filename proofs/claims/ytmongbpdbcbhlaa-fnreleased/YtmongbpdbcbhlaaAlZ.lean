/-
  What the specification's Alloc answers of an arena without a word.
-/
import Derived.Test.YtmongbpdbcbhlaaHoB
import Derived.Test.YtmongbpdbcbhlaaAlB
namespace Go.Proofs.Ytmongbpdbcbhlaa
open Go.RowKit
set_option linter.unusedVariables false

theorem aud_zero (f : Nat → Int) : aud f 0 0 false = -1 := aud_seg (L := []) rfl rfl
theorem bk_zero (f : Nat → Int) : bk f 0 0 = [] := bk_end f 0

structure AlO (w wr : World) (b o cap g B2 : Nat) : Prop where
  below : Below w.heap.size w wr
  box : wr.cell? ⟨w.heap.size, 0, none⟩ = some (.slice (some ⟨b, o, none⟩) 0 cap)
  res : wr.cell? ⟨w.heap.size + 1, 0, none⟩ = some (.slice none 0 0)
  resf : wr.frozen? ⟨w.heap.size + 1, 0, none⟩ = false
  outb : wr.cell? ⟨B2, 0, none⟩ = some (.slice (some ⟨g, 0, none⟩) 0 0)
theorem AlO.call {w wr w1 : World} {b o cap g B2 : Nat} (s : AlO w wr b o cap g B2) (hb : Below wr.heap.size wr w1) : AlO w w1 b o cap g B2 :=
  ⟨below_join s.below hb, (hb.cell (p := ⟨w.heap.size, 0, none⟩) (World.block_lt_of_cell? _ _ s.box)).trans s.box, (hb.cell (p := ⟨w.heap.size + 1, 0, none⟩) (World.block_lt_of_cell? _ _ s.res)).trans s.res,
    (hb.frozen (p := ⟨w.heap.size + 1, 0, none⟩) (World.block_lt_of_cell? _ _ s.res)).trans s.resf, (hb.cell (p := ⟨B2, 0, none⟩) (World.block_lt_of_cell? _ _ s.outb)).trans s.outb⟩
theorem AlO.start (w w1 : World) (b o cap g : Nat)
    (hb : Below ((w.alloc (.cells #[.slice (some ⟨b, o, none⟩) 0 cap] 26)).alloc (.cells #[.slice none 0 0] 26)).heap.size ((w.alloc (.cells #[.slice (some ⟨b, o, none⟩) 0 cap] 26)).alloc (.cells #[.slice none 0 0] 26)) w1) :
    AlO w (w1.alloc (.cells #[.slice (some ⟨g, 0, none⟩) 0 0] 26)) b o cap g w1.heap.size := by
  have hbA : Below w.heap.size w ((w.alloc (.cells #[.slice (some ⟨b, o, none⟩) 0 cap] 26)).alloc (.cells #[.slice none 0 0] 26)) := ((Below.refl _ w).alloc (Nat.le_refl _) _).alloc (by simp) _
  have q0 : ((w.alloc (.cells #[.slice (some ⟨b, o, none⟩) 0 cap] 26)).alloc (.cells #[.slice none 0 0] 26)).cell? ⟨w.heap.size, 0, none⟩ = some (.slice (some ⟨b, o, none⟩) 0 cap) := by
    have h0 := World.cell?_alloc_new w #[.slice (some ⟨b, o, none⟩) 0 cap] 26 0
    exact (((Below.refl _ (w.alloc (.cells #[.slice (some ⟨b, o, none⟩) 0 cap] 26))).alloc (Nat.le_refl _) (.cells #[.slice none 0 0] 26)).cell (p := ⟨w.heap.size, 0, none⟩) (World.block_lt_of_cell? _ _ h0)).trans h0
  have q1 : ((w.alloc (.cells #[.slice (some ⟨b, o, none⟩) 0 cap] 26)).alloc (.cells #[.slice none 0 0] 26)).cell? ⟨w.heap.size + 1, 0, none⟩ = some (.slice none 0 0) := by
    have a1 := World.cell?_alloc_new (w.alloc (.cells #[.slice (some ⟨b, o, none⟩) 0 cap] 26)) #[.slice none 0 0] 26 0
    rw [World.size_alloc] at a1
    exact a1
  have q2 : ((w.alloc (.cells #[.slice (some ⟨b, o, none⟩) 0 cap] 26)).alloc (.cells #[.slice none 0 0] 26)).frozen? ⟨w.heap.size + 1, 0, none⟩ = false := by
    have a2 := World.frozen?_alloc_new (w.alloc (.cells #[.slice (some ⟨b, o, none⟩) 0 cap] 26)) #[.slice none 0 0] 26 0
    rw [World.size_alloc] at a2
    exact a2
  have hb2 := below_join hb ((Below.refl w1.heap.size w1).alloc (Nat.le_refl _) (.cells #[.slice (some ⟨g, 0, none⟩) 0 0] 26))
  exact ⟨below_join hbA hb2, (hb2.cell (p := ⟨w.heap.size, 0, none⟩) (World.block_lt_of_cell? _ _ q0)).trans q0, (hb2.cell (p := ⟨w.heap.size + 1, 0, none⟩) (World.block_lt_of_cell? _ _ q1)).trans q1, (hb2.frozen (p := ⟨w.heap.size + 1, 0, none⟩) (World.block_lt_of_cell? _ _ q1)).trans q2, World.cell?_alloc_new w1 _ _ 0⟩

def zeroC (x : Int) : Int := if inB x 1 4000 then 1 else 2
set_option maxHeartbeats 1000000 in
set_option maxRecDepth 100000 in
theorem specAlloc_zero (b o cap : Nat) (f : Nat → Int) (x : Int) (w : World) :
    Calls Try.prog 44 #[.agg #[.slice (some ⟨b, o, none⟩) 0 cap], .int .i64 x] w fun e w' => ∃ g : Nat, e = .returned (.tuple #[.agg #[.slice (some ⟨g, 0, none⟩) 0 0], .int .i64 0, .int .i64 (zeroC x)]) ∧ Below w.heap.size w w' := by
  have HZC : Hid (zeroC x = if inB x 1 4000 then 1 else 2) := by show _ = _; rfl
  go_enter Try.func44, Try.ntmps44
  go_wp2_with fail
  refine (copy_none b o cap _).mono ?_
  rintro e w1 ⟨g, rfl, hb1⟩
  have hs := AlO.start w w1 b o cap g hb1
  have HS : Hid (AlO w (w1.alloc (.cells #[.slice (some ⟨g, 0, none⟩) 0 0] 26)) b o cap g w1.heap.size) := hs
  have b0 := hs.box
  clear hs hb1
  go_wp2_with fail
  have hs := HS.out
  clear HS b0
  generalize (w1.alloc (.cells #[.slice (some ⟨g, 0, none⟩) 0 0] 26)) = w2 at hs ⊢
  generalize w1.heap.size = B2 at hs ⊢
  refine (specAudit_any (some ⟨b, o, none⟩) 0 cap f _ (Rd.nil _ _ _) (by omega)).mono ?_
  rintro e w3 ⟨rfl, hb3⟩
  rw [aud_zero]
  have HS3 : Hid (AlO w w3 b o cap g B2) := hs.call hb3
  clear hs hb3
  cases hin : inB x 1 4000 with
  | false =>
    have HC : Hid (zeroC x = 2) := by show _ = _; rw [HZC.out, hin]; rfl
    have q1 := HS3.out.res
    have f1 := HS3.out.resf
    have q2 := HS3.out.outb
    go_wp2_with (go_at_call 55; refine (in_any _ _ _ _).mono ?_; rintro e w' ⟨rfl, rfl⟩)
    refine bodyPost_ret (v := .tuple #[.agg #[.slice (some ⟨g, 0, none⟩) 0 0], .int .i64 0, .int .i64 2]) (by simp [results, Try.results44, go_sem, q1]) rfl ⟨g, ?_, HS3.out.below.setCell (p := ⟨w.heap.size + 1, 0, none⟩) (by show w.heap.size ≤ w.heap.size + 1; omega) _⟩
    rw [HC.out]
  | true =>
    have HC : Hid (zeroC x = 1) := by show _ = _; rw [HZC.out, hin]; rfl
    have b0 := HS3.out.box
    go_wp2_with (go_at_call 55; refine (in_any _ _ _ _).mono ?_; rintro e w' ⟨rfl, rfl⟩)
    clear hin
    refine (specBlocks_any (some ⟨b, o, none⟩) 0 cap f _ (Rd.nil _ _ _) (by omega)).mono ?_
    rintro e w4 ⟨v, rfl, hpl, hb4⟩
    obtain ⟨la, lc, rfl, hl1, hl2, hl3, hrl⟩ := hpl.slice
    have hL : (bls f 0 0).length = 0 := by rw [bk_len, bk_zero]; rfl
    rw [hL]
    have HS4 : Hid (AlO w w4 b o cap g B2) := HS3.out.call hb4
    clear hpl hb4 hl1 hl2 hl3 hrl hL HS3 b0
    go_wp2_with fail
    go_loop [9] (fun i => i = .int .i64 0) (fun _ => 0)
    case atStart => rfl
    case round =>
      have hi : _ = _ := hrel
      subst hi
      have q1 := HS4.out.res
      have f1 := HS4.out.resf
      have q2 := HS4.out.outb
      go_wp2_with fail
      refine bodyPost_ret (v := .tuple #[.agg #[.slice (some ⟨g, 0, none⟩) 0 0], .int .i64 0, .int .i64 1]) (by simp [results, Try.results44, go_sem, q1]) rfl ⟨⟨g, ?_⟩, HS4.out.below.setCell (p := ⟨w.heap.size + 1, 0, none⟩) (by show w.heap.size ≤ w.heap.size + 1; omega) _⟩
      rw [HC.out]
end Go.Proofs.Ytmongbpdbcbhlaa
