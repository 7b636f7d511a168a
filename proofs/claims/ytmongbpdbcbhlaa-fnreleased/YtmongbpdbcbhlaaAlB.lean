/-
  What the specification's Alloc answers: an arena of its own, in which the first free block that has so many words is given.
-/
import Derived.Test.YtmongbpdbcbhlaaAlA
import Derived.Test.YtmongbpdbcbhlaaTiB
namespace Go.Proofs.Ytmongbpdbcbhlaa
open Go.RowKit
set_option linter.unusedVariables false

/-- What Alloc and Release have in hand: the arena at b, in its box; the box of the result; the copy g in the box B2. -/
structure AlS (w wr : World) (b o N cap : Nat) (f : Nat → Int) (g cc B2 : Nat) (F : Nat → Int) : Prop where
  below : Below w.heap.size w wr
  box : wr.cell? ⟨w.heap.size, 0, none⟩ = some (.slice (some ⟨b, o, none⟩) N cap)
  res : wr.cell? ⟨w.heap.size + 1, 0, none⟩ = some (.slice none 0 0)
  resf : wr.frozen? ⟨w.heap.size + 1, 0, none⟩ = false
  outb : wr.cell? ⟨B2, 0, none⟩ = some (.slice (some ⟨g, 0, none⟩) N cc)
  cells : ∀ j, j < N → wr.cell? ⟨b, o + j, none⟩ = some (.int .i64 (f j))
  ints : Ints wr g 0 N F
  l1 : w.heap.size + 2 ≤ g
  l2 : g < B2
  l3 : B2 < wr.heap.size
  hb : b < w.heap.size
  hcc : N ≤ cc

/-- What is handed out. -/
structure AlR (w w' : World) (N g cc : Nat) (F : Nat → Int) : Prop where
  below : Below w.heap.size w w'
  ints : Ints w' g 0 N F
  old : w.heap.size ≤ g
  hcc : N ≤ cc

theorem AlS.call {w wr w1 : World} {b o N cap : Nat} {f : Nat → Int} {g cc B2 : Nat} {F : Nat → Int} (s : AlS w wr b o N cap f g cc B2 F) (hb : Below wr.heap.size wr w1) : AlS w w1 b o N cap f g cc B2 F := by
  have a1 := s.l1
  have a2 := s.l2
  have a3 := s.l3
  have a4 := s.hb
  exact ⟨below_join s.below hb, (hb.cell (p := ⟨w.heap.size, 0, none⟩) (by show w.heap.size < _; omega)).trans s.box, (hb.cell (p := ⟨w.heap.size + 1, 0, none⟩) (by show w.heap.size + 1 < _; omega)).trans s.res,
    (hb.frozen (p := ⟨w.heap.size + 1, 0, none⟩) (by show w.heap.size + 1 < _; omega)).trans s.resf, (hb.cell (p := ⟨B2, 0, none⟩) a3).trans s.outb, fun j hj => (hb.cell (p := ⟨b, o + j, none⟩) (by show b < _; omega)).trans (s.cells j hj), s.ints.below hb (by omega), a1, a2, Nat.lt_of_lt_of_le a3 hb.size, a4, s.hcc⟩
theorem AlS.lay {w wr w1 : World} {b o N cap : Nat} {f : Nat → Int} {g cc B2 : Nat} {F : Nat → Int} (s : AlS w wr b o N cap f g cc B2 F) (ht : Turn g wr w1) {G : Nat → Int} (hi : Ints w1 g 0 N G) : AlS w w1 b o N cap f g cc B2 G := by
  have a1 := s.l1
  have a2 := s.l2
  have a3 := s.l3
  have a4 := s.hb
  exact ⟨Turn.below s.below s.below.size ht (by omega), ht.cell (by omega) s.box, ht.cell (by omega) s.res, (ht.frozen (b := w.heap.size + 1) (o := 0) (by omega) (by omega)).trans s.resf, ht.cell (by omega) s.outb, fun j hj => ht.cell (by omega) (s.cells j hj), hi, a1, a2, Nat.lt_of_lt_of_le a3 ht.size, a4, s.hcc⟩
theorem AlS.fin {w wr : World} {b o N cap : Nat} {f : Nat → Int} {g cc B2 : Nat} {F : Nat → Int} (s : AlS w wr b o N cap f g cc B2 F) (v : Value) : AlR w (wr.setCell ⟨w.heap.size + 1, 0, none⟩ v) N g cc F := by
  have a1 := s.l1
  have a2 := s.l2
  have a3 := s.l3
  exact ⟨s.below.setCell (by show w.heap.size ≤ w.heap.size + 1; omega) _, s.ints.turn ((Turn.refl (w.heap.size + 1) _).set 0 _) (by omega) (by omega), by omega, s.hcc⟩
theorem AlS.rd {w wr : World} {b o N cap : Nat} {f : Nat → Int} {g cc B2 : Nat} {F : Nat → Int} (s : AlS w wr b o N cap f g cc B2 F) : Rd wr (some ⟨b, o, none⟩) N f := fun _ => ⟨b, o, rfl, s.cells⟩
/-- A list that is read only stays where a block of the call's own turns. -/
theorem Rd.turn {cb : Nat} {w w' : World} {ao : Option Addr} {N : Nat} {f : Nat → Int} (h : Rd w ao N f) (t : Turn cb w w') (hn : N ≠ 0 → ∀ a, ao = some a → a.block ≠ cb) : Rd w' ao N f := fun h0 => by
  obtain ⟨b, o, e, hc⟩ := h h0
  exact ⟨b, o, e, fun j hj => t.cell (hn h0 _ e) (hc j hj)⟩

/-- The start: behind the copy. -/
theorem AlS.start {w w1 : World} {b o N cap : Nat} {f : Nat → Int} {g cc : Nat} (hc : ∀ j, j < N → w.cell? ⟨b, o + j, none⟩ = some (.int .i64 (f j))) (hN : 1 ≤ N)
    (hb : Below ((w.alloc (.cells #[.slice (some ⟨b, o, none⟩) N cap] 26)).alloc (.cells #[.slice none 0 0] 26)).heap.size ((w.alloc (.cells #[.slice (some ⟨b, o, none⟩) N cap] 26)).alloc (.cells #[.slice none 0 0] 26)) w1)
    (hg : ((w.alloc (.cells #[.slice (some ⟨b, o, none⟩) N cap] 26)).alloc (.cells #[.slice none 0 0] 26)).heap.size + 2 ≤ g) (hi : Ints w1 g 0 N f) (hcc : N ≤ cc) :
    AlS w (w1.alloc (.cells #[.slice (some ⟨g, 0, none⟩) N cc] 26)) b o N cap f g cc w1.heap.size f := by
  have hz : ((w.alloc (.cells #[.slice (some ⟨b, o, none⟩) N cap] 26)).alloc (.cells #[.slice none 0 0] 26)).heap.size = w.heap.size + 2 := by simp
  have hB2 := ((Below.refl w.heap.size w).alloc (Nat.le_refl _) (.cells #[.slice (some ⟨b, o, none⟩) N cap] 26)).alloc (by simp) (.cells #[.slice none 0 0] 26)
  have hbw : b < w.heap.size := World.block_lt_of_cell? w _ (hc 0 hN)
  have q0 : ((w.alloc (.cells #[.slice (some ⟨b, o, none⟩) N cap] 26)).alloc (.cells #[.slice none 0 0] 26)).cell? ⟨w.heap.size, 0, none⟩ = some (.slice (some ⟨b, o, none⟩) N cap) := by
    rw [World.cell?_alloc_lt (h := by show w.heap.size < _; simp)]; exact World.cell?_alloc_new w _ _ 0
  have q1 : ((w.alloc (.cells #[.slice (some ⟨b, o, none⟩) N cap] 26)).alloc (.cells #[.slice none 0 0] 26)).cell? ⟨w.heap.size + 1, 0, none⟩ = some (.slice none 0 0) := by
    have := World.cell?_alloc_new (w.alloc (.cells #[.slice (some ⟨b, o, none⟩) N cap] 26)) #[.slice none 0 0] 26 0
    rw [World.size_alloc] at this
    exact this
  have f1 : ((w.alloc (.cells #[.slice (some ⟨b, o, none⟩) N cap] 26)).alloc (.cells #[.slice none 0 0] 26)).frozen? ⟨w.heap.size + 1, 0, none⟩ = false := by
    have := World.frozen?_alloc_new (w.alloc (.cells #[.slice (some ⟨b, o, none⟩) N cap] 26)) #[.slice none 0 0] 26 0
    rw [World.size_alloc] at this
    exact this
  generalize ((w.alloc (.cells #[.slice (some ⟨b, o, none⟩) N cap] 26)).alloc (.cells #[.slice none 0 0] 26)) = W at *
  have hgl := hi.lt (by omega)
  have hs := hb.size
  have hbn := (Below.refl w1.heap.size w1).alloc (Nat.le_refl _) (.cells #[.slice (some ⟨g, 0, none⟩) N cc] 26)
  have hbW : Below W.heap.size W (w1.alloc (.cells #[.slice (some ⟨g, 0, none⟩) N cc] 26)) := hb.trans (hbn.mono hs)
  exact ⟨below_join hB2 hbW, (hbW.cell (p := ⟨w.heap.size, 0, none⟩) (by show w.heap.size < _; omega)).trans q0, (hbW.cell (p := ⟨w.heap.size + 1, 0, none⟩) (by show w.heap.size + 1 < _; omega)).trans q1,
    (hbW.frozen (p := ⟨w.heap.size + 1, 0, none⟩) (by show w.heap.size + 1 < _; omega)).trans f1, World.cell?_alloc_new w1 _ _ 0, fun j hj => ((below_join hB2 hbW).cell (p := ⟨b, o + j, none⟩) hbw).trans (hc j hj), hi.below hbn hgl, by omega, hgl, by rw [World.size_alloc]; omega, hbw, hcc⟩

set_option maxHeartbeats 4000000 in
set_option maxRecDepth 100000 in
theorem specAlloc_any (b o N cap : Nat) (f : Nat → Int) (x : Int) (w : World) (hc : ∀ j, j < N → w.cell? ⟨b, o + j, none⟩ = some (.int .i64 (f j))) (h1 : 1 ≤ N) (hN : N ≤ 4000) :
    Calls Try.prog 44 #[.agg #[.slice (some ⟨b, o, none⟩) N cap], .int .i64 x] w fun e w' => ∃ (g cc : Nat) (p code : Int) (F : Nat → Int), e = .returned (.tuple #[.agg #[.slice (some ⟨g, 0, none⟩) N cc], .int .i64 p, .int .i64 code]) ∧ AlR w w' N g cc F ∧ AllocR f N x F p code := by
  have HC : Hid (∀ j, j < N → w.cell? ⟨b, o + j, none⟩ = some (.int .i64 (f j))) := hc
  clear hc
  go_enter Try.func44, Try.ntmps44
  go_wp2_with fail
  have hB2 := ((Below.refl w.heap.size w).alloc (Nat.le_refl _) (.cells #[.slice (some ⟨b, o, none⟩) N cap] 26)).alloc (by simp) (.cells #[.slice none 0 0] 26)
  have hbw : b < w.heap.size := World.block_lt_of_cell? w _ (HC.out 0 h1)
  refine (copy_any b o N cap f _ (fun j hj => (hB2.cell (p := ⟨b, o + j, none⟩) hbw).trans (HC.out j hj)) h1 hN).mono ?_
  rintro e w1 ⟨g, cc, rfl, hg, hb1, hi1, hcc⟩
  have hs := AlS.start (cap := cap) HC.out h1 hb1 hg hi1 hcc
  have HS : Hid (AlS w (w1.alloc (.cells #[.slice (some ⟨g, 0, none⟩) N cc] 26)) b o N cap f g cc w1.heap.size f) := hs
  have b0 := hs.box
  clear hs hB2 hbw hg hb1 hi1 hcc
  go_wp2_with fail
  have hs := HS.out
  clear HS b0
  generalize (w1.alloc (.cells #[.slice (some ⟨g, 0, none⟩) N cc] 26)) = w2 at hs ⊢
  generalize w1.heap.size = B2 at hs ⊢
  refine (specAudit_any (some ⟨b, o, none⟩) N cap f _ hs.rd (by omega)).mono ?_
  rintro e w3 ⟨rfl, hb3⟩
  have HS3 : Hid (AlS w w3 b o N cap f g cc B2 f) := hs.call hb3
  clear hs hb3
  obtain ⟨y, hya⟩ : ∃ y, aud f N 0 false = y := ⟨_, rfl⟩
  have HY : Hid (aud f N 0 false = y) := hya
  rw [hya]
  clear hya
  by_cases hy : y = -1
  · subst hy
    cases hin : inB x 1 4000 with
    | false =>
      have q1 := HS3.out.res
      have f1 := HS3.out.resf
      have q2 := HS3.out.outb
      go_wp2_with (go_at_call 55; refine (in_any _ _ _ _).mono ?_; rintro e w' ⟨rfl, rfl⟩)
      exact bodyPost_ret (v := .tuple #[.agg #[.slice (some ⟨g, 0, none⟩) N cc], .int .i64 0, .int .i64 2]) (by simp [results, Try.results44, go_sem, q1]) rfl ⟨g, cc, 0, 2, f, rfl, HS3.out.fin _, .inr (.inl ⟨rfl, HY.out, (by simpa [inB] using hin), rfl, rfl⟩)⟩
    | true =>
      obtain ⟨hx1, hx2⟩ : 1 ≤ x ∧ x ≤ 4000 := by simpa [inB] using hin
      obtain ⟨n, rfl⟩ : ∃ n : Nat, x = n := ⟨x.toNat, by omega⟩
      have hn1 : 1 ≤ n := by omega
      have hn2 : n ≤ 4000 := by omega
      have HX : Hid (1 ≤ (n : Int) ∧ (n : Int) ≤ 4000) := ⟨hx1, hx2⟩
      clear hx1 hx2
      have b0 := HS3.out.box
      go_wp2_with (go_at_call 55; refine (in_any _ _ _ _).mono ?_; rintro e w' ⟨rfl, rfl⟩)
      clear hin
      refine (specBlocks_any (some ⟨b, o, none⟩) N cap f _ HS3.out.rd (by omega)).mono ?_
      rintro e w4 ⟨v, rfl, hpl, hb4⟩
      obtain ⟨la, lc, rfl, hl1, hl2, hl3, hrl⟩ := hpl.slice
      obtain ⟨L, hL⟩ : ∃ L, L = (bls f N 0).length := ⟨_, rfl⟩
      have HLT : Hid (∀ j, j < L → (bls f N 0).getD j 0 < N) := fun j hj => bls_lt f N j (by omega)
      have HNT : Hid (∀ m, m < L → ∃ p n u, (bls f N 0).getD m 0 = p ∧ blkO f N p = some (n, u) ∧ (bk f N 0).take (m + 1) = (bk f N 0).take m ++ [(p, n, u)] ∧ n ≤ 4000 ∧ p + n + 3 ≤ N) := fun m hm => bk_nth f N m (by rw [hL, bk_len] at hm; exact hm)
      have HKL : Hid (L = (bk f N 0).length) := by show _ = _; rw [hL, bk_len]
      have hlen := bls_len f N
      rw [← hL] at hrl hlen
      rw [← hL]
      have HS4 : Hid (AlS w w4 b o N cap f g cc B2 f) := HS3.out.call hb4
      have HL4 : Hid (Rd w4 la L (fun j => ((bls f N 0).getD j 0 : Nat))) := hrl
      clear hpl hb4 hl1 hl2 hl3 hrl hL HS3 b0
      generalize bls f N 0 = bs at *
      go_wp2_with fail
      go_loopw [9] (fun i wr => ∃ m : Nat, m ≤ L ∧ i = .int .i64 m ∧ (∀ b ∈ (bk f N 0).take m, b.2.2 = false → b.2.1 < n) ∧ Below w4.heap.size w4 wr) (fun i _ => L - (intOf i).toNat)
      case atStart => exact ⟨0, Nat.zero_le _, rfl, fun b hb => by simp at hb, Below.refl _ _⟩
      case round =>
        obtain ⟨m, hm, rfl, hls, hbr⟩ := hrel
        have HLS : Hid (∀ b ∈ (bk f N 0).take m, b.2.2 = false → b.2.1 < n) := hls
        clear hls
        have HSr : Hid (AlS w wr b o N cap f g cc B2 f) := HS4.out.call hbr
        have HBr : Hid (Below w4.heap.size w4 wr) := hbr
        have HLr : Hid (Rd wr la L (fun j => (bs.getD j 0 : Nat))) := HL4.out.below hbr
        have b0 := HSr.out.box
        clear hbr
        by_cases hlt : m < L
        · obtain ⟨lb, lo, rfl, hcl⟩ := HLr.out (by omega)
          have cm : wr.cell? ⟨lb, lo + m, none⟩ = some (.int .i64 (bs.getD m 0 : Nat)) := hcl m hlt
          have hpx := HLT.out m hlt
          obtain ⟨p, k, u, hp, hB, htk, _, _⟩ := HNT.out m hlt
          have HTK : Hid ((bk f N 0).take (m + 1) = (bk f N 0).take m ++ [(p, k, u)]) := htk
          have HNX : Hid ((u = false → k < n) → ∀ b ∈ (bk f N 0).take (m + 1), b.2.2 = false → b.2.1 < n) := fun hk b hb hu => by
            rw [HTK.out] at hb
            rcases List.mem_append.1 hb with hb | hb
            · exact HLS.out b hb hu
            · rw [List.mem_singleton] at hb; subst hb; exact hk hu
          have HAL : Hid (bk f N 0 = (bk f N 0).take m ++ (p, k, u) :: (bk f N 0).drop (m + 1)) := by
            have e := List.take_append_drop (m + 1) (bk f N 0)
            rw [HTK.out, List.append_assoc] at e
            exact e.symm
          rw [hp] at cm hpx
          clear hcl hp htk
          go_wp2_with fail
          refine (specAt_any (some ⟨b, o, none⟩) N cap f p _ HSr.out.rd (by omega) (by omega)).mono ?_
          rintro e w5 ⟨rfl, hb5⟩
          have HS5 : Hid (AlS w w5 b o N cap f g cc B2 f) := HSr.out.call hb5
          have HB5 : Hid (Below w4.heap.size w4 w5) := below_join HBr.out hb5
          clear hb5 b0 cm
          rw [hB]
          have hfit := (blkO_of hB).fit
          have hk1 := (blkO_of hB).h1
          clear hB
          dsimp only [bv]
          cases u with
          | true =>
            go_wp2_with fail
            go_roundw
            case rel => exact ⟨m + 1, by omega, by go_num, HNX.out (fun h => by cases h), HB5.out⟩
            case measure => simp [intOf]; omega
          | false =>
            by_cases hkn : k < n
            · go_wp2_with fail
              go_roundw
              case rel => exact ⟨m + 1, by omega, by go_num, HNX.out (fun _ => hkn), HB5.out⟩
              case measure => simp [intOf]; omega
            · have q2 := HS5.out.outb
              by_cases h4 : n + 4 ≤ k
              · have HF : Hid (Ints w5 g 0 N f) := HS5.out.ints
                go_wp2_with fail
                refine (lay_any' g 0 N cc f w5 HF.out (p + n + 3) (k - n - 3) _ _ (by omega) (by omega) false (by omega) (by omega)).mono ?_
                rintro e w6 ⟨⟨v, rfl⟩, ht6, hi6⟩
                have HS6 : Hid (AlS w w6 b o N cap f g cc B2 (layF f (p + n + 3) (k - n - 3) false)) := HS5.out.lay ht6 hi6
                have HI6 : Hid (Ints w6 g 0 N (layF f (p + n + 3) (k - n - 3) false)) := hi6
                have q2 := HS6.out.outb
                clear ht6 hi6 HF HS5
                go_wp2_with fail
                refine (lay_any g 0 N cc _ w6 HI6.out p n true (by omega) (by omega)).mono ?_
                rintro e w7 ⟨⟨v, rfl⟩, ht7, hi7⟩
                have HS7 : Hid (AlS w w7 b o N cap f g cc B2 (layF (layF f (p + n + 3) (k - n - 3) false) p n true)) := HS6.out.lay ht7 hi7
                clear ht7 hi7 HS6 HI6 q2
                have q1 := HS7.out.res
                have f1 := HS7.out.resf
                have q2 := HS7.out.outb
                go_wp2_with fail
                exact bodyPost_ret (v := .tuple #[.agg #[.slice (some ⟨g, 0, none⟩) N cc], .int .i64 p, .int .i64 0]) (by simp [results, Try.results44, go_sem, q1]) rfl ⟨g, cc, p, 0, _, rfl, HS7.out.fin _, .inr (.inr (.inr ⟨rfl, HY.out, p, n, _, k, _, rfl, rfl, hn1, hn2, HAL.out, HLS.out, by omega, by unfold allocF; rw [if_pos (by omega)]⟩))⟩
              · have HF : Hid (Ints w5 g 0 N f) := HS5.out.ints
                go_wp2_with fail
                refine (lay_any g 0 N cc f w5 HF.out p k true (by omega) (by omega)).mono ?_
                rintro e w7 ⟨⟨v, rfl⟩, ht7, hi7⟩
                have HS7 : Hid (AlS w w7 b o N cap f g cc B2 (layF f p k true)) := HS5.out.lay ht7 hi7
                clear ht7 hi7 HF HS5 q2
                have q1 := HS7.out.res
                have f1 := HS7.out.resf
                have q2 := HS7.out.outb
                go_wp2_with fail
                exact bodyPost_ret (v := .tuple #[.agg #[.slice (some ⟨g, 0, none⟩) N cc], .int .i64 p, .int .i64 0]) (by simp [results, Try.results44, go_sem, q1]) rfl ⟨g, cc, p, 0, _, rfl, HS7.out.fin _, .inr (.inr (.inr ⟨rfl, HY.out, p, n, _, k, _, rfl, rfl, hn1, hn2, HAL.out, HLS.out, by omega, by unfold allocF; rw [if_neg (by omega)]⟩))⟩
        · clear b0
          have HFULL : Hid (∀ b ∈ bk f N 0, b.2.2 = false → (b.2.1 : Int) < n) := fun b hb hu => by
            have h1 := HKL.out
            have := HLS.out b (by rw [List.take_of_length_le (by omega)]; exact hb) hu
            omega
          have q1 := HSr.out.res
          have f1 := HSr.out.resf
          have q2 := HSr.out.outb
          go_wp2_with fail
          exact bodyPost_ret (v := .tuple #[.agg #[.slice (some ⟨g, 0, none⟩) N cc], .int .i64 0, .int .i64 1]) (by simp [results, Try.results44, go_sem, q1]) rfl ⟨g, cc, 0, 1, f, rfl, HSr.out.fin _, .inr (.inr (.inl ⟨rfl, HY.out, HX.out, HFULL.out, rfl, rfl⟩))⟩
  · have hy' : (y == -1) = false := by simpa using hy
    have q1 := HS3.out.res
    have f1 := HS3.out.resf
    have q2 := HS3.out.outb
    go_wp2_with fail
    exact bodyPost_ret (v := .tuple #[.agg #[.slice (some ⟨g, 0, none⟩) N cc], .int .i64 0, .int .i64 3]) (by simp [results, Try.results44, go_sem, q1]) rfl ⟨g, cc, 0, 3, f, rfl, HS3.out.fin _, .inl ⟨rfl, fun h => hy (HY.out.symm.trans h), rfl, rfl⟩⟩
end Go.Proofs.Ytmongbpdbcbhlaa
