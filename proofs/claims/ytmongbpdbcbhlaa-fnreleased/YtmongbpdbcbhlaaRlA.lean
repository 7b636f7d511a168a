/-
  What the specification's Release answers: an arena of its own, in which the block is free, with the free ones beside it.
-/
import Derived.Test.YtmongbpdbcbhlaaAlB
namespace Go.Proofs.Ytmongbpdbcbhlaa
open Go.RowKit
set_option linter.unusedVariables false

theorem bls_head {f : Nat → Int} {N p : Nat} (h : 0 < (bls f N p).length) : (bls f N p).getD 0 0 = p := by
  cases hB : blkO f N p with
  | none => rw [bls_nil hB] at h; exact absurd h (by simp)
  | some x => rw [bls_cons (n := x.1) (u := x.2) hB]; rfl
theorem bls_at (f : Nat → Int) (N : Nat) : ∀ k p, N - p ≤ k → ∀ j, j < (bls f N p).length → ∃ n u, blkO f N ((bls f N p).getD j 0) = some (n, u) ∧ (j + 1 < (bls f N p).length → (bls f N p).getD (j + 1) 0 = (bls f N p).getD j 0 + n + 3) := by
  intro k
  induction k with
  | zero =>
    intro p h j hj
    rw [bls_nil (blkO_end (by omega))] at hj
    exact absurd hj (by simp)
  | succ k ih =>
    intro p h j hj
    cases hB : blkO f N p with
    | none => rw [bls_nil hB] at hj; exact absurd hj (by simp)
    | some x =>
      obtain ⟨n, u⟩ := x
      have h1 := (blkO_of hB).fit
      rw [bls_cons hB] at hj ⊢
      cases j with
      | zero =>
        refine ⟨n, u, hB, fun h2 => ?_⟩
        rw [List.length_cons] at h2
        exact bls_head (by omega)
      | succ j =>
        rw [List.length_cons] at hj
        obtain ⟨n', u', e1, e2⟩ := ih (p + n + 3) (by omega) j (by omega)
        refine ⟨n', u', e1, fun h2 => ?_⟩
        rw [List.length_cons] at h2
        exact e2 (by omega)

set_option maxHeartbeats 8000000 in
set_option maxRecDepth 100000 in
theorem specRelease_any (b o N cap : Nat) (f : Nat → Int) (x : Int) (w : World) (hc : ∀ j, j < N → w.cell? ⟨b, o + j, none⟩ = some (.int .i64 (f j))) (h1 : 1 ≤ N) (hN : N ≤ 4000) :
    Calls Try.prog 9 #[.agg #[.slice (some ⟨b, o, none⟩) N cap], .int .i64 x] w fun e w' => ∃ (g cc : Nat) (code : Int) (F : Nat → Int), e = .returned (.tuple #[.agg #[.slice (some ⟨g, 0, none⟩) N cc], .int .i64 code]) ∧ AlR w w' N g cc F ∧ RelR f N x F code := by
  have HC : Hid (∀ j, j < N → w.cell? ⟨b, o + j, none⟩ = some (.int .i64 (f j))) := hc
  clear hc
  go_enter Try.func9, Try.ntmps9
  go_wp2_with fail
  have hB2 := ((Below.refl w.heap.size w).alloc (Nat.le_refl _) (.cells #[.slice (some ⟨b, o, none⟩) N cap] 26)).alloc (by simp) (.cells #[.slice none 0 0] 26)
  have hbw : b < w.heap.size := World.block_lt_of_cell? w _ (HC.out 0 h1)
  refine (copy_any b o N cap f _ (fun j hj => (hB2.cell (p := ⟨b, o + j, none⟩) hbw).trans (HC.out j hj)) h1 hN).mono ?_
  rintro e w1 ⟨g, cc, rfl, hg, hb1, hi1, hcc⟩
  have hs := AlS.start (cap := cap) HC.out h1 hb1 hg hi1 hcc
  have HS : Hid (AlS w (w1.alloc (.cells #[.slice (some ⟨g, 0, none⟩) N cc] 26)) b o N cap f g cc w1.heap.size f) := hs
  have b0 := hs.box
  clear hs hB2 hbw hg hb1 hi1 hcc
  go_wp2_with fail
  have hs := HS.out
  clear HS b0
  generalize (w1.alloc (.cells #[.slice (some ⟨g, 0, none⟩) N cc] 26)) = w2 at hs ⊢
  generalize w1.heap.size = B2 at hs ⊢
  refine (specAudit_any (some ⟨b, o, none⟩) N cap f _ hs.rd (by omega)).mono ?_
  rintro e w3 ⟨rfl, hb3⟩
  have HS3 : Hid (AlS w w3 b o N cap f g cc B2 f) := hs.call hb3
  clear hs hb3
  obtain ⟨y, hya⟩ : ∃ y, aud f N 0 false = y := ⟨_, rfl⟩
  have HY : Hid (aud f N 0 false = y) := hya
  rw [hya]
  clear hya
  by_cases hy : y = -1
  · subst hy
    have b0 := HS3.out.box
    go_wp2_with fail
    refine (specBlocks_any (some ⟨b, o, none⟩) N cap f _ HS3.out.rd (by omega)).mono ?_
    rintro e w4 ⟨v, rfl, hpl, hb4⟩
    obtain ⟨la, lc, rfl, hl1, hl2, hl3, hrl⟩ := hpl.slice
    obtain ⟨L, hL⟩ : ∃ L, L = (bls f N 0).length := ⟨_, rfl⟩
    have HAT : Hid (∀ j, j < L → ∃ n u, blkO f N ((bls f N 0).getD j 0) = some (n, u) ∧ (j + 1 < L → (bls f N 0).getD (j + 1) 0 = (bls f N 0).getD j 0 + n + 3)) := fun j hj => by
      have := bls_at f N N 0 (by omega) j (by omega)
      rw [← hL] at this
      exact this
    have HNT : Hid (∀ m, m < L → ∃ p n u, (bls f N 0).getD m 0 = p ∧ blkO f N p = some (n, u) ∧ (bk f N 0).take (m + 1) = (bk f N 0).take m ++ [(p, n, u)] ∧ n ≤ 4000 ∧ p + n + 3 ≤ N) := fun m hm => bk_nth f N m (by rw [hL, bk_len] at hm; exact hm)
    have HKL : Hid (L = (bk f N 0).length) := by show _ = _; rw [hL, bk_len]
    have hlen := bls_len f N
    rw [← hL] at hrl hlen
    rw [← hL]
    have HS4 : Hid (AlS w w4 b o N cap f g cc B2 f) := HS3.out.call hb4
    have HL4 : Hid (Rd w4 la L (fun j => ((bls f N 0).getD j 0 : Nat))) := hrl
    clear hpl hb4 hl1 hl2 hl3 hrl hL HS3 b0
    obtain ⟨bs, hbs⟩ : ∃ bs, bls f N 0 = bs := ⟨_, rfl⟩
    have HBS : Hid (bls f N 0 = bs) := hbs
    rw [hbs] at HAT HL4 HNT
    clear hbs
    go_wp2_with fail
    go_loopw [8] (fun i wr => ∃ m : Nat, m ≤ L ∧ i = .int .i64 m ∧ (∀ b ∈ (bk f N 0).take m, b.2.2 = true → (b.1 : Int) ≠ x) ∧ Below w4.heap.size w4 wr) (fun i _ => L - (intOf i).toNat)
    case atStart => exact ⟨0, Nat.zero_le _, rfl, fun b hb => by simp at hb, Below.refl _ _⟩
    case round =>
      obtain ⟨m, hm, rfl, hls, hbr⟩ := hrel
      have HLS : Hid (∀ b ∈ (bk f N 0).take m, b.2.2 = true → (b.1 : Int) ≠ x) := hls
      clear hls
      have HSwr : Hid (AlS w wr b o N cap f g cc B2 f) := HS4.out.call hbr
      have HBwr : Hid (Below w4.heap.size w4 wr) := hbr
      have HLr : Hid (Rd wr la L (fun j => (bs.getD j 0 : Nat))) := HL4.out.below hbr
      clear hbr
      by_cases hlt : m < L
      · obtain ⟨lb, lo, rfl, hcl⟩ := HLr.out (by omega)
        have HLwr : Hid (∀ j, j < L → wr.cell? ⟨lb, lo + j, none⟩ = some (.int .i64 (bs.getD j 0 : Nat))) := hcl
        obtain ⟨n, u, hB, hnx⟩ := HAT.out m hlt
        obtain ⟨p, hpm⟩ : ∃ p, p = bs.getD m 0 := ⟨_, rfl⟩
        rw [← hpm] at hB hnx
        have hfit := (blkO_of hB).fit
        have hn1 := (blkO_of hB).h1
        have HPM : Hid (bs.getD m 0 = p) := hpm.symm
        have HNX : Hid (m + 1 < L → bs.getD (m + 1) 0 = p + n + 3) := hnx
        have HBM : Hid (blkO f N p = some (n, u)) := hB
        have HMK : Hid (m < (bk f N 0).length) := by have := HKL.out; show _ < _; omega
        have HPMB : Hid ((bls f N 0).getD m 0 = p) := by show _ = _; rw [HBS.out]; exact hpm.symm
        have HNO : Hid ((u = true → (p : Int) ≠ x) → ∀ b ∈ (bk f N 0).take (m + 1), b.2.2 = true → (b.1 : Int) ≠ x) := fun hk b' hb hu => by
          obtain ⟨p', n', u', e1, e2, e3, _, _⟩ := HNT.out m hlt
          rw [← hpm] at e1
          subst e1
          rw [hB] at e2
          simp only [Option.some.injEq, Prod.mk.injEq] at e2
          obtain ⟨rfl, rfl⟩ := e2
          rw [e3] at hb
          rcases List.mem_append.1 hb with hb | hb
          · exact HLS.out b' hb hu
          · rw [List.mem_singleton] at hb; subst hb; exact hk hu
        clear hcl hB hnx hpm
        cases u with
        | false =>
          have cX : wr.cell? ⟨lb, lo + m, none⟩ = some (.int .i64 p) := by have := HLwr.out m hlt; rw [HPM.out] at this; exact this
          have k0 := Inn.keep HSwr.out.box
          have k1 := Inn.keep cX
          haveI := inn_ne wr
          have HA : Hid (∀ x : Inn wr, Calls Try.prog 37 #[.agg #[.slice (some ⟨b, o, none⟩) N cap], .int .i64 p] x.val fun e w' => e = .returned (bv (some (n, false))) ∧ Below x.val.heap.size x.val w') := fun x => by
            have := specAt_any (some ⟨b, o, none⟩) N cap f p x.val (HSwr.out.rd.below x.bel) (by omega) (by omega)
            rw [HBM.out] at this
            exact this
          dsimp only [bv] at HA
          go_wp2_with fail
          refine wp_region_inn ?_ ?_ ?_
          · kernel_rfl
          · kernel_rfl
          repeat (go_big_quiet_step (first
            | (go_at_call 37; exact calls_inn (HA.out _))))
          refine wpQuiet_nil ?_
          rintro w5 ⟨x2, h2⟩
          have hb2 : Below wr.heap.size wr w5 := by rw [h2]; exact x2.bel
          have HSw5 : Hid (AlS w w5 b o N cap f g cc B2 f) := HSwr.out.call hb2
          have HLw5 : Hid (∀ j, j < L → w5.cell? ⟨lb, lo + j, none⟩ = some (.int .i64 (bs.getD j 0 : Nat))) := fun j hj => (hb2.cell (p := ⟨lb, lo + j, none⟩) (World.block_lt_of_cell? wr _ (HLwr.out j hj))).trans (HLwr.out j hj)
          have HBw5 : Hid (Below w4.heap.size w4 w5) := below_join HBwr.out hb2
          clear h2 x2 hb2 k0 k1 HA
          have c5 : w5.cell? ⟨lb, lo + m, none⟩ = some (.int .i64 p) := by have := HLw5.out m hlt; rw [HPM.out] at this; exact this
          by_cases hpx : (p : Int) = x
          · have hp4 := hpx
            subst hpx
            go_wp2_with fail
            go_roundw
            case rel => exact ⟨m + 1, by omega, by go_num, HNO.out (fun h => by cases h), HBw5.out⟩
            case measure => simp [intOf]; omega
          · have hpx' : ((p : Int) == x) = false := by simpa using hpx
            go_wp2_with fail
            go_roundw
            case rel => exact ⟨m + 1, by omega, by go_num, HNO.out (fun h => by cases h), HBw5.out⟩
            case measure => simp [intOf]; omega
        | true =>
          have cX : wr.cell? ⟨lb, lo + m, none⟩ = some (.int .i64 p) := by have := HLwr.out m hlt; rw [HPM.out] at this; exact this
          have k0 := Inn.keep HSwr.out.box
          have k1 := Inn.keep cX
          haveI := inn_ne wr
          have HA : Hid (∀ x : Inn wr, Calls Try.prog 37 #[.agg #[.slice (some ⟨b, o, none⟩) N cap], .int .i64 p] x.val fun e w' => e = .returned (bv (some (n, true))) ∧ Below x.val.heap.size x.val w') := fun x => by
            have := specAt_any (some ⟨b, o, none⟩) N cap f p x.val (HSwr.out.rd.below x.bel) (by omega) (by omega)
            rw [HBM.out] at this
            exact this
          dsimp only [bv] at HA
          go_wp2_with fail
          refine wp_region_inn ?_ ?_ ?_
          · kernel_rfl
          · kernel_rfl
          repeat (go_big_quiet_step (first
            | (go_at_call 37; exact calls_inn (HA.out _))))
          refine wpQuiet_nil ?_
          rintro w5 ⟨x2, h2⟩
          have hb2 : Below wr.heap.size wr w5 := by rw [h2]; exact x2.bel
          have HSw5 : Hid (AlS w w5 b o N cap f g cc B2 f) := HSwr.out.call hb2
          have HLw5 : Hid (∀ j, j < L → w5.cell? ⟨lb, lo + j, none⟩ = some (.int .i64 (bs.getD j 0 : Nat))) := fun j hj => (hb2.cell (p := ⟨lb, lo + j, none⟩) (World.block_lt_of_cell? wr _ (HLwr.out j hj))).trans (HLwr.out j hj)
          have HBw5 : Hid (Below w4.heap.size w4 w5) := below_join HBwr.out hb2
          clear h2 x2 hb2 k0 k1 HA
          have c5 : w5.cell? ⟨lb, lo + m, none⟩ = some (.int .i64 p) := by have := HLw5.out m hlt; rw [HPM.out] at this; exact this
          by_cases hpx : (p : Int) = x
          · subst hpx
            by_cases hm0 : m = 0
            · have V0 : ¬ (0 : Int) < (m : Int) := by omega
              have HM0 : Hid (m = 0) := hm0
              have HAH : Hid ((p = p ∧ (m = 0 ∨ ∃ j n1 p1, m = j + 1 ∧ (bls f N 0).getD j 0 = p1 ∧ blkO f N p1 = some (n1, true))) ∨ ∃ j n1, m = j + 1 ∧ (bls f N 0).getD j 0 = p ∧ blkO f N p = some (n1, false)) := .inl ⟨rfl, .inl hm0⟩
              clear hm0
              by_cases hmL : m + 1 < L
              · obtain ⟨j2, hj2⟩ : ∃ j2, j2 = m + 1 := ⟨_, rfl⟩
                have hj2L : j2 < L := by omega
                obtain ⟨n2, u2, hB2, _⟩ := HAT.out j2 hj2L
                have hP2 : bs.getD j2 0 = p + n + 3 := by rw [hj2]; exact HNX.out hmL
                have hfit2 := (blkO_of hB2).fit
                rw [hP2] at hB2 hfit2
                have HB2' : Hid (blkO f N (p + n + 3) = some (n2, u2)) := hB2
                have HP2 : Hid (bs.getD j2 0 = p + n + 3) := hP2
                have V1 : IntKind.i64.wrap ((m : Int) + 1) = (j2 : Int) := by rw [IntKind.wrap_i64]; omega
                have V2 : (m : Int) + 1 = (j2 : Int) := by omega
                have V3 : (j2 : Int) < (L : Int) := by omega
                obtain ⟨p2, hp2⟩ : ∃ p2, p2 = p + n + 3 := ⟨_, rfl⟩
                rw [← hp2] at HB2' HP2 hfit2
                have HP2E : Hid (p2 = p + n + 3) := hp2
                have hp2N : p2 < N := by omega
                clear hB2 hP2 hp2 hj2
                cases u2 with
                | true =>
                  have cX : w5.cell? ⟨lb, lo + j2, none⟩ = some (.int .i64 p2) := by have := HLw5.out j2 hj2L; rw [HP2.out] at this; exact this
                  have k0 := Inn.keep HSw5.out.box
                  have k1 := Inn.keep cX
                  haveI := inn_ne w5
                  have HA : Hid (∀ x : Inn w5, Calls Try.prog 37 #[.agg #[.slice (some ⟨b, o, none⟩) N cap], .int .i64 p2] x.val fun e w' => e = .returned (bv (some (n2, true))) ∧ Below x.val.heap.size x.val w') := fun x => by
                    have := specAt_any (some ⟨b, o, none⟩) N cap f p2 x.val (HSw5.out.rd.below x.bel) (by omega) (by omega)
                    rw [HB2'.out] at this
                    exact this
                  dsimp only [bv] at HA
                  go_wp2_with fail
                  refine wp_region_inn ?_ ?_ ?_
                  · kernel_rfl
                  · kernel_rfl
                  repeat (go_big_quiet_step (first
                    | (go_at_call 37; exact calls_inn (HA.out _))))
                  refine wpQuiet_nil ?_
                  rintro w8 ⟨x2, h2⟩
                  have hb2 : Below w5.heap.size w5 w8 := by rw [h2]; exact x2.bel
                  have HSw8 : Hid (AlS w w8 b o N cap f g cc B2 f) := HSw5.out.call hb2
                  have HLw8 : Hid (∀ j, j < L → w8.cell? ⟨lb, lo + j, none⟩ = some (.int .i64 (bs.getD j 0 : Nat))) := fun j hj => (hb2.cell (p := ⟨lb, lo + j, none⟩) (World.block_lt_of_cell? w5 _ (HLw5.out j hj))).trans (HLw5.out j hj)
                  have HBw8 : Hid (Below w4.heap.size w4 w8) := below_join HBw5.out hb2
                  clear h2 x2 hb2 k0 k1 HA
                  clear V1 V2 V3
                  have q2 := HSw8.out.outb
                  have HF : Hid (Ints w8 g 0 N f) := HSw8.out.ints
                  go_wp2_with fail
                  have hp2 := HP2E.out
                  refine (lay_any' g 0 N cc f w8 HF.out (p) (p + n - (p)) _ _ (by omega) (by omega) false (by omega) (by omega)).mono ?_
                  rintro e w9 ⟨⟨v, rfl⟩, ht9, hi9⟩
                  have HS9 : Hid (AlS w w9 b o N cap f g cc B2 (layF f (p) (p + n - (p)) false)) := HSw8.out.lay ht9 hi9
                  clear ht9 hi9 HF q2
                  have HREL : Hid (RelR f N p (layF f (p) (p + n - (p)) false) 0) := by
                    obtain ⟨A, A', B, B', hg⟩ := rel_make (Q := p) (k := p + n - (p)) HY.out HMK.out HPMB.out HBM.out (by simpa using HAH.out) (.inl ⟨by omega, .inr ⟨n2, by rw [← HP2E.out]; exact HB2'.out⟩⟩)
                    exact .inr (.inr ⟨rfl, HY.out, p, A, A', n, B, B', _, _, rfl, hg⟩)
                  have q1 := HS9.out.res
                  have f1 := HS9.out.resf
                  have q2 := HS9.out.outb
                  go_wp2_with fail
                  exact bodyPost_ret (v := .tuple #[.agg #[.slice (some ⟨g, 0, none⟩) N cc], .int .i64 0]) (by simp [results, Try.results9, go_sem, q1]) rfl ⟨g, cc, 0, _, rfl, HS9.out.fin _, HREL.out⟩
                | false =>
                  have cX : w5.cell? ⟨lb, lo + j2, none⟩ = some (.int .i64 p2) := by have := HLw5.out j2 hj2L; rw [HP2.out] at this; exact this
                  have k0 := Inn.keep HSw5.out.box
                  have k1 := Inn.keep cX
                  haveI := inn_ne w5
                  have HA : Hid (∀ x : Inn w5, Calls Try.prog 37 #[.agg #[.slice (some ⟨b, o, none⟩) N cap], .int .i64 p2] x.val fun e w' => e = .returned (bv (some (n2, false))) ∧ Below x.val.heap.size x.val w') := fun x => by
                    have := specAt_any (some ⟨b, o, none⟩) N cap f p2 x.val (HSw5.out.rd.below x.bel) (by omega) (by omega)
                    rw [HB2'.out] at this
                    exact this
                  dsimp only [bv] at HA
                  go_wp2_with fail
                  refine wp_region_inn ?_ ?_ ?_
                  · kernel_rfl
                  · kernel_rfl
                  repeat (go_big_quiet_step (first
                    | (go_at_call 37; exact calls_inn (HA.out _))))
                  refine wpQuiet_nil ?_
                  rintro w8 ⟨x2, h2⟩
                  have hb2 : Below w5.heap.size w5 w8 := by rw [h2]; exact x2.bel
                  have HSw8 : Hid (AlS w w8 b o N cap f g cc B2 f) := HSw5.out.call hb2
                  have HLw8 : Hid (∀ j, j < L → w8.cell? ⟨lb, lo + j, none⟩ = some (.int .i64 (bs.getD j 0 : Nat))) := fun j hj => (hb2.cell (p := ⟨lb, lo + j, none⟩) (World.block_lt_of_cell? w5 _ (HLw5.out j hj))).trans (HLw5.out j hj)
                  have HBw8 : Hid (Below w4.heap.size w4 w8) := below_join HBw5.out hb2
                  clear h2 x2 hb2 k0 k1 HA
                  clear V1 V2 V3
                  have q2 := HSw8.out.outb
                  have HF : Hid (Ints w8 g 0 N f) := HSw8.out.ints
                  go_wp2_with fail
                  have hp2 := HP2E.out
                  refine (lay_any' g 0 N cc f w8 HF.out (p) (p + n + n2 + 3 - (p)) _ _ (by omega) (by omega) false (by omega) (by omega)).mono ?_
                  rintro e w9 ⟨⟨v, rfl⟩, ht9, hi9⟩
                  have HS9 : Hid (AlS w w9 b o N cap f g cc B2 (layF f (p) (p + n + n2 + 3 - (p)) false)) := HSw8.out.lay ht9 hi9
                  clear ht9 hi9 HF q2
                  have HREL : Hid (RelR f N p (layF f (p) (p + n + n2 + 3 - (p)) false) 0) := by
                    obtain ⟨A, A', B, B', hg⟩ := rel_make (Q := p) (k := p + n + n2 + 3 - (p)) HY.out HMK.out HPMB.out HBM.out (by simpa using HAH.out) (.inr ⟨n2, by rw [← HP2E.out]; exact HB2'.out, by omega⟩)
                    exact .inr (.inr ⟨rfl, HY.out, p, A, A', n, B, B', _, _, rfl, hg⟩)
                  have q1 := HS9.out.res
                  have f1 := HS9.out.resf
                  have q2 := HS9.out.outb
                  go_wp2_with fail
                  exact bodyPost_ret (v := .tuple #[.agg #[.slice (some ⟨g, 0, none⟩) N cc], .int .i64 0]) (by simp [results, Try.results9, go_sem, q1]) rfl ⟨g, cc, 0, _, rfl, HS9.out.fin _, HREL.out⟩
              · have V3 : ¬ ((m : Int) + 1 < (L : Int)) := by omega
                have q2 := HSw5.out.outb
                have HF : Hid (Ints w5 g 0 N f) := HSw5.out.ints
                go_wp2_with fail
                refine (lay_any' g 0 N cc f w5 HF.out (p) (p + n - (p)) _ _ (by omega) (by omega) false (by omega) (by omega)).mono ?_
                rintro e w9 ⟨⟨v, rfl⟩, ht9, hi9⟩
                have HS9 : Hid (AlS w w9 b o N cap f g cc B2 (layF f (p) (p + n - (p)) false)) := HSw5.out.lay ht9 hi9
                clear ht9 hi9 HF q2
                have HREL : Hid (RelR f N p (layF f (p) (p + n - (p)) false) 0) := by
                  obtain ⟨A, A', B, B', hg⟩ := rel_make (Q := p) (k := p + n - (p)) HY.out HMK.out HPMB.out HBM.out (by simpa using HAH.out) (.inl ⟨by omega, .inl (by have := HKL.out; omega)⟩)
                  exact .inr (.inr ⟨rfl, HY.out, p, A, A', n, B, B', _, _, rfl, hg⟩)
                have q1 := HS9.out.res
                have f1 := HS9.out.resf
                have q2 := HS9.out.outb
                go_wp2_with fail
                exact bodyPost_ret (v := .tuple #[.agg #[.slice (some ⟨g, 0, none⟩) N cc], .int .i64 0]) (by simp [results, Try.results9, go_sem, q1]) rfl ⟨g, cc, 0, _, rfl, HS9.out.fin _, HREL.out⟩
            · obtain ⟨j, hj⟩ : ∃ j, m = j + 1 := ⟨m - 1, by omega⟩
              have hjL : j < L := by omega
              obtain ⟨n1, u1, hB1, hnx1⟩ := HAT.out j hjL
              obtain ⟨p1, hp1⟩ : ∃ p1, p1 = bs.getD j 0 := ⟨_, rfl⟩
              rw [← hp1] at hB1 hnx1
              have hpp : p1 + n1 + 3 = p := by have := hnx1 (by omega); rw [← hj, HPM.out] at this; exact this.symm
              have HP1 : Hid (bs.getD j 0 = p1) := hp1.symm
              have HB1 : Hid (blkO f N p1 = some (n1, u1)) := hB1
              have V0 : (0 : Int) < (m : Int) := by omega
              have V4 : IntKind.i64.wrap ((m : Int) - 1) = (j : Int) := by rw [IntKind.wrap_i64]; omega
              have V5 : (m : Int) - 1 = (j : Int) := by omega
              have V6 : (j : Int) < (L : Int) := by omega
              have HJ : Hid (m = j + 1) := hj
              have HPP : Hid (p1 + n1 + 3 = p) := hpp
              clear hB1 hnx1 hp1 hm0 hj
              cases u1 with
              | true =>
                have HAH : Hid ((p = p ∧ (m = 0 ∨ ∃ j n1 p1, m = j + 1 ∧ (bls f N 0).getD j 0 = p1 ∧ blkO f N p1 = some (n1, true))) ∨ ∃ j n1, m = j + 1 ∧ (bls f N 0).getD j 0 = p ∧ blkO f N p = some (n1, false)) := .inl ⟨rfl, .inr ⟨j, n1, p1, HJ.out, by rw [HBS.out]; exact HP1.out, HB1.out⟩⟩
                have cX : w5.cell? ⟨lb, lo + j, none⟩ = some (.int .i64 p1) := by have := HLw5.out j hjL; rw [HP1.out] at this; exact this
                have k0 := Inn.keep HSw5.out.box
                have k1 := Inn.keep cX
                haveI := inn_ne w5
                have HA : Hid (∀ x : Inn w5, Calls Try.prog 37 #[.agg #[.slice (some ⟨b, o, none⟩) N cap], .int .i64 p1] x.val fun e w' => e = .returned (bv (some (n1, true))) ∧ Below x.val.heap.size x.val w') := fun x => by
                  have := specAt_any (some ⟨b, o, none⟩) N cap f p1 x.val (HSw5.out.rd.below x.bel) (by omega) (by omega)
                  rw [HB1.out] at this
                  exact this
                dsimp only [bv] at HA
                go_wp2_with fail
                refine wp_region_inn ?_ ?_ ?_
                · kernel_rfl
                · kernel_rfl
                repeat (go_big_quiet_step (first
                  | (go_at_call 37; exact calls_inn (HA.out _))))
                refine wpQuiet_nil ?_
                rintro w6 ⟨x2, h2⟩
                have hb2 : Below w5.heap.size w5 w6 := by rw [h2]; exact x2.bel
                have HSw6 : Hid (AlS w w6 b o N cap f g cc B2 f) := HSw5.out.call hb2
                have HLw6 : Hid (∀ j, j < L → w6.cell? ⟨lb, lo + j, none⟩ = some (.int .i64 (bs.getD j 0 : Nat))) := fun j hj => (hb2.cell (p := ⟨lb, lo + j, none⟩) (World.block_lt_of_cell? w5 _ (HLw5.out j hj))).trans (HLw5.out j hj)
                have HBw6 : Hid (Below w4.heap.size w4 w6) := below_join HBw5.out hb2
                clear h2 x2 hb2 k0 k1 HA
                clear V4 V5 V6
                by_cases hmL : m + 1 < L
                · obtain ⟨j2, hj2⟩ : ∃ j2, j2 = m + 1 := ⟨_, rfl⟩
                  have hj2L : j2 < L := by omega
                  obtain ⟨n2, u2, hB2, _⟩ := HAT.out j2 hj2L
                  have hP2 : bs.getD j2 0 = p + n + 3 := by rw [hj2]; exact HNX.out hmL
                  have hfit2 := (blkO_of hB2).fit
                  rw [hP2] at hB2 hfit2
                  have HB2' : Hid (blkO f N (p + n + 3) = some (n2, u2)) := hB2
                  have HP2 : Hid (bs.getD j2 0 = p + n + 3) := hP2
                  have V1 : IntKind.i64.wrap ((m : Int) + 1) = (j2 : Int) := by rw [IntKind.wrap_i64]; omega
                  have V2 : (m : Int) + 1 = (j2 : Int) := by omega
                  have V3 : (j2 : Int) < (L : Int) := by omega
                  obtain ⟨p2, hp2⟩ : ∃ p2, p2 = p + n + 3 := ⟨_, rfl⟩
                  rw [← hp2] at HB2' HP2 hfit2
                  have HP2E : Hid (p2 = p + n + 3) := hp2
                  have hp2N : p2 < N := by omega
                  clear hB2 hP2 hp2 hj2
                  cases u2 with
                  | true =>
                    have cX : w6.cell? ⟨lb, lo + j2, none⟩ = some (.int .i64 p2) := by have := HLw6.out j2 hj2L; rw [HP2.out] at this; exact this
                    have k0 := Inn.keep HSw6.out.box
                    have k1 := Inn.keep cX
                    haveI := inn_ne w6
                    have HA : Hid (∀ x : Inn w6, Calls Try.prog 37 #[.agg #[.slice (some ⟨b, o, none⟩) N cap], .int .i64 p2] x.val fun e w' => e = .returned (bv (some (n2, true))) ∧ Below x.val.heap.size x.val w') := fun x => by
                      have := specAt_any (some ⟨b, o, none⟩) N cap f p2 x.val (HSw6.out.rd.below x.bel) (by omega) (by omega)
                      rw [HB2'.out] at this
                      exact this
                    dsimp only [bv] at HA
                    go_wp2_with fail
                    refine wp_region_inn ?_ ?_ ?_
                    · kernel_rfl
                    · kernel_rfl
                    repeat (go_big_quiet_step (first
                      | (go_at_call 37; exact calls_inn (HA.out _))))
                    refine wpQuiet_nil ?_
                    rintro w8 ⟨x2, h2⟩
                    have hb2 : Below w6.heap.size w6 w8 := by rw [h2]; exact x2.bel
                    have HSw8 : Hid (AlS w w8 b o N cap f g cc B2 f) := HSw6.out.call hb2
                    have HLw8 : Hid (∀ j, j < L → w8.cell? ⟨lb, lo + j, none⟩ = some (.int .i64 (bs.getD j 0 : Nat))) := fun j hj => (hb2.cell (p := ⟨lb, lo + j, none⟩) (World.block_lt_of_cell? w6 _ (HLw6.out j hj))).trans (HLw6.out j hj)
                    have HBw8 : Hid (Below w4.heap.size w4 w8) := below_join HBw6.out hb2
                    clear h2 x2 hb2 k0 k1 HA
                    clear V1 V2 V3
                    have q2 := HSw8.out.outb
                    have HF : Hid (Ints w8 g 0 N f) := HSw8.out.ints
                    go_wp2_with fail
                    have hp2 := HP2E.out
                    refine (lay_any' g 0 N cc f w8 HF.out (p) (p + n - (p)) _ _ (by omega) (by omega) false (by omega) (by omega)).mono ?_
                    rintro e w9 ⟨⟨v, rfl⟩, ht9, hi9⟩
                    have HS9 : Hid (AlS w w9 b o N cap f g cc B2 (layF f (p) (p + n - (p)) false)) := HSw8.out.lay ht9 hi9
                    clear ht9 hi9 HF q2
                    have HREL : Hid (RelR f N p (layF f (p) (p + n - (p)) false) 0) := by
                      obtain ⟨A, A', B, B', hg⟩ := rel_make (Q := p) (k := p + n - (p)) HY.out HMK.out HPMB.out HBM.out (by simpa using HAH.out) (.inl ⟨by omega, .inr ⟨n2, by rw [← HP2E.out]; exact HB2'.out⟩⟩)
                      exact .inr (.inr ⟨rfl, HY.out, p, A, A', n, B, B', _, _, rfl, hg⟩)
                    have q1 := HS9.out.res
                    have f1 := HS9.out.resf
                    have q2 := HS9.out.outb
                    go_wp2_with fail
                    exact bodyPost_ret (v := .tuple #[.agg #[.slice (some ⟨g, 0, none⟩) N cc], .int .i64 0]) (by simp [results, Try.results9, go_sem, q1]) rfl ⟨g, cc, 0, _, rfl, HS9.out.fin _, HREL.out⟩
                  | false =>
                    have cX : w6.cell? ⟨lb, lo + j2, none⟩ = some (.int .i64 p2) := by have := HLw6.out j2 hj2L; rw [HP2.out] at this; exact this
                    have k0 := Inn.keep HSw6.out.box
                    have k1 := Inn.keep cX
                    haveI := inn_ne w6
                    have HA : Hid (∀ x : Inn w6, Calls Try.prog 37 #[.agg #[.slice (some ⟨b, o, none⟩) N cap], .int .i64 p2] x.val fun e w' => e = .returned (bv (some (n2, false))) ∧ Below x.val.heap.size x.val w') := fun x => by
                      have := specAt_any (some ⟨b, o, none⟩) N cap f p2 x.val (HSw6.out.rd.below x.bel) (by omega) (by omega)
                      rw [HB2'.out] at this
                      exact this
                    dsimp only [bv] at HA
                    go_wp2_with fail
                    refine wp_region_inn ?_ ?_ ?_
                    · kernel_rfl
                    · kernel_rfl
                    repeat (go_big_quiet_step (first
                      | (go_at_call 37; exact calls_inn (HA.out _))))
                    refine wpQuiet_nil ?_
                    rintro w8 ⟨x2, h2⟩
                    have hb2 : Below w6.heap.size w6 w8 := by rw [h2]; exact x2.bel
                    have HSw8 : Hid (AlS w w8 b o N cap f g cc B2 f) := HSw6.out.call hb2
                    have HLw8 : Hid (∀ j, j < L → w8.cell? ⟨lb, lo + j, none⟩ = some (.int .i64 (bs.getD j 0 : Nat))) := fun j hj => (hb2.cell (p := ⟨lb, lo + j, none⟩) (World.block_lt_of_cell? w6 _ (HLw6.out j hj))).trans (HLw6.out j hj)
                    have HBw8 : Hid (Below w4.heap.size w4 w8) := below_join HBw6.out hb2
                    clear h2 x2 hb2 k0 k1 HA
                    clear V1 V2 V3
                    have q2 := HSw8.out.outb
                    have HF : Hid (Ints w8 g 0 N f) := HSw8.out.ints
                    go_wp2_with fail
                    have hp2 := HP2E.out
                    refine (lay_any' g 0 N cc f w8 HF.out (p) (p + n + n2 + 3 - (p)) _ _ (by omega) (by omega) false (by omega) (by omega)).mono ?_
                    rintro e w9 ⟨⟨v, rfl⟩, ht9, hi9⟩
                    have HS9 : Hid (AlS w w9 b o N cap f g cc B2 (layF f (p) (p + n + n2 + 3 - (p)) false)) := HSw8.out.lay ht9 hi9
                    clear ht9 hi9 HF q2
                    have HREL : Hid (RelR f N p (layF f (p) (p + n + n2 + 3 - (p)) false) 0) := by
                      obtain ⟨A, A', B, B', hg⟩ := rel_make (Q := p) (k := p + n + n2 + 3 - (p)) HY.out HMK.out HPMB.out HBM.out (by simpa using HAH.out) (.inr ⟨n2, by rw [← HP2E.out]; exact HB2'.out, by omega⟩)
                      exact .inr (.inr ⟨rfl, HY.out, p, A, A', n, B, B', _, _, rfl, hg⟩)
                    have q1 := HS9.out.res
                    have f1 := HS9.out.resf
                    have q2 := HS9.out.outb
                    go_wp2_with fail
                    exact bodyPost_ret (v := .tuple #[.agg #[.slice (some ⟨g, 0, none⟩) N cc], .int .i64 0]) (by simp [results, Try.results9, go_sem, q1]) rfl ⟨g, cc, 0, _, rfl, HS9.out.fin _, HREL.out⟩
                · have V3 : ¬ ((m : Int) + 1 < (L : Int)) := by omega
                  have q2 := HSw6.out.outb
                  have HF : Hid (Ints w6 g 0 N f) := HSw6.out.ints
                  go_wp2_with fail
                  refine (lay_any' g 0 N cc f w6 HF.out (p) (p + n - (p)) _ _ (by omega) (by omega) false (by omega) (by omega)).mono ?_
                  rintro e w9 ⟨⟨v, rfl⟩, ht9, hi9⟩
                  have HS9 : Hid (AlS w w9 b o N cap f g cc B2 (layF f (p) (p + n - (p)) false)) := HSw6.out.lay ht9 hi9
                  clear ht9 hi9 HF q2
                  have HREL : Hid (RelR f N p (layF f (p) (p + n - (p)) false) 0) := by
                    obtain ⟨A, A', B, B', hg⟩ := rel_make (Q := p) (k := p + n - (p)) HY.out HMK.out HPMB.out HBM.out (by simpa using HAH.out) (.inl ⟨by omega, .inl (by have := HKL.out; omega)⟩)
                    exact .inr (.inr ⟨rfl, HY.out, p, A, A', n, B, B', _, _, rfl, hg⟩)
                  have q1 := HS9.out.res
                  have f1 := HS9.out.resf
                  have q2 := HS9.out.outb
                  go_wp2_with fail
                  exact bodyPost_ret (v := .tuple #[.agg #[.slice (some ⟨g, 0, none⟩) N cc], .int .i64 0]) (by simp [results, Try.results9, go_sem, q1]) rfl ⟨g, cc, 0, _, rfl, HS9.out.fin _, HREL.out⟩
              | false =>
                have HAH : Hid ((p1 = p ∧ (m = 0 ∨ ∃ j n1 p1, m = j + 1 ∧ (bls f N 0).getD j 0 = p1 ∧ blkO f N p1 = some (n1, true))) ∨ ∃ j n1, m = j + 1 ∧ (bls f N 0).getD j 0 = p1 ∧ blkO f N p1 = some (n1, false)) := .inr ⟨j, n1, HJ.out, by rw [HBS.out]; exact HP1.out, HB1.out⟩
                have cX : w5.cell? ⟨lb, lo + j, none⟩ = some (.int .i64 p1) := by have := HLw5.out j hjL; rw [HP1.out] at this; exact this
                have k0 := Inn.keep HSw5.out.box
                have k1 := Inn.keep cX
                haveI := inn_ne w5
                have HA : Hid (∀ x : Inn w5, Calls Try.prog 37 #[.agg #[.slice (some ⟨b, o, none⟩) N cap], .int .i64 p1] x.val fun e w' => e = .returned (bv (some (n1, false))) ∧ Below x.val.heap.size x.val w') := fun x => by
                  have := specAt_any (some ⟨b, o, none⟩) N cap f p1 x.val (HSw5.out.rd.below x.bel) (by omega) (by omega)
                  rw [HB1.out] at this
                  exact this
                dsimp only [bv] at HA
                go_wp2_with fail
                refine wp_region_inn ?_ ?_ ?_
                · kernel_rfl
                · kernel_rfl
                repeat (go_big_quiet_step (first
                  | (go_at_call 37; exact calls_inn (HA.out _))))
                refine wpQuiet_nil ?_
                rintro w6 ⟨x2, h2⟩
                have hb2 : Below w5.heap.size w5 w6 := by rw [h2]; exact x2.bel
                have HSw6 : Hid (AlS w w6 b o N cap f g cc B2 f) := HSw5.out.call hb2
                have HLw6 : Hid (∀ j, j < L → w6.cell? ⟨lb, lo + j, none⟩ = some (.int .i64 (bs.getD j 0 : Nat))) := fun j hj => (hb2.cell (p := ⟨lb, lo + j, none⟩) (World.block_lt_of_cell? w5 _ (HLw5.out j hj))).trans (HLw5.out j hj)
                have HBw6 : Hid (Below w4.heap.size w4 w6) := below_join HBw5.out hb2
                clear h2 x2 hb2 k0 k1 HA
                have c6 : w6.cell? ⟨lb, lo + j, none⟩ = some (.int .i64 p1) := by have := HLw6.out j hjL; rw [HP1.out] at this; exact this
                by_cases hmL : m + 1 < L
                · obtain ⟨j2, hj2⟩ : ∃ j2, j2 = m + 1 := ⟨_, rfl⟩
                  have hj2L : j2 < L := by omega
                  obtain ⟨n2, u2, hB2, _⟩ := HAT.out j2 hj2L
                  have hP2 : bs.getD j2 0 = p + n + 3 := by rw [hj2]; exact HNX.out hmL
                  have hfit2 := (blkO_of hB2).fit
                  rw [hP2] at hB2 hfit2
                  have HB2' : Hid (blkO f N (p + n + 3) = some (n2, u2)) := hB2
                  have HP2 : Hid (bs.getD j2 0 = p + n + 3) := hP2
                  have V1 : IntKind.i64.wrap ((m : Int) + 1) = (j2 : Int) := by rw [IntKind.wrap_i64]; omega
                  have V2 : (m : Int) + 1 = (j2 : Int) := by omega
                  have V3 : (j2 : Int) < (L : Int) := by omega
                  obtain ⟨p2, hp2⟩ : ∃ p2, p2 = p + n + 3 := ⟨_, rfl⟩
                  rw [← hp2] at HB2' HP2 hfit2
                  have HP2E : Hid (p2 = p + n + 3) := hp2
                  have hp2N : p2 < N := by omega
                  clear hB2 hP2 hp2 hj2
                  cases u2 with
                  | true =>
                    have cX : w6.cell? ⟨lb, lo + j2, none⟩ = some (.int .i64 p2) := by have := HLw6.out j2 hj2L; rw [HP2.out] at this; exact this
                    have k0 := Inn.keep HSw6.out.box
                    have k1 := Inn.keep cX
                    haveI := inn_ne w6
                    have HA : Hid (∀ x : Inn w6, Calls Try.prog 37 #[.agg #[.slice (some ⟨b, o, none⟩) N cap], .int .i64 p2] x.val fun e w' => e = .returned (bv (some (n2, true))) ∧ Below x.val.heap.size x.val w') := fun x => by
                      have := specAt_any (some ⟨b, o, none⟩) N cap f p2 x.val (HSw6.out.rd.below x.bel) (by omega) (by omega)
                      rw [HB2'.out] at this
                      exact this
                    dsimp only [bv] at HA
                    go_wp2_with fail
                    refine wp_region_inn ?_ ?_ ?_
                    · kernel_rfl
                    · kernel_rfl
                    repeat (go_big_quiet_step (first
                      | (go_at_call 37; exact calls_inn (HA.out _))))
                    refine wpQuiet_nil ?_
                    rintro w8 ⟨x2, h2⟩
                    have hb2 : Below w6.heap.size w6 w8 := by rw [h2]; exact x2.bel
                    have HSw8 : Hid (AlS w w8 b o N cap f g cc B2 f) := HSw6.out.call hb2
                    have HLw8 : Hid (∀ j, j < L → w8.cell? ⟨lb, lo + j, none⟩ = some (.int .i64 (bs.getD j 0 : Nat))) := fun j hj => (hb2.cell (p := ⟨lb, lo + j, none⟩) (World.block_lt_of_cell? w6 _ (HLw6.out j hj))).trans (HLw6.out j hj)
                    have HBw8 : Hid (Below w4.heap.size w4 w8) := below_join HBw6.out hb2
                    clear h2 x2 hb2 k0 k1 HA
                    clear V1 V2 V3
                    have q2 := HSw8.out.outb
                    have HF : Hid (Ints w8 g 0 N f) := HSw8.out.ints
                    go_wp2_with fail
                    have hp2 := HP2E.out
                    refine (lay_any' g 0 N cc f w8 HF.out (p1) (p + n - (p1)) _ _ (by omega) (by omega) false (by omega) (by omega)).mono ?_
                    rintro e w9 ⟨⟨v, rfl⟩, ht9, hi9⟩
                    have HS9 : Hid (AlS w w9 b o N cap f g cc B2 (layF f (p1) (p + n - (p1)) false)) := HSw8.out.lay ht9 hi9
                    clear ht9 hi9 HF q2
                    have HREL : Hid (RelR f N p (layF f (p1) (p + n - (p1)) false) 0) := by
                      obtain ⟨A, A', B, B', hg⟩ := rel_make (Q := p1) (k := p + n - (p1)) HY.out HMK.out HPMB.out HBM.out (by simpa using HAH.out) (.inl ⟨by omega, .inr ⟨n2, by rw [← HP2E.out]; exact HB2'.out⟩⟩)
                      exact .inr (.inr ⟨rfl, HY.out, p, A, A', n, B, B', _, _, rfl, hg⟩)
                    have q1 := HS9.out.res
                    have f1 := HS9.out.resf
                    have q2 := HS9.out.outb
                    go_wp2_with fail
                    exact bodyPost_ret (v := .tuple #[.agg #[.slice (some ⟨g, 0, none⟩) N cc], .int .i64 0]) (by simp [results, Try.results9, go_sem, q1]) rfl ⟨g, cc, 0, _, rfl, HS9.out.fin _, HREL.out⟩
                  | false =>
                    have cX : w6.cell? ⟨lb, lo + j2, none⟩ = some (.int .i64 p2) := by have := HLw6.out j2 hj2L; rw [HP2.out] at this; exact this
                    have k0 := Inn.keep HSw6.out.box
                    have k1 := Inn.keep cX
                    haveI := inn_ne w6
                    have HA : Hid (∀ x : Inn w6, Calls Try.prog 37 #[.agg #[.slice (some ⟨b, o, none⟩) N cap], .int .i64 p2] x.val fun e w' => e = .returned (bv (some (n2, false))) ∧ Below x.val.heap.size x.val w') := fun x => by
                      have := specAt_any (some ⟨b, o, none⟩) N cap f p2 x.val (HSw6.out.rd.below x.bel) (by omega) (by omega)
                      rw [HB2'.out] at this
                      exact this
                    dsimp only [bv] at HA
                    go_wp2_with fail
                    refine wp_region_inn ?_ ?_ ?_
                    · kernel_rfl
                    · kernel_rfl
                    repeat (go_big_quiet_step (first
                      | (go_at_call 37; exact calls_inn (HA.out _))))
                    refine wpQuiet_nil ?_
                    rintro w8 ⟨x2, h2⟩
                    have hb2 : Below w6.heap.size w6 w8 := by rw [h2]; exact x2.bel
                    have HSw8 : Hid (AlS w w8 b o N cap f g cc B2 f) := HSw6.out.call hb2
                    have HLw8 : Hid (∀ j, j < L → w8.cell? ⟨lb, lo + j, none⟩ = some (.int .i64 (bs.getD j 0 : Nat))) := fun j hj => (hb2.cell (p := ⟨lb, lo + j, none⟩) (World.block_lt_of_cell? w6 _ (HLw6.out j hj))).trans (HLw6.out j hj)
                    have HBw8 : Hid (Below w4.heap.size w4 w8) := below_join HBw6.out hb2
                    clear h2 x2 hb2 k0 k1 HA
                    clear V1 V2 V3
                    have q2 := HSw8.out.outb
                    have HF : Hid (Ints w8 g 0 N f) := HSw8.out.ints
                    go_wp2_with fail
                    have hp2 := HP2E.out
                    refine (lay_any' g 0 N cc f w8 HF.out (p1) (p + n + n2 + 3 - (p1)) _ _ (by omega) (by omega) false (by omega) (by omega)).mono ?_
                    rintro e w9 ⟨⟨v, rfl⟩, ht9, hi9⟩
                    have HS9 : Hid (AlS w w9 b o N cap f g cc B2 (layF f (p1) (p + n + n2 + 3 - (p1)) false)) := HSw8.out.lay ht9 hi9
                    clear ht9 hi9 HF q2
                    have HREL : Hid (RelR f N p (layF f (p1) (p + n + n2 + 3 - (p1)) false) 0) := by
                      obtain ⟨A, A', B, B', hg⟩ := rel_make (Q := p1) (k := p + n + n2 + 3 - (p1)) HY.out HMK.out HPMB.out HBM.out (by simpa using HAH.out) (.inr ⟨n2, by rw [← HP2E.out]; exact HB2'.out, by omega⟩)
                      exact .inr (.inr ⟨rfl, HY.out, p, A, A', n, B, B', _, _, rfl, hg⟩)
                    have q1 := HS9.out.res
                    have f1 := HS9.out.resf
                    have q2 := HS9.out.outb
                    go_wp2_with fail
                    exact bodyPost_ret (v := .tuple #[.agg #[.slice (some ⟨g, 0, none⟩) N cc], .int .i64 0]) (by simp [results, Try.results9, go_sem, q1]) rfl ⟨g, cc, 0, _, rfl, HS9.out.fin _, HREL.out⟩
                · have V3 : ¬ ((m : Int) + 1 < (L : Int)) := by omega
                  have q2 := HSw6.out.outb
                  have HF : Hid (Ints w6 g 0 N f) := HSw6.out.ints
                  go_wp2_with fail
                  refine (lay_any' g 0 N cc f w6 HF.out (p1) (p + n - (p1)) _ _ (by omega) (by omega) false (by omega) (by omega)).mono ?_
                  rintro e w9 ⟨⟨v, rfl⟩, ht9, hi9⟩
                  have HS9 : Hid (AlS w w9 b o N cap f g cc B2 (layF f (p1) (p + n - (p1)) false)) := HSw6.out.lay ht9 hi9
                  clear ht9 hi9 HF q2
                  have HREL : Hid (RelR f N p (layF f (p1) (p + n - (p1)) false) 0) := by
                    obtain ⟨A, A', B, B', hg⟩ := rel_make (Q := p1) (k := p + n - (p1)) HY.out HMK.out HPMB.out HBM.out (by simpa using HAH.out) (.inl ⟨by omega, .inl (by have := HKL.out; omega)⟩)
                    exact .inr (.inr ⟨rfl, HY.out, p, A, A', n, B, B', _, _, rfl, hg⟩)
                  have q1 := HS9.out.res
                  have f1 := HS9.out.resf
                  have q2 := HS9.out.outb
                  go_wp2_with fail
                  exact bodyPost_ret (v := .tuple #[.agg #[.slice (some ⟨g, 0, none⟩) N cc], .int .i64 0]) (by simp [results, Try.results9, go_sem, q1]) rfl ⟨g, cc, 0, _, rfl, HS9.out.fin _, HREL.out⟩
          · have hpx' : ((p : Int) == x) = false := by simpa using hpx
            go_wp2_with fail
            go_roundw
            case rel => exact ⟨m + 1, by omega, by go_num, HNO.out (fun _ => hpx), HBw5.out⟩
            case measure => simp [intOf]; omega
      · have HNONE : Hid (∀ b ∈ bk f N 0, b.2.2 = true → (b.1 : Int) ≠ x) := fun b hb hu => HLS.out b (by have := HKL.out; rw [List.take_of_length_le (by omega)]; exact hb) hu
        have q1 := HSwr.out.res
        have f1 := HSwr.out.resf
        have q2 := HSwr.out.outb
        go_wp2_with fail
        exact bodyPost_ret (v := .tuple #[.agg #[.slice (some ⟨g, 0, none⟩) N cc], .int .i64 2]) (by simp [results, Try.results9, go_sem, q1]) rfl ⟨g, cc, 2, _, rfl, HSwr.out.fin _, .inr (.inl ⟨rfl, HY.out, HNONE.out, rfl⟩)⟩
  · have hy' : (y == -1) = false := by simpa using hy
    have q1 := HS3.out.res
    have f1 := HS3.out.resf
    have q2 := HS3.out.outb
    go_wp2_with fail
    exact bodyPost_ret (v := .tuple #[.agg #[.slice (some ⟨g, 0, none⟩) N cc], .int .i64 3]) (by simp [results, Try.results9, go_sem, q1]) rfl ⟨g, cc, 3, _, rfl, HS3.out.fin _, .inl ⟨rfl, fun h => hy (HY.out.symm.trans h), rfl⟩⟩
end Go.Proofs.Ytmongbpdbcbhlaa
