/-
  What the specification's FreeWords answers.
-/
import Derived.Test.YtejhfoahpopeoabItD
import Derived.Test.YtejhfoahpopeoabInn
namespace Go.Proofs.Ytejhfoahpopeoab
open Go.RowKit
set_option linter.unusedVariables false

/-- What stands while a list of places is gone through. -/
structure Gw (w wr : World) (ao : Option Addr) (N cap : Nat) (f : Nat → Int) (la : Option Addr) (L : Nat) (h : Nat → Int) : Prop where
  below : Below w.heap.size w wr
  box : wr.cell? ⟨w.heap.size, 0, none⟩ = some (.slice ao N cap)
  rd : Rd wr ao N f
  list : Rd wr la L h
theorem Gw.call {w wr w1 : World} {ao : Option Addr} {N cap : Nat} {f : Nat → Int} {la : Option Addr} {L : Nat} {h : Nat → Int} (s : Gw w wr ao N cap f la L h) (hb : Below wr.heap.size wr w1) : Gw w w1 ao N cap f la L h :=
  ⟨below_join s.below hb, (hb.cell (p := ⟨w.heap.size, 0, none⟩) (World.block_lt_of_cell? wr _ s.box)).trans s.box, s.rd.below hb, s.list.below hb⟩

set_option maxHeartbeats 2000000 in
set_option maxRecDepth 100000 in
theorem specFree_any (ao : Option Addr) (N cap : Nat) (f : Nat → Int) (w : World) (hr : Rd w ao N f) (hN : N ≤ 1048576) :
    Calls Try.prog 22 #[.agg #[.slice ao N cap]] w fun e w' => e = .returned (.int .i64 (fsum (fk f N) : Nat)) ∧ Below w.heap.size w w' := by
  have HR : Hid (Rd w ao N f) := hr
  clear hr
  go_enter Try.func22, Try.ntmps22
  go_wp2_with fail
  have hb0 := (Below.refl w.heap.size w).alloc (Nat.le_refl _) (.cells #[.slice ao N cap] 26)
  have b0 : (w.alloc (.cells #[.slice ao N cap] 26)).cell? ⟨w.heap.size, 0, none⟩ = some (.slice ao N cap) := World.cell?_alloc_new w _ _ 0
  refine (specBlocks_any ao N cap f _ (HR.out.below hb0) hN).mono ?_
  rintro e w1 ⟨v, rfl, hpl, hb1⟩
  obtain ⟨la, lc, rfl, h1, h2, h3, hrl⟩ := hpl.slice
  have HG0 : Hid (Gw w w1 ao N cap f la (bls f N 0).length (fun j => ((bls f N 0).getD j 0 : Nat))) :=
    ⟨below_join hb0 hb1, (hb1.cell (p := ⟨w.heap.size, 0, none⟩) (World.block_lt_of_cell? _ _ b0)).trans b0, HR.out.below (below_join hb0 hb1), hrl⟩
  have hlen := bk_len4 f N
  have HNT : Hid (∀ m, m < (bk f N 0).length → ∃ p n u, (bls f N 0).getD m 0 = p ∧ blkO f N p = some (n, u) ∧ (bk f N 0).take (m + 1) = (bk f N 0).take m ++ [(p, n, u)] ∧ n ≤ 4000 ∧ p + n + 3 ≤ N) := bk_nth f N
  have HFK : Hid (fk f N = (bk f N 0).filter isFree) := by show _ = _; rfl
  rw [bk_len] at HG0 ⊢
  clear hpl hb1 h3 hrl hb0 h1 h2 b0
  obtain ⟨L, hL⟩ : ∃ L, L = (bk f N 0).length := ⟨_, rfl⟩
  rw [← hL] at HG0 HNT hlen ⊢
  have HLL : Hid (L = (bk f N 0).length) := hL
  clear hL
  generalize bls f N 0 = bs at *
  generalize bk f N 0 = K at *
  go_wp2_with fail
  go_loopw [4, 5] (fun v i wr => ∃ (m : Nat), m ≤ L ∧ i = .int .i64 m ∧ v = .int .i64 (fsum ((K.take m).filter isFree) : Nat) ∧ fsum ((K.take m).filter isFree) ≤ m * 4000 ∧ Gw w wr ao N cap f la L (fun j => (bs.getD j 0 : Nat))) (fun _ i _ => L - (intOf i).toNat)
  case atStart => exact ⟨0, Nat.zero_le _, rfl, by simp [fsum], by simp [fsum], HG0.out⟩
  case round =>
    obtain ⟨m, hm, rfl, rfl, hsum, hg⟩ := hrel
    have HG : Hid (Gw w wr ao N cap f la L (fun j => (bs.getD j 0 : Nat))) := hg
    have b0 := hg.box
    by_cases hlt : m < L
    · obtain ⟨lb, lo, rfl, hcl⟩ := hg.list (by omega)
      have cm : wr.cell? ⟨lb, lo + m, none⟩ = some (.int .i64 (bs.getD m 0 : Nat)) := hcl m hlt
      obtain ⟨p, n, u, hp, hB, htk, hn4, hfit⟩ := HNT.out m hlt
      rw [hp] at cm
      have HA : Hid (∀ x : Inn wr, Calls Try.prog 24 #[.agg #[.slice ao N cap], .int .i64 p] x.val fun e w' => e = .returned (bv (some (n, u))) ∧ Below x.val.heap.size x.val w') := fun x => by
        have := specAt_any ao N cap f p x.val (HG.out.rd.below x.bel) hN (by omega)
        rw [hB] at this
        exact this
      dsimp only [bv] at HA
      have HTK : Hid (K.take (m + 1) = K.take m ++ [(p, n, u)]) := htk
      have k0 := Inn.keep b0
      have k1 := Inn.keep cm
      haveI := inn_ne wr
      clear hg hcl hp hB htk
      obtain ⟨s, hs⟩ : ∃ s, s = fsum ((K.take m).filter isFree) := ⟨_, rfl⟩
      have HS : Hid (s = fsum ((K.take m).filter isFree)) := hs
      rw [← hs] at hsum ⊢
      clear hs
      cases u with
      | false =>
        have HS2 : Hid (fsum ((K.take (m + 1)).filter isFree) = s + n) := by show _ = _; rw [HTK.out, HS.out]; simp [fsum, isFree]
        go_wp2_with fail
        refine wp_region_inn ?_ ?_ ?_
        · kernel_rfl
        · kernel_rfl
        repeat (go_big_quiet_step (first
          | (go_at_call 24; exact calls_inn (HA.out _))))
        refine wpQuiet_nil ?_
        rintro w2 ⟨x2, h2⟩
        have hb2 : Below wr.heap.size wr w2 := by rw [h2]; exact x2.bel
        have HG2 : Hid (Gw w w2 ao N cap f (some ⟨lb, lo, none⟩) L (fun j => (bs.getD j 0 : Nat))) := HG.out.call hb2
        clear h2 x2 hb2 k0 k1 b0 cm HA
        go_wp2_with fail
        go_roundw
        case rel => exact ⟨m + 1, by omega, by go_num, by rw [HS2.out]; go_num, by rw [HS2.out]; omega, HG2.out⟩
        case measure => simp [intOf]; omega
      | true =>
        have HS2 : Hid (fsum ((K.take (m + 1)).filter isFree) = s) := by show _ = _; rw [HTK.out, HS.out]; simp [fsum, isFree]
        go_wp2_with fail
        refine wp_region_inn ?_ ?_ ?_
        · kernel_rfl
        · kernel_rfl
        repeat (go_big_quiet_step (first
          | (go_at_call 24; exact calls_inn (HA.out _))))
        refine wpQuiet_nil ?_
        rintro w2 ⟨x2, h2⟩
        have hb2 : Below wr.heap.size wr w2 := by rw [h2]; exact x2.bel
        have HG2 : Hid (Gw w w2 ao N cap f (some ⟨lb, lo, none⟩) L (fun j => (bs.getD j 0 : Nat))) := HG.out.call hb2
        clear h2 x2 hb2 k0 k1 b0 cm HA
        go_wp2_with fail
        go_roundw
        case rel => exact ⟨m + 1, by omega, by go_num, by rw [HS2.out], by rw [HS2.out]; omega, HG2.out⟩
        case measure => simp [intOf]; omega
    · have hme : m = K.length := by have := HLL.out; omega
      have HE : Hid (fsum (fk f N) = fsum ((K.take m).filter isFree)) := by show _ = _; rw [HFK.out, hme, List.take_length]
      clear hg hme
      go_wp2_with fail
      go_ret
      exact ⟨ret_int (by rw [HE.out]), HG.out.below⟩
end Go.Proofs.Ytejhfoahpopeoab
