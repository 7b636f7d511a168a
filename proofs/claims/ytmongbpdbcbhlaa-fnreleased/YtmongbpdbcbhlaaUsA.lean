/-
  The places of the used blocks: what the specification's UsedBlocks answers.
-/
import Derived.Test.YtmongbpdbcbhlaaTiA
import Derived.Test.YtmongbpdbcbhlaaInn
import Derived.Deep.AppendLies
namespace Go.Proofs.Ytmongbpdbcbhlaa
open Go.RowKit
set_option linter.unusedVariables false

theorem bls_facts (f : Nat → Int) (N : Nat) : ∀ k p, N - p ≤ k → (∀ x ∈ bls f N p, x < N) ∧ (bls f N p).length * 4 ≤ N - p := by
  intro k
  induction k with
  | zero =>
    intro p h
    rw [bls_nil (blkO_end (by omega))]
    simp
  | succ k ih =>
    intro p h
    cases hB : blkO f N p with
    | none => rw [bls_nil hB]; simp
    | some x =>
      obtain ⟨n, u⟩ := x
      have h1 := (blkO_of hB).fit
      have h2 := (blkO_of hB).h1
      obtain ⟨i1, i2⟩ := ih (p + n + 3) (by omega)
      rw [bls_cons hB]
      refine ⟨fun x hx => ?_, ?_⟩
      · rcases List.mem_cons.1 hx with rfl | hx
        · omega
        · exact i1 x hx
      · rw [List.length_cons]; omega
theorem bls_lt (f : Nat → Int) (N : Nat) (j : Nat) (hj : j < (bls f N 0).length) : (bls f N 0).getD j 0 < N := by
  refine (bls_facts f N N 0 (by omega)).1 _ ?_
  rw [List.getD_eq_getElem?_getD, List.getElem?_eq_getElem hj]; exact List.getElem_mem hj
theorem bls_len (f : Nat → Int) (N : Nat) : (bls f N 0).length * 4 ≤ N := by have := (bls_facts f N N 0 (by omega)).2; omega

/-- What stands while the used ones are gathered in the block g: the arena in the box B0, all places. -/
structure Gat (w wr : World) (ao : Option Addr) (N cap : Nat) (f : Nat → Int) (la : Option Addr) (L : Nat) (h : Nat → Int) (g vc k : Nat) (xs : List Value) : Prop where
  below : Below w.heap.size w wr
  box : wr.cell? ⟨w.heap.size, 0, none⟩ = some (.slice ao N cap)
  rd : Rd wr ao N f
  list : Rd wr la L h
  own : wr.ownsRow (w.heap.size + 1) 3 1 (.slice (some ⟨g, 0, none⟩) k vc) k xs
  far : L ≠ 0 → ∀ a, la = some a → a.block ≠ g
  up : g < wr.heap.size

theorem Gat.call {w wr w1 : World} {ao : Option Addr} {N cap : Nat} {f : Nat → Int} {la : Option Addr} {L : Nat} {h : Nat → Int} {g vc k : Nat} {xs : List Value} (s : Gat w wr ao N cap f la L h g vc k xs) (hb : Below wr.heap.size wr w1) : Gat w w1 ao N cap f la L h g vc k xs :=
  ⟨below_join s.below hb, (hb.cell (p := ⟨w.heap.size, 0, none⟩) (World.block_lt_of_cell? wr _ s.box)).trans s.box, s.rd.below hb, s.list.below hb,
    World.ownsRow.kept s.own ⟨hb.os, hb.tape, hb.output, hb.size, fun k hk _ => hb.block k hk⟩ (row := none) (by simp [Value.ownBlock]), s.far, Nat.lt_of_lt_of_le s.up hb.size⟩
theorem Gat.grow {w wr w1 : World} {ao : Option Addr} {N cap : Nat} {f : Nat → Int} {la : Option Addr} {L : Nat} {h : Nat → Int} {g vc k g2 vc2 k2 : Nat} {xs ys : List Value} (s : Gat w wr ao N cap f la L h g vc k xs)
    (hr : Rd w ao N f) (hg : wr.grownBy w1 (some g)) (ho : w1.ownsRow (w.heap.size + 1) 3 1 (.slice (some ⟨g2, 0, none⟩) k2 vc2) k2 ys) (hat : some g = some g2 ∨ g2 = wr.heap.size) (hlt : g2 < w1.heap.size) : Gat w w1 ao N cap f la L h g2 vc2 k2 ys := by
  have hge : w.heap.size + 1 ≤ g := (World.ownsRow.lt s.own g rfl).1
  have hbw : Below w.heap.size w w1 := s.below.grown hg s.below.size (fun k hk => by injection hk with e; omega)
  refine ⟨hbw, ?_, hr.below hbw, fun hn => ?_, ho, fun hn a ha => ?_, hlt⟩
  · rw [World.grownBy.cell_far hg ⟨w.heap.size, 0, none⟩ (World.block_lt_of_cell? wr _ s.box) (fun e => by injection e with e; have e : w.heap.size = g := e; omega)]; exact s.box
  · obtain ⟨b, o, e, hc⟩ := s.list hn
    refine ⟨b, o, e, fun j hj => ?_⟩
    rw [World.grownBy.cell_far hg ⟨b, o + j, none⟩ (World.block_lt_of_cell? wr _ (hc j hj)) (fun q => s.far hn _ e (by injection q))]; exact hc j hj
  · rcases hat with hat | rfl
    · injection hat with hat; subst hat; exact s.far hn a ha
    · intro q
      obtain ⟨b, o, e, hc⟩ := s.list hn
      rw [ha] at e
      have := World.block_lt_of_cell? wr _ (hc 0 (by omega))
      cases e
      exact absurd q (Nat.ne_of_lt this)

set_option maxHeartbeats 2000000 in
set_option maxRecDepth 100000 in
theorem specUsed_any (ao : Option Addr) (N cap : Nat) (f : Nat → Int) (w : World) (hr : Rd w ao N f) (hN : N ≤ 1048576) :
    Calls Try.prog 61 #[.agg #[.slice ao N cap]] w fun e w' => ∃ v, e = .returned v ∧ Places w' w.heap.size v (usd (bk f N 0)) ∧ Below w.heap.size w w' := by
  have HR : Hid (Rd w ao N f) := hr
  clear hr
  obtain ⟨i0, hi, hz0, hz1, hz2⟩ := info_parts infoInt
  have HI : Hid (Try.prog.info? 3 = some i0 ∧ i0.zero = some (.int .i64 0) ∧ i0.size = 1 ∧ i0.bytes = 8) := ⟨hi, hz0, hz1, hz2⟩
  clear hi hz0 hz1 hz2
  go_enter Try.func61, Try.ntmps61
  go_wp2_with fail
  have hbw : Below w.heap.size w ((w.alloc (.cells #[.slice ao N cap] 26)).alloc (.cells #[] 3)) := ((Below.refl _ _).alloc (Nat.le_refl _) _).alloc (by simp) _
  refine (specBlocks_any ao N cap f _ (HR.out.below hbw) (by omega)).mono ?_
  rintro e w1 ⟨v, rfl, hpl, hb1⟩
  obtain ⟨la, lc, rfl, h1, h2, h3, hrl⟩ := hpl.slice
  have hsz : ((w.alloc (.cells #[.slice ao N cap] 26)).alloc (.cells #[] 3)).heap.size = w.heap.size + 2 := by simp
  rw [hsz] at h3
  have hz : (w.alloc (.cells #[.slice ao N cap] 26)).heap.size = w.heap.size + 1 := World.size_alloc _ _
  have hown0 : ((w.alloc (.cells #[.slice ao N cap] 26)).alloc (.cells #[] 3)).ownsRow (w.heap.size + 1) 3 1 (.slice (some ⟨w.heap.size + 1, 0, none⟩) 0 0) 0 [] := by
    have := World.ownsRow_made (base := w.heap.size + 1) (e := 3) (size := 1) (w.alloc (.cells #[.slice ao N cap] 26)) #[] 0 (Nat.le_of_eq hz.symm) (Nat.zero_le _) rfl
    rw [hz] at this
    exact this
  have hbox0 : ((w.alloc (.cells #[.slice ao N cap] 26)).alloc (.cells #[] 3)).cell? ⟨w.heap.size, 0, none⟩ = some (.slice ao N cap) := by
    rw [World.cell?_alloc_lt (h := by show w.heap.size < _; omega)]; exact World.cell?_alloc_new w _ _ 0
  obtain ⟨L, hL⟩ : ∃ L, L = (bls f N 0).length := ⟨_, rfl⟩
  have hlen := bls_len f N
  have hg0 : Gat w w1 ao N cap f la L (fun j => ((bls f N 0).getD j 0 : Nat)) (w.heap.size + 1) 0 0 [] :=
    ⟨below_join hbw hb1, (hb1.cell (p := ⟨w.heap.size, 0, none⟩) (by rw [hsz]; show w.heap.size < _; omega)).trans hbox0, HR.out.below (below_join hbw hb1), by rw [hL]; exact hrl,
      World.ownsRow.kept hown0 ⟨hb1.os, hb1.tape, hb1.output, hb1.size, fun k hk _ => hb1.block k hk⟩ (row := none) (by simp [Value.ownBlock]), fun _ a ha => by have := h3 a ha; omega, by have := hb1.size; omega⟩
  have HG0 : Hid (Gat w w1 ao N cap f la L (fun j => ((bls f N 0).getD j 0 : Nat)) (w.heap.size + 1) 0 0 []) := hg0
  have HNT : Hid (∀ m, m < L → ∃ p n u, (bls f N 0).getD m 0 = p ∧ blkO f N p = some (n, u) ∧ (bk f N 0).take (m + 1) = (bk f N 0).take m ++ [(p, n, u)] ∧ n ≤ 4000 ∧ p + n + 3 ≤ N) := fun m hm => bk_nth f N m (by rw [hL, bk_len] at hm; exact hm)
  have HKL : Hid (L = (bk f N 0).length) := by show _ = _; rw [hL, bk_len]
  have HLT : Hid (∀ j, j < L → (bls f N 0).getD j 0 < N) := fun j hj => bls_lt f N j (by omega)
  rw [← hL]
  rw [← hL] at h1 hlen
  clear hpl hb1 h3 hrl hsz hz hown0 hbox0 hg0 hbw hL
  generalize bls f N 0 = bs at *
  obtain ⟨K, hK⟩ : ∃ K, bk f N 0 = K := ⟨_, rfl⟩
  have HK0 : Hid (bk f N 0 = K) := hK
  rw [hK] at HNT HKL
  clear hK
  go_wp2_with fail
  go_loopw [3, 5] (fun v i wr => ∃ (m g vc : Nat) (l : List Nat), m ≤ L ∧ l.length ≤ m ∧ l = usd (K.take m) ∧ i = .int .i64 m ∧ v = .slice (some ⟨g, 0, none⟩) l.length vc ∧ Gat w wr ao N cap f la L (fun j => (bs.getD j 0 : Nat)) g vc l.length (l.map fun (x : Nat) => Value.int .i64 x)) (fun _ i _ => L - (intOf i).toNat)
  case atStart => exact ⟨0, w.heap.size + 1, 0, [], Nat.zero_le _, Nat.le_refl _, by simp [usd], rfl, rfl, HG0.out⟩
  case round =>
    obtain ⟨m, g, vc, l, hm, hl, hle, rfl, rfl, hg⟩ := hrel
    have HLE : Hid (l = usd (K.take m)) := hle
    clear hle
    have HG : Hid (Gat w wr ao N cap f la L (fun j => (bs.getD j 0 : Nat)) g vc l.length (l.map fun (x : Nat) => Value.int .i64 x)) := hg
    have b0 := hg.box
    by_cases hlt : m < L
    · obtain ⟨lb, lo, rfl, hcl⟩ := hg.list (by omega)
      have cm : wr.cell? ⟨lb, lo + m, none⟩ = some (.int .i64 (bs.getD m 0 : Nat)) := hcl m hlt
      have hpx := HLT.out m hlt
      have HRD : Hid (Rd wr ao N f) := hg.rd
      obtain ⟨p, n, u, hp, hB, htk, _, _⟩ := HNT.out m hlt
      have HTK : Hid (K.take (m + 1) = K.take m ++ [(p, n, u)]) := htk
      rw [hp] at cm hpx
      clear hg hcl hp htk
      have k0 := Inn.keep b0
      have k1 := Inn.keep cm
      haveI := inn_ne wr
      have HA : Hid (∀ x : Inn wr, Calls Try.prog 37 #[.agg #[.slice ao N cap], .int .i64 p] x.val fun e w' => e = .returned (bv (blkO f N p)) ∧ Below x.val.heap.size x.val w') := fun x => specAt_any ao N cap f p x.val (HRD.out.below x.bel) (by omega) (by omega)
      cases u with
      | false =>
        rw [hB] at HA
        dsimp only [bv] at HA
        clear hB
        go_wp2_with fail
        refine wp_region_inn ?_ ?_ ?_
        · kernel_rfl
        · kernel_rfl
        repeat (go_big_quiet_step (first
          | (go_at_call 37; exact calls_inn (HA.out _))))
        refine wpQuiet_nil ?_
        rintro w2 ⟨x2, h2⟩
        have hb2 : Below wr.heap.size wr w2 := by rw [h2]; exact x2.bel
        have HG2 : Hid (Gat w w2 ao N cap f (some ⟨lb, lo, none⟩) L (fun j => (bs.getD j 0 : Nat)) g vc l.length (l.map fun (x : Nat) => Value.int .i64 x)) := HG.out.call hb2
        have c2 := (hb2.cell (p := ⟨lb, lo + m, none⟩) (World.block_lt_of_cell? wr _ cm)).trans cm
        clear h2 x2 hb2 k0 k1 b0 cm
        clear c2
        go_wp2_with fail
        go_roundw
        case rel => exact ⟨m + 1, g, vc, l, by omega, by omega, by rw [HTK.out, usd_snoc_f]; exact HLE.out, by go_num, rfl, HG2.out⟩
        case measure => simp [intOf]; omega
      | true =>
        rw [hB] at HA
        dsimp only [bv] at HA
        clear hB
        go_wp2_with fail
        refine wp_region_inn ?_ ?_ ?_
        · kernel_rfl
        · kernel_rfl
        repeat (go_big_quiet_step (first
          | (go_at_call 37; exact calls_inn (HA.out _))))
        refine wpQuiet_nil ?_
        rintro w2 ⟨x2, h2⟩
        have hb2 : Below wr.heap.size wr w2 := by rw [h2]; exact x2.bel
        have HG2 : Hid (Gat w w2 ao N cap f (some ⟨lb, lo, none⟩) L (fun j => (bs.getD j 0 : Nat)) g vc l.length (l.map fun (x : Nat) => Value.int .i64 x)) := HG.out.call hb2
        have c2 := (hb2.cell (p := ⟨lb, lo + m, none⟩) (World.block_lt_of_cell? wr _ cm)).trans cm
        clear h2 x2 hb2 k0 k1 b0 cm
        have HZ2 : Hid (w.heap.size + 1 ≤ w2.heap.size) := by have h1 := HG2.out.up; have h2 := (World.ownsRow.lt HG2.out.own g rfl).1; show _ ≤ _; omega
        have C1 : Hid (∀ j u, [Value.int .i64 (p : Int)][j]? = some u → (w2.alloc (.cells #[.int .i64 p] 3)).cell? ((⟨w2.heap.size, 0, none⟩ : Addr).add j) = some u) := news1 w2 _ _
        have C3 : Hid (l.length + 1 ≤ maxLen) := by show _ ≤ _; unfold maxLen; omega
        have C4 : Hid ((l.length + 1) * 8 ≤ 140737488355328) := by show _ ≤ _; omega
        have C5 : Hid (w.heap.size + 1 ≤ (w2.alloc (.cells #[.int .i64 p] 3)).heap.size) := by show _ ≤ _; rw [World.size_alloc]; have := HZ2.out; omega
        go_wp2_with (at_builtin; refine wpList_append_lies _ rfl _ _ 24 rfl (w.heap.size + 1) 3 i0 (.int .i64 0) 1 8 undInts HI.out.1 HI.out.2.1 HI.out.2.2.1 HI.out.2.2.2 rfl Nat.zero_lt_one _ _ _ rfl (World.ownsRow.alloc HG2.out.own _) ⟨w2.heap.size, 0, none⟩ 1 1 [.int .i64 p] rfl rfl C1.out (one1 _) Nat.zero_lt_one C3.out C4.out C5.out _ rfl ?_; intro g3 vc3 w3 hown3 hgr3 hat3 hlt3)
        have HG3 : Hid (Gat w w3 ao N cap f (some ⟨lb, lo, none⟩) L (fun j => (bs.getD j 0 : Nat)) g3 vc3 (l ++ [p]).length ((l ++ [p]).map fun (x : Nat) => Value.int .i64 x)) := by
          have ha := HG2.out.call (w1 := w2.alloc (.cells #[.int .i64 p] 3)) ((Below.refl _ _).alloc (Nat.le_refl _) _)
          have := ha.grow HR.out hgr3 hown3 hat3 hlt3
          rw [List.length_append, List.map_append]
          exact this
        have elen : (l ++ [p]).length = l.length + 1 := by rw [List.length_append]; rfl
        have ELEN : Hid ((l ++ [p]).length = l.length + 1) := elen
        clear elen hown3 hgr3 hat3 hlt3 c2
        go_wp2_with fail
        go_roundw
        case rel => exact ⟨m + 1, g3, vc3, l ++ [p], by omega, by rw [ELEN.out]; omega, by rw [HTK.out, usd_snoc_t, ← HLE.out], by go_num, by rw [ELEN.out], HG3.out⟩
        case measure => simp [intOf]; omega
    · have HE : Hid (usd K = l) := by have h1 := HKL.out; show _ = _; rw [HLE.out, List.take_of_length_le (by omega)]
      clear hg
      go_wp2_with fail
      go_ret
      refine ⟨_, rfl, ?_, HG.out.below⟩
      rw [HK0.out, HE.out]
      exact Places.base HG.out.own (Nat.le_succ _)
end Go.Proofs.Ytmongbpdbcbhlaa
