/-
  The places of all blocks: what both kinds of Blocks answer.
-/
import Derived.Test.YtmongbpdbcbhlaaBlC
import Derived.OwnWalk
namespace Go.Proofs.Ytmongbpdbcbhlaa
open Go.RowKit
set_option linter.unusedVariables false

/-- The places of the blocks from p on. -/
noncomputable def bls (f : Nat → Int) (N : Nat) (p : Nat) : List Nat :=
  if p < N then (if (blkO f N p).isSome then p :: bls f N (p + (blkO f N p).elim 0 (·.1) + 3) else []) else []
termination_by N - p
theorem bls_cons {f : Nat → Int} {N p n : Nat} {u : Bool} (h : blkO f N p = some (n, u)) : bls f N p = p :: bls f N (p + n + 3) := by
  have hf := (blkO_of h).fit
  rw [bls, if_pos (by omega), h]
  simp
theorem bls_nil {f : Nat → Int} {N p : Nat} (h : blkO f N p = none) : bls f N p = [] := by
  rw [bls, h]
  simp
theorem blkO_end {f : Nat → Int} {N p : Nat} (h : ¬ p < N) : blkO f N p = none := blkO_none fun n u hB => h (by have := hB.fit; omega)

/-- The value v is a list of its own of these places. -/
def Places (w : World) (base : Nat) (v : Value) (l : List Nat) : Prop := w.ownsRow base 3 1 v l.length (l.map fun (x : Nat) => Value.int .i64 x)
theorem Places.kept {w w' : World} {base : Nat} {v : Value} {l : List Nat} (h : Places w base v l) (hb : Below w.heap.size w w') : Places w' base v l :=
  World.ownsRow.kept h ⟨hb.os, hb.tape, hb.output, hb.size, fun k hk _ => hb.block k hk⟩ (row := none) (by cases hv : v.ownBlock <;> simp)
theorem Places.slice {w : World} {base : Nat} {v : Value} {l : List Nat} (h : Places w base v l) : ∃ ao cap, v = .slice ao l.length cap ∧ l.length ≤ cap ∧ cap ≤ maxLen ∧ (∀ a, ao = some a → base ≤ a.block) ∧ Rd w ao l.length (fun j => (l.getD j 0 : Nat)) := by
  rcases h.2 with ⟨rfl, hn⟩ | ⟨g, cap, cur, rfl, hb, hg, hc, hm, hs, ht⟩
  · refine ⟨none, 0, by rw [hn], by omega, Nat.zero_le _, fun a e => (by cases e), fun hne => absurd hn hne⟩
  · refine ⟨_, cap, rfl, hc, hm, fun a e => (by cases e; exact hb), fun _ => ⟨g, 0, rfl, fun j hj => ?_⟩⟩
    have hc := h.cells (g := g) rfl j (.int .i64 (l.getD j 0 : Nat)) (by simp [hj])
    rw [Addr.add_lit] at hc
    exact hc

theorem Places.base {w : World} {base b2 : Nat} {v : Value} {l : List Nat} (h : Places w base v l) (hb : b2 ≤ base) : Places w b2 v l := by
  refine ⟨h.1, ?_⟩
  rcases h.2 with hn | ⟨g, cap, cur, e, hg, rest⟩
  · exact .inl hn
  · exact .inr ⟨g, cap, cur, e, Nat.le_trans hb hg, rest⟩

theorem news1 (w : World) (v : Value) (t : TypeId) : ∀ j u, [v][j]? = some u → (w.alloc (.cells #[v] t)).cell? ((⟨w.heap.size, 0, none⟩ : Addr).add j) = some u := fun j u hu => by
  rw [Addr.add_lit]
  match j, hu with
  | 0, hu => simp at hu; subst hu; exact World.cell?_alloc_new w _ _ 0
theorem one1 (x : Int) : ∀ u ∈ [Value.int .i64 x], u.oneCell' = true := fun u hu => by simp at hu; subst hu; rfl
theorem places_snoc {w : World} {base : Nat} {v : Value} {l : List Nat} {p : Nat} (h : w.ownsRow base 3 1 v (l.length + 1) ((l.map fun (x : Nat) => Value.int .i64 x) ++ [.int .i64 p])) : Places w base v (l ++ [p]) := by
  unfold Places
  rw [List.length_append, List.map_append]
  exact h

set_option maxHeartbeats 2000000 in
set_option maxRecDepth 100000 in
theorem specBlocks_any (ao : Option Addr) (N cap : Nat) (f : Nat → Int) (w : World) (hr : Rd w ao N f) (hN : N ≤ 1048576) :
    Calls Try.prog 36 #[.agg #[.slice ao N cap]] w fun e w' => ∃ v, e = .returned v ∧ Places w' w.heap.size v (bls f N 0) ∧ Below w.heap.size w w' := by
  have HR : Hid (Rd w ao N f) := hr
  clear hr
  obtain ⟨i0, hi, hz0, hz1, hz2⟩ := info_parts infoInt
  have HI : Hid (Try.prog.info? 3 = some i0 ∧ i0.zero = some (.int .i64 0) ∧ i0.size = 1 ∧ i0.bytes = 8) := ⟨hi, hz0, hz1, hz2⟩
  clear hi hz0 hz1 hz2
  go_enter Try.func36, Try.ntmps36
  go_wp2_with fail
  have hz : (w.alloc (.cells #[.slice ao N cap] 26)).heap.size = w.heap.size + 1 := World.size_alloc _ _
  have hst : Places ((w.alloc (.cells #[.slice ao N cap] 26)).alloc (.cells #[] 3)) (w.heap.size + 1) (.slice (some ⟨w.heap.size + 1, 0, none⟩) 0 0) [] := by
    have := World.ownsRow_made (base := w.heap.size + 1) (e := 3) (size := 1) (w.alloc (.cells #[.slice ao N cap] 26)) #[] 0 (Nat.le_of_eq hz.symm) (Nat.zero_le _) rfl
    rw [hz] at this
    exact this
  have hb0 : (w.alloc (.cells #[.slice ao N cap] 26)).cell? ⟨w.heap.size, 0, none⟩ = some (.slice ao N cap) := World.cell?_alloc_new w _ _ 0
  have hbw : Below w.heap.size w (w.alloc (.cells #[.slice ao N cap] 26)) := (Below.refl _ _).alloc (Nat.le_refl _) _
  have hbl : Below (w.heap.size + 1) (w.alloc (.cells #[.slice ao N cap] 26)) ((w.alloc (.cells #[.slice ao N cap] 26)).alloc (.cells #[] 3)) := (Below.refl _ _).alloc (Nat.le_of_eq hz.symm) _
  generalize (w.alloc (.cells #[.slice ao N cap] 26)) = W0 at hz hst hb0 hbw hbl ⊢
  have HS : Hid (Places (W0.alloc (.cells #[] 3)) (w.heap.size + 1) (.slice (some ⟨w.heap.size + 1, 0, none⟩) 0 0) [] ∧ Below (w.heap.size + 1) W0 (W0.alloc (.cells #[] 3))) := ⟨hst, hbl⟩
  have HB0 : Hid (W0.cell? ⟨w.heap.size, 0, none⟩ = some (.slice ao N cap) ∧ Below w.heap.size w W0 ∧ W0.heap.size = w.heap.size + 1) := ⟨hb0, hbw, hz⟩
  clear hst hbl hb0 hbw hz
  go_loopw [3, 4] (fun v a wr => ∃ (p : Nat) (l : List Nat), p ≤ N ∧ l.length ≤ p ∧ a = .int .i64 p ∧ Places wr (w.heap.size + 1) v l ∧ Below (w.heap.size + 1) W0 wr ∧ l ++ bls f N p = bls f N 0) (fun _ a _ => N - (intOf a).toNat)
  case atStart => exact ⟨0, [], Nat.zero_le _, Nat.le_refl _, rfl, HS.out.1, HS.out.2, rfl⟩
  case round =>
    obtain ⟨p, l, hp, hl, rfl, hpl, hbl, hap⟩ := hrel
    obtain ⟨va, vc, rfl, hvc⟩ := hpl.slice
    have HPL : Hid (Places wr (w.heap.size + 1) (.slice va l.length vc) l) := hpl
    have HBL : Hid (Below (w.heap.size + 1) W0 wr) := hbl
    have HAP : Hid (l ++ bls f N p = bls f N 0) := hap
    have hsz := hbl.size
    have b0 := (hbl.cell (p := ⟨w.heap.size, 0, none⟩) (Nat.lt_succ_self _)).trans HB0.out.1
    have hbww : Below w.heap.size w wr := HB0.out.2.1.trans (hbl.mono (Nat.le_succ _))
    have HRr : Hid (Rd wr ao N f) := HR.out.below hbww
    have HBW : Hid (Below w.heap.size w wr ∧ w.heap.size + 1 ≤ wr.heap.size) := ⟨hbww, by have := HB0.out.2.2; omega⟩
    clear hpl hbl hap hvc hbww hsz
    by_cases hlt : p < N
    · go_wp2_with fail
      refine (specAt_any ao N cap f p _ HRr.out hN (by omega)).mono ?_
      rintro e w1 ⟨rfl, hb1⟩
      have HPL1 : Hid (Places w1 (w.heap.size + 1) (.slice va l.length vc) l) := HPL.out.kept hb1
      have HBL1 : Hid (Below (w.heap.size + 1) W0 w1) := HBL.out.trans (hb1.mono HBW.out.2)
      have hs1 := hb1.size
      have HZ1 : Hid (w.heap.size + 1 ≤ w1.heap.size) := Nat.le_trans HBW.out.2 hs1
      clear hb1 hs1
      cases hB : blkO f N p with
      | none =>
        have HO : Hid (bls f N 0 = l) := by have := HAP.out; rw [bls_nil hB, List.append_nil] at this; exact this.symm
        clear hB
        dsimp only [bv]
        go_wp2_with fail
        go_ret
        refine ⟨_, rfl, ?_, HB0.out.2.1.trans (HBL1.out.mono (Nat.le_succ _))⟩
        rw [HO.out]
        exact HPL1.out.base (Nat.le_succ _)
      | some x =>
        obtain ⟨n, u⟩ := x
        have HB : Hid (Blk f N p n u ∧ bls f N p = p :: bls f N (p + n + 3)) := ⟨blkO_of hB, bls_cons hB⟩
        have hfit := (blkO_of hB).fit
        have h1 := (blkO_of hB).h1
        clear hB
        dsimp only [bv]
        have C1 : Hid (∀ j u, [Value.int .i64 (p : Int)][j]? = some u → (w1.alloc (.cells #[.int .i64 p] 3)).cell? ((⟨w1.heap.size, 0, none⟩ : Addr).add j) = some u) := news1 w1 _ _
        have C3 : Hid (l.length + 1 ≤ maxLen) := by show _ ≤ _; unfold maxLen; omega
        have C4 : Hid ((l.length + 1) * 8 ≤ 140737488355328) := by show _ ≤ _; omega
        have C5 : Hid (w.heap.size + 1 ≤ (w1.alloc (.cells #[.int .i64 p] 3)).heap.size) := by show _ ≤ _; rw [World.size_alloc]; have := HZ1.out; omega
        go_wp2_with (at_builtin; refine wpList_append_own _ rfl _ _ 24 rfl (w.heap.size + 1) 3 i0 (.int .i64 0) 1 8 undInts HI.out.1 HI.out.2.1 HI.out.2.2.1 HI.out.2.2.2 rfl Nat.zero_lt_one _ _ _ rfl (World.ownsRow.alloc HPL1.out _) ⟨w1.heap.size, 0, none⟩ 1 1 [.int .i64 p] rfl rfl C1.out (one1 _) C3.out C4.out C5.out ?_; intro v2 w2 hown2 hgr2 hnil2)
        have HPL2 : Hid (Places w2 (w.heap.size + 1) v2 (l ++ [p])) := places_snoc hown2
        have HBL2 : Hid (Below (w.heap.size + 1) W0 w2) := (HBL1.out.alloc HZ1.out _).grown hgr2 C5.out (fun k hk => (World.ownsRow.lt HPL1.out k hk).1)
        clear hown2 hgr2 hnil2
        go_wp2_with fail
        go_roundw
        case rel => exact ⟨p + n + 3, l ++ [p], hfit, by rw [List.length_append, List.length_singleton]; omega, by go_num, HPL2.out, HBL2.out, by rw [← HAP.out, HB.out.2, List.append_assoc]; rfl⟩
        case measure => simp [intOf]; omega
    · have HO : Hid (bls f N 0 = l) := by have := HAP.out; rw [bls_nil (blkO_end hlt), List.append_nil] at this; exact this.symm
      go_wp2_with fail
      go_ret
      refine ⟨_, rfl, ?_, HBW.out.1⟩
      rw [HO.out]
      exact HPL.out.base (Nat.le_succ _)

end Go.Proofs.Ytmongbpdbcbhlaa
