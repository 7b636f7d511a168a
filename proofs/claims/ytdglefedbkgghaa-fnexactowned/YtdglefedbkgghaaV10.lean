/-
  At every system on heaps the program's Owned answers as the specification's (each used block is the home of just one cell, and each cell has one), and writes nothing into it: the law FnExactOwned returns true and its argument reads as before. No condition.
  (Ahead of it, in this text: Each used block is one cell's home, and each cell has one: told by the places put in order, and told by counting. What both kinds of Owned answer. The law FnExactOwned, walked.)
-/
import Derived.Test.YtdglefedbkgghaaV7
import Derived.Test.YtdglefedbkgghaaShelh
import Derived.Sort.OwnSortedInts
import Derived.Maps.AppendAt
import Derived.Laws.OwnMore
import Derived.Test.YtdglefedbkgghaaV3
import Derived.Deep.RegionHeld3
import Derived.Test.YtdglefedbkgghaaV8
import Derived.OpenShut
import Derived.ChangeOld
namespace Go.Proofs.Ytdglefedbkgghaa
open Go.RowKit
set_option linter.unusedVariables false

def ats (l : List Ce) : List Int := l.map (·.h)
noncomputable def usedL (f : Nat → Int) (N : Nat) : List Int := (usd (bk f N 0)).map fun (n : Nat) => (n : Int)
def srt (l : List Int) : List Int := l.mergeSort (fun x y => decide (x ≤ y))
noncomputable def ownedB (p : Hp) : Bool := decide (srt (ats p.cells) = usedL p.f p.N)

theorem seg_up {f : Nat → Int} {N : Nat} : ∀ {L : List (Nat × Nat × Bool)} {p q : Nat}, Seg f N p L q → L.Pairwise (fun a b => a.1 < b.1)
  | [], _, _, _ => List.Pairwise.nil
  | b :: L, p, q, ⟨h1, h2, h3⟩ => by
    refine List.Pairwise.cons (fun c hc => ?_) (seg_up h3)
    have := (h3.mem c hc).1
    omega
theorem used_up (f : Nat → Int) (N : Nat) : (usedL f N).Pairwise (fun a b => a < b) := by
  obtain ⟨q, hs, _⟩ := bk_all f N
  unfold usedL usd
  rw [List.pairwise_map, List.pairwise_map]
  refine ((seg_up hs).filter _).imp (fun h => ?_)
  omega
theorem used_nodup (f : Nat → Int) (N : Nat) : (usedL f N).Nodup := (used_up f N).imp (fun h => by omega)
theorem srt_eq {H U : List Int} (hU : U.Pairwise (fun a b => a < b)) : srt H = U ↔ (∀ h, h ∈ H → h ∈ U) ∧ ∀ u, u ∈ U → H.count u = 1 := by
  have hn : U.Nodup := hU.imp (fun h => by omega)
  have hp : (srt H).Perm H := List.mergeSort_perm H _
  constructor
  · intro e
    rw [e] at hp
    refine ⟨fun h hh => hp.mem_iff.2 hh, fun u hu => ?_⟩
    rw [← hp.count_eq, List.Nodup.count hn, if_pos hu]
  · rintro ⟨h1, h2⟩
    have hq : H.Perm U := by
      rw [List.perm_iff_count]
      intro a
      by_cases ha : a ∈ U
      · rw [h2 a ha, List.Nodup.count hn, if_pos ha]
      · rw [List.count_eq_zero.2 ha, List.count_eq_zero.2 (fun h => ha (h1 a h))]
    have h3 : (srt H).Pairwise (fun a b => a ≤ b) := by
      have := List.pairwise_mergeSort (le := fun (x y : Int) => decide (x ≤ y)) (fun a b c h4 h5 => by simp only [decide_eq_true_eq] at h4 h5 ⊢; omega) (fun a b => by simp only [Bool.or_eq_true, decide_eq_true_eq]; omega) H
      exact this.imp (fun h => by simpa using h)
    exact List.Perm.eq_of_pairwise (le := fun a b => a ≤ b) (fun a b _ _ h4 h5 => by omega) h3 (hU.imp (fun h => by omega)) (hp.trans hq)
theorem owned_iff (p : Hp) : ownedB p = true ↔ (∀ h, h ∈ ats p.cells → h ∈ usedL p.f p.N) ∧ ∀ u, u ∈ usedL p.f p.N → (ats p.cells).count u = 1 := by
  unfold ownedB
  rw [decide_eq_true_eq]
  exact srt_eq (used_up p.f p.N)
theorem used_len (f : Nat → Int) (N : Nat) : (usedL f N).length = (usd (bk f N 0)).length := by unfold usedL; rw [List.length_map]
theorem used_le (f : Nat → Int) (N : Nat) : (usedL f N).length ≤ N := by
  rw [used_len]
  have h1 := usd_len (bk f N 0)
  have h2 := bk_len4 f N
  omega
theorem srt_len (l : List Int) : (srt l).length = l.length := by unfold srt; simp
theorem ats_len (l : List Ce) : (ats l).length = l.length := by unfold ats; simp
theorem ats_take (l : List Ce) (k : Nat) (h : k < l.length) : ats (l.take (k + 1)) = ats (l.take k) ++ [l[k].h] := by
  unfold ats; rw [List.take_succ_eq_append_getElem h, List.map_append]; rfl

/-- Numbers that are read only, told as a list. -/
def RdL (w : World) (ao : Option Addr) (l : List Int) : Prop := l ≠ [] → ∃ b o, ao = some ⟨b, o, none⟩ ∧ ∀ j (hj : j < l.length), w.cell? ⟨b, o + j, none⟩ = some (.int .i64 l[j])
theorem RdL.below {w w' : World} {ao : Option Addr} {l : List Int} (h : RdL w ao l) (hb : Below w.heap.size w w') : RdL w' ao l := fun hn => by
  obtain ⟨b, o, e, hc⟩ := h hn
  exact ⟨b, o, e, fun j hj => by rw [hb.cell (p := ⟨b, o + j, none⟩) (World.block_lt_of_cell? w _ (hc j hj))]; exact hc j hj⟩
theorem Places.rdL {w : World} {base : Nat} {v : Value} {f : Nat → Int} {N : Nat} (h : Places w base v (usd (bk f N 0))) : ∃ ao cap, v = .slice ao (usedL f N).length cap ∧ RdL w ao (usedL f N) := by
  obtain ⟨ao, cap, rfl, _, _, _, hr⟩ := h.slice
  refine ⟨ao, cap, by rw [used_len], fun hn => ?_⟩
  have hl := used_len f N
  obtain ⟨b, o, e, hc⟩ := hr (fun h0 => hn (List.length_eq_zero_iff.1 (by omega)))
  refine ⟨b, o, e, fun j hj => ?_⟩
  have h1 := hc j (by omega)
  have h2 : (usedL f N)[j] = (((usd (bk f N 0)).getD j 0 : Nat) : Int) := by
    simp only [usedL, List.getElem_map]
    rw [List.getD_eq_getElem?_getD, List.getElem?_eq_getElem (by omega)]; rfl
  rw [h1, h2]

theorem bool_of {q : Bool} {p : Prop} [Decidable p] (h : q = decide p) : Ending.returned (.bool q) = .returned (.bool (decide p)) := by rw [h]
set_option maxHeartbeats 1000000 in
/-- slices.Equal at two lists of numbers. -/
theorem equalL_any (ao bo : Option Addr) (ca cb : Nat) (A B : List Int) (w : World) (ha : RdL w ao A) (hb : RdL w bo B) (hA : A.length ≤ 1048576) (hB : B.length ≤ 1048576) :
    Calls Try.prog 56 #[.slice ao A.length ca, .slice bo B.length cb] w fun e w' => e = .returned (.bool (decide (A = B))) ∧ Below w.heap.size w w' := by
  have HA : Hid (RdL w ao A) := ha
  have HB : Hid (RdL w bo B) := hb
  clear ha hb
  by_cases hlen : A.length = B.length
  · have e1 : (((A.length : Nat) : Int) != ((B.length : Nat) : Int)) = false := by rw [hlen]; simp
    have HLN : Hid (A.length = B.length) := hlen
    clear hlen
    go_enter Try.func56, Try.ntmps56
    go_wp2_with fail
    go_loopw [13] (fun i w' => ∃ m : Nat, m ≤ A.length ∧ i = .int .i64 m ∧ Below w.heap.size w w' ∧ A.take m = B.take m) (fun i _ => A.length - (intOf i).toNat)
    case atStart => exact ⟨0, Nat.zero_le _, by simp, Below.refl _ _, rfl⟩
    case round =>
      obtain ⟨m, hm, rfl, hbl, htk⟩ := hrel
      have HBL : Hid (Below w.heap.size w wr) := hbl
      have HTK : Hid (A.take m = B.take m) := htk
      clear htk
      by_cases hlt : m < A.length
      · have hlt' : m < B.length := by rw [← HLN.out]; exact hlt
        obtain ⟨b1, o1, rfl, c1⟩ := HA.out.below hbl (fun h => by rw [h] at hlt; simp at hlt)
        obtain ⟨b2, o2, rfl, c2⟩ := HB.out.below hbl (fun h => by rw [h] at hlt'; simp at hlt')
        have q1 := c1 m hlt
        have q2 := c2 m hlt'
        have HN : Hid (A[m] = B[m] → A.take (m + 1) = B.take (m + 1)) := fun h => by rw [List.take_succ_eq_append_getElem hlt, List.take_succ_eq_append_getElem hlt', HTK.out, h]
        have HU : Hid (A[m] ≠ B[m] → decide (A = B) = false) := fun h => decide_eq_false (fun e => by subst e; exact h rfl)
        clear c1 c2 hbl
        generalize A[m] = x at *
        generalize B[m] = y at *
        by_cases hxy : x = y
        · have HNN : Hid (A.take (m + 1) = B.take (m + 1)) := HN.out hxy
          subst hxy
          clear HN
          go_wp2_with fail
          go_quiet (fail)
          go_wp2_with fail
          go_roundw
          case rel => exact ⟨m + 1, by omega, by go_num, (by first | exact HBL.out.drew | exact below_drewN HBL.out _), HNN.out⟩
          case measure => simp [intOf]; omega
        · have e2 : (x != y) = true := by rw [bne_iff_ne]; exact hxy
          have HUU : Hid (decide (A = B) = false) := HU.out hxy
          clear hxy
          go_wp2_with fail
          go_quiet (fail)
          go_wp2_with fail
          go_ret
          exact ⟨by rw [HUU.out]; rfl, by first | exact HBL.out.drew | exact below_drewN HBL.out _⟩
      · have HE : Hid (decide (A = B) = true) := decide_eq_true (by
          have h := HTK.out
          rwa [List.take_of_length_le (by omega), List.take_of_length_le (by have := HLN.out; omega)] at h)
        clear hbl
        go_wp2_with fail
        go_ret
        exact ⟨by rw [HE.out]; rfl, HBL.out⟩
  · have e1 : (((A.length : Nat) : Int) != ((B.length : Nat) : Int)) = true := by rw [bne_iff_ne]; omega
    have HU : Hid (decide (A = B) = false) := decide_eq_false (fun e => by subst e; exact hlen rfl)
    clear hlen
    go_enter Try.func56, Try.ntmps56
    go_wp2_with fail
    go_ret
    exact ⟨by rw [HU.out]; rfl, Below.refl _ _⟩
set_option maxHeartbeats 1000000 in
theorem hasL_any (ao : Option Addr) (cap : Nat) (l : List Int) (x : Int) (w : World) (hr : RdL w ao l) (hN : l.length ≤ 1048576) :
    Calls Try.prog 33 #[.slice ao l.length cap, .int .i64 x] w fun e w' => e = .returned (.bool (decide (x ∈ l))) ∧ w' = w := by
  have HR : Hid (RdL w ao l) := hr
  clear hr
  go_enter Try.func33, Try.ntmps33
  go_wp2_with fail
  go_loop [5] (fun i => ∃ m : Nat, m ≤ l.length ∧ i = .int .i64 m ∧ x ∉ l.take m) (fun i => l.length - (intOf i).toNat)
  case atStart => exact ⟨0, Nat.zero_le _, rfl, by simp⟩
  case round =>
    obtain ⟨m, hm, rfl, ht⟩ := hrel
    have HT : Hid (x ∉ l.take m) := ht
    clear ht
    by_cases hlt : m < l.length
    · obtain ⟨b, o, rfl, hc⟩ := HR.out (fun h => by rw [h] at hlt; simp at hlt)
      have q := hc m hlt
      have HN1 : Hid (l[m] ≠ x → x ∉ l.take (m + 1)) := fun h h2 => by
        rw [List.take_succ_eq_append_getElem hlt] at h2
        rcases List.mem_append.1 h2 with h3 | h3
        · exact HT.out h3
        · simp at h3; exact h h3.symm
      have HY : Hid (l[m] = x → decide (x ∈ l) = true) := fun h => decide_eq_true (h ▸ List.getElem_mem hlt)
      clear hc
      generalize l[m] = y at *
      by_cases hxy : y = x
      · subst hxy
        have HYY : Hid (decide (y ∈ l) = true) := HY.out rfl
        go_wp2_with fail
        go_ret
        exact ⟨by rw [HYY.out]; rfl, rfl⟩
      · have e2 : (y == x) = false := by rw [beq_eq_false_iff_ne]; exact hxy
        have HNN : Hid (x ∉ l.take (m + 1)) := HN1.out hxy
        clear hxy
        go_wp2_with fail
        go_round
        case rel => exact ⟨m + 1, by omega, by go_num, HNN.out⟩
        case measure => simp [intOf]; omega
    · have HE : Hid (decide (x ∈ l) = false) := decide_eq_false (by have h := HT.out; rwa [List.take_of_length_le (by omega)] at h)
      go_wp2_with fail
      go_ret
      exact ⟨by rw [HE.out]; rfl, rfl⟩
end Go.Proofs.Ytdglefedbkgghaa
namespace Go.Proofs.Ytdglefedbkgghaa
open Go.RowKit Go.Sort Go.Shelf
open Go.Proofs.Ytdglefedbkgghaa.Code
set_option linter.unusedVariables false

abbrev intV : Int → Value := Value.int .i64
theorem hidH' {p : Prop} (h : p) : Hid p := h
theorem own_rdL {w : World} {base n : Nat} {v : Value} {zs : List Int} (hn : n = zs.length) (h : w.ownsRow base 3 1 v n (zs.map intV)) {ao : Option Addr} {c : Nat} (hv : v = .slice ao n c) : RdL w ao zs := fun hne => by
  subst hv
  rcases h.2 with ⟨h0, h1⟩ | ⟨g, cap, cur, e, hb, hg, hc, hm, hs, ht⟩
  · exact absurd (List.length_eq_zero_iff.1 (by omega)) hne
  · cases e
    refine ⟨g, 0, rfl, fun j hj => ?_⟩
    have hc := h.cells (g := g) rfl j (.int .i64 zs[j]) (by rw [List.getElem?_map, List.getElem?_eq_getElem hj]; rfl)
    rw [Addr.add_lit] at hc
    exact hc
theorem sortI_call (base g c n : Nat) (zs : List Int) (w : World) (hn : n = zs.length) (hl : zs.length ≤ 1048576) (h : w.ownsRow base 3 1 (.slice (some ⟨g, 0, none⟩) n c) n (zs.map intV)) :
    Calls Try.prog 55 #[.slice (some ⟨g, 0, none⟩) n c] w fun e w' => e = .returned (.tuple #[]) ∧ w'.ownsRow base 3 1 (.slice (some ⟨g, 0, none⟩) n c) n ((srt zs).map intV) ∧ w.grownBy w' (some g) ∧ base ≤ g := by
  subst hn
  rcases h.2 with ⟨h0, _⟩ | ⟨g', cap, cur, e, hg, hh, hn, hc, hsz, htk⟩
  · cases h0
  cases e
  have hk := AnyM.slices_Sort_int Try.sortA g 0 c zs w (holds_of_blockI hh (by simpa using htk)) (Array.getElem?_eq_some_iff.1 hh).1 (by omega)
  change Calls Try.prog 55 _ _ _ at hk
  refine hk.mono ?_
  rintro e w' ⟨rfl, m, os, rfl⟩
  exact ⟨rfl, ownsRow_sortedI (ts := srt zs) (srt_len zs) hg hh hn hc hsz, grownBy_sortedI _, hg⟩

set_option maxHeartbeats 4000000 in
set_option maxRecDepth 100000 in
theorem implHome_any (p : Hp) (h : Hw) (w : World) (hra : RdI w h.ra p.N p.f) (hre : RowC w h.ea p.cells) (hN : p.N ≤ 1048576) (hE : p.cells.length ≤ 1048576) (hcap : p.N ≤ h.rc) :
    Calls Try.prog 34 #[hpV p h] w fun e w' => e = .returned (.bool (ownedB p)) ∧ Below w.heap.size w w' := by
  have HOB : Hid (ownedB p = decide (srt (ats p.cells) = usedL p.f p.N)) := by show _ = _; rfl
  obtain ⟨B, hB⟩ : ∃ B, B = ownedB p := ⟨_, rfl⟩
  rw [← hB]
  rw [← hB] at HOB
  clear hB
  obtain ⟨code, atoms, N, f, cells, next, out, room⟩ := p
  obtain ⟨ca, cc, ta, tc, ao, cap, ea, ec, oa, oc⟩ := h
  have HR : Hid (Rd w ao N f) := hra
  have HE : Hid (RowC w ea cells) := hre
  dsimp only at hN hE hcap HOB ⊢
  clear hra hre
  obtain ⟨i0, hi, hz0, hz1, hz2⟩ := info_parts infoInt
  go_enter Try.func34, Try.ntmps34
  go_wp2_with fail
  obtain ⟨W0, hW0⟩ : ∃ W0, W0 = w.alloc (.cells #[.slice ca code.length cc, .slice ta atoms.length tc, .slice ao N cap, .slice ea cells.length ec, .int .i64 next, .slice oa out.length oc, .int .i64 room] 38) := ⟨_, rfl⟩
  have hs0 : W0.heap.size = w.heap.size + 1 := by rw [hW0, World.size_alloc]
  have hq0 : W0.cell? ⟨w.heap.size, 2, none⟩ = some (.slice ao N cap) := by rw [hW0, World.cell?_alloc_new]; rfl
  have hb0 : Below w.heap.size w W0 := by rw [hW0]; exact (Below.refl _ _).alloc (Nat.le_refl _) _
  rw [← hW0]
  have HW : Hid (∀ wc, Below (w.heap.size + 1) W0 wc → Below w.heap.size w wc ∧ wc.cell? ⟨w.heap.size, 2, none⟩ = some (.slice ao N cap)) := fun wc hb =>
    ⟨hb0.trans (hb.mono (Nat.le_succ _)), (hb.cell (p := ⟨w.heap.size, 2, none⟩) (Nat.lt_succ_self _)).trans hq0⟩
  have HZ0 : Hid (W0.heap.size = w.heap.size + 1) := hs0
  have HST : Hid ((W0.alloc (.cells #[] 3)).ownsRow (w.heap.size + 1) 3 1 (.slice (some ⟨w.heap.size + 1, 0, none⟩) 0 0) 0 ((ats (cells.take 0)).map intV) ∧ Below (w.heap.size + 1) W0 (W0.alloc (.cells #[] 3))) := by
    refine ⟨?_, (Below.refl _ _).alloc (by rw [hs0]; exact Nat.le_refl _) _⟩
    have := World.ownsRow_made (base := w.heap.size + 1) (e := 3) (size := 1) W0 #[] 0 (by omega) (Nat.zero_le _) rfl
    rw [hs0] at this
    simpa [ats] using this
  clear hW0 hq0 hb0 hs0
  try rw [HZ0.out]
  go_loopw [3, 10] (fun v i wr => ∃ (k g c : Nat), k ≤ cells.length ∧ i = .int .i64 k ∧ v = .slice (some ⟨g, 0, none⟩) k c ∧ wr.ownsRow (w.heap.size + 1) 3 1 (.slice (some ⟨g, 0, none⟩) k c) k ((ats (cells.take k)).map intV) ∧ Below (w.heap.size + 1) W0 wr) (fun v i wr => cells.length - (intOf i).toNat)
  case atStart => exact ⟨0, w.heap.size + 1, 0, Nat.zero_le _, rfl, rfl, HST.out.1, HST.out.2⟩
  case round =>
    obtain ⟨k, g, c, hk, rfl, rfl, hown, hbl⟩ := hrel
    have HG : Hid (wr.ownsRow (w.heap.size + 1) 3 1 (.slice (some ⟨g, 0, none⟩) k c) k ((ats (cells.take k)).map intV) ∧ Below (w.heap.size + 1) W0 wr) := ⟨hown, hbl⟩
    have HBW : Hid (Below w.heap.size w wr) := (HW.out wr hbl).1
    clear hown hbl
    by_cases hlt : k < cells.length
    · rcases HE.out.below HBW.out with h0 | ⟨b, o, rfl, hrow⟩
      · rw [h0] at hlt; simp at hlt
      obtain ⟨hh, hbx, _⟩ := hrow k hlt
      have HTK : Hid ((ats (cells.take (k + 1))).map intV = (ats (cells.take k)).map intV ++ [.int .i64 cells[k].h]) := by show _ = _; rw [ats_take cells k hlt, List.map_append]; rfl
      have hz := HG.out.2.size
      have hz0 := HZ0.out
      generalize cells[k] = x at hbx HTK
      obtain ⟨pid, pc, R, r1, B1, b1, M, fl, ha⟩ := x
      obtain ⟨xra, xrc, xba, xbc, xla, xlc⟩ := hh
      have d0 := hbx.c0
      have d1 := hbx.c1
      have d2 := hbx.c2
      have d3 := hbx.c3
      have d4 := hbx.c4
      have d5 := hbx.c5
      clear hbx hrow
      have hzr : w.heap.size + 1 ≤ wr.heap.size := by omega
      clear hz hz0
      go_wp2_with (at_builtin; refine wpList_append_own_at _ rfl _ _ 24 rfl (w.heap.size + 1) 3 i0 (.int .i64 0) 1 8 undInts hi hz0 hz1 hz2 rfl (by decide) (.slice (some ⟨g, 0, none⟩) k c) k ((ats (cells.take k)).map intV) rfl (World.ownsRow.alloc (World.ownsRow.alloc HG.out.1 _) _) ⟨wr.heap.size + 1, 0, none⟩ 1 1 [.int .i64 ha] rfl rfl (by first | exact news1 _ _ _ | (have := news1 (wr.alloc (.cells #[.int .i64 pid, .int .i64 pc, .slice xra R xrc, .slice xba B1 xbc, .slice xla M xlc, .int .i64 ha] 68)) (.int .i64 ha) 3; rw [World.size_alloc] at this; exact this)) (one1 _) (by unfold maxLen; omega) (by omega) (by simp only [World.size_alloc]; omega) ?_; intro v8 w9 hown8 hgr8 hnn8 hat8; have HO9 := hidH' hown8; have HG9 := hidH' hgr8; clear hown8 hgr8 hnn8 hat8)
      obtain ⟨g9, c9, rfl⟩ := ownsRow_succ HO9.out
      have HF : Hid (w9.ownsRow (w.heap.size + 1) 3 1 (.slice (some ⟨g9, 0, none⟩) (k + 1) c9) (k + 1) ((ats (cells.take (k + 1))).map intV) ∧ Below (w.heap.size + 1) W0 w9) := by
        refine ⟨by rw [HTK.out]; exact HO9.out, ?_⟩
        have h1 : Below (w.heap.size + 1) W0 ((wr.alloc (.cells #[.int .i64 pid, .int .i64 pc, .slice xra R xrc, .slice xba B1 xbc, .slice xla M xlc, .int .i64 ha] 68)).alloc (.cells #[.int .i64 ha] 3)) := (HG.out.2.alloc hzr _).alloc (by rw [World.size_alloc]; omega) _
        exact h1.grown HG9.out (by have e1 := h1.size; have e2 := HZ0.out; omega) (fun j hj => (HG.out.1.lt j hj).1)
      clear d0 d1 d2 d3 d4 d5 HO9 HG9
      go_wp2_with fail
      go_roundw
      case rel => exact ⟨k + 1, g9, c9, by omega, by go_num, rfl, HF.out.1, HF.out.2⟩
      case measure => simp [intOf]; omega
    · have hkl : k = cells.length := by omega
      have HTA : Hid (cells.take k = cells) := by show _ = _; rw [hkl, List.take_length]
      rw [HTA.out] at HG
      have HKL : Hid (k = (ats cells).length) := by show _ = _; rw [ats_len]; exact hkl
      have HSC : Hid (Calls Try.prog 55 #[.slice (some ⟨g, 0, none⟩) k c] wr fun e w' => e = .returned (.tuple #[]) ∧ w'.ownsRow (w.heap.size + 1) 3 1 (.slice (some ⟨g, 0, none⟩) k c) k ((srt (ats cells)).map intV) ∧ wr.grownBy w' (some g) ∧ w.heap.size + 1 ≤ g) := sortI_call (w.heap.size + 1) g c k (ats cells) wr HKL.out (by rw [ats_len]; exact hE) HG.out.1
      clear hkl
      go_wp2_with (go_at_call 55; fail)
      refine HSC.out.mono ?_
      rintro e w2 ⟨rfl, hown2, hgr2, hge2⟩
      have hb2 : Below (w.heap.size + 1) W0 w2 := HG.out.2.grown hgr2 (by have e1 := HG.out.2.size; have e2 := HZ0.out; omega) (fun j hj => by cases hj; exact hge2)
      have HL2 : Hid (RdL w2 (some ⟨g, 0, none⟩) (srt (ats cells)) ∧ Below w.heap.size w w2) := ⟨own_rdL (by rw [srt_len]; exact HKL.out) hown2 rfl, (HW.out w2 hb2).1⟩
      have q2 := (HW.out w2 hb2).2
      have HUS : Hid (Calls Try.prog 57 #[.agg #[.slice ao N cap]] w2 fun e w' => (∃ ua uc, e = .returned (.slice ua (usedL f N).length uc) ∧ RdL w' ua (usedL f N)) ∧ Below w2.heap.size w2 w') := (implUsed_any ao N cap f w2 (HR.out.below HL2.out.2) hN hcap).mono fun e w' ⟨v, h1, h2, h3⟩ => by
        obtain ⟨ua, uc, rfl, h4⟩ := h2.rdL
        exact ⟨⟨ua, uc, h1, h4⟩, h3⟩
      clear hown2 hgr2 hge2 hb2 HSC
      go_wp2_with (go_at_call 57; fail)
      refine HUS.out.mono ?_
      rintro e w3 ⟨⟨ua, uc, rfl, hu⟩, hb3⟩
      have HEQ : Hid (Calls Try.prog 56 #[.slice (some ⟨g, 0, none⟩) k c, .slice ua (usedL f N).length uc] w3 fun e w' => e = .returned (.bool B) ∧ Below w3.heap.size w3 w') := by
        have h1 := equalL_any (some ⟨g, 0, none⟩) ua c uc (srt (ats cells)) (usedL f N) w3 (HL2.out.1.below hb3) hu (by rw [srt_len, ats_len]; exact hE) (Nat.le_trans (used_le f N) hN)
        rw [← HOB.out, srt_len, ← HKL.out] at h1
        exact h1
      have HB3 : Hid (Below w.heap.size w w3) := HL2.out.2.trans (hb3.mono HL2.out.2.size)
      clear hu hb3 q2
      go_wp2_with (go_at_call 56; fail)
      refine HEQ.out.mono ?_
      rintro e w4 ⟨rfl, hb4⟩
      have HB4 : Hid (Below w.heap.size w w4) := HB3.out.trans (hb4.mono HB3.out.size)
      clear hb4
      go_wp2_with fail
      go_ret
      exact ⟨rfl, HB4.out⟩

set_option maxRecDepth 100000 in
theorem implOwned_any (p : Hp) (h : Hw) (w : World) (hr : HpR w p h) (hs : HpS p) (hcap : p.N ≤ h.rc) :
    Calls Try.prog 11 #[hpV p h] w fun e w' => e = .returned (.bool (ownedB p)) ∧ Below w.heap.size w w' := by
  have HC : Hid (∀ wc, Below w.heap.size w wc → Calls Try.prog 34 #[hpV p h] wc fun e w' => e = .returned (.bool (ownedB p)) ∧ Below wc.heap.size wc w') := fun wc hb => implHome_any p h wc (hr.arena.below hb) (hr.cells.below hb) hs.n hs.e hcap
  generalize ownedB p = B at *
  obtain ⟨code, atoms, N, f, cells, next, out, room⟩ := p
  obtain ⟨ca, cc, ta, tc, ao, cap, ea, ec, oa, oc⟩ := h
  clear hr hs hcap
  go_enter Try.func11, Try.ntmps11
  go_wp2_with (go_at_call 34; fail)
  have hb0 := (Below.refl w.heap.size w).alloc (Nat.le_refl _) (.cells #[.slice ca code.length cc, .slice ta atoms.length tc, .slice ao N cap, .slice ea cells.length ec, .int .i64 next, .slice oa out.length oc, .int .i64 room] 38)
  refine (HC.out _ hb0).mono ?_
  rintro e w1 ⟨rfl, hb1⟩
  have HB1 : Hid (Below w.heap.size w w1) := hb0.trans (hb1.mono hb0.size)
  clear hb0 hb1
  go_wp2_with fail
  go_ret
  exact ⟨rfl, HB1.out⟩

/-- The specification's: what stands while the cells and the used places are gone through. -/
structure Gy (w wr : World) (ao : Option Addr) (N cap : Nat) (ea : Option Addr) (ec : Nat) (cells : List Ce) (ua : Option Addr) (U : List Int) : Prop where
  below : Below w.heap.size w wr
  b2 : wr.cell? ⟨w.heap.size, 2, none⟩ = some (.slice ao N cap)
  b3 : wr.cell? ⟨w.heap.size, 3, none⟩ = some (.slice ea cells.length ec)
  row : RowC wr ea cells
  used : RdL wr ua U
theorem Gy.call {w wr w1 : World} {ao : Option Addr} {N cap : Nat} {ea : Option Addr} {ec : Nat} {cells : List Ce} {ua : Option Addr} {U : List Int} (s : Gy w wr ao N cap ea ec cells ua U) (hb : Below wr.heap.size wr w1) : Gy w w1 ao N cap ea ec cells ua U :=
  ⟨below_join s.below hb, (hb.cell (p := ⟨w.heap.size, 2, none⟩) (World.block_lt_of_cell? wr _ s.b2)).trans s.b2, (hb.cell (p := ⟨w.heap.size, 3, none⟩) (World.block_lt_of_cell? wr _ s.b3)).trans s.b3, s.row.below hb, s.used.below hb⟩
theorem count_take (l : List Int) (u : Int) (k : Nat) (x : Int) : (l ++ [x]).count u = l.count u + (if x = u then 1 else 0) := by
  rw [List.count_append, List.count_singleton]
  by_cases h : x = u
  · rw [if_pos h, if_pos (by simpa using h)]
  · rw [if_neg h, if_neg (by simpa using h)]

set_option maxHeartbeats 4000000 in
set_option maxRecDepth 100000 in
theorem specOwned_any (p : Hp) (h : Hw) (w : World) (hr : HpR w p h) (hs : HpS p) :
    Calls Try.prog 10 #[hpV p h] w fun e w' => e = .returned (.bool (ownedB p)) ∧ Below w.heap.size w w' := by
  have HOI : Hid (ownedB p = true ↔ (∀ h, h ∈ ats p.cells → h ∈ usedL p.f p.N) ∧ ∀ u, u ∈ usedL p.f p.N → (ats p.cells).count u = 1) := owned_iff p
  have hE := hs.e
  have hN := hs.n
  have HR : Hid (Rd w h.ra p.N p.f) := hr.arena
  have HE : Hid (RowC w h.ea p.cells) := hr.cells
  clear hr hs
  obtain ⟨B, hB⟩ : ∃ B, B = ownedB p := ⟨_, rfl⟩
  rw [← hB]
  rw [← hB] at HOI
  clear hB
  obtain ⟨code, atoms, N, f, cells, next, out, room⟩ := p
  obtain ⟨ca, cc, ta, tc, ao, cap, ea, ec, oa, oc⟩ := h
  dsimp only at HOI hE hN HR HE ⊢
  have HUN : Hid ((usedL f N).length ≤ N) := used_le f N
  go_enter Try.func10, Try.ntmps10
  go_wp2_with (go_at_call 32; fail)
  obtain ⟨W0, hW0⟩ : ∃ W0, W0 = w.alloc (.cells #[.slice ca code.length cc, .slice ta atoms.length tc, .slice ao N cap, .slice ea cells.length ec, .int .i64 next, .slice oa out.length oc, .int .i64 room] 38) := ⟨_, rfl⟩
  have hb0 : Below w.heap.size w W0 := by rw [hW0]; exact (Below.refl _ _).alloc (Nat.le_refl _) _
  have hq0 : ∀ x, W0.cell? ⟨w.heap.size, x, none⟩ = (#[.slice ca code.length cc, .slice ta atoms.length tc, .slice ao N cap, .slice ea cells.length ec, .int .i64 next, .slice oa out.length oc, .int .i64 room] : Array Value)[x]? := fun x => by rw [hW0, World.cell?_alloc_new]
  rw [← hW0]
  have HG0 : Hid (∀ w1 ua, Below W0.heap.size W0 w1 → RdL w1 ua (usedL f N) → Gy w w1 ao N cap ea ec cells ua (usedL f N)) := fun w1 ua hb hu =>
    ⟨hb0.trans (hb.mono hb0.size), (hb.cell (p := ⟨w.heap.size, 2, none⟩) (World.block_lt_of_cell? W0 _ (hq0 2))).trans (hq0 2), (hb.cell (p := ⟨w.heap.size, 3, none⟩) (World.block_lt_of_cell? W0 _ (hq0 3))).trans (hq0 3), HE.out.below (hb0.trans (hb.mono hb0.size)), hu⟩
  have HUS : Hid (Calls Try.prog 32 #[.agg #[.slice ao N cap]] W0 fun e w' => (∃ ua uc, e = .returned (.slice ua (usedL f N).length uc) ∧ RdL w' ua (usedL f N)) ∧ Below W0.heap.size W0 w') := (specUsed_any ao N cap f W0 (HR.out.below hb0) hN).mono fun e w' ⟨v, h1, h2, h3⟩ => by
    obtain ⟨ua, uc, rfl, h4⟩ := h2.rdL
    exact ⟨⟨ua, uc, h1, h4⟩, h3⟩
  clear hW0 hq0 hb0 HE HR
  refine HUS.out.mono ?_
  rintro e w1 ⟨⟨ua, uc, rfl, hu⟩, hb1⟩
  have HG1 : Hid (Gy w w1 ao N cap ea ec cells ua (usedL f N)) := HG0.out w1 ua hb1 hu
  have hUL : (usedL f N).length ≤ 1048576 := Nat.le_trans HUN.out hN
  clear hu hb1 HG0 HUS HUN
  generalize usedL f N = U at *
  go_wp2_with fail
  go_loopw [4] (fun i wr => ∃ k : Nat, k ≤ cells.length ∧ i = .int .i64 k ∧ Gy w wr ao N cap ea ec cells ua U ∧ ∀ h, h ∈ ats (cells.take k) → h ∈ U) (fun i _ => cells.length - (intOf i).toNat)
  case atStart => exact ⟨0, Nat.zero_le _, rfl, HG1.out, by simp [ats]⟩
  case round =>
    obtain ⟨k, hk, rfl, hg, hall⟩ := hrel
    have HG : Hid (Gy w wr ao N cap ea ec cells ua U) := hg
    have HALL : Hid (∀ h, h ∈ ats (cells.take k) → h ∈ U) := hall
    have q3 := hg.b3
    by_cases hlt : k < cells.length
    · rcases hg.row with h0 | ⟨b, o, rfl, hrow⟩
      · rw [h0] at hlt; simp at hlt
      obtain ⟨hh, hbx, _⟩ := hrow k hlt
      have d5 := hbx.c5
      have HTK : Hid (cells[k].h ∈ U → ∀ h, h ∈ ats (cells.take (k + 1)) → h ∈ U) := fun h1 h h2 => by
        rw [ats_take cells k hlt] at h2
        rcases List.mem_append.1 h2 with h2 | h2
        · exact HALL.out h h2
        · simp at h2; rw [h2]; exact h1
      have HNO : Hid (cells[k].h ∉ U → B = false) := fun h1 => by
        cases B
        · rfl
        · exact absurd ((HOI.out.1 rfl).1 _ (List.mem_map.2 ⟨_, List.getElem_mem hlt, rfl⟩)) h1
      have HUR : Hid (RdL wr ua U) := hg.used
      clear hg hbx hrow hall
      generalize cells[k].h = x at *
      have HC : Hid (Calls Try.prog 33 #[.slice ua U.length uc, .int .i64 x] wr fun e w' => e = .returned (.bool (decide (x ∈ U))) ∧ w' = wr) := hasL_any ua uc U x wr HUR.out hUL
      by_cases hx : x ∈ U
      · have HTT := hidH' (HTK.out hx)
        rw [decide_eq_true hx] at HC
        clear hx HTK HNO
        go_wp2_with (go_at_call 33; fail)
        refine HC.out.mono ?_
        rintro e w2 ⟨rfl, hw2⟩
        obtain rfl := hw2.symm
        go_wp2_with fail
        go_roundw
        case rel => exact ⟨k + 1, by omega, by go_num, HG.out, HTT.out⟩
        case measure => simp [intOf]; omega
      · have HBF : Hid (B = false) := HNO.out hx
        rw [decide_eq_false hx] at HC
        clear hx HTK HNO
        go_wp2_with (go_at_call 33; fail)
        refine HC.out.mono ?_
        rintro e w2 ⟨rfl, hw2⟩
        obtain rfl := hw2.symm
        go_wp2_with fail
        go_ret
        exact ⟨by rw [HBF.out]; rfl, HG.out.below⟩
    · have HA : Hid (∀ h, h ∈ ats cells → h ∈ U) := by
        have h1 := HALL.out
        rw [List.take_of_length_le (by omega)] at h1
        exact h1
      obtain ⟨wa, hwa⟩ : ∃ wa, wa = wr := ⟨_, rfl⟩
      rw [← hwa] at HG ⊢
      clear hg hall hwa q3 HALL
      have q3 := HG.out.b3
      go_wp2_with fail
      go_loopw [5] (fun i wr => ∃ k : Nat, k ≤ U.length ∧ i = .int .i64 k ∧ Gy w wr ao N cap ea ec cells ua U ∧ ∀ u, u ∈ U.take k → (ats cells).count u = 1) (fun i _ => U.length - (intOf i).toNat)
      case atStart => exact ⟨0, Nat.zero_le _, rfl, HG.out, by simp⟩
      case round =>
        obtain ⟨m, hm, rfl, hg, hcnt⟩ := hrel
        have HG2 : Hid (Gy w wr ao N cap ea ec cells ua U) := hg
        have HCN : Hid (∀ u, u ∈ U.take m → (ats cells).count u = 1) := hcnt
        clear hcnt
        by_cases hlm : m < U.length
        · obtain ⟨ub, uo, rfl, huc⟩ := hg.used (fun h => by rw [h] at hlm; simp at hlm)
          have HTU : Hid ((ats cells).count U[m] = 1 → ∀ u, u ∈ U.take (m + 1) → (ats cells).count u = 1) := fun h1 u h2 => by
            rw [List.take_succ_eq_append_getElem hlm] at h2
            rcases List.mem_append.1 h2 with h2 | h2
            · exact HCN.out u h2
            · simp at h2; rw [h2]; exact h1
          have HNU : Hid ((ats cells).count U[m] ≠ 1 → B = false) := fun h1 => by
            cases B
            · rfl
            · exact absurd ((HOI.out.1 rfl).2 _ (List.getElem_mem hlm)) h1
          have HUC : Hid (∀ wc, Below wr.heap.size wr wc → wc.cell? ⟨ub, uo + m, none⟩ = some (.int .i64 U[m])) := fun wc hb => (hb.cell (p := ⟨ub, uo + m, none⟩) (World.block_lt_of_cell? wr _ (huc m hlm))).trans (huc m hlm)
          clear hg huc
          generalize U[m] = u at *
          obtain ⟨wb, hwb⟩ : ∃ wb, wb = wr := ⟨_, rfl⟩
          rw [← hwb] at HG2 HUC ⊢
          clear hwb
          go_wp2_with fail
          go_loopw [6, 7] (fun n i wr => ∃ k : Nat, k ≤ cells.length ∧ i = .int .i64 k ∧ n = .int .i64 ((ats (cells.take k)).count u : Nat) ∧ (ats (cells.take k)).count u ≤ k ∧ Below wb.heap.size wb wr) (fun _ i _ => cells.length - (intOf i).toNat)
          case atStart => exact ⟨0, Nat.zero_le _, rfl, by simp [ats], by simp [ats], Below.refl _ _⟩
          case round =>
            obtain ⟨k, hk, rfl, rfl, hle, hbl⟩ := hrel
            have HBL : Hid (Below wb.heap.size wb wr) := hbl
            have HG3 : Hid (Gy w wr ao N cap (ea) ec cells (some ⟨ub, uo, none⟩) U) := HG2.out.call hbl
            have q3 := HG3.out.b3
            by_cases hlt : k < cells.length
            · rcases HG3.out.row with h0 | ⟨b, o, rfl, hrow⟩
              · rw [h0] at hlt; simp at hlt
              obtain ⟨hh, hbx, _⟩ := hrow k hlt
              have d5 := hbx.c5
              have u5 := HUC.out wr hbl
              have HTK : Hid ((ats (cells.take (k + 1))).count u = (ats (cells.take k)).count u + (if cells[k].h = u then 1 else 0)) := by
                show _ = _
                rw [ats_take cells k hlt, count_take _ _ k]
              clear hbx hrow hbl
              obtain ⟨cn, hcn⟩ : ∃ cn, cn = (ats (cells.take k)).count u := ⟨_, rfl⟩
              rw [← hcn] at HTK hle ⊢
              clear hcn
              generalize cells[k].h = x at *
              by_cases hx : x = u
              · have HT1 : Hid ((ats (cells.take (k + 1))).count u = cn + 1) := by show _ = _; rw [HTK.out, if_pos hx]
                have e1 : (x == u) = true := by rw [beq_iff_eq]; exact hx
                clear hx HTK
                go_wp2_with fail
                go_quiet (fail)
                go_wp2_with fail
                go_roundw
                case rel => exact ⟨k + 1, by omega, by go_num, by rw [HT1.out]; go_num, by rw [HT1.out]; omega, by first | exact HBL.out.drew | exact below_drewN HBL.out _⟩
                case measure => simp [intOf]; omega
              · have HT1 : Hid ((ats (cells.take (k + 1))).count u = cn) := by show _ = _; rw [HTK.out, if_neg hx]; omega
                have e1 : (x == u) = false := by rw [beq_eq_false_iff_ne]; exact hx
                clear hx HTK
                go_wp2_with fail
                go_quiet (fail)
                go_wp2_with fail
                go_roundw
                case rel => exact ⟨k + 1, by omega, by go_num, by rw [HT1.out], by rw [HT1.out]; omega, by first | exact HBL.out.drew | exact below_drewN HBL.out _⟩
                case measure => simp [intOf]; omega
            · have HTA : Hid (cells.take k = cells) := by show _ = _; exact List.take_of_length_le (by omega)
              rw [HTA.out] at hle ⊢
              clear hbl
              obtain ⟨cn, hcn⟩ : ∃ cn, cn = (ats cells).count u := ⟨_, rfl⟩
              rw [← hcn] at HTU HNU hle ⊢
              clear hcn
              by_cases h1 : cn = 1
              · have HTT := hidH' (HTU.out h1)
                have e1 : (((cn : Nat) : Int) != 1) = false := by rw [h1]; rfl
                clear HTU HNU h1
                go_wp2_with fail
                go_roundw
                case rel => exact ⟨m + 1, by omega, by go_num, HG3.out, HTT.out⟩
                case measure => simp [intOf]; omega
              · have HBF : Hid (B = false) := HNU.out h1
                have e1 : (((cn : Nat) : Int) != 1) = true := by rw [bne_iff_ne]; omega
                clear HTU HNU h1
                go_wp2_with fail
                go_ret
                exact ⟨by rw [HBF.out]; rfl, HG3.out.below⟩
        · have HBT : Hid (B = true) := HOI.out.2 ⟨HA.out, by
            have h1 := HCN.out
            rw [List.take_of_length_le (by omega)] at h1
            exact h1⟩
          clear hg
          go_wp2_with fail
          go_ret
          exact ⟨by rw [HBT.out]; rfl, HG2.out.below⟩
end Go.Proofs.Ytdglefedbkgghaa
namespace Go.Proofs.Ytdglefedbkgghaa.fnExactOwned
open Go.RowKit Atom
open Go.Proofs.Ytdglefedbkgghaa.Code
set_option linter.unusedVariables false

set_option maxHeartbeats 4000000 in
set_option maxRecDepth 100000 in
theorem walk (p : Hp) (h : Hw) (w : World) (hr : HpR w p h) (hm : HpM p h) :
    Calls Try.prog 4 #[hpV p h] w fun e w' => e = .returned (.bool true) ∧ Below w.heap.size w w' := by
  have KSZ : Hid (∀ wc, Below w.heap.size w wc → Calls Try.prog 5 #[hpV p h, .int .i64 1048576] wc fun e w' => (∃ r : Int, e = .returned (.int .i64 r) ∧ (0 ≤ r → HpS p)) ∧ Below wc.heap.size wc w') := fun wc hb => szHeaps_any p h wc (hr.below hb) hm
  have KTO : Hid (HpS p → ∀ wc, Below w.heap.size w wc → Calls Try.prog 7 #[hpV p h] wc fun e w' => ∃ g : Hw, e = .returned (hpV p g) ∧ (g.rc = p.N ∧ HpR w' p g) ∧ Below wc.heap.size wc w') := fun hs wc hb => toHeaps_any p h wc (hr.below hb) hs
  have KSP : Hid (HpS p → ∀ wc (g : Hw), g.rc = p.N → HpR wc p g → Calls Try.prog 10 #[hpV p g] wc fun e w' => e = .returned (.bool (ownedB p)) ∧ Below wc.heap.size wc w') := fun hs wc g hrc hg => specOwned_any p g wc hg hs
  have KIM : Hid (HpS p → ∀ wc (g : Hw), g.rc = p.N → HpR wc p g → Calls Try.prog 11 #[hpV p g] wc fun e w' => e = .returned (.bool (ownedB p)) ∧ Below wc.heap.size wc w') := fun hs wc g hrc hg => implOwned_any p g wc hg hs (by rw [hrc]; exact Nat.le_refl _)
  have KEQ : Hid (HpS p → ∀ wc (g h' : Hw), HpR wc p g → HpR wc p h' → Calls Try.prog 9 #[hpV p g, hpV p h'] wc fun e w' => e = .returned (.bool true) ∧ Below wc.heap.size wc w') := fun hs wc g h' h1 h2 => eqHeaps_same p g h' wc h1 h2 ⟨hm.sm, hm.c1, hm.t1, hm.ts, hm.n1, hm.e1, hm.es, hm.o1⟩ hs
  obtain ⟨P, hPP⟩ : ∃ P, P = p := ⟨_, rfl⟩
  rw [← hPP] at KSZ KTO KSP KIM KEQ
  obtain ⟨code, atoms, N, f, cells, next, out, room⟩ := p
  obtain ⟨ca, cc, ta, tc, ra, rc, ea, ec, oa, oc⟩ := h
  have HPN : Hid (P.N = N) := by show _ = _; rw [hPP]
  have KSZ' : Hid (∀ wc, Below w.heap.size w wc → Calls Try.prog 5 #[.agg #[.slice ca code.length cc, .slice ta atoms.length tc, .slice ra N rc, .slice ea cells.length ec, .int .i64 next, .slice oa out.length oc, .int .i64 room], .int .i64 1048576] wc fun e w' => (∃ r : Int, e = .returned (.int .i64 r) ∧ (0 ≤ r → HpS P)) ∧ Below wc.heap.size wc w') := by rw [hPP] at KSZ ⊢; exact KSZ
  have KTO' : Hid (HpS P → ∀ wc, Below w.heap.size w wc → Calls Try.prog 7 #[.agg #[.slice ca code.length cc, .slice ta atoms.length tc, .slice ra N rc, .slice ea cells.length ec, .int .i64 next, .slice oa out.length oc, .int .i64 room]] wc fun e w' => ∃ g : Hw, e = .returned (.agg #[.slice g.ca code.length g.cc, .slice g.ta atoms.length g.tc, .slice g.ra N g.rc, .slice g.ea cells.length g.ec, .int .i64 next, .slice g.oa out.length g.oc, .int .i64 room]) ∧ (g.rc = N ∧ HpR w' P g) ∧ Below wc.heap.size wc w') := by rw [hPP] at KTO ⊢; exact KTO
  have KSP' : Hid (HpS P → ∀ wc (g : Hw), g.rc = N → HpR wc P g → Calls Try.prog 10 #[.agg #[.slice g.ca code.length g.cc, .slice g.ta atoms.length g.tc, .slice g.ra N g.rc, .slice g.ea cells.length g.ec, .int .i64 next, .slice g.oa out.length g.oc, .int .i64 room]] wc fun e w' => e = .returned (.bool (ownedB P)) ∧ Below wc.heap.size wc w') := by rw [hPP] at KSP ⊢; exact KSP
  have KIM' : Hid (HpS P → ∀ wc (g : Hw), g.rc = N → HpR wc P g → Calls Try.prog 11 #[.agg #[.slice g.ca code.length g.cc, .slice g.ta atoms.length g.tc, .slice g.ra N g.rc, .slice g.ea cells.length g.ec, .int .i64 next, .slice g.oa out.length g.oc, .int .i64 room]] wc fun e w' => e = .returned (.bool (ownedB P)) ∧ Below wc.heap.size wc w') := by rw [hPP] at KIM ⊢; exact KIM
  have KEQ' : Hid (HpS P → ∀ wc (g h' : Hw), HpR wc P g → HpR wc P h' → Calls Try.prog 9 #[.agg #[.slice g.ca code.length g.cc, .slice g.ta atoms.length g.tc, .slice g.ra N g.rc, .slice g.ea cells.length g.ec, .int .i64 next, .slice g.oa out.length g.oc, .int .i64 room], .agg #[.slice h'.ca code.length h'.cc, .slice h'.ta atoms.length h'.tc, .slice h'.ra N h'.rc, .slice h'.ea cells.length h'.ec, .int .i64 next, .slice h'.oa out.length h'.oc, .int .i64 room]] wc fun e w' => e = .returned (.bool true) ∧ Below wc.heap.size wc w') := by rw [hPP] at KEQ ⊢; exact KEQ
  obtain ⟨w0, hw0⟩ : ∃ w0, w0 = w.alloc (.cells #[.slice ca code.length cc, .slice ta atoms.length tc, .slice ra N rc, .slice ea cells.length ec, .int .i64 next, .slice oa out.length oc, .int .i64 room] 30) := ⟨_, rfl⟩
  have hb0 : Below w.heap.size w w0 := by rw [hw0]; exact (Below.refl _ _).alloc (Nat.le_refl _) _
  have HB0 : Hid (Below w.heap.size w w0) := hb0
  have q0 : ∀ x, w0.cell? ⟨w.heap.size, x, none⟩ = (#[.slice ca code.length cc, .slice ta atoms.length tc, .slice ra N rc, .slice ea cells.length ec, .int .i64 next, .slice oa out.length oc, .int .i64 room] : Array Value)[x]? := fun x => by rw [hw0, World.cell?_alloc_new]
  have HQ : Hid (∀ wc, Below w0.heap.size w0 wc → wc.cell? ⟨w.heap.size, 0, none⟩ = some (.slice ca code.length cc) ∧ wc.cell? ⟨w.heap.size, 1, none⟩ = some (.slice ta atoms.length tc) ∧ wc.cell? ⟨w.heap.size, 2, none⟩ = some (.slice ra N rc) ∧ wc.cell? ⟨w.heap.size, 3, none⟩ = some (.slice ea cells.length ec) ∧ wc.cell? ⟨w.heap.size, 4, none⟩ = some (.int .i64 next) ∧ wc.cell? ⟨w.heap.size, 5, none⟩ = some (.slice oa out.length oc) ∧ wc.cell? ⟨w.heap.size, 6, none⟩ = some (.int .i64 room)) := fun wc hb => ⟨keepA hb (q0 0), keepA hb (q0 1), keepA hb (q0 2), keepA hb (q0 3), keepA hb (q0 4), keepA hb (q0 5), keepA hb (q0 6)⟩
  have HW : Hid (∀ wc, Below w0.heap.size w0 wc → Below w.heap.size w wc) := fun wc hb => HB0.out.trans (hb.mono HB0.out.size)
  clear hr hm KSZ KTO KSP KIM KEQ hPP hb0 q0
  go_enter Try.func4, Try.ntmps4
  go_wp2_with (go_at_call 5; fail)
  rw [← hw0]
  clear hw0
  refine (KSZ'.out w0 HB0.out).mono ?_
  rintro e w1 ⟨⟨r, rfl, hr1⟩, hb1⟩
  have HB1 : Hid (Below w0.heap.size w0 w1) := hb1
  have HR1 : Hid (0 ≤ r → HpS P) := hr1
  obtain ⟨d0, d1, d2, d3, d4, d5, d6⟩ := HQ.out w1 hb1
  clear hb1 hr1
  by_cases hneg : r < 0
  · go_wp2_with fail
    go_ret
    exact ⟨rfl, HW.out _ HB1.out⟩
  have HS : Hid (HpS P) := HR1.out (by omega)
  go_wp2_with (go_at_call 7; fail)
  refine (KTO'.out HS.out w1 (HW.out _ HB1.out)).mono ?_
  rintro e w2 ⟨g2, rfl, ⟨hrc2, hr2⟩, hb2⟩
  have HB2 : Hid (Below w0.heap.size w0 w2) := HB1.out.trans (hb2.mono HB1.out.size)
  have HR2 : Hid (g2.rc = N ∧ HpR w2 P g2) := ⟨hrc2, hr2⟩
  clear hb2 hr2 hrc2 d0 d1 d2 d3 d4 d5 d6
  go_wp2_with (go_at_call 10; fail)
  refine (KSP'.out HS.out w2 g2 HR2.out.1 HR2.out.2).mono ?_
  rintro e w3 ⟨he, hb3⟩
  have HB3 : Hid (Below w0.heap.size w0 w3) := HB2.out.trans (hb3.mono HB2.out.size)
  obtain ⟨bb, hbb⟩ : ∃ bb, bb = ownedB P := ⟨_, rfl⟩
  have HBB : Hid (bb = ownedB P) := hbb
  rw [← hbb] at he
  subst he
  clear hb3 hbb
  obtain ⟨d0, d1, d2, d3, d4, d5, d6⟩ := HQ.out w3 HB3.out
  go_wp2_with (go_at_call 7; fail)
  refine (KTO'.out HS.out w3 (HW.out _ HB3.out)).mono ?_
  rintro e w4 ⟨g4, rfl, ⟨hrc4, hr4⟩, hb4⟩
  have HB4 : Hid (Below w0.heap.size w0 w4) := HB3.out.trans (hb4.mono HB3.out.size)
  obtain ⟨ca4, cc4, ta4, tc4, ra4, rc4, ea4, ec4, oa4, oc4⟩ := g4
  obtain ⟨w5, hw5⟩ : ∃ w5, w5 = w4.alloc (.cells #[.slice ca4 code.length cc4, .slice ta4 atoms.length tc4, .slice ra4 N rc4, .slice ea4 cells.length ec4, .int .i64 next, .slice oa4 out.length oc4, .int .i64 room] 38) := ⟨_, rfl⟩
  have hb5 : Below w4.heap.size w4 w5 := by rw [hw5]; exact (Below.refl _ _).alloc (Nat.le_refl _) _
  have HB5 : Hid (Below w0.heap.size w0 w5) := HB4.out.trans (hb5.mono HB4.out.size)
  have HR5 : Hid (rc4 = N ∧ HpR w5 P ⟨ca4, cc4, ta4, tc4, ra4, rc4, ea4, ec4, oa4, oc4⟩) := ⟨hrc4, hr4.below hb5⟩
  have q5 : ∀ x, w5.cell? ⟨w4.heap.size, x, none⟩ = (#[.slice ca4 code.length cc4, .slice ta4 atoms.length tc4, .slice ra4 N rc4, .slice ea4 cells.length ec4, .int .i64 next, .slice oa4 out.length oc4, .int .i64 room] : Array Value)[x]? := fun x => by rw [hw5, World.cell?_alloc_new]
  have HQ5 : Hid (∀ wc, Below w5.heap.size w5 wc → wc.cell? ⟨w4.heap.size, 0, none⟩ = some (.slice ca4 code.length cc4) ∧ wc.cell? ⟨w4.heap.size, 1, none⟩ = some (.slice ta4 atoms.length tc4) ∧ wc.cell? ⟨w4.heap.size, 2, none⟩ = some (.slice ra4 N rc4) ∧ wc.cell? ⟨w4.heap.size, 3, none⟩ = some (.slice ea4 cells.length ec4) ∧ wc.cell? ⟨w4.heap.size, 4, none⟩ = some (.int .i64 next) ∧ wc.cell? ⟨w4.heap.size, 5, none⟩ = some (.slice oa4 out.length oc4) ∧ wc.cell? ⟨w4.heap.size, 6, none⟩ = some (.int .i64 room)) := fun wc hb => ⟨keepA hb (q5 0), keepA hb (q5 1), keepA hb (q5 2), keepA hb (q5 3), keepA hb (q5 4), keepA hb (q5 5), keepA hb (q5 6)⟩
  clear hb4 hr4 hrc4 d0 d1 d2 d3 d4 d5 d6 hb5 q5
  go_wp2_with (go_at_call 11; fail)
  rw [← hw5]
  clear hw5
  refine (KIM'.out HS.out w5 ⟨ca4, cc4, ta4, tc4, ra4, rc4, ea4, ec4, oa4, oc4⟩ HR5.out.1 HR5.out.2).mono ?_
  rintro e w6 ⟨he, hb6⟩
  rw [← HBB.out] at he
  subst he
  have HB6 : Hid (Below w0.heap.size w0 w6) := HB5.out.trans (hb6.mono HB5.out.size)
  have HR6 : Hid (HpR w6.drew P ⟨ca4, cc4, ta4, tc4, ra4, rc4, ea4, ec4, oa4, oc4⟩) := (HR5.out.2.below hb6).below ((Below.refl _ _).drew)
  obtain ⟨d0, d1, d2, d3, d4, d5, d6⟩ := HQ.out w6 HB6.out
  obtain ⟨f0, f1, f2, f3, f4, f5, f6⟩ := HQ5.out w6 hb6
  have HF6 : Hid (∀ wT, Below w6.drew.heap.size w6.drew wT → wT.cell? ⟨w4.heap.size, 0, none⟩ = some (.slice ca4 code.length cc4) ∧ wT.cell? ⟨w4.heap.size, 1, none⟩ = some (.slice ta4 atoms.length tc4) ∧ wT.cell? ⟨w4.heap.size, 2, none⟩ = some (.slice ra4 N rc4) ∧ wT.cell? ⟨w4.heap.size, 3, none⟩ = some (.slice ea4 cells.length ec4) ∧ wT.cell? ⟨w4.heap.size, 4, none⟩ = some (.int .i64 next) ∧ wT.cell? ⟨w4.heap.size, 5, none⟩ = some (.slice oa4 out.length oc4) ∧ wT.cell? ⟨w4.heap.size, 6, none⟩ = some (.int .i64 room) ∧ wT.cell? ⟨w.heap.size, 0, none⟩ = some (.slice ca code.length cc) ∧ wT.cell? ⟨w.heap.size, 1, none⟩ = some (.slice ta atoms.length tc) ∧ wT.cell? ⟨w.heap.size, 2, none⟩ = some (.slice ra N rc) ∧ wT.cell? ⟨w.heap.size, 3, none⟩ = some (.slice ea cells.length ec) ∧ wT.cell? ⟨w.heap.size, 4, none⟩ = some (.int .i64 next) ∧ wT.cell? ⟨w.heap.size, 5, none⟩ = some (.slice oa out.length oc) ∧ wT.cell? ⟨w.heap.size, 6, none⟩ = some (.int .i64 room)) := fun wT hb => by
    obtain ⟨a0, a1, a2, a3, a4, a5, a6⟩ := HQ5.out wT (hb6.drew.trans (hb.mono hb6.size))
    obtain ⟨b0, b1, b2, b3, b4, b5, b6⟩ := HQ.out wT (HB6.out.drew.trans (hb.mono HB6.out.size))
    exact ⟨a0, a1, a2, a3, a4, a5, a6, b0, b1, b2, b3, b4, b5, b6⟩
  clear hb6 d0 d1 d2 d3 d4 d5 d6 f0 f1 f2 f3 f4 f5 f6
  have hne : (bb != bb) = false := by cases bb <;> rfl
  clear HBB
  have HD6 : Hid (Below w.heap.size w w6.drew ∧ Below w0.heap.size w0 w6.drew) := ⟨(HW.out _ HB6.out).drew, HB6.out.drew⟩
  obtain ⟨d0, d1, d2, d3, d4, d5, d6⟩ := HQ.out w6 HB6.out
  go_wp2_with fail
  clear d0 d1 d2 d3 d4 d5 d6
  have S0 := HF6.out w6.drew (Below.refl _ _)
  go_region_held3 (fun wc => wc.cell? ⟨w4.heap.size, 0, none⟩ = some (.slice ca4 code.length cc4) ∧ wc.cell? ⟨w4.heap.size, 1, none⟩ = some (.slice ta4 atoms.length tc4) ∧ wc.cell? ⟨w4.heap.size, 2, none⟩ = some (.slice ra4 N rc4) ∧ wc.cell? ⟨w4.heap.size, 3, none⟩ = some (.slice ea4 cells.length ec4) ∧ wc.cell? ⟨w4.heap.size, 4, none⟩ = some (.int .i64 next) ∧ wc.cell? ⟨w4.heap.size, 5, none⟩ = some (.slice oa4 out.length oc4) ∧ wc.cell? ⟨w4.heap.size, 6, none⟩ = some (.int .i64 room) ∧ wc.cell? ⟨w.heap.size, 0, none⟩ = some (.slice ca code.length cc) ∧ wc.cell? ⟨w.heap.size, 1, none⟩ = some (.slice ta atoms.length tc) ∧ wc.cell? ⟨w.heap.size, 2, none⟩ = some (.slice ra N rc) ∧ wc.cell? ⟨w.heap.size, 3, none⟩ = some (.slice ea cells.length ec) ∧ wc.cell? ⟨w.heap.size, 4, none⟩ = some (.int .i64 next) ∧ wc.cell? ⟨w.heap.size, 5, none⟩ = some (.slice oa out.length oc) ∧ wc.cell? ⟨w.heap.size, 6, none⟩ = some (.int .i64 room)) (first | (refine HF6.out _ ?_; first | exact HK2.out | exact HK2.out.drew | exact HK.out | exact HK.out.drew | exact Below.refl _ _ | exact (Below.refl _ _).drew; done) | go_keep) (first
    | (go_at_call 7; refine (KTO'.out HS.out _ ?_).mono ?_; (focus (first | exact HD6.out.1 | exact HD6.out.1.drew; done)); rintro e wT ⟨gT, rfl, ⟨hrcT, hrT⟩, hbT⟩; have HK : Hid (Below w6.drew.heap.size w6.drew wT) := (by first | exact hbT | exact (Below.refl _ _).drew.trans hbT); have HRT : Hid (HpR wT P gT) := hrT; have HR7 : Hid (HpR wT P ⟨ca4, cc4, ta4, tc4, ra4, rc4, ea4, ec4, oa4, oc4⟩) := HR6.out.below HK.out; clear hrT hrcT hbT)
    | (go_at_call 9; refine (KEQ'.out HS.out _ ⟨ca4, cc4, ta4, tc4, ra4, rc4, ea4, ec4, oa4, oc4⟩ gT ?_ ?_).mono ?_; (focus (first | exact HR7.out | exact HR7.out.below (Below.refl _ _).drew; done)); (focus (first | exact HRT.out | exact HRT.out.below (Below.refl _ _).drew; done)); rintro e wU ⟨rfl, hbU⟩; have HK2 : Hid (Below w6.drew.heap.size w6.drew wU) := (by first | exact HK.out.trans (hbU.mono HK.out.size) | exact HK.out.trans (((Below.refl _ _).drew.trans hbU).mono HK.out.size)); have HKU : Hid (Below w.heap.size w wU) := (by first | exact HD6.out.1.trans ((HK.out.mono HD6.out.1.size).trans (hbU.mono (Nat.le_trans HD6.out.1.size HK.out.size))) | exact HD6.out.1.trans ((HK.out.mono HD6.out.1.size).trans (((Below.refl _ _).drew.trans hbU).mono (Nat.le_trans HD6.out.1.size HK.out.size))))))
  all_goals
    go_wp2_with fail
    go_ret
    exact ⟨rfl, HKU.out⟩
end Go.Proofs.Ytdglefedbkgghaa.fnExactOwned
namespace Go.Proofs.Ytdglefedbkgghaa.fnExactOwned
open Go.RowKit Go.ChangeShapes Go.WideShapes Go.ChangeAt
set_option linter.unusedVariables false

theorem own : ownKnob Try.prog.godebug = none := by kernel_rfl
theorem laidOut : laidOutB Try.prog = true := by kernel_rfl

set_option maxRecDepth 100000 in
theorem lifted (os : Os) (started : os.Started) (H : Type) (enc : TypeId × Value → H) :
    ReturnsInHanded {} Try.checked os 4 .any (Rows.fnExactOwnedSpec.pre6 enc Try.prog Try.f4 Rows.fnExactOwnedRow.domain false) (Rows.fnExactOwnedSpec.post enc Try.prog Try.f4 false true false false) := by
  refine returnsInHanded_of_change (C := Try.checked) own started (by kernel_rfl) Try.func4
    (ChangeSpec.witness6 (enc := enc) (C := Try.checked) false ⟨#[], #[.agg #[.slice none 0 0, .slice none 0 0, .slice none 0 0, .slice none 0 0, .int .i64 0, .slice none 0 0, .int .i64 0]], []⟩ 8 (by kernel_rfl) (by kernel_rfl) (by kernel_rfl) (by kernel_rfl)) ?_
  intro W base args ds gs before hval0 hW hcnd _
  have hval : ∀ (j : Nat) t v, Try.f4.params[j]? = some t → args[j]? = some v → Value.okWide Try.prog W .any base t v := hval0
  have hW' := hW
  obtain ⟨p, q, hA0, hV, rfl, hfz, hnd⟩ := hW
  have hA : DataW.TrodAll enc Try.prog W 0 (fun _ => true) true Try.f4.params.toList args.toList ds p := hA0
  rw [Try.params4] at hA hval
  obtain ⟨v0, vs0, d0, ds0, p0, q0, hargs, rfl, rfl, h0, r0⟩ := trodAll_cons hA
  obtain ⟨rfl, rfl, rfl⟩ := trodAll_nil r0
  obtain rfl : args = #[v0] := by cases args; simp_all
  obtain ⟨rfl, rfl⟩ := trodVars_none hV
  have k0 := h0
  have lt0 : ∀ x ∈ p0, x.block < W.heap.size := by obtain ⟨m, hm⟩ := k0; exact DataW.trod_lt m _ _ _ hm
  obtain ⟨a, g, rfl, ha, hm⟩ := open_heaps (hval 0 30 v0 rfl rfl) h0
  clear hA0 hval0
  refine (walk a g W ha hm).mono fun e W' ⟨he, bel⟩ => ?_
  subst he
  exact ⟨_, rfl, _, _, _, [], _, [], hW', trodAll_mk1 (shut_bool Try.underlying4 _), (trodAll_cons_mk (Below.trod laidOut (by kernel_rfl) (of_decide_eq_true (by kernel_rfl)) k0 bel lt0) trodAll_mk0), rfl, bel.frame _, fun h => by cases h⟩

theorem over : Rows.fnExactOwnedRow.holds Try.pinned (OpenSpec.ofChange Rows.fnExactOwnedSpec) :=
  OpenClaim.holds_of_wide 4 Try.f4 rfl rfl rfl rfl rfl rfl rfl ⟨rfl, rfl, rfl, rfl, rfl⟩ rfl rfl rfl rfl rfl (by kernel_rfl) Try.func4 (by kernel_rfl)
    (of_decide_eq_true (by kernel_rfl)) (by unfold Func.isWrapper; first | (rw [if_pos (by decide +kernel)]; kernel_rfl) | (rw [if_neg (by decide +kernel)]; exact ⟨rfl, rfl⟩))
    (fun os started H enc _ => lifted os started H enc)
end Go.Proofs.Ytdglefedbkgghaa.fnExactOwned
namespace Go.Proofs.Ytdglefedbkgghaa
theorem fnExactOwned_holds : Rows.FnExactOwnedSaid := fnExactOwned.over
#print axioms fnExactOwned_holds
end Go.Proofs.Ytdglefedbkgghaa
