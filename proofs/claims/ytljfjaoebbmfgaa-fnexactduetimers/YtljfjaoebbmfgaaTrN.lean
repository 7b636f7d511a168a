/-
  Timers that are due, timers that are dropped: the specification's answers.
-/
import Derived.Test.YtljfjaoebbmfgaaTrL
namespace Go.Proofs.Ytljfjaoebbmfgaa.Tr
open Go.RowKit Atom
set_option linter.unusedVariables false

/-- What stands in a row, as the cells that it takes. -/
theorem ve_sk {w : World} {x : Sd} {bs : List Nat} {b off : Nat} (h : eltSk.E w x bs b off) (vs : List Value) (hl : vs.length = 6) (hv : ∀ j v, j < 6 → w.cell? ⟨b, off + j, none⟩ = some v → vs[j]? = some v) : VE eltSk w x vs bs := by
  obtain ⟨h0, h1, h2, h3⟩ := h
  refine ⟨hl, h2, fun w' b' off' hc hk => ⟨hc 0 _ (hv 0 _ (by omega) h0), hc 1 _ (hv 1 _ (by omega) h1), fun q hq => lt_of_heap (hk q hq) (h2 q hq), rpT_keep h3 (fun j v hj hq => ?_) (fun y hy _ => hk y hy)⟩⟩
  rw [Nat.add_assoc] at hq ⊢
  exact hc (2 + j) v (hv (2 + j) v (by omega) hq)
theorem six_of {w : World} {b off : Nat} {v0 v1 v2 v3 v4 v5 : Value} (d0 : w.cell? ⟨b, off, none⟩ = some v0) (d1 : w.cell? ⟨b, off + 1, none⟩ = some v1) (d2 : w.cell? ⟨b, off + 2, none⟩ = some v2) (d3 : w.cell? ⟨b, off + 2 + 1, none⟩ = some v3) (d4 : w.cell? ⟨b, off + 2 + 2, none⟩ = some v4) (d5 : w.cell? ⟨b, off + 2 + 3, none⟩ = some v5) : ∀ j v, j < 6 → w.cell? ⟨b, off + j, none⟩ = some v → [v0, v1, v2, v3, v4, v5][j]? = some v := by
  intro j v hj hq
  match j, hj with
  | 0, _ => exact d0.symm.trans hq
  | 1, _ => exact d1.symm.trans hq
  | 2, _ => exact d2.symm.trans hq
  | 3, _ => exact d3.symm.trans hq
  | 4, _ => exact d4.symm.trans hq
  | 5, _ => exact d5.symm.trans hq
/-- Two rows that begin empty, each in a block that was made for it. -/
theorem Two.two {e : Elt Sd} (w : World) : Two e w.heap.size [] ((w.alloc (.cells #[] 45)).alloc (.cells #[] 45)) (.slice (some ⟨w.heap.size, 0, none⟩) 0 0) (.slice (some ⟨w.heap.size + 1, 0, none⟩) 0 0) [] [] [] [] [] [] := by
  have h2 : ((w.alloc (.cells #[] 45)).alloc (.cells #[] 45)).ownsRow w.heap.size 45 e.s (.slice (some ⟨(w.alloc (.cells #[] 45)).heap.size, 0, none⟩) 0 0) 0 [] := World.ownsRow_made (w.alloc (.cells #[] 45)) #[] 0 (by simp) (Nat.zero_le _) (by simp)
  rw [show (w.alloc (.cells #[] 45)).heap.size = w.heap.size + 1 by simp] at h2
  refine ⟨(World.ownsRow_made w #[] 0 (Nat.le_refl _) (Nat.zero_le _) (by simp)).alloc _, h2, ⟨rfl, rfl⟩, ⟨rfl, rfl⟩, (fun b hb => by cases hb), (fun b hb => by cases hb), (fun b hb => by cases hb), (fun g hg hm => by cases hm), (fun g hg hm => by cases hm), List.nodup_nil, fun g hg q => ?_⟩
  have q1 : some w.heap.size = some g := hg
  have q2 : some (w.heap.size + 1) = some g := q
  simp only [Option.some.injEq] at q1 q2
  omega
theorem glk_row {w : World} {l : List Sd} {bs : List Nat} {ao : Option Addr} (hr : GL eltSk w l bs ao) (hnd0 : bs.Nodup) : ∃ g o b0, (l ≠ [] → ao = some ⟨g, o, none⟩ ∧ g ∈ bs) ∧ GR eltSk w l b0 g o ∧ b0.Nodup ∧ ∀ b ∈ b0, b ∈ bs := by
  rcases hr with h | ⟨h1, g, o, b, e1, e2, _, hr⟩
  · refine ⟨0, 0, [], fun h' => absurd h.1 h', ?_, List.nodup_nil, fun b hb => by cases hb⟩
    rw [h.1, GR]
  · rw [e1, List.nodup_cons] at hnd0
    exact ⟨g, o, b, fun _ => ⟨e2, by rw [e1]; simp⟩, hr, hnd0.2, fun x hx => by rw [e1]; simp [hx]⟩
theorem keep_grown {w1 wa w6 : World} {u : Value} {bs : List Nat} (h : ∀ b ∈ bs, wa.heap[b]? = w1.heap[b]?) (hlt : ∀ b ∈ bs, b < wa.heap.size) (hn : ∀ g, u.ownBlock = some g → g ∉ bs) (hg : wa.grownBy w6 u.ownBlock) : ∀ b ∈ bs, w6.heap[b]? = w1.heap[b]? :=
  fun b hb => (hg.block b (hlt b hb) (fun q => hn b q.symm hb)).trans (h b hb)
theorem below_grown {w wa w6 : World} {u : Value} {n : Nat} {xs : List Value} {s : Nat} (h : Below w.heap.size w wa) (hr : wa.ownsRow w.heap.size 45 s u n xs) (hg : wa.grownBy w6 u.ownBlock) : Below w.heap.size w w6 :=
  ⟨hg.os.trans h.os, hg.tape.trans h.tape, hg.output.trans h.output, Nat.le_trans h.size hg.size, fun b hb => (hg.block b (Nat.lt_of_lt_of_le hb h.size) (fun q => by have := (own_base hr q.symm).1; omega)).trans (h.block b hb)⟩


set_option maxHeartbeats 4000000 in
set_option maxRecDepth 100000 in
theorem specDue_any (l : List Sd) (ao : Option Addr) (cap : Nat) (z : Int) (w : World) (hr : RowS w ao l) (hl : l.length ≤ 1048576) (hs : ∀ x ∈ l, StS x.t) :
    Calls Try.prog 11 #[.slice ao l.length cap, .int .i64 z] w fun e w' => (∃ a1 c1 a2 c2, e = .returned (.tuple #[.slice a1 (l.filter (dueB z)).length c1, .slice a2 (l.filter (notB (dueB z))).length c2]) ∧ RowS w' a1 (l.filter (dueB z)) ∧ RowS w' a2 (l.filter (notB (dueB z)))) ∧ Below w.heap.size w w' := by
  obtain ⟨W, hW⟩ : ∃ W, W = (w.alloc (.cells #[] 45)).alloc (.cells #[] 45) := ⟨_, rfl⟩
  have hbW : Below w.heap.size w W := by rw [hW]; exact ((Below.refl _ _).alloc (Nat.le_refl _) _).alloc (by simp) _
  have hzW : W.heap.size = w.heap.size + 2 := by rw [hW]; simp
  have HT0 : Hid (Two eltSk w.heap.size [] W (.slice (some ⟨w.heap.size, 0, none⟩) 0 0) (.slice (some ⟨w.heap.size + 1, 0, none⟩) 0 0) [] [] [] [] [] []) := by rw [hW]; exact Two.two w
  have HBW : Hid (Below w.heap.size w W ∧ W.heap.size = w.heap.size + 2) := ⟨hbW, hzW⟩
  have HC : Hid (Calls Try.prog 23 #[.slice ao l.length cap] W fun e w' => ∃ a1 c1 bs, e = .returned (.slice a1 l.length c1) ∧ GL eltSk w' l bs a1 ∧ bs.Nodup ∧ (∀ b ∈ bs, W.heap.size ≤ b) ∧ Below W.heap.size W w') :=
    (l14Copy_any l ao cap W (hr.below hbW) hl hs).mono fun e w' ⟨u, xs, bs, D, h1, h2, h3, h4⟩ => by
      obtain ⟨a1, c1, a2, c2, e1, e2, f1, f2, g1, g2, n, i1, i2⟩ := h2.done
      refine ⟨a1, c1, e1, by rw [h1, f1], g1, (List.nodup_append.1 n).1, fun b hb => ?_, h4⟩
      rcases i1 b hb with q | q
      · exact h3 b (h2.i1 b q)
      · exact q
  obtain ⟨i0, hi, hzz⟩ := Option.map_eq_some_iff.1 infoTimer
  simp only [Prod.mk.injEq] at hzz
  have HI : Hid (Try.prog.info? 45 = some i0 ∧ i0.zero = some (.agg #[.int .i64 0, .int .i64 0, .int .i64 0, .int .i64 0, .string ⟨#[]⟩, .slice none 0 0]) ∧ i0.size = 6 ∧ i0.bytes = 72) := ⟨hi, hzz⟩
  clear hr hs hbW hzW hi hzz
  go_enter Try.func11, Try.ntmps11
  go_wp2_with (go_at_call 23; fail)
  rw [← hW]
  clear hW
  refine HC.out.mono ?_
  rintro e w1 ⟨ac, cc, bs0, rfl, hg1, hn1, hlo1, hb1⟩
  obtain ⟨g, o, b0, hao, hr0, hnd, hsub⟩ := glk_row hg1 hn1
  have HAO : Hid (l ≠ [] → ac = some ⟨g, o, none⟩ ∧ g ∈ bs0) := hao
  have HND : Hid (b0.Nodup ∧ ∀ b ∈ b0, b ∈ bs0) := ⟨hnd, hsub⟩
  have HR0 : Hid (GR eltSk w1 l b0 g o) := hr0
  have HT1 : Hid (Two eltSk w.heap.size bs0 w1 (.slice (some ⟨w.heap.size, 0, none⟩) 0 0) (.slice (some ⟨w.heap.size + 1, 0, none⟩) 0 0) [] [] [] [] [] []) :=
    Two.wide (HT0.out.call hb1) (fun b hb => hg1.lt b hb) (fun b hb => ⟨fun q => by have := (own_base HT0.out.r1 q).2; have := hlo1 b hb; omega, fun q => by have := (own_base HT0.out.r2 q).2; have := hlo1 b hb; omega⟩)
  have HB1 : Hid (Below w.heap.size w w1) := HBW.out.1.trans (hb1.mono HBW.out.1.size)
  clear hao hr0 hnd hsub hg1 hn1 hlo1 hb1
  go_wp2_with fail
  go_loopw [6, 7, 9] (fun u1 u2 i wr => ∃ (k : Nat) (x1 x2 : List Value) (b1 b2 ba br : List Nat), k ≤ l.length ∧ i = .int .i64 k ∧ b0 = ba ++ br ∧ GR eltSk w1 (l.drop k) br g (o + k * 6) ∧ (∀ b ∈ b1 ++ b2, b ∈ ba) ∧ Two eltSk w.heap.size bs0 wr u1 u2 ((l.take k).filter (dueB z)) ((l.take k).filter (notB (dueB z))) x1 x2 b1 b2 ∧ (∀ b ∈ bs0, wr.heap[b]? = w1.heap[b]?) ∧ Below w.heap.size w wr) (fun _ _ i _ => l.length - (intOf i).toNat)
  case atStart => exact ⟨0, [], [], [], [], [], b0, Nat.zero_le _, rfl, rfl, by simpa using HR0.out, (fun b hb => by cases hb), HT1.out, (fun b hb => rfl), HB1.out⟩
  case round =>
    obtain ⟨k, x1, x2, b1, b2, ba, br, hk, rfl, eb, hgr, hmem, htw, hke, hbe⟩ := hrel
    obtain ⟨ua, uc, rfl⟩ := htw.form1
    obtain ⟨va, vc, rfl⟩ := htw.swap.form1
    have HTW : Hid (Two eltSk w.heap.size bs0 wr (.slice ua ((l.take k).filter (dueB z)).length uc) (.slice va ((l.take k).filter (notB (dueB z))).length vc) ((l.take k).filter (dueB z)) ((l.take k).filter (notB (dueB z))) x1 x2 b1 b2) := htw
    have HBE : Hid (Below w.heap.size w wr) := hbe
    have HKE : Hid (∀ b ∈ bs0, wr.heap[b]? = w1.heap[b]?) := hke
    have HMEM : Hid (b0 = ba ++ br ∧ ∀ b ∈ b1 ++ b2, b ∈ ba) := ⟨eb, hmem⟩
    clear htw hbe hmem eb hke
    by_cases hlt : k < l.length
    · obtain ⟨rfl, hgm⟩ := HAO.out (fun h => by rw [h] at hlt; simp at hlt)
      rw [List.drop_eq_getElem_cons hlt, GR] at hgr
      obtain ⟨bt, bn, ebr, hE, hgn⟩ := hgr
      have HNX : Hid (b0 = (ba ++ bt) ++ bn ∧ GR eltSk w1 (l.drop (k + 1)) bn g (o + (k + 1) * 6)) := by
        refine ⟨by rw [HMEM.out.1, ebr, List.append_assoc], ?_⟩
        have e6 : o + k * 6 + eltSk.s = o + (k + 1) * 6 := by show o + k * 6 + 6 = _; omega
        rw [← e6]; exact hgn
      have HBT : Hid ((bt ++ (b1 ++ b2)).Nodup ∧ ∀ b ∈ bt, b ∈ bs0) := by
        have hn := HND.out.1
        rw [HMEM.out.1, ebr] at hn
        obtain ⟨n1, n2, n3⟩ := List.nodup_append.1 hn
        refine ⟨List.nodup_append.2 ⟨(List.nodup_append.1 n2).1, HTW.out.nd, fun x hx y hy q => n3 y (HMEM.out.2 y hy) x (by simp [hx]) q.symm⟩, fun b hb => HND.out.2 b (by rw [HMEM.out.1, ebr]; simp [hb])⟩
      have HF1 : Hid (((l.take (k + 1)).filter (dueB z)) = ((l.take k).filter (dueB z)) ++ (if (dueB z) l[k] = true then [l[k]] else [])) := take_filter hlt _
      have HF2 : Hid (((l.take (k + 1)).filter (notB (dueB z))) = ((l.take k).filter (notB (dueB z))) ++ (if (notB (dueB z)) l[k] = true then [l[k]] else [])) := take_filter hlt _
      have HL1 : Hid (((l.take k).filter (dueB z)).length ≤ k ∧ ((l.take k).filter (notB (dueB z))).length ≤ k) := by
        have h1 : ((l.take k).filter (dueB z)).length ≤ (l.take k).length := List.length_filter_le _ _
        have h2 : ((l.take k).filter (notB (dueB z))).length ≤ (l.take k).length := List.length_filter_le _ _
        rw [List.length_take] at h1 h2
        exact ⟨by omega, by omega⟩
      have hE' : eltSk.E wr l[k] bt g (o + k * 6) := eltSk.keep (fun x hx _ => HKE.out x (HBT.out.2 x hx)) (fun j v hj hv => (World.cell?_of_block (w := w1) (HKE.out g hgm)).trans hv) hE
      clear hE hgn ebr hgm
      generalize l[k] = x at hE' HF1 HF2
      obtain ⟨ta, tp, t⟩ := x
      obtain ⟨tk, tn, ts, tl⟩ := t
      have hE2 := hE'
      obtain ⟨d0, d1, _, hRT⟩ := hE'
      dsimp only at d0 d1 hRT
      rw [RpT] at hRT
      obtain ⟨d2, d3, d4, hs4, tao, tcap, d5, hl5, hc5, hr5⟩ := hRT
      have HVE : Hid (VE eltSk wr ⟨ta, tp, .mk tk tn ts tl⟩ [.int .i64 ta, .int .i64 tp, .int .i64 tk, .int .i64 tn, .string ts, .slice tao tl.length tcap] bt) := ve_sk hE2 _ rfl (six_of d0 d1 d2 d3 d4 d5)
      clear hE2 hs4 hl5 hc5 hr5
      have HAL : Hid (Below wr.heap.size wr (wr.alloc (.cells #[.int .i64 ta, .int .i64 tp, .int .i64 tk, .int .i64 tn, .string ts, .slice tao tl.length tcap] 45))) := (Below.refl _ _).alloc (Nat.le_refl _) _
      have HT3 : Hid (Two eltSk w.heap.size bs0 (wr.alloc (.cells #[.int .i64 ta, .int .i64 tp, .int .i64 tk, .int .i64 tn, .string ts, .slice tao tl.length tcap] 45)) (.slice ua ((l.take k).filter (dueB z)).length uc) (.slice va ((l.take k).filter (notB (dueB z))).length vc) ((l.take k).filter (dueB z)) ((l.take k).filter (notB (dueB z))) x1 x2 b1 b2) := HTW.out.call HAL.out
      have HB4 : Hid (Below w.heap.size w (wr.alloc (.cells #[.int .i64 ta, .int .i64 tp, .int .i64 tk, .int .i64 tn, .string ts, .slice tao tl.length tcap] 45))) := HBE.out.alloc HBE.out.size _
      have HV4 : Hid (VE eltSk (wr.alloc (.cells #[.int .i64 ta, .int .i64 tp, .int .i64 tk, .int .i64 tn, .string ts, .slice tao tl.length tcap] 45)) ⟨ta, tp, .mk tk tn ts tl⟩ [.int .i64 ta, .int .i64 tp, .int .i64 tk, .int .i64 tn, .string ts, .slice tao tl.length tcap] bt) := HVE.out.keep HAL.out.size (fun x hx => HAL.out.block x (HVE.out.2.1 x hx))
      have HK4 : Hid (∀ b ∈ bs0, (wr.alloc (.cells #[.int .i64 ta, .int .i64 tp, .int .i64 tk, .int .i64 tn, .string ts, .slice tao tl.length tcap] 45)).heap[b]? = w1.heap[b]?) := fun b hb => (HAL.out.block b (HTW.out.dl b hb)).trans (HKE.out b hb)
      by_cases hd : ta ≤ z
      · have HQQ : Hid (dueB z ⟨ta, tp, .mk tk tn ts tl⟩ = true) := by show decide (ta ≤ z) = true; simp [hd]
        have HE1 : Hid (((l.take (k + 1)).filter (dueB z)) = ((l.take k).filter (dueB z)) ++ [⟨ta, tp, .mk tk tn ts tl⟩] ∧ ((l.take (k + 1)).filter (notB (dueB z))) = ((l.take k).filter (notB (dueB z)))) := by
          refine ⟨?_, ?_⟩
          · rw [HF1.out, HQQ.out]; simp
          · rw [HF2.out]; unfold notB; rw [HQQ.out]; simp
        have HFIN : Hid (∀ v' w6, w6.ownsRow w.heap.size 45 6 v' (((l.take k).filter (dueB z)).length + 1) (x1 ++ [.int .i64 ta, .int .i64 tp, .int .i64 tk, .int .i64 tn, .string ts, .slice tao tl.length tcap]) → (wr.alloc (.cells #[.int .i64 ta, .int .i64 tp, .int .i64 tk, .int .i64 tn, .string ts, .slice tao tl.length tcap] 45)).grownBy w6 (Value.slice ua ((l.take k).filter (dueB z)).length uc).ownBlock → (v'.ownBlock = (Value.slice ua ((l.take k).filter (dueB z)).length uc).ownBlock ∨ v'.ownBlock = some (wr.alloc (.cells #[.int .i64 ta, .int .i64 tp, .int .i64 tk, .int .i64 tn, .string ts, .slice tao tl.length tcap] 45)).heap.size) → Two eltSk w.heap.size bs0 w6 v' (.slice va ((l.take k).filter (notB (dueB z))).length vc) ((l.take (k + 1)).filter (dueB z)) ((l.take (k + 1)).filter (notB (dueB z))) (x1 ++ [.int .i64 ta, .int .i64 tp, .int .i64 tk, .int .i64 tn, .string ts, .slice tao tl.length tcap]) x2 (b1 ++ bt) b2 ∧ (∀ b ∈ bs0, w6.heap[b]? = w1.heap[b]?) ∧ Below w.heap.size w w6) := fun v' w6 h1 h2 h3 => by
          rw [HE1.out.1, HE1.out.2]
          exact ⟨HT3.out.more HV4.out HBT.out.2 HBT.out.1 h1 h2 h3, keep_grown HK4.out HT3.out.dl HT3.out.n1 h2, below_grown HB4.out HT3.out.r1 h2⟩
        have C3 : Hid (((l.take k).filter (dueB z)).length + 1 ≤ maxLen) := by have := HL1.out.1; show _ ≤ _; unfold maxLen; omega
        have C4 : Hid ((((l.take k).filter (dueB z)).length + 1) * 72 ≤ 140737488355328) := by have := HL1.out.1; show _ ≤ _; omega
        have HO7 : Hid ((wr.alloc (.cells #[.int .i64 ta, .int .i64 tp, .int .i64 tk, .int .i64 tn, .string ts, .slice tao tl.length tcap] 45)).ownsRow w.heap.size 45 6 (.slice ua ((l.take k).filter (dueB z)).length uc) ((l.take k).filter (dueB z)).length x1 ∧ w.heap.size ≤ (wr.alloc (.cells #[.int .i64 ta, .int .i64 tp, .int .i64 tk, .int .i64 tn, .string ts, .slice tao tl.length tcap] 45)).heap.size) := ⟨HT3.out.r1, HB4.out.size⟩
        go_wp2_with (at_builtin; refine wpList_append_own_at _ rfl _ _ 25 rfl w.heap.size 45 i0 (.agg #[.int .i64 0, .int .i64 0, .int .i64 0, .int .i64 0, .string ⟨#[]⟩, .slice none 0 0]) 6 72 undTimerS HI.out.1 HI.out.2.1 HI.out.2.2.1 HI.out.2.2.2 rfl (by decide) (.slice ua ((l.take k).filter (dueB z)).length uc) ((l.take k).filter (dueB z)).length x1 rfl HO7.out.1 ⟨wr.heap.size, 0, none⟩ 1 1 [.int .i64 ta, .int .i64 tp, .int .i64 tk, .int .i64 tn, .string ts, .slice tao tl.length tcap] rfl rfl sixCells sixOne C3.out C4.out HO7.out.2 ?_; intro v6 w6 hown6 hgr6 hnn6 hat6; have HG6 := hid (HFIN.out v6 w6 hown6 hgr6 hat6); clear hown6 hgr6 hnn6 hat6)
        go_roundw
        case rel => exact ⟨k + 1, _, x2, b1 ++ bt, b2, ba ++ bt, bn, by omega, by go_num, HNX.out.1, HNX.out.2, fun b hb => (by
          simp only [List.mem_append] at hb
          have hm := HMEM.out.2 b
          simp only [List.mem_append] at hm
          rw [List.mem_append]
          rcases hb with (hb | hb) | hb
          · exact .inl (hm (.inl hb))
          · exact .inr hb
          · exact .inl (hm (.inr hb))), HG6.out.1, HG6.out.2.1, HG6.out.2.2⟩
        case measure => simp [intOf]; omega
      · have HQQ : Hid (dueB z ⟨ta, tp, .mk tk tn ts tl⟩ = false) := by show decide (ta ≤ z) = false; simp [hd]
        have HE1 : Hid (((l.take (k + 1)).filter (dueB z)) = ((l.take k).filter (dueB z)) ∧ ((l.take (k + 1)).filter (notB (dueB z))) = ((l.take k).filter (notB (dueB z))) ++ [⟨ta, tp, .mk tk tn ts tl⟩]) := by
          refine ⟨?_, ?_⟩
          · rw [HF1.out, HQQ.out]; simp
          · rw [HF2.out]; unfold notB; rw [HQQ.out]; simp
        have HFIN : Hid (∀ v' w6, w6.ownsRow w.heap.size 45 6 v' (((l.take k).filter (notB (dueB z))).length + 1) (x2 ++ [.int .i64 ta, .int .i64 tp, .int .i64 tk, .int .i64 tn, .string ts, .slice tao tl.length tcap]) → (wr.alloc (.cells #[.int .i64 ta, .int .i64 tp, .int .i64 tk, .int .i64 tn, .string ts, .slice tao tl.length tcap] 45)).grownBy w6 (Value.slice va ((l.take k).filter (notB (dueB z))).length vc).ownBlock → (v'.ownBlock = (Value.slice va ((l.take k).filter (notB (dueB z))).length vc).ownBlock ∨ v'.ownBlock = some (wr.alloc (.cells #[.int .i64 ta, .int .i64 tp, .int .i64 tk, .int .i64 tn, .string ts, .slice tao tl.length tcap] 45)).heap.size) → Two eltSk w.heap.size bs0 w6 (.slice ua ((l.take k).filter (dueB z)).length uc) v' ((l.take (k + 1)).filter (dueB z)) ((l.take (k + 1)).filter (notB (dueB z))) x1 (x2 ++ [.int .i64 ta, .int .i64 tp, .int .i64 tk, .int .i64 tn, .string ts, .slice tao tl.length tcap]) b1 (b2 ++ bt) ∧ (∀ b ∈ bs0, w6.heap[b]? = w1.heap[b]?) ∧ Below w.heap.size w w6) := fun v' w6 h1 h2 h3 => by
          rw [HE1.out.1, HE1.out.2]
          exact ⟨(HT3.out.swap.more HV4.out HBT.out.2 (by
            obtain ⟨n1, n2, n3⟩ := List.nodup_append.1 HBT.out.1
            exact List.nodup_append.2 ⟨n1, nodup_swap n2, fun x hx y hy q => n3 x hx y (by rcases List.mem_append.1 hy with h | h <;> simp [h]) q⟩) h1 h2 h3).swap, keep_grown HK4.out HT3.out.dl HT3.out.n2 h2, below_grown HB4.out HT3.out.r2 h2⟩
        have C3 : Hid (((l.take k).filter (notB (dueB z))).length + 1 ≤ maxLen) := by have := HL1.out.2; show _ ≤ _; unfold maxLen; omega
        have C4 : Hid ((((l.take k).filter (notB (dueB z))).length + 1) * 72 ≤ 140737488355328) := by have := HL1.out.2; show _ ≤ _; omega
        have HO7 : Hid ((wr.alloc (.cells #[.int .i64 ta, .int .i64 tp, .int .i64 tk, .int .i64 tn, .string ts, .slice tao tl.length tcap] 45)).ownsRow w.heap.size 45 6 (.slice va ((l.take k).filter (notB (dueB z))).length vc) ((l.take k).filter (notB (dueB z))).length x2 ∧ w.heap.size ≤ (wr.alloc (.cells #[.int .i64 ta, .int .i64 tp, .int .i64 tk, .int .i64 tn, .string ts, .slice tao tl.length tcap] 45)).heap.size) := ⟨HT3.out.r2, HB4.out.size⟩
        go_wp2_with (at_builtin; refine wpList_append_own_at _ rfl _ _ 25 rfl w.heap.size 45 i0 (.agg #[.int .i64 0, .int .i64 0, .int .i64 0, .int .i64 0, .string ⟨#[]⟩, .slice none 0 0]) 6 72 undTimerS HI.out.1 HI.out.2.1 HI.out.2.2.1 HI.out.2.2.2 rfl (by decide) (.slice va ((l.take k).filter (notB (dueB z))).length vc) ((l.take k).filter (notB (dueB z))).length x2 rfl HO7.out.1 ⟨wr.heap.size, 0, none⟩ 1 1 [.int .i64 ta, .int .i64 tp, .int .i64 tk, .int .i64 tn, .string ts, .slice tao tl.length tcap] rfl rfl sixCells sixOne C3.out C4.out HO7.out.2 ?_; intro v6 w6 hown6 hgr6 hnn6 hat6; have HG6 := hid (HFIN.out v6 w6 hown6 hgr6 hat6); clear hown6 hgr6 hnn6 hat6)
        go_roundw
        case rel => exact ⟨k + 1, x1, _, b1, b2 ++ bt, ba ++ bt, bn, by omega, by go_num, HNX.out.1, HNX.out.2, fun b hb => (by
          simp only [List.mem_append] at hb
          have hm := HMEM.out.2 b
          simp only [List.mem_append] at hm
          rw [List.mem_append]
          rcases hb with hb | hb | hb
          · exact .inl (hm (.inl hb))
          · exact .inl (hm (.inr hb))
          · exact .inr hb), HG6.out.1, HG6.out.2.1, HG6.out.2.2⟩
        case measure => simp [intOf]; omega
    · have hkl : l.take k = l := List.take_of_length_le (by omega)
      have htw := HTW.out
      rw [hkl] at htw ⊢
      obtain ⟨a1, c1, a2, c2, e1, e2, h1, h2, h3, h4, h5, h6, h7⟩ := htw.done
      have HF : Hid (RowS wr a1 (l.filter (dueB z)) ∧ RowS wr a2 (l.filter (notB (dueB z)))) := ⟨GL.rowSk h3, GL.rowSk h4⟩
      rw [h1, h2]
      clear h1 h2 h3 h4 h5 h6 h7 htw hkl hgr
      go_wp2_with fail
      exact bodyPost_ret (v := .tuple #[.slice a1 (l.filter (dueB z)).length c1, .slice a2 (l.filter (notB (dueB z))).length c2]) (by simp [results, Try.results11, go_sem]) rfl ⟨⟨a1, c1, a2, c2, rfl, HF.out.1, HF.out.2⟩, HBE.out⟩

set_option maxHeartbeats 4000000 in
set_option maxRecDepth 100000 in
theorem specDrop_any (l : List Sd) (ao : Option Addr) (cap : Nat) (z : Int) (w : World) (hr : RowS w ao l) (hl : l.length ≤ 1048576) (hs : ∀ x ∈ l, StS x.t) :
    Calls Try.prog 15 #[.slice ao l.length cap, .int .i64 z] w fun e w' => (∃ a1 c1, e = .returned (.slice a1 (l.filter (notB (ofB z))).length c1) ∧ RowS w' a1 (l.filter (notB (ofB z)))) ∧ Below w.heap.size w w' := by
  obtain ⟨W, hW⟩ : ∃ W, W = w.alloc (.cells #[] 45) := ⟨_, rfl⟩
  have hbW : Below w.heap.size w W := by rw [hW]; exact (Below.refl _ _).alloc (Nat.le_refl _) _
  have hzW : W.heap.size = w.heap.size + 1 := by rw [hW]; simp
  have HT0 : Hid (Two eltSk w.heap.size [] W (.slice (some ⟨w.heap.size, 0, none⟩) 0 0) (.slice none 0 0) [] [] [] [] [] []) := by rw [hW]; exact Two.one w (Nat.le_refl _)
  have HBW : Hid (Below w.heap.size w W ∧ W.heap.size = w.heap.size + 1) := ⟨hbW, hzW⟩
  have HC : Hid (Calls Try.prog 23 #[.slice ao l.length cap] W fun e w' => ∃ a1 c1 bs, e = .returned (.slice a1 l.length c1) ∧ GL eltSk w' l bs a1 ∧ bs.Nodup ∧ (∀ b ∈ bs, W.heap.size ≤ b) ∧ Below W.heap.size W w') :=
    (l14Copy_any l ao cap W (hr.below hbW) hl hs).mono fun e w' ⟨u, xs, bs, D, h1, h2, h3, h4⟩ => by
      obtain ⟨a1, c1, a2, c2, e1, e2, f1, f2, g1, g2, n, i1, i2⟩ := h2.done
      refine ⟨a1, c1, e1, by rw [h1, f1], g1, (List.nodup_append.1 n).1, fun b hb => ?_, h4⟩
      rcases i1 b hb with q | q
      · exact h3 b (h2.i1 b q)
      · exact q
  obtain ⟨i0, hi, hzz⟩ := Option.map_eq_some_iff.1 infoTimer
  simp only [Prod.mk.injEq] at hzz
  have HI : Hid (Try.prog.info? 45 = some i0 ∧ i0.zero = some (.agg #[.int .i64 0, .int .i64 0, .int .i64 0, .int .i64 0, .string ⟨#[]⟩, .slice none 0 0]) ∧ i0.size = 6 ∧ i0.bytes = 72) := ⟨hi, hzz⟩
  clear hr hs hbW hzW hi hzz
  go_enter Try.func15, Try.ntmps15
  go_wp2_with (go_at_call 23; fail)
  rw [← hW]
  clear hW
  refine HC.out.mono ?_
  rintro e w1 ⟨ac, cc, bs0, rfl, hg1, hn1, hlo1, hb1⟩
  obtain ⟨g, o, b0, hao, hr0, hnd, hsub⟩ := glk_row hg1 hn1
  have HAO : Hid (l ≠ [] → ac = some ⟨g, o, none⟩ ∧ g ∈ bs0) := hao
  have HND : Hid (b0.Nodup ∧ ∀ b ∈ b0, b ∈ bs0) := ⟨hnd, hsub⟩
  have HR0 : Hid (GR eltSk w1 l b0 g o) := hr0
  have HT1 : Hid (Two eltSk w.heap.size bs0 w1 (.slice (some ⟨w.heap.size, 0, none⟩) 0 0) (.slice none 0 0) [] [] [] [] [] []) :=
    Two.wide (HT0.out.call hb1) (fun b hb => hg1.lt b hb) (fun b hb => ⟨fun q => by have := (own_base HT0.out.r1 q).2; have := hlo1 b hb; omega, fun q => by have := (own_base HT0.out.r2 q).2; have := hlo1 b hb; omega⟩)
  have HB1 : Hid (Below w.heap.size w w1) := HBW.out.1.trans (hb1.mono HBW.out.1.size)
  clear hao hr0 hnd hsub hg1 hn1 hlo1 hb1
  go_wp2_with fail
  go_loopw [5, 7] (fun u1 i wr => ∃ (k : Nat) (x1 : List Value) (b1 ba br : List Nat), k ≤ l.length ∧ i = .int .i64 k ∧ b0 = ba ++ br ∧ GR eltSk w1 (l.drop k) br g (o + k * 6) ∧ (∀ b ∈ b1 ++ [], b ∈ ba) ∧ Two eltSk w.heap.size bs0 wr u1 (.slice none 0 0) ((l.take k).filter (notB (ofB z))) [] x1 [] b1 [] ∧ (∀ b ∈ bs0, wr.heap[b]? = w1.heap[b]?) ∧ Below w.heap.size w wr) (fun _ i _ => l.length - (intOf i).toNat)
  case atStart => exact ⟨0, [], [], [], b0, Nat.zero_le _, rfl, rfl, by simpa using HR0.out, (fun b hb => by cases hb), HT1.out, (fun b hb => rfl), HB1.out⟩
  case round =>
    obtain ⟨k, x1, b1, ba, br, hk, rfl, eb, hgr, hmem, htw, hke, hbe⟩ := hrel
    obtain ⟨ua, uc, rfl⟩ := htw.form1
    have HTW : Hid (Two eltSk w.heap.size bs0 wr (.slice ua ((l.take k).filter (notB (ofB z))).length uc) (.slice none 0 0) ((l.take k).filter (notB (ofB z))) [] x1 [] b1 []) := htw
    have HBE : Hid (Below w.heap.size w wr) := hbe
    have HKE : Hid (∀ b ∈ bs0, wr.heap[b]? = w1.heap[b]?) := hke
    have HMEM : Hid (b0 = ba ++ br ∧ ∀ b ∈ b1 ++ [], b ∈ ba) := ⟨eb, hmem⟩
    clear htw hbe hmem eb hke
    by_cases hlt : k < l.length
    · obtain ⟨rfl, hgm⟩ := HAO.out (fun h => by rw [h] at hlt; simp at hlt)
      rw [List.drop_eq_getElem_cons hlt, GR] at hgr
      obtain ⟨bt, bn, ebr, hE, hgn⟩ := hgr
      have HNX : Hid (b0 = (ba ++ bt) ++ bn ∧ GR eltSk w1 (l.drop (k + 1)) bn g (o + (k + 1) * 6)) := by
        refine ⟨by rw [HMEM.out.1, ebr, List.append_assoc], ?_⟩
        have e6 : o + k * 6 + eltSk.s = o + (k + 1) * 6 := by show o + k * 6 + 6 = _; omega
        rw [← e6]; exact hgn
      have HBT : Hid ((bt ++ (b1 ++ [])).Nodup ∧ ∀ b ∈ bt, b ∈ bs0) := by
        have hn := HND.out.1
        rw [HMEM.out.1, ebr] at hn
        obtain ⟨n1, n2, n3⟩ := List.nodup_append.1 hn
        refine ⟨List.nodup_append.2 ⟨(List.nodup_append.1 n2).1, HTW.out.nd, fun x hx y hy q => n3 y (HMEM.out.2 y hy) x (by simp [hx]) q.symm⟩, fun b hb => HND.out.2 b (by rw [HMEM.out.1, ebr]; simp [hb])⟩
      have HF1 : Hid (((l.take (k + 1)).filter (notB (ofB z))) = ((l.take k).filter (notB (ofB z))) ++ (if (notB (ofB z)) l[k] = true then [l[k]] else [])) := take_filter hlt _
      have HL1 : Hid (((l.take k).filter (notB (ofB z))).length ≤ k) := by
        have h1 : ((l.take k).filter (notB (ofB z))).length ≤ (l.take k).length := List.length_filter_le _ _
        rw [List.length_take] at h1
        exact by show _ ≤ _; omega
      have hE' : eltSk.E wr l[k] bt g (o + k * 6) := eltSk.keep (fun x hx _ => HKE.out x (HBT.out.2 x hx)) (fun j v hj hv => (World.cell?_of_block (w := w1) (HKE.out g hgm)).trans hv) hE
      clear hE hgn ebr hgm
      generalize l[k] = x at hE' HF1
      obtain ⟨ta, tp, t⟩ := x
      obtain ⟨tk, tn, ts, tl⟩ := t
      have hE2 := hE'
      obtain ⟨d0, d1, _, hRT⟩ := hE'
      dsimp only at d0 d1 hRT
      rw [RpT] at hRT
      obtain ⟨d2, d3, d4, hs4, tao, tcap, d5, hl5, hc5, hr5⟩ := hRT
      have HVE : Hid (VE eltSk wr ⟨ta, tp, .mk tk tn ts tl⟩ [.int .i64 ta, .int .i64 tp, .int .i64 tk, .int .i64 tn, .string ts, .slice tao tl.length tcap] bt) := ve_sk hE2 _ rfl (six_of d0 d1 d2 d3 d4 d5)
      clear hE2 hs4 hl5 hc5 hr5
      have HAL : Hid (Below wr.heap.size wr (wr.alloc (.cells #[.int .i64 ta, .int .i64 tp, .int .i64 tk, .int .i64 tn, .string ts, .slice tao tl.length tcap] 45))) := (Below.refl _ _).alloc (Nat.le_refl _) _
      have HT3 : Hid (Two eltSk w.heap.size bs0 (wr.alloc (.cells #[.int .i64 ta, .int .i64 tp, .int .i64 tk, .int .i64 tn, .string ts, .slice tao tl.length tcap] 45)) (.slice ua ((l.take k).filter (notB (ofB z))).length uc) (.slice none 0 0) ((l.take k).filter (notB (ofB z))) [] x1 [] b1 []) := HTW.out.call HAL.out
      have HB4 : Hid (Below w.heap.size w (wr.alloc (.cells #[.int .i64 ta, .int .i64 tp, .int .i64 tk, .int .i64 tn, .string ts, .slice tao tl.length tcap] 45))) := HBE.out.alloc HBE.out.size _
      have HV4 : Hid (VE eltSk (wr.alloc (.cells #[.int .i64 ta, .int .i64 tp, .int .i64 tk, .int .i64 tn, .string ts, .slice tao tl.length tcap] 45)) ⟨ta, tp, .mk tk tn ts tl⟩ [.int .i64 ta, .int .i64 tp, .int .i64 tk, .int .i64 tn, .string ts, .slice tao tl.length tcap] bt) := HVE.out.keep HAL.out.size (fun x hx => HAL.out.block x (HVE.out.2.1 x hx))
      have HK4 : Hid (∀ b ∈ bs0, (wr.alloc (.cells #[.int .i64 ta, .int .i64 tp, .int .i64 tk, .int .i64 tn, .string ts, .slice tao tl.length tcap] 45)).heap[b]? = w1.heap[b]?) := fun b hb => (HAL.out.block b (HTW.out.dl b hb)).trans (HKE.out b hb)
      by_cases hd : tp = z
      · have HQQ : Hid (ofB z ⟨ta, tp, .mk tk tn ts tl⟩ = true) := by show (tp == z) = true; simp [hd]
        have HE1 : Hid (((l.take (k + 1)).filter (notB (ofB z))) = ((l.take k).filter (notB (ofB z)))) := by
          show _ = _
          rw [HF1.out]; unfold notB; rw [HQQ.out]; simp
        have HTN : Hid (Two eltSk w.heap.size bs0 wr (.slice ua ((l.take k).filter (notB (ofB z))).length uc) (.slice none 0 0) ((l.take (k + 1)).filter (notB (ofB z))) [] x1 [] b1 []) := by have h := HTW.out; rw [← HE1.out] at h ⊢; exact h
        go_wp2_with fail
        go_roundw
        case rel => exact ⟨k + 1, x1, b1, ba ++ bt, bn, by omega, by go_num, HNX.out.1, HNX.out.2, fun b hb => List.mem_append_left _ (HMEM.out.2 b hb), HTN.out, HKE.out, HBE.out⟩
        case measure => simp [intOf]; omega
      · have HQQ : Hid (ofB z ⟨ta, tp, .mk tk tn ts tl⟩ = false) := by show (tp == z) = false; simp [hd]
        have HE1 : Hid (((l.take (k + 1)).filter (notB (ofB z))) = ((l.take k).filter (notB (ofB z))) ++ [⟨ta, tp, .mk tk tn ts tl⟩]) := by
          show _ = _
          rw [HF1.out]; unfold notB; rw [HQQ.out]; simp
        have HFIN : Hid (∀ v' w6, w6.ownsRow w.heap.size 45 6 v' (((l.take k).filter (notB (ofB z))).length + 1) (x1 ++ [.int .i64 ta, .int .i64 tp, .int .i64 tk, .int .i64 tn, .string ts, .slice tao tl.length tcap]) → (wr.alloc (.cells #[.int .i64 ta, .int .i64 tp, .int .i64 tk, .int .i64 tn, .string ts, .slice tao tl.length tcap] 45)).grownBy w6 (Value.slice ua ((l.take k).filter (notB (ofB z))).length uc).ownBlock → (v'.ownBlock = (Value.slice ua ((l.take k).filter (notB (ofB z))).length uc).ownBlock ∨ v'.ownBlock = some (wr.alloc (.cells #[.int .i64 ta, .int .i64 tp, .int .i64 tk, .int .i64 tn, .string ts, .slice tao tl.length tcap] 45)).heap.size) → Two eltSk w.heap.size bs0 w6 v' (.slice none 0 0) ((l.take (k + 1)).filter (notB (ofB z))) [] (x1 ++ [.int .i64 ta, .int .i64 tp, .int .i64 tk, .int .i64 tn, .string ts, .slice tao tl.length tcap]) [] (b1 ++ bt) [] ∧ (∀ b ∈ bs0, w6.heap[b]? = w1.heap[b]?) ∧ Below w.heap.size w w6) := fun v' w6 h1 h2 h3 => by
          rw [HE1.out]
          exact ⟨HT3.out.more HV4.out HBT.out.2 HBT.out.1 h1 h2 h3, keep_grown HK4.out HT3.out.dl HT3.out.n1 h2, below_grown HB4.out HT3.out.r1 h2⟩
        have C3 : Hid (((l.take k).filter (notB (ofB z))).length + 1 ≤ maxLen) := by have := HL1.out; show _ ≤ _; unfold maxLen; omega
        have C4 : Hid ((((l.take k).filter (notB (ofB z))).length + 1) * 72 ≤ 140737488355328) := by have := HL1.out; show _ ≤ _; omega
        have HO7 : Hid ((wr.alloc (.cells #[.int .i64 ta, .int .i64 tp, .int .i64 tk, .int .i64 tn, .string ts, .slice tao tl.length tcap] 45)).ownsRow w.heap.size 45 6 (.slice ua ((l.take k).filter (notB (ofB z))).length uc) ((l.take k).filter (notB (ofB z))).length x1 ∧ w.heap.size ≤ (wr.alloc (.cells #[.int .i64 ta, .int .i64 tp, .int .i64 tk, .int .i64 tn, .string ts, .slice tao tl.length tcap] 45)).heap.size) := ⟨HT3.out.r1, HB4.out.size⟩
        go_wp2_with (at_builtin; refine wpList_append_own_at _ rfl _ _ 25 rfl w.heap.size 45 i0 (.agg #[.int .i64 0, .int .i64 0, .int .i64 0, .int .i64 0, .string ⟨#[]⟩, .slice none 0 0]) 6 72 undTimerS HI.out.1 HI.out.2.1 HI.out.2.2.1 HI.out.2.2.2 rfl (by decide) (.slice ua ((l.take k).filter (notB (ofB z))).length uc) ((l.take k).filter (notB (ofB z))).length x1 rfl HO7.out.1 ⟨wr.heap.size, 0, none⟩ 1 1 [.int .i64 ta, .int .i64 tp, .int .i64 tk, .int .i64 tn, .string ts, .slice tao tl.length tcap] rfl rfl sixCells sixOne C3.out C4.out HO7.out.2 ?_; intro v6 w6 hown6 hgr6 hnn6 hat6; have HG6 := hid (HFIN.out v6 w6 hown6 hgr6 hat6); clear hown6 hgr6 hnn6 hat6)
        go_roundw
        case rel => exact ⟨k + 1, _, b1 ++ bt, ba ++ bt, bn, by omega, by go_num, HNX.out.1, HNX.out.2, fun b hb => (by
          simp only [List.mem_append, List.append_nil] at hb
          have hm := HMEM.out.2 b
          simp only [List.append_nil] at hm
          rw [List.mem_append]
          rcases hb with hb | hb
          · exact .inl (hm hb)
          · exact .inr hb), HG6.out.1, HG6.out.2.1, HG6.out.2.2⟩
        case measure => simp [intOf]; omega
    · have hkl : l.take k = l := List.take_of_length_le (by omega)
      have htw := HTW.out
      rw [hkl] at htw ⊢
      obtain ⟨a1, c1, a2, c2, e1, e2, h1, h2, h3, h4, h5, h6, h7⟩ := htw.done
      have HF : Hid (RowS wr a1 (l.filter (notB (ofB z)))) := GL.rowSk h3
      rw [h1]
      clear h1 h2 h3 h4 h5 h6 h7 htw hkl hgr
      go_wp2_with fail
      go_ret
      exact ⟨⟨a1, c1, rfl, HF.out⟩, HBE.out⟩
end Go.Proofs.Ytljfjaoebbmfgaa.Tr
