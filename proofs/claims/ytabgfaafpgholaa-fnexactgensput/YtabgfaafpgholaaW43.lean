/-
  The count of a term's words, the program's, walked: of a term whose lists stand in blocks of their own, no list is met twice.
-/
import Derived.Test.YtabgfaafpgholaaW39
import Derived.Deep.LoopGhost
import Derived.Deep.CutRange
import Derived.Deep.RegionHeld3
import Derived.Deep.RegionLaw
import Derived.WalkSmall
namespace Go.Proofs.Ytabgfaafpgholaa
open Go.RowKit
set_option linter.unusedVariables false

theorem keepN {w w' : World} (h : Below w.heap.size w w') {b o : Nat} {v : Value} (hc : w.cell? ⟨b, o, none⟩ = some v) : w'.cell? ⟨b, o, none⟩ = some v := by
  rw [h.cell (p := ⟨b, o, none⟩) (World.block_lt_of_cell? w _ hc)]; exact hc
theorem ret_n {x y : Int} (h : x = y) : Ending.returned (.int .i64 x) = .returned (.int .i64 y) := by rw [h]
theorem cell_blkN {w : World} {R o : Nat} {cs : Array Value} {t : TypeId} {f : Nat × Nat} (h : w.heap[R]? = some (.cells cs t f)) : w.cell? ⟨R, o, none⟩ = cs[o]? := by simp [World.cell?, h]
theorem need_start {w : World} {k n : Int} {s : ByteArray} {l : List Tm} {ao : Option Addr} {cap : Nat} {bs : List Nat} (hv : OsV w bs (.mk k n s l) (.agg #[.int .i64 k, .int .i64 n, .string s, .slice ao l.length cap])) (hnd : bs.Nodup) (W : World)
    (hW : W = (w.alloc (.cells #[.int .i64 k, .int .i64 n, .string s, .slice ao l.length cap] 39)).alloc (.cells #[.int .i64 k, .int .i64 n, .string s, .slice ao l.length cap] 39)) (w0 : World)
    (hw0 : w0 = (W.alloc (.cells #[.pointer none, .int .i64 0, .slice (some ⟨w.heap.size + 1, 0, none⟩) 1 1, .int .i64 0] 160)).alloc (.map #[] 0)) :
    Below w.heap.size w W ∧ NO W w0 (w.heap.size + 1 + 1 + 1) (.slice (some ⟨w.heap.size + 1 + 1, 0, none⟩) 1 1) [((none, 0), [.mk k n s l], 0)] [.pointer none, .int .i64 0, .slice (some ⟨w.heap.size + 1, 0, none⟩) 1 1, .int .i64 0] bs (fun _ => False) := by
  have hbW : Below w.heap.size w W := by rw [hW]; exact ((Below.refl _ _).alloc (Nat.le_refl _) _).alloc (by simp) _
  have hzW : W.heap.size = w.heap.size + 1 + 1 := by rw [hW]; simp
  have b1 : W.heap[w.heap.size + 1]? = some (.cells #[.int .i64 k, .int .i64 n, .string s, .slice ao l.length cap] 39 (0, 0)) := by
    rw [hW]
    have := heap_alloc_new (w.alloc (.cells #[.int .i64 k, .int .i64 n, .string s, .slice ao l.length cap] 39)) (.cells #[.int .i64 k, .int .i64 n, .string s, .slice ao l.length cap] 39)
    rw [World.size_alloc] at this; exact this
  have hrow : OsR W [.mk k n s l] bs (w.heap.size + 1) 0 := by
    obtain ⟨ao', cap', e, h1, h2, h3, h4⟩ := hv
    cases e
    rw [OsR]
    refine ⟨bs, [], by simp, ?_, by rw [OsR]⟩
    rw [OsT]
    exact ⟨cell_blkN b1, cell_blkN b1, cell_blkN b1, h1, ao, cap, cell_blkN b1, h2, h3, OsL.keep l bs ao (fun x hx hl => hbW.block x hl) h4⟩
  have hz1 : (W.alloc (.cells #[.pointer none, .int .i64 0, .slice (some ⟨w.heap.size + 1, 0, none⟩) 1 1, .int .i64 0] 160)).heap.size = w.heap.size + 1 + 1 + 1 := by rw [World.size_alloc, hzW]
  have hm := heap_alloc_new (W.alloc (.cells #[.pointer none, .int .i64 0, .slice (some ⟨w.heap.size + 1, 0, none⟩) 1 1, .int .i64 0] 160)) (.map #[] 0)
  have ho := World.ownsRow_lit (base := W.heap.size) (e := 160) (size := 4) W #[.pointer none, .int .i64 0, .slice (some ⟨w.heap.size + 1, 0, none⟩) 1 1, .int .i64 0] 1 (Nat.le_refl _) (by decide) rfl
  rw [hz1] at hm
  rw [hzW] at ho
  refine ⟨hbW, by rw [hw0]; exact ((Below.refl _ _).alloc (Nat.le_refl _) _).alloc (by rw [World.size_alloc]; omega) _, by rw [hw0, hzW]; exact ho.alloc _, ?_, hnd, fun _ _ h => h, fun _ h => h.elim, (fun p hp => by cases hp), ⟨#[], 0, by rw [hw0]; exact hm, fun e he => by simp at he⟩, by omega⟩
  rw [NStk]
  exact ⟨w.heap.size + 1, 0, 1, _, [], bs, [], rfl, fun _ => rfl, Nat.le_refl _, by decide, hrow, by simp, by rw [NStk]; exact ⟨rfl, rfl⟩⟩
theorem allK_k {t : Tm} {k n : Int} {s : ByteArray} {l : List Tm} (h : AllK (.mk k n s l)) : (1 ≤ k ∧ k ≤ 6) ∧ (k = 4 ∨ k = 5 ∨ l = []) ∧ AllKL l := by
  rw [AllK] at h
  rcases h.1 with ⟨h1, h2⟩ | h1 | h1
  · exact ⟨by omega, .inr (.inr h2), h.2⟩
  · exact ⟨by omega, .inl h1, h.2⟩
  · exact ⟨by omega, .inr (.inl h1), h.2⟩
theorem oneN {a b c d : Value} (h : a.oneCell' = true) (h2 : b.oneCell' = true) (h3 : c.oneCell' = true) (h4 : d.oneCell' = true) : ∀ v ∈ [a, b, c, d], v.oneCell' = true := fun v hv => by
  simp at hv
  rcases hv with rfl | rfl | rfl | rfl <;> assumption
theorem fourN {w : World} {a b c d : Value} {t : TypeId} : ∀ j u, [a, b, c, d][j]? = some u → (w.alloc (.cells #[a, b, c, d] t)).cell? ((⟨w.heap.size, 0, none⟩ : Addr).add j) = some u := fun j u h => by
  rw [Addr.add_lit, Nat.zero_add, World.cell?_alloc_new]
  simpa using h
/-- The list within, and where it stands. -/
theorem inner_os {W : World} {k n : Int} {s : ByteArray} {l : List Tm} {bt : List Nat} {b o : Nat} (h : OsT W (.mk k n s l) bt b o) (hK : k = 4 ∨ k = 5 ∨ l = []) :
    ∃ ao cap, W.cell? ⟨b, o, none⟩ = some (.int .i64 k) ∧ W.cell? ⟨b, o + 1, none⟩ = some (.int .i64 n) ∧ W.cell? ⟨b, o + 2, none⟩ = some (.string s) ∧ W.cell? ⟨b, o + 3, none⟩ = some (.slice ao l.length cap) ∧ s.size ≤ 1048576 ∧
      ∃ ia ic, inn k (.slice ao l.length cap) = .slice ia l.length ic ∧ l.length ≤ ic ∧ ic ≤ maxLen ∧ (l ≠ [] → ∃ g x b', bt = g :: b' ∧ ia = some ⟨g, x, none⟩ ∧ OsR W l b' g x ∧ Plain W g ∧ g < W.heap.size) := by
  rw [OsT] at h
  obtain ⟨h0, h1, h2, hs, ao, cap, h3, hl, hc, hr⟩ := h
  refine ⟨ao, cap, h0, h1, h2, h3, hs, ?_⟩
  by_cases hk : k = 4 ∨ k = 5
  · refine ⟨ao, cap, by unfold inn; rw [if_pos hk], hl, hc, fun hne => ?_⟩
    obtain ⟨g, x, b', e1, e2, e3, e4⟩ := (OsL.iff hne).1 hr
    subst e2
    exact ⟨g, x, b', e1, rfl, e4, OsL.plain hne hr, OsL.lt l bt _ hr g (by rw [e1]; simp)⟩
  · have hl0 : l = [] := by rcases hK with h | h | h; exact absurd (.inl h) hk; exact absurd (.inr h) hk; exact h
    subst hl0
    exact ⟨none, 0, by unfold inn; rw [if_neg hk]; rfl, Nat.le_refl _, by decide, fun h => absurd rfl h⟩

set_option maxHeartbeats 4000000 in
set_option maxRecDepth 100000 in
theorem implNeed_any (k n : Int) (s : ByteArray) (l : List Tm) (ao : Option Addr) (cap : Nat) (bs : List Nat) (w : World) (hv : OsV w bs (.mk k n s l) (.agg #[.int .i64 k, .int .i64 n, .string s, .slice ao l.length cap])) (hnd : bs.Nodup) (hK : AllK (.mk k n s l)) (hb : ndT (.mk k n s l) ≤ 1000000) (hc : ntL [.mk k n s l] ≤ 1000000) :
    Calls Try.prog 95 #[.agg #[.int .i64 k, .int .i64 n, .string s, .slice ao l.length cap]] w fun e w' => e = .returned (.int .i64 ((ndT (.mk k n s l) : Nat) : Int)) ∧ Below w.heap.size w w' := by
  obtain ⟨W, hW⟩ : ∃ W, W = (w.alloc (.cells #[.int .i64 k, .int .i64 n, .string s, .slice ao l.length cap] 39)).alloc (.cells #[.int .i64 k, .int .i64 n, .string s, .slice ao l.length cap] 39) := ⟨_, rfl⟩
  obtain ⟨w0, hw0⟩ : ∃ w0, w0 = (W.alloc (.cells #[.pointer none, .int .i64 0, .slice (some ⟨w.heap.size + 1, 0, none⟩) 1 1, .int .i64 0] 160)).alloc (.map #[] 0) := ⟨_, rfl⟩
  obtain ⟨hbW, hT0⟩ := need_start hv hnd W hW w0 hw0
  obtain ⟨C, hC⟩ : ∃ C, C = ndT (.mk k n s l) := ⟨_, rfl⟩
  have HT0 : Hid (NO W w0 (w.heap.size + 1 + 1 + 1) (.slice (some ⟨w.heap.size + 1 + 1, 0, none⟩) 1 1) [((none, 0), [.mk k n s l], 0)] [.pointer none, .int .i64 0, .slice (some ⟨w.heap.size + 1, 0, none⟩) 1 1, .int .i64 0] bs (fun _ => False)) := hT0
  have HBW : Hid (Below w.heap.size w W) := hbW
  have HA0 : Hid (AllS [(((none, 0), [.mk k n s l], 0) : Sk)]) := by show AllS _; rw [AllS, AllS]; exact ⟨⟨hK, trivial⟩, trivial⟩
  have HC0 : Hid (totN [(((none, 0), [.mk k n s l], 0) : Sk)] = C) := by show totN _ = _; rw [totN, totN, hC]; simp [ndL]
  have HM0 : Hid (msrN [(((none, 0), [.mk k n s l], 0) : Sk)] ≤ 4000000) := by show msrN _ ≤ _; rw [msrN, msrN]; dsimp only; omega
  have HCB : Hid (C ≤ 1000000) := by show _ ≤ _; omega
  rw [← hC]
  obtain ⟨p0, hp0⟩ : ∃ p0, p0 = (((none, 0), [.mk k n s l], 0) : Sk) := ⟨_, rfl⟩
  rw [← hp0] at HT0 HA0 HC0 HM0
  obtain ⟨i0, hi0, hzz⟩ := Option.map_eq_some_iff.1 infoNeeding
  simp only [Prod.mk.injEq] at hzz
  have HI : Hid (Try.prog.info? 160 = some i0 ∧ i0.zero = some (.agg #[.pointer none, .int .i64 0, .slice none 0 0, .int .i64 0]) ∧ i0.size = 4 ∧ i0.bytes = 48) := ⟨hi0, hzz⟩
  have hmm := @run_makeMap Try.prog
  clear hT0 hbW hv hnd hK hb hc hC hp0 hi0 hzz
  go_enter Try.func95, Try.ntmps95
  go_wp2_with fail
  clear hmm
  rw [← hW, ← hw0]
  clear hW hw0
  go_loopg [3] (msrN [p0]) (fun gk u wr => ∃ ps xs bs' S, gk = msrN ps ∧ ps ≠ [] ∧ msrN ps ≤ 4000000 ∧ AllS ps ∧ totN ps = C ∧ NO W wr (w.heap.size + 1 + 1 + 1) u ps xs bs' S)
  case atStart => exact ⟨[p0], _, _, _, rfl, by simp, HM0.out, HA0.out, HC0.out, HT0.out⟩
  case round =>
    obtain ⟨ps, xs, bs', S, rfl, hne, hms, hall, htot, hto⟩ := hrel
    have HMS : Hid (msrN ps ≤ 4000000) := hms
    clear HT0 HC0 HA0 HM0 hms
    rcases ps.eq_nil_or_concat with rfl | ⟨qs, p, hps⟩
    · exact absurd rfl hne
    rw [List.concat_eq_append] at hps
    subst hps
    obtain ⟨nm, m, nd⟩ := p
    obtain ⟨g, c, b, o, ca, ao', ys, b1, b2, rfl, e2, e3, e4, e5, e6, e7, e8, e9, h1, h2, c0, c1, c2, c3, hfz⟩ := hto.top
    rw [totN_top] at htot
    have HALL : Hid (AllS qs ∧ AllKL m) := (AllS_snoc (nm, m, nd) qs).1 hall
    have HTOT : Hid (totN qs + (nd + ndL m) = C) := htot
    have HTO : Hid (NO W wr (w.heap.size + 1 + 1 + 1) (.slice (some ⟨g, 0, none⟩) (qs.length + 1) c) (qs ++ [(nm, m, nd)]) xs bs' S) := hto
    have HQC : Hid (qs.length + 1 ≤ c ∧ c ≤ maxLen) := ⟨h1, h2⟩
    have HST : Hid (xs = ys ++ [npV nm.1, .int .i64 nm.2, .slice ao' m.length ca, .int .i64 nd] ∧ ys.length = qs.length * 4 ∧ NStk W qs ys b2 ∧ bs' = b2 ++ b1 ∧ OsR W m b1 b o ∧ (m ≠ [] → ao' = some ⟨b, o, none⟩) ∧ m.length ≤ ca ∧ ca ≤ maxLen) := ⟨e2, e3, e4, e5, e6, e7, e8, e9⟩
    obtain ⟨N, hN⟩ : ∃ N, N = qs.length := ⟨_, rfl⟩
    obtain ⟨M, hM⟩ : ∃ M, M = N + 1 := ⟨_, rfl⟩
    have HN : Hid (N = qs.length ∧ M = N + 1) := ⟨hN, hM⟩
    rw [← hN] at c0 c1 c2 c3
    rw [← hN, ← hM]
    have em : IntKind.i64.wrap ((M : Int) - 1) = (N : Int) := by unfold maxLen at h2; rw [IntKind.wrap_i64]; omega
    have hq1 : N < M := by omega
    have hM0 : (0 : Int) < (M : Int) := by omega
    have hM1 : ¬ (M : Int) ≤ 0 := by omega
    have hNc : (N : Int) ≤ (c : Int) := by omega
    clear hto hne hall htot h1 h2 e2 e3 e4 e5 e6 e7 e8 e9 hN hM
    rcases m with _ | ⟨⟨tk, tn, ts, tl⟩, r⟩
    · have hz0 : ((([] : List Tm).length : Int) == 0) = true := rfl
      obtain ⟨P, hP⟩ : ∃ P, npV nm.1 = .pointer P := by
        rcases nm.1 with _ | ⟨x, y⟩
        · exact ⟨none, rfl⟩
        · exact ⟨_, rfl⟩
      rw [hP] at c0
      by_cases hq0 : qs = []
      · have hN0 : ((N : Int) == 0) = true := by have := HN.out.1; rw [hq0] at this; simp at this; simp [this]
        have HF : Hid (nd = C ∧ Below w.heap.size w wr) := by
          refine ⟨?_, HBW.out.trans (HTO.out.bel.mono HBW.out.size)⟩
          have := HTOT.out
          rw [hq0] at this
          simp [totN, ndL] at this
          exact this
        clear hP
        go_wp2_with fail
        go_ret
        exact ⟨ret_n (by rw [HF.out.1]), HF.out.2.alloc HF.out.2.size _⟩
      · obtain ⟨qs', q, hqs⟩ : ∃ qs' q, qs = qs' ++ [q] := by
          rcases qs.eq_nil_or_concat with h | ⟨qs', q, h⟩
          · exact absurd h hq0
          · exact ⟨qs', q, by rw [h, List.concat_eq_append]⟩
        obtain ⟨nm', m', nd'⟩ := q
        obtain ⟨Q, hQ⟩ : ∃ Q, Q = qs'.length := ⟨_, rfl⟩
        have hNQ : N = Q + 1 := by rw [HN.out.1, hqs, List.length_append, hQ]; rfl
        have hN0 : ((N : Int) == 0) = false := by simp; omega
        have em2 : IntKind.i64.wrap ((N : Int) - 1) = (Q : Int) := by have := HQC.out; have := HN.out; unfold maxLen at this; rw [IntKind.wrap_i64]; unfold maxLen at *; omega
        have hq2 : Q < N := by omega
        obtain ⟨bb, oo, hbo, hSb⟩ : ∃ bb oo, nm.1 = some (bb, oo) ∧ S bb := by
          refine HTO.out.nam (nm, [], nd) ?_
          rw [hqs]
          cases qs' <;> simp
        rw [hbo] at hP
        have hP2 : P = some ⟨bb, oo, none⟩ := by cases hP; rfl
        subst hP2
        have HPOP : Hid (∃ zs, NO W wr (w.heap.size + 1 + 1 + 1) (.slice (some ⟨g, 0, none⟩) (Q + 1) c) (qs' ++ [(nm', m', nd')]) zs bs' S) := by
          obtain ⟨zs, h⟩ := HTO.out.pop
          rw [hqs] at h
          rw [List.length_append, ← hQ] at h
          exact ⟨zs, h⟩
        have HTOT2 : Hid (totN qs' + (nd' + ndL m') + nd = C) := by
          have := HTOT.out
          rw [hqs, totN_top, ndL] at this
          exact this
        have HMS2 : Hid (msrN (qs' ++ [(nm', m', nd')]) < msrN (qs ++ [(nm, [], nd)]) ∧ msrN (qs' ++ [(nm', m', nd')]) ≤ 4000000) := by
          have h9 := HMS.out
          rw [hqs, msrN_top] at h9
          rw [hqs, msrN_top (qs' ++ [(nm', m', nd')])]
          exact ⟨by omega, by omega⟩
        have HAL2 : Hid (AllS (qs' ++ [(nm', m', nd')])) := by have := HALL.out.1; rw [hqs] at this; exact this
        have HQ : Hid (Q = qs'.length) := hQ
        have HSM : Hid (Plain W bb ∧ bb < W.heap.size) := HTO.out.sm bb hSb
        have HSB : Hid (S bb) := hSb
        obtain ⟨wd, hwd⟩ : ∃ wd, wd = wr.alloc (.cells #[.pointer (some ⟨bb, oo, none⟩), .int .i64 nm.2, .slice ao' 0 ca, .int .i64 nd] 160) := ⟨_, rfl⟩
        have hbd : Below wr.heap.size wr wd := by rw [hwd]; exact (Below.refl _ _).alloc (Nat.le_refl _) _
        have hdn : ∀ j, wd.cell? ⟨wr.heap.size, j, none⟩ = (#[.pointer (some ⟨bb, oo, none⟩), .int .i64 nm.2, .slice ao' 0 ca, .int .i64 nd] : Array Value)[j]? := fun j => by rw [hwd, World.cell?_alloc_new]
        obtain ⟨zs, hpd⟩ : ∃ zs, NO W wd (w.heap.size + 1 + 1 + 1) (.slice (some ⟨g, 0, none⟩) (Q + 1) c) (qs' ++ [(nm', m', nd')]) zs bs' S := by
          obtain ⟨zs, h⟩ := HPOP.out
          exact ⟨zs, h.call hbd⟩
        have hpl : Plain wd bb := (plainP_keep9 (p := some (bb, oo)) HSM.out.1 (fun b' o' e => by cases e; exact hpd.bel.block _ HSM.out.2) : PlainP wd (some (bb, oo)))
        obtain ⟨wU, hup, htn, hmp⟩ := update_ni (n := nm.2) (o := oo) hpd.map hpl (nd : Int)
        have hTU : NO W wU (w.heap.size + 1 + 1 + 1) (.slice (some ⟨g, 0, none⟩) (Q + 1) c) (qs' ++ [(nm', m', nd')]) zs bs' S := hpd.knows htn (hmp.mono fun b' hb' => hb'.elim id (fun e => e ▸ HSB.out))
        have hmb : wr.heap.size ≠ w.heap.size + 1 + 1 + 1 := by have := HTO.out.mlt; omega
        have t3 : wU.cell? ⟨wr.heap.size, 3, none⟩ = some (.int .i64 nd) := htn.cell hmb (hdn 3)
        have HTU : Hid (NO W wU (w.heap.size + 1 + 1 + 1) (.slice (some ⟨g, 0, none⟩) (Q + 1) c) (qs' ++ [(nm', m', nd')]) zs bs' S) := hTU
        have HADD : Hid (∀ wc : World, wc.heap = wU.heap → Calls Try.prog 117 #[.pointer (some ⟨g, Q * 4, none⟩), .int .i64 (nd : Int)] wc fun e w' => e = .returned (.tuple #[]) ∧ w' = wc.setCell ⟨g, Q * 4 + 3, none⟩ (.int .i64 ((nd' + nd : Nat) : Int))) := fun wc he => by
          have h := HTU.out
          rw [HQ.out] at h ⊢
          obtain ⟨g', c', b', o', ca', ao'', ys', b1', b2', f1, f2, f3, f4, f5, f6, f7, f8, f9, f10, f11, d0, d1, d2, d3, dz⟩ := h.top
          cases f1
          refine addNd_any _ _ _ _ _ ?_ ?_ (by have := HTOT2.out; have := HCB.out; omega)
          · rw [World.cell?_of_block (w := wU) (by rw [he])]; exact d3
          · rw [World.frozen?_of_block (w := wU) (by rw [he])]; exact dz _
        rw [hwd] at hup
        have HNQ : Hid (N = qs'.length + 1) := by show _ = _; omega
        clear hNQ hP hbo hSb hqs hq0 hQ hwd hbd hdn hpd hpl htn hmp hTU hmb HTO HST HN HSM HPOP
        go_wp2_with fail
        go_region_law (go_simp; go_wp2_with (go_at_call 117; refine (HADD.out wU.drew rfl).mono ?_; rintro e w9 ⟨rfl, hw9⟩; have HW9 : Hid (w9 = _) := hw9; clear hw9))
        all_goals
          go_wp2_with fail
          go_roundg (msrN (qs' ++ [(nm', m', nd' + nd)]))
          case measure => have h9 := HMS2.out.1; rw [msrN_top] at h9 ⊢; exact h9
          case rel =>
            have h9 := (HTU.out.call (Below.refl _ _).drew)
            rw [HQ.out] at h9
            obtain ⟨zs', h10⟩ := h9.addN nd
            refine ⟨_, zs', bs', S, rfl, by simp, by have h9 := HMS2.out.2; rw [msrN_top] at h9 ⊢; exact h9, by have h9 := HAL2.out; rw [AllS_snoc] at h9 ⊢; exact h9, by rw [totN_top]; have := HTOT2.out; omega, ?_⟩
            rw [HW9.out, HQ.out]
            rw [← HNQ.out] at h10
            exact h10
    · obtain ⟨f1, f2, f3, f4, f5, f6, f7, f8⟩ := HST.out
      have f6' := f6 (by simp)
      subst f6'
      obtain ⟨L, hL⟩ : ∃ L, L = r.length + 1 := ⟨_, rfl⟩
      have hz0 : ((L : Int) == 0) = false := by simp; omega
      have hz1 : 0 < L := by omega
      have hz2 : ¬ (L : Int) = 0 := by omega
      have ht1 := run_tailN b o r.length ca f7
      have HLL : Hid (L = r.length + 1) := hL
      have hlen : (Tm.mk tk tn ts tl :: r).length = r.length + 1 := rfl
      rw [hlen, ← hL] at c2
      rw [← hL] at ht1
      obtain ⟨ba, hba⟩ : ∃ ba, ba = ofsN o ca := ⟨_, rfl⟩
      have HBA : Hid (ba = ofsN o ca) := hba
      rw [← hba] at ht1
      have f5' := f5
      rw [OsR] at f5'
      obtain ⟨bt, br, f9, hot, f10⟩ := f5'
      obtain ⟨hka, hkb, hkc⟩ := allK_k (t := .mk tk tn ts tl) (by have := HALL.out.2; rw [AllKL] at this; exact this.1)
      obtain ⟨ta, tc, x0, x1, x2, x3, hts, ia, ic, hinn, hi1, hi2, hi3⟩ := inner_os hot hkb
      have HIN : Hid ((1 ≤ tk ∧ tk ≤ 6) ∧ ts.size ≤ 1048576 ∧ inn tk (.slice ta tl.length tc) = .slice ia tl.length ic ∧ tl.length ≤ ic ∧ ic ≤ maxLen) := ⟨hka, hts, hinn, hi1, hi2⟩
      have HI3 : Hid (tl ≠ [] → ∃ g x b', bt = g :: b' ∧ ia = some ⟨g, x, none⟩ ∧ OsR W tl b' g x ∧ Plain W g ∧ g < W.heap.size) := hi3
      have HKC : Hid (AllKL tl) := hkc
      have HSET : Hid (∀ wq, NO W wq (w.heap.size + 1 + 1 + 1) (.slice (some ⟨g, 0, none⟩) (qs.length + 1) c) (qs ++ [(nm, .mk tk tn ts tl :: r, nd)]) xs bs' S →
          ∃ xs' bs2, NO W (wq.setCell ⟨g, N * 4 + 2, none⟩ (.slice (some ⟨b, ba, none⟩) r.length (ca - 1))) (w.heap.size + 1 + 1 + 1) (.slice (some ⟨g, 0, none⟩) (qs.length + 1) c) (qs ++ [(nm, r, nd)]) xs' bs2 S ∧ (bs2 ++ bt).Nodup ∧ ∀ x ∈ bt, ¬ S x) := fun wq h => by
        rw [HN.out.1, HBA.out]
        exact h.takeN f1 f2 f3 f4 f9 hot f10 f7 f8
      obtain ⟨fx, hfx⟩ : ∃ fx, fx = frm tk tn ts (.slice ta tl.length tc) := ⟨_, rfl⟩
      obtain ⟨dd, hdd⟩ : ∃ dd, dd = ndO tk ts tl.length := ⟨_, rfl⟩
      have HSUM : Hid (totN qs + (nd + dd + (ndL tl + ndL r)) = C) := by
        have h9 := HTOT.out
        rw [ndL, ndT, ← hdd] at h9
        show _ = _
        omega
      have hll : tl.length ≤ 1048576 := by
        have h9 := HSUM.out
        have h8 := HCB.out
        rcases hkb with h | h | h
        · rw [hdd, h] at h9; unfold ndO at h9; rw [if_pos rfl] at h9; omega
        · rw [hdd, h] at h9; unfold ndO at h9; rw [if_neg (by decide), if_pos rfl] at h9; omega
        · rw [h]; exact Nat.zero_le _
      have HFX : Hid (∀ wq : World, Calls Try.prog 83 #[.agg #[.int .i64 tk, .int .i64 tn, .string ts, .slice ta tl.length tc]] wq fun e w' => e = .returned fx ∧ Below wq.heap.size wq w') := fun wq => by rw [hfx]; exact formOf_any tk tn ts ta tl.length tc wq
      have HNA : Hid (∀ wq : World, Calls Try.prog 118 #[fx] wq fun e w' => e = .returned (.int .i64 (dd : Int)) ∧ w' = wq) := fun wq => by rw [hfx, hdd]; exact needAlone_any tk tn ts ta tl.length tc wq HIN.out.1 HIN.out.2.1 hll
      have HIX : Hid (∀ wq : World, Calls Try.prog 85 #[fx] wq fun e w' => e = .returned (.slice ia tl.length ic) ∧ w' = wq) := fun wq => by rw [hfx, ← HIN.out.2.2.1]; exact innerOf_any tk tn ts ta tl.length tc wq
      have HMS2 : Hid (msrN (qs ++ [(nm, r, nd + dd + 0)]) < msrN (qs ++ [(nm, .mk tk tn ts tl :: r, nd)]) ∧ ∀ nn, msrN (qs ++ [(nm, r, nd + dd + 0)] ++ [(nn, tl, 0)]) < msrN (qs ++ [(nm, .mk tk tn ts tl :: r, nd)])) := by
        refine ⟨?_, fun nn => ?_⟩
        · rw [msrN_top, msrN_top, ntL]; omega
        · rw [msrN_top, msrN_top, msrN_top, ntL]; omega
      have HAL2 : Hid (AllS (qs ++ [(nm, r, nd + dd + 0)])) := by
        show AllS _
        rw [AllS_snoc]
        have h9 := HALL.out
        rw [AllKL] at h9
        exact ⟨h9.1, h9.2.2⟩
      have HADD : Hid (∀ (xs' : List Value) (bs2 : List Nat) (a d : Nat) (S' : Nat → Prop) (wc : World), NO W wc (w.heap.size + 1 + 1 + 1) (.slice (some ⟨g, 0, none⟩) (qs.length + 1) c) (qs ++ [(nm, r, a)]) xs' bs2 S' → a + d ≤ 1000000 → Calls Try.prog 117 #[.pointer (some ⟨g, N * 4, none⟩), .int .i64 (d : Int)] wc fun e w' => e = .returned (.tuple #[]) ∧ w' = wc.setCell ⟨g, N * 4 + 3, none⟩ (.int .i64 ((a + d : Nat) : Int))) := fun xs' bs2 a d S' wc h had => by
        obtain ⟨g', c', b', o', ca', ao'', ys', b1', b2', f1, f2, f3, f4, f5, f6, f7, f8, f9, f10, f11, d0, d1, d2, d3, dz⟩ := h.top
        cases f1
        rw [HN.out.1]
        exact addNd_any _ _ _ _ _ d3 (dz _) had
      have z0 := keepN (HTO.out.bel) x0
      have z1 := keepN (HTO.out.bel) x1
      have z2 := keepN (HTO.out.bel) x2
      have z3 := keepN (HTO.out.bel) x3
      have HBL : Hid (nd + dd ≤ 1000000) := by show _ ≤ _; have := HSUM.out; have := HCB.out; omega
      clear hll hka hkb hkc hts hinn hi1 hi2 hi3 hL hba f1 f2 f3 f4 f5 f6 f7 f8 f9 f10 hot x0 x1 x2 x3 hfx hdd HST c0 c1 c3 hlen
      go_wp2_with (go_at_call 83; fail)
      refine (HFX.out wr).mono ?_
      rintro e w1 ⟨rfl, hb1⟩
      have HT1 : Hid (NO W w1 (w.heap.size + 1 + 1 + 1) (.slice (some ⟨g, 0, none⟩) (qs.length + 1) c) (qs ++ [(nm, .mk tk tn ts tl :: r, nd)]) xs bs' S) := HTO.out.call hb1
      have y2 : w1.cell? ⟨g, N * 4 + 2, none⟩ = some (.slice (some ⟨b, o, none⟩) L ca) := keepN hb1 c2
      have yz : w1.frozen? ⟨g, N * 4 + 2, none⟩ = false := by rw [hb1.frozen (p := ⟨g, N * 4 + 2, none⟩) (World.block_lt_of_cell? wr _ c2)]; exact hfz _
      clear hb1 hfz c2 z0 z1 z2 z3 HTO
      go_wp2_with (go_at_call 118; fail)
      obtain ⟨xs2, bs2, hT2, hnd2, hfr2⟩ := HSET.out w1 HT1.out
      have HF2 : Hid ((bs2 ++ bt).Nodup ∧ ∀ x ∈ bt, ¬ S x) := ⟨hnd2, hfr2⟩
      obtain ⟨w2, hw2⟩ : ∃ w2, w2 = w1.setCell ⟨g, N * 4 + 2, none⟩ (.slice (some ⟨b, ba, none⟩) r.length (ca - 1)) := ⟨_, rfl⟩
      rw [← hw2] at hT2 ⊢
      have HT2 : Hid (NO W w2 (w.heap.size + 1 + 1 + 1) (.slice (some ⟨g, 0, none⟩) (qs.length + 1) c) (qs ++ [(nm, r, nd)]) xs2 bs2 S) := hT2
      clear hw2 hT2 hnd2 hfr2 y2 yz HT1 HSET ht1
      refine (HNA.out w2).mono ?_
      rintro e w3 ⟨rfl, hw3⟩
      obtain rfl := hw3.symm
      clear hw3
      go_wp2_with (go_at_call 117; fail)
      refine (HADD.out _ _ nd dd _ w2 HT2.out HBL.out).mono ?_
      rintro e w3 ⟨rfl, hw3⟩
      have hT3 := HT2.out.addN dd
      rw [← HN.out.1, ← hw3, HN.out.1] at hT3
      obtain ⟨xs3, hT3⟩ := hT3
      have HT3 : Hid (NO W w3 (w.heap.size + 1 + 1 + 1) (.slice (some ⟨g, 0, none⟩) (qs.length + 1) c) (qs ++ [(nm, r, nd + dd)]) xs3 bs2 S) := hT3
      clear hw3 hT3 HT2 HNA HFX
      go_wp2_with (go_at_call 85; fail)
      refine (HIX.out w3).mono ?_
      rintro e w4 ⟨rfl, hw4⟩
      obtain rfl := hw4.symm
      clear hw4 HIX
      by_cases htl : tl = []
      · subst htl
        rw [show ([] : List Tm).length = 0 from rfl]
        have HSUM1 : Hid (totN qs + (nd + dd + ndL r) = C) := by have h := HSUM.out; rw [ndL] at h; show _ = _; omega
        clear HI3 HKC HSUM
        go_wp2_with (go_at_call 86; fail)
        refine (nameN_nil ia ic w3).mono ?_
        rintro e w5 ⟨rfl, hb5⟩
        obtain ⟨wA, hwA⟩ : ∃ wA, wA = w5.alloc (.cells #[.pointer none, .int .i64 0] 128) := ⟨_, rfl⟩
        have HTA : Hid (NO W wA (w.heap.size + 1 + 1 + 1) (.slice (some ⟨g, 0, none⟩) (qs.length + 1) c) (qs ++ [(nm, r, nd + dd)]) xs3 bs2 S) := by rw [hwA]; exact HT3.out.call (hb5.alloc hb5.size _)
        have hlk0 : (Instr.lookup 162 (.map (some (w.heap.size + 1 + 1 + 1))) (.agg #[.pointer none, .int .i64 0]) true).run Try.prog wA = .ok (.tuple #[.int .i64 0, .bool false]) wA := lookup_ni (x := (none, 0)) HTA.out.map trivial (fun b o e => by cases e) wA rfl
        rw [hwA] at hlk0
        clear hb5 HT3
        go_wp2_with (go_at_call 117; fail)
        rw [← hwA]
        clear hwA hlk0
        refine (HADD.out _ _ (nd + dd) 0 _ wA HTA.out HBL.out).mono ?_
        rintro e w6 ⟨rfl, hw6⟩
        have hT6 := HTA.out.addN 0
        rw [← HN.out.1, ← hw6, HN.out.1] at hT6
        obtain ⟨xs6, hT6⟩ := hT6
        have HT6 : Hid (NO W w6 (w.heap.size + 1 + 1 + 1) (.slice (some ⟨g, 0, none⟩) (qs.length + 1) c) (qs ++ [(nm, r, nd + dd + 0)]) xs6 bs2 S) := hT6
        clear hw6 hT6 HTA HADD
        go_wp2_with fail
        go_roundg (msrN (qs ++ [(nm, r, nd + dd + 0)]))
        case measure => exact HMS2.out.1
        case rel => exact ⟨_, xs6, bs2, S, rfl, by simp, by have := HMS2.out.1; have := HMS.out; omega, HAL2.out, by rw [totN_top]; have := HSUM1.out; omega, by rw [HN.out.2, HN.out.1]; exact HT6.out⟩
      · obtain ⟨g', x, b', e1, e2, e3, e4, e5⟩ := HI3.out htl
        subst e1
        subst e2
        have hlne : tl.length ≠ 0 := fun h => htl (List.eq_nil_of_length_eq_zero h)
        have HIW : Hid (OsR W tl b' g' x ∧ Plain W g' ∧ g' < W.heap.size) := ⟨e3, e4, e5⟩
        have hnd9 := HF2.out.1
        have HND : Hid (g' ∉ bs2 ∧ (bs2 ++ b').Nodup ∧ (∀ y ∈ b', ¬ (S y ∨ y = g')) ∧ ¬ S g') := by
          rw [List.nodup_append] at hnd9
          obtain ⟨n1, n2, n3⟩ := hnd9
          rw [List.nodup_cons] at n2
          refine ⟨fun h => n3 g' h g' (by simp) rfl, ?_, fun y hy hh => ?_, HF2.out.2 g' (by simp)⟩
          · rw [List.nodup_append]
            exact ⟨n1, n2.2, fun a ha b hb => n3 a ha b (by simp [hb])⟩
          · rcases hh with hh | hh
            · exact HF2.out.2 y (by simp [hy]) hh
            · exact n2.1 (hh ▸ hy)
        obtain ⟨T, hT⟩ : ∃ T, T = tl.length := ⟨_, rfl⟩
        have HTL : Hid (T = tl.length) := hT
        rw [← hT] at hlne ⊢
        have hTp : (0 : Int) < (T : Int) := by omega
        clear HI3 hnd9 e3 e4 e5 hT
        go_wp2_with (go_at_call 86; fail)
        refine (nameN_some g' x T ic w3 hlne).mono ?_
        rintro e w5 ⟨rfl, hb5⟩
        obtain ⟨wA, hwA⟩ : ∃ wA, wA = w5.alloc (.cells #[.pointer (some ⟨g', x, none⟩), .int .i64 (T : Int)] 128) := ⟨_, rfl⟩
        have k9 : ∀ j, wA.cell? ⟨w5.heap.size, j, none⟩ = (#[.pointer (some ⟨g', x, none⟩), .int .i64 (T : Int)] : Array Value)[j]? := fun j => by rw [hwA, World.cell?_alloc_new]
        have HTA : Hid (NO W wA (w.heap.size + 1 + 1 + 1) (.slice (some ⟨g, 0, none⟩) (qs.length + 1) c) (qs ++ [(nm, r, nd + dd)]) xs3 bs2 S) := by rw [hwA]; exact HT3.out.call (hb5.alloc hb5.size _)
        have hlk0 : (Instr.lookup 162 (.map (some (w.heap.size + 1 + 1 + 1))) (.agg #[.pointer (some ⟨g', x, none⟩), .int .i64 (T : Int)]) true).run Try.prog wA = .ok (.tuple #[.int .i64 0, .bool false]) wA := lookup_ni (x := (some (g', x), (T : Int))) HTA.out.map (plainP_keep9 (p := some (g', x)) HIW.out.2.1 (fun b' o' e => by cases e; exact HTA.out.bel.block _ HIW.out.2.2)) (fun b o e => by cases e; exact HND.out.2.2.2) wA rfl
        rw [hwA] at hlk0
        have HZ5 : Hid (g < w5.heap.size ∧ w.heap.size + 1 + 1 + 1 < w5.heap.size) := by
          have h5 := HT3.out.call hb5
          exact ⟨(h5.ne rfl).2.2, h5.mlt⟩
        clear hb5 HT3
        go_wp2_with (go_at_call 117; fail)
        rw [← hwA]
        clear hwA hlk0
        refine (HADD.out _ _ (nd + dd) 0 _ wA HTA.out HBL.out).mono ?_
        rintro e w6 ⟨rfl, hw6⟩
        have hT6 := HTA.out.addN 0
        rw [← HN.out.1, ← hw6, HN.out.1] at hT6
        obtain ⟨xs6, hT6⟩ := hT6
        have m0 : w6.cell? ⟨w5.heap.size, 0, none⟩ = some (.pointer (some ⟨g', x, none⟩)) := by
          rw [hw6, World.cell?_setCell_other (h := fun e => by simp only [Addr.mk.injEq] at e; have := HZ5.out; omega)]; exact k9 0
        have m1 : w6.cell? ⟨w5.heap.size, 1, none⟩ = some (.int .i64 (T : Int)) := by
          rw [hw6, World.cell?_setCell_other (h := fun e => by simp only [Addr.mk.injEq] at e; have := HZ5.out; omega)]; exact k9 1
        obtain ⟨wU, hup, htn, hmp⟩ := update_ni (n := (T : Int)) (o := x) hT6.map ((plainP_keep9 (p := some (g', x)) HIW.out.2.1 (fun b' o' e => by cases e; exact hT6.bel.block _ HIW.out.2.2)) : PlainP w6 (some (g', x))) 4611686018427387903
        have HTU : Hid (NO W wU (w.heap.size + 1 + 1 + 1) (.slice (some ⟨g, 0, none⟩) (qs.length + 1) c) (qs ++ [(nm, r, nd + dd + 0)]) xs6 bs2 (fun c => S c ∨ c = g')) := hT6.know HIW.out.2.1 HIW.out.2.2 HND.out.1 htn hmp
        have hmb : w5.heap.size ≠ w.heap.size + 1 + 1 + 1 := by have := HZ5.out; omega
        have t0 : wU.cell? ⟨w5.heap.size, 0, none⟩ = some (.pointer (some ⟨g', x, none⟩)) := htn.cell hmb m0
        have t1 : wU.cell? ⟨w5.heap.size, 1, none⟩ = some (.int .i64 (T : Int)) := htn.cell hmb m1
        have HFIN : Hid (∀ v' w9, w9.ownsRow W.heap.size 160 4 v' (M + 1) (xs6 ++ [.pointer (some ⟨g', x, none⟩), .int .i64 (T : Int), .slice (some ⟨g', x, none⟩) T ic, .int .i64 0]) → (wU.alloc (.cells #[.pointer (some ⟨g', x, none⟩), .int .i64 (T : Int), .slice (some ⟨g', x, none⟩) T ic, .int .i64 0] 160)).grownBy w9 (Value.slice (some ⟨g, 0, none⟩) M c).ownBlock → ∃ xs, NO W w9 (w.heap.size + 1 + 1 + 1) v' (qs ++ [(nm, r, nd + dd + 0)] ++ [((some (g', x), (T : Int)), tl, 0)]) xs (bs2 ++ b') (fun c => S c ∨ c = g')) := fun v' w9 h1 h2 => by
          have hTa := HTU.out.call ((Below.refl _ _).alloc (Nat.le_refl _) (.cells #[.pointer (some ⟨g', x, none⟩), .int .i64 (T : Int), .slice (some ⟨g', x, none⟩) T ic, .int .i64 0] 160))
          rw [HTL.out] at h1 h2 hTa ⊢
          rw [HN.out.2, HN.out.1] at h1 h2
          have h3 := hTa.more (nm := (some (g', x), (tl.length : Int))) (l := tl) (n := 0) (cap := ic) (fun _ => rfl) HIN.out.2.2.2.1 HIN.out.2.2.2.2 HIW.out.1 HND.out.2.1 HND.out.2.2.1 ⟨g', x, rfl, .inr rfl⟩ (by rw [List.length_append, List.length_singleton]; exact h1) h2
          exact ⟨_, h3⟩
        have HO7 : Hid ((wU.alloc (.cells #[.pointer (some ⟨g', x, none⟩), .int .i64 (T : Int), .slice (some ⟨g', x, none⟩) T ic, .int .i64 0] 160)).ownsRow W.heap.size 160 4 (.slice (some ⟨g, 0, none⟩) M c) M xs6 ∧ W.heap.size ≤ (wU.alloc (.cells #[.pointer (some ⟨g', x, none⟩), .int .i64 (T : Int), .slice (some ⟨g', x, none⟩) T ic, .int .i64 0] 160)).heap.size) := by
          have h5 := HTU.out.row
          rw [List.length_append, List.length_singleton, ← HN.out.1, ← HN.out.2] at h5
          refine ⟨h5.alloc _, ?_⟩
          have := HTU.out.bel.size
          rw [World.size_alloc]; omega
        have HL7 : Hid (([.pointer (some ⟨g', x, none⟩), .int .i64 (T : Int), .slice (some ⟨g', x, none⟩) T ic, .int .i64 0] : List Value).length = 1 * 4) := rfl
        have HNW : Hid (∀ j u, ([.pointer (some ⟨g', x, none⟩), .int .i64 (T : Int), .slice (some ⟨g', x, none⟩) T ic, .int .i64 0] : List Value)[j]? = some u → (wU.alloc (.cells #[.pointer (some ⟨g', x, none⟩), .int .i64 (T : Int), .slice (some ⟨g', x, none⟩) T ic, .int .i64 0] 160)).cell? ((⟨wU.heap.size, 0, none⟩ : Addr).add j) = some u) := fourN
        have C3 : Hid (M + 1 ≤ maxLen ∧ (M + 1) * 48 ≤ 140737488355328) := by
          have h5 := msrN_len (qs ++ [(nm, .mk tk tn ts tl :: r, nd)])
          rw [List.length_append, List.length_singleton] at h5
          have h6 := HMS.out
          have h7 := HN.out
          exact ⟨by unfold maxLen; omega, by omega⟩
        clear hw6 hT6 HTA HADD htn hmp hmb k9 HZ5 HTU
        go_wp2_with (at_builtin; refine wpList_append_own_at _ rfl _ _ 161 rfl W.heap.size 160 i0 (.agg #[.pointer none, .int .i64 0, .slice none 0 0, .int .i64 0]) 4 48 undNeeding HI.out.1 HI.out.2.1 HI.out.2.2.1 HI.out.2.2.2 rfl (by decide) (.slice (some ⟨g, 0, none⟩) M c) M xs6 rfl HO7.out.1 ⟨wU.heap.size, 0, none⟩ 1 1 [.pointer (some ⟨g', x, none⟩), .int .i64 (T : Int), .slice (some ⟨g', x, none⟩) T ic, .int .i64 0] rfl HL7.out HNW.out (oneN rfl rfl rfl rfl) C3.out.1 C3.out.2 HO7.out.2 ?_; intro v8 w9 hown8 hgr8 hnn8 hat8; have HG8 : Hid (∃ xs, NO W w9 (w.heap.size + 1 + 1 + 1) v8 (qs ++ [(nm, r, nd + dd + 0)] ++ [((some (g', x), (T : Int)), tl, 0)]) xs (bs2 ++ b') (fun c => S c ∨ c = g')) := HFIN.out v8 w9 hown8 hgr8; clear hown8 hgr8 hnn8 hat8)
        go_roundg (msrN (qs ++ [(nm, r, nd + dd + 0)] ++ [((some (g', x), (T : Int)), tl, 0)]))
        case measure => exact HMS2.out.2 _
        case rel =>
          obtain ⟨zs, h9⟩ := HG8.out
          refine ⟨_, zs, _, _, rfl, by simp, by have := HMS2.out.2 (some (g', x), (T : Int)); have := HMS.out; omega, ?_, ?_, h9⟩
          · rw [AllS_snoc]; exact ⟨HAL2.out, HKC.out⟩
          · rw [totN_top, totN_top]; have := HSUM.out; omega
end Go.Proofs.Ytabgfaafpgholaa
