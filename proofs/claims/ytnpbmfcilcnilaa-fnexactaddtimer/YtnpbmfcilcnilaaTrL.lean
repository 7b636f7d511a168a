/-
  Timers copied by the specification.
-/
import Derived.Test.YtnpbmfcilcnilaaTrK
import Derived.Test.YtnpbmfcilcnilaaCzA
namespace Go.Proofs.Ytnpbmfcilcnilaa.Tr
open Go.RowKit Atom
set_option linter.unusedVariables false

theorem lt_of_heap {w w' : World} {x : Nat} (h : w'.heap[x]? = w.heap[x]?) (hl : x < w.heap.size) : x < w'.heap.size := by
  rcases Nat.lt_or_ge x w'.heap.size with q | q
  · exact q
  · rw [Array.getElem?_eq_none q, Array.getElem?_eq_getElem hl] at h; cases h
/-- The blocks from lo on, below hi. -/
def rng (lo hi : Nat) : List Nat := (List.range hi).filter (fun x => decide (lo ≤ x))
theorem mem_rng {lo hi x : Nat} : x ∈ rng lo hi ↔ lo ≤ x ∧ x < hi := by
  unfold rng
  rw [List.mem_filter, List.mem_range, decide_eq_true_eq]
  exact ⟨fun h => ⟨h.2, h.1⟩, fun h => ⟨h.2, h.1⟩⟩
theorem rng_nodup (lo hi : Nat) : (rng lo hi).Nodup := List.Nodup.sublist List.filter_sublist List.nodup_range
theorem rpT_keep {S : Nat → Prop} {w w' : World} {t : Tm} {b o b' o' : Nat} (h : RpT S w t b o) (hc : ∀ j v, j < 4 → w.cell? ⟨b, o + j, none⟩ = some v → w'.cell? ⟨b', o' + j, none⟩ = some v) (hk : ∀ x, S x → x < w.heap.size → w'.heap[x]? = w.heap[x]?) : RpT S w' t b' o' := by
  obtain ⟨k, n, s, l⟩ := t
  rw [RpT] at h ⊢
  obtain ⟨h0, h1, h2, hs, ao, cap, h3, hl, hcp, hr⟩ := h
  exact ⟨hc 0 _ (by omega) h0, hc 1 _ (by omega) h1, hc 2 _ (by omega) h2, hs, ao, cap, hc 3 _ (by omega) h3, hl, hcp, Moves.repL (fun x o v hx hv => ⟨hx, (World.cell?_of_block (w := w) (hk x hx (World.block_lt_of_cell? w _ hv))).trans hv⟩) _ _ hr⟩
theorem rpT_rep {S : Nat → Prop} {w : World} {t : Tm} {b o : Nat} (h : RpT S w t b o) : RepT 0 w t b o := by
  obtain ⟨k, n, s, l⟩ := t
  rw [RpT] at h
  rw [RepT]
  obtain ⟨h0, h1, h2, hs, ao, cap, h3, hl, hcp, hr⟩ := h
  exact ⟨h0, h1, h2, hs, ao, cap, h3, hl, hcp, RpL.rep _ _ hr⟩
def eltSk : Elt Sd where
  s := 6
  E := fun w x bs b off => w.cell? ⟨b, off, none⟩ = some (.int .i64 x.kind) ∧ w.cell? ⟨b, off + 1, none⟩ = some (.int .i64 x.pid) ∧ (∀ y ∈ bs, y < w.heap.size) ∧ RpT (fun y => y ∈ bs) w x.t b (off + 2)
  pos := by omega
  keep := fun hk hc ⟨h0, h1, h2, h3⟩ => ⟨hc 0 _ (by omega) h0, hc 1 _ (by omega) h1, fun q hq => lt_of_heap (hk q hq (h2 q hq)) (h2 q hq), rpT_keep h3 (fun j v hj hv => by rw [Nat.add_assoc] at hv ⊢; exact hc (2 + j) v (by omega) hv) (fun x hx hl => hk x hx hl)⟩
  lt := fun ⟨h0, h1, h2, h3⟩ => h2
  head := fun ⟨h0, h1, h2, h3⟩ => ⟨_, h0⟩
theorem ve_timerk {lo : Nat} {w : World} {x : Sd} {va vb : Int} {vc : ByteArray} {vd : Option Addr} {ve vf : Nat} (hv : RpV (fun b => lo ≤ b) w x.t (.agg #[.int .i64 va, .int .i64 vb, .string vc, .slice vd ve vf])) : VE eltSk w x [.int .i64 x.kind, .int .i64 x.pid, .int .i64 va, .int .i64 vb, .string vc, .slice vd ve vf] (rng lo w.heap.size) :=
  ⟨rfl, fun b hb => (mem_rng.1 hb).2, fun w' b off hc hk => by
    refine ⟨hc 0 _ rfl, hc 1 _ rfl, fun q hq => lt_of_heap (hk q hq) (mem_rng.1 hq).2, ?_⟩
    obtain ⟨kind, pid, t⟩ := x
    obtain ⟨k, m, s, l⟩ := t
    obtain ⟨ao, cp, e, q1, q2, q3, q4⟩ := hv
    simp only [Value.agg.injEq, Array.mk.injEq, List.cons.injEq, Value.int.injEq, Value.string.injEq, true_and, and_true] at e
    show RpT _ w' (.mk k m s l) b (off + 2)
    rw [RpT]
    refine ⟨?_, ?_, ?_, q1, ao, cp, ?_, q2, q3, Moves.repL (fun y o v hy hv => ?_) _ _ q4⟩
    · rw [← e.1]; exact hc 2 _ rfl
    · rw [← e.2.1]; exact hc 3 _ rfl
    · rw [← e.2.2.1]; exact hc 4 _ rfl
    · rw [← e.2.2.2]; exact hc 5 _ rfl
    · have hl : y < w.heap.size := World.block_lt_of_cell? w _ hv
      have hm : y ∈ rng lo w.heap.size := mem_rng.2 ⟨hy, hl⟩
      exact ⟨hm, (World.cell?_of_block (w := w) (hk y hm)).trans hv⟩⟩
theorem GL.rowSk {w : World} {l : List Sd} {bs : List Nat} {ao : Option Addr} (h : GL eltSk w l bs ao) : RowS w ao l := by
  rcases h with h | ⟨hl, g, o, b, _, e2, _, hr⟩
  · exact .inl h.1
  · refine .inr ⟨g, o, e2, fun j hj => ?_⟩
    obtain ⟨bt, _, x, y, _, z⟩ := hr.at j hj
    exact ⟨x, y, rpT_rep z⟩
/-- What keeps two rows: nothing that they lead to has turned. -/
theorem own_keep {w w' : World} {base : Nat} {T : TypeId} {size n : Nat} {v : Value} {xs : List Value} (h : w.ownsRow base T size v n xs) (hk : ∀ g, v.ownBlock = some g → w'.heap[g]? = w.heap[g]?) : w'.ownsRow base T size v n xs := by
  obtain ⟨h1, h2⟩ := h
  refine ⟨h1, ?_⟩
  rcases h2 with h2 | ⟨g', cap', cur, hv, hg, hh, r⟩
  · exact Or.inl h2
  · refine Or.inr ⟨g', cap', cur, hv, hg, ?_, r⟩
    rw [hk g' (by rw [hv]; rfl)]; exact hh
theorem Two.keep {e : Elt Sd} {B : Nat} {D : List Nat} {wr w5 : World} {u1 u2 : Value} {l1 l2 : List Sd} {x1 x2 : List Value} {b1 b2 : List Nat} (h : Two e B D wr u1 u2 l1 l2 x1 x2 b1 b2) (hz : wr.heap.size ≤ w5.heap.size) (hk : ∀ b, b < wr.heap.size → (b ∈ D ∨ u1.ownBlock = some b ∨ u2.ownBlock = some b) → w5.heap[b]? = wr.heap[b]?) : Two e B D w5 u1 u2 l1 l2 x1 x2 b1 b2 :=
  ⟨own_keep h.r1 (fun g hg => hk g (own_base h.r1 hg).2 (.inr (.inl hg))), own_keep h.r2 (fun g hg => hk g (own_base h.r2 hg).2 (.inr (.inr hg))), VL.keep hz h.v1 (fun x hx => hk x (h.dl x (h.i1 x hx)) (.inl (h.i1 x hx))), VL.keep hz h.v2 (fun x hx => hk x (h.dl x (h.i2 x hx)) (.inl (h.i2 x hx))), fun b hb => Nat.lt_of_lt_of_le (h.dl b hb) hz, h.i1, h.i2, h.n1, h.n2, h.nd, h.ne⟩
theorem Two.wide {e : Elt Sd} {B : Nat} {D D' : List Nat} {wr : World} {u1 u2 : Value} {l1 l2 : List Sd} {x1 x2 : List Value} {b1 b2 : List Nat} (h : Two e B D wr u1 u2 l1 l2 x1 x2 b1 b2) (h1 : ∀ b ∈ D', b < wr.heap.size) (h2 : ∀ b ∈ D', u1.ownBlock ≠ some b ∧ u2.ownBlock ≠ some b) : Two e B (D ++ D') wr u1 u2 l1 l2 x1 x2 b1 b2 :=
  ⟨h.r1, h.r2, h.v1, h.v2, fun b hb => by
      rcases List.mem_append.1 hb with hb | hb
      · exact h.dl b hb
      · exact h1 b hb, fun b hb => List.mem_append_left _ (h.i1 b hb), fun b hb => List.mem_append_left _ (h.i2 b hb), fun g hg hm => by
      rcases List.mem_append.1 hm with hm | hm
      · exact h.n1 g hg hm
      · exact (h2 g hm).1 hg, fun g hg hm => by
      rcases List.mem_append.1 hm with hm | hm
      · exact h.n2 g hg hm
      · exact (h2 g hm).2 hg, h.nd, h.ne⟩
/-- One row that begins empty, in a block that was made for it. -/
theorem Two.one {e : Elt Sd} {B : Nat} (w : World) (hB : B ≤ w.heap.size) : Two e B [] (w.alloc (.cells #[] 38)) (.slice (some ⟨w.heap.size, 0, none⟩) 0 0) (.slice none 0 0) [] [] [] [] [] [] :=
  ⟨World.ownsRow_made w #[] 0 hB (Nat.zero_le _) (by simp), World.ownsRow_nil _ _ _ _, ⟨rfl, rfl⟩, ⟨rfl, rfl⟩, (fun b hb => by cases hb), (fun b hb => by cases hb), (fun b hb => by cases hb), (fun g hg hm => by cases hm), (fun g hg => by cases hg), List.nodup_nil, fun g hg q => by cases q⟩

set_option maxHeartbeats 4000000 in
set_option maxRecDepth 100000 in
theorem l14Copy_any (l : List Sd) (ao : Option Addr) (cap : Nat) (w : World) (hr : RowS w ao l) (hl : l.length ≤ 1048576) (hs : ∀ x ∈ l, StS x.t) :
    Calls Try.prog 16 #[.slice ao l.length cap] w fun e w' => ∃ u xs bs D, e = .returned u ∧ Two eltSk w.heap.size D w' u (.slice none 0 0) l [] xs [] bs [] ∧ (∀ b ∈ D, w.heap.size ≤ b) ∧ Below w.heap.size w w' := by
  have HR : Hid (RowS w ao l) := hr
  have HS : Hid (∀ x ∈ l, StS x.t) := hs
  obtain ⟨i0, hi, hzz⟩ := Option.map_eq_some_iff.1 infoTimer
  simp only [Prod.mk.injEq] at hzz
  have HI : Hid (Try.prog.info? 38 = some i0 ∧ i0.zero = some (.agg #[.int .i64 0, .int .i64 0, .int .i64 0, .int .i64 0, .string ⟨#[]⟩, .slice none 0 0]) ∧ i0.size = 6 ∧ i0.bytes = 72) := ⟨hi, hzz⟩
  clear hr hs hi hzz
  have HT0 : Hid (Two eltSk w.heap.size [] (w.alloc (.cells #[] 38)) (.slice (some ⟨w.heap.size, 0, none⟩) 0 0) (.slice none 0 0) [] [] [] [] [] []) := Two.one w (Nat.le_refl _)
  have HB0 : Hid (Below w.heap.size w (w.alloc (.cells #[] 38))) := (Below.refl _ _).alloc (Nat.le_refl _) _
  go_enter Try.func16, Try.ntmps16
  go_wp2_with fail
  go_loopw [3, 4] (fun u i wr => ∃ (k : Nat) (xs : List Value) (bs D : List Nat), k ≤ l.length ∧ i = .int .i64 k ∧ Two eltSk w.heap.size D wr u (.slice none 0 0) (l.take k) [] xs [] bs [] ∧ (∀ b ∈ D, w.heap.size ≤ b) ∧ Below w.heap.size w wr) (fun _ i _ => l.length - (intOf i).toNat)
  case atStart => exact ⟨0, [], [], [], Nat.zero_le _, rfl, HT0.out, (fun b hb => by cases hb), HB0.out⟩
  case round =>
    obtain ⟨k, xs, bs, D, hk, rfl, htw, hD, hbe⟩ := hrel
    obtain ⟨ua, uc, rfl⟩ := htw.form1
    have hlen : (l.take k).length = k := by rw [List.length_take]; omega
    rw [hlen] at htw ⊢
    have HTW : Hid (Two eltSk w.heap.size D wr (.slice ua k uc) (.slice none 0 0) (l.take k) [] xs [] bs []) := htw
    have HBE : Hid (Below w.heap.size w wr) := hbe
    have HDD : Hid (∀ b ∈ D, w.heap.size ≤ b) := hD
    have HLEN : Hid ((l.take k).length = k) := hlen
    clear htw hbe hD hlen
    by_cases hlt : k < l.length
    · rcases HR.out.below HBE.out with h0 | ⟨b, o, rfl, hrow⟩
      · rw [h0] at hlt; simp at hlt
      have hbx := hrow k hlt
      have HST : Hid (StS l[k].t) := HS.out _ (List.getElem_mem hlt)
      have HTK : Hid (l.take (k + 1) = l.take k ++ [l[k]]) := List.take_succ_eq_append_getElem hlt
      generalize hx : l[k] = x at hbx HST HTK
      clear hx hrow
      obtain ⟨ta, tp, t⟩ := x
      obtain ⟨tk, tn, ts, tao, tlen, tcap, d2, d3, d4, d5, hv⟩ := hbx.t.cells
      have d0 := hbx.c0
      have d1 := hbx.c1
      dsimp only at d0 d1
      obtain ⟨wa, hwa⟩ : ∃ wa, wa = wr.alloc (.cells #[.int .i64 ta, .int .i64 tp, .int .i64 tk, .int .i64 tn, .string ts, .slice tao tlen tcap] 38) := ⟨_, rfl⟩
      have hba : Below wr.heap.size wr wa := by rw [hwa]; exact (Below.refl _ _).alloc (Nat.le_refl _) _
      have hza : wa.heap.size = wr.heap.size + 1 := by rw [hwa]; simp
      have HBA : Hid (Below wr.heap.size wr wa ∧ Below w.heap.size w wa ∧ wa.heap.size = wr.heap.size + 1) := ⟨hba, HBE.out.trans (hba.mono HBE.out.size), hza⟩
      have qa : ∀ x, wa.cell? ⟨wr.heap.size, x, none⟩ = (#[.int .i64 ta, .int .i64 tp, .int .i64 tk, .int .i64 tn, .string ts, .slice tao tlen tcap] : Array Value)[x]? := fun x => by rw [hwa, World.cell?_alloc_new]
      have fa : ∀ x, wa.frozen? ⟨wr.heap.size, x, none⟩ = false := fun x => by rw [hwa, World.frozen?_alloc_new]
      have HQ : Hid (∀ wc, Below wa.heap.size wa wc → (wc.cell? ⟨wr.heap.size, 0, none⟩ = some (.int .i64 ta) ∧ wc.cell? ⟨wr.heap.size, 1, none⟩ = some (.int .i64 tp) ∧ wc.cell? ⟨wr.heap.size, 2, none⟩ = some (.int .i64 tk) ∧ wc.cell? ⟨wr.heap.size, 3, none⟩ = some (.int .i64 tn) ∧ wc.cell? ⟨wr.heap.size, 4, none⟩ = some (.string ts) ∧ wc.cell? ⟨wr.heap.size, 5, none⟩ = some (.slice tao tlen tcap)) ∧ ∀ x, wc.frozen? ⟨wr.heap.size, x, none⟩ = false) := fun wc hb =>
        ⟨⟨keepOt hb (qa 0), keepOt hb (qa 1), keepOt hb (qa 2), keepOt hb (qa 3), keepOt hb (qa 4), keepOt hb (qa 5)⟩, fun x => by rw [hb.frozen (p := ⟨wr.heap.size, x, none⟩) (by show wr.heap.size < _; omega)]; exact fa x⟩
      have HC : Hid (Calls Try.prog 19 #[.agg #[.int .i64 tk, .int .i64 tn, .string ts, .slice tao tlen tcap]] wa fun e w' => ∃ va vb vc vd ve vf, e = .returned (.agg #[.int .i64 va, .int .i64 vb, .string vc, .slice vd ve vf]) ∧ RpV (fun b => wa.heap.size ≤ b) w' t (.agg #[.int .i64 va, .int .i64 vb, .string vc, .slice vd ve vf]) ∧ Below wa.heap.size wa w') :=
        (czT_all t wa _ (Below.repV hba hv) HST.out).mono fun e w' ⟨v', h1, h2, h3⟩ => by
          obtain ⟨va, vb, vc, vd, ve, vf, rfl⟩ := h2.form
          exact ⟨va, vb, vc, vd, ve, vf, h1, h2, h3⟩
      clear hba hza qa fa hv hbx
      go_wp2_with (go_at_call 19; fail)
      rw [← hwa]
      clear hwa
      refine HC.out.mono ?_
      rintro e w5 ⟨va, vb, vc, vd, ve, vf, rfl, hr5, hb5⟩
      obtain ⟨⟨c0, c1, c2, c3, c4, c5⟩, cf⟩ := HQ.out w5 hb5
      have HB5 : Hid (Below wa.heap.size wa w5 ∧ Below w.heap.size w w5 ∧ Below wr.heap.size wr w5) := ⟨hb5, HBA.out.2.1.trans (hb5.mono HBA.out.2.1.size), HBA.out.1.trans (hb5.mono HBA.out.1.size)⟩
      have HVE5 : Hid (VE eltSk w5 ⟨ta, tp, t⟩ [.int .i64 ta, .int .i64 tp, .int .i64 va, .int .i64 vb, .string vc, .slice vd ve vf] (rng wa.heap.size w5.heap.size)) := ve_timerk (x := ⟨ta, tp, t⟩) hr5
      obtain ⟨w6, hw6⟩ : ∃ w6, w6 = (((w5.setCell ⟨wr.heap.size, 2, none⟩ (.int .i64 va)).setCell ⟨wr.heap.size, 3, none⟩ (.int .i64 vb)).setCell ⟨wr.heap.size, 4, none⟩ (.string vc)).setCell ⟨wr.heap.size, 5, none⟩ (.slice vd ve vf) := ⟨_, rfl⟩
      have ho6 : OutB [wr.heap.size] w5 w6 := by rw [hw6]; exact ((((OutB.refl [wr.heap.size] w5).set (by simp) 2 _).set (by simp) 3 _).set (by simp) 4 _).set (by simp) 5 _
      have HW6 : Hid (w6 = (((w5.setCell ⟨wr.heap.size, 2, none⟩ (.int .i64 va)).setCell ⟨wr.heap.size, 3, none⟩ (.int .i64 vb)).setCell ⟨wr.heap.size, 4, none⟩ (.string vc)).setCell ⟨wr.heap.size, 5, none⟩ (.slice vd ve vf)) := hw6
      have H6 : Hid (Below w.heap.size w w6 ∧ w5.heap.size ≤ w6.heap.size ∧ VE eltSk w6 ⟨ta, tp, t⟩ [.int .i64 ta, .int .i64 tp, .int .i64 va, .int .i64 vb, .string vc, .slice vd ve vf] (rng wa.heap.size w5.heap.size) ∧ Two eltSk w.heap.size (D ++ rng wa.heap.size w5.heap.size) w6 (.slice ua k uc) (.slice none 0 0) (l.take k) [] xs [] bs []) := by
        have hz1 := HBA.out.2.2
        have hz2 := HBE.out.size
        have hz3 := HB5.out.1.size
        refine ⟨⟨ho6.os.trans HB5.out.2.1.os, ho6.tape.trans HB5.out.2.1.tape, ho6.output.trans HB5.out.2.1.output, Nat.le_trans HB5.out.2.1.size ho6.size, fun x hx => by rw [ho6.block x (Nat.lt_of_lt_of_le hx HB5.out.2.1.size) (by simp; omega)]; exact HB5.out.2.1.block x hx⟩, ho6.size, HVE5.out.keep ho6.size (fun x hx => ho6.block x (mem_rng.1 hx).2 (by have := (mem_rng.1 hx).1; simp; omega)), ?_⟩
        refine Two.keep (wr := w5) (Two.wide (HTW.out.call HB5.out.2.2) (fun b hb => (mem_rng.1 hb).2) (fun b hb => ⟨fun q => ?_, fun q => by cases q⟩)) ho6.size (fun b hb hm => ho6.block b hb ?_)
        · have := (own_base HTW.out.r1 q).2
          have := (mem_rng.1 hb).1
          omega
        · rcases hm with hm | hm | hm
          · rcases List.mem_append.1 hm with hm | hm
            · have := HTW.out.dl b hm; simp; omega
            · have := (mem_rng.1 hm).1; simp; omega
          · have := (own_base HTW.out.r1 hm).2; simp; omega
          · cases hm
      have HFIN : Hid (∀ v' w8, w8.ownsRow w.heap.size 38 6 v' (k + 1) (xs ++ [.int .i64 ta, .int .i64 tp, .int .i64 va, .int .i64 vb, .string vc, .slice vd ve vf]) → (w6.alloc (.cells #[.int .i64 ta, .int .i64 tp, .int .i64 va, .int .i64 vb, .string vc, .slice vd ve vf] 38)).grownBy w8 (Value.slice ua k uc).ownBlock → (v'.ownBlock = (Value.slice ua k uc).ownBlock ∨ v'.ownBlock = some (w6.alloc (.cells #[.int .i64 ta, .int .i64 tp, .int .i64 va, .int .i64 vb, .string vc, .slice vd ve vf] 38)).heap.size) → Two eltSk w.heap.size (D ++ rng wa.heap.size w5.heap.size) w8 v' (.slice none 0 0) (l.take (k + 1)) [] (xs ++ [.int .i64 ta, .int .i64 tp, .int .i64 va, .int .i64 vb, .string vc, .slice vd ve vf]) [] (bs ++ rng wa.heap.size w5.heap.size) [] ∧ Below w.heap.size w w8) := fun v' w8 h1 h2 h3 => by
        have hal : Below w6.heap.size w6 (w6.alloc (.cells #[.int .i64 ta, .int .i64 tp, .int .i64 va, .int .i64 vb, .string vc, .slice vd ve vf] 38)) := (Below.refl _ _).alloc (Nat.le_refl _) _
        have hB7 := H6.out.1.trans (hal.mono H6.out.1.size)
        have hT7 := H6.out.2.2.2.call hal
        rw [HTK.out]
        refine ⟨hT7.more (H6.out.2.2.1.keep hal.size (fun x hx => hal.block x (Nat.lt_of_lt_of_le (mem_rng.1 hx).2 H6.out.2.1))) (fun b hb => List.mem_append_right _ hb) ?_ (by rw [HLEN.out]; exact h1) h2 h3, ?_⟩
        · rw [List.append_nil]
          refine List.nodup_append.2 ⟨rng_nodup _ _, by have := HTW.out.nd; rw [List.append_nil] at this; exact this, fun x hx y hy q => ?_⟩
          have h9 := HTW.out.dl y (HTW.out.i1 y hy)
          have h8 := (mem_rng.1 hx).1
          have h7 := HBA.out.2.2
          omega
        · exact ⟨h2.os.trans hB7.os, h2.tape.trans hB7.tape, h2.output.trans hB7.output, Nat.le_trans hB7.size h2.size, fun b hb => (h2.block b (Nat.lt_of_lt_of_le hb hB7.size) (fun q => by have := (own_base hT7.r1 q.symm).1; omega)).trans (hB7.block b hb)⟩
      have HO7 : Hid ((w6.alloc (.cells #[.int .i64 ta, .int .i64 tp, .int .i64 va, .int .i64 vb, .string vc, .slice vd ve vf] 38)).ownsRow w.heap.size 38 6 (.slice ua k uc) k xs ∧ w.heap.size ≤ (w6.alloc (.cells #[.int .i64 ta, .int .i64 tp, .int .i64 va, .int .i64 vb, .string vc, .slice vd ve vf] 38)).heap.size) := by
        refine ⟨?_, by have := H6.out.1.size; rw [World.size_alloc]; omega⟩
        have h := H6.out.2.2.2.r1
        rw [HLEN.out] at h
        exact h.alloc _
      have HDN : Hid (∀ b ∈ D ++ rng wa.heap.size w5.heap.size, w.heap.size ≤ b) := fun b hb => by
        rcases List.mem_append.1 hb with hb | hb
        · exact HDD.out b hb
        · have := (mem_rng.1 hb).1
          have := HBA.out.2.1.size
          omega
      have HNW : Hid (∀ j u, ([.int .i64 ta, .int .i64 tp, .int .i64 va, .int .i64 vb, .string vc, .slice vd ve vf] : List Value)[j]? = some u → (w6.alloc (.cells #[.int .i64 ta, .int .i64 tp, .int .i64 va, .int .i64 vb, .string vc, .slice vd ve vf] 38)).cell? ((⟨w5.heap.size, 0, none⟩ : Addr).add j) = some u) := by
        have hz6 : w6.heap.size = w5.heap.size := by rw [hw6]; simp only [World.size_setCell]
        rw [← hz6]; exact sixCells
      clear HW6 H6
      subst hw6
      clear hb5 hr5 ho6 d0 d1 d2 d3 d4 d5
      have C3 : Hid (k + 1 ≤ maxLen) := by show _ ≤ _; unfold maxLen; omega
      have C4 : Hid ((k + 1) * 72 ≤ 140737488355328) := by show _ ≤ _; omega
      go_wp2_with (at_builtin; refine wpList_append_own_at _ rfl _ _ 30 rfl w.heap.size 38 i0 (.agg #[.int .i64 0, .int .i64 0, .int .i64 0, .int .i64 0, .string ⟨#[]⟩, .slice none 0 0]) 6 72 undTimerS HI.out.1 HI.out.2.1 HI.out.2.2.1 HI.out.2.2.2 rfl (by decide) (.slice ua k uc) k xs rfl HO7.out.1 ⟨w5.heap.size, 0, none⟩ 1 1 [.int .i64 ta, .int .i64 tp, .int .i64 va, .int .i64 vb, .string vc, .slice vd ve vf] rfl rfl HNW.out sixOne C3.out C4.out HO7.out.2 ?_; intro v8 w8 hown8 hgr8 hnn8 hat8; have HG8 := hid (HFIN.out v8 w8 hown8 hgr8 hat8); clear hown8 hgr8 hnn8 hat8)
      go_roundw
      case rel => exact ⟨k + 1, _, _, _, by omega, by go_num, HG8.out.1, HDN.out, HG8.out.2⟩
      case measure => simp [intOf]; omega
    · have hkl : l.take k = l := List.take_of_length_le (by omega)
      have htw := HTW.out
      rw [hkl] at htw
      have HF : Hid (Two eltSk w.heap.size D wr (.slice ua k uc) (.slice none 0 0) l [] xs [] bs []) := htw
      clear htw hkl
      go_wp2_with fail
      go_ret
      exact ⟨_, xs, bs, D, rfl, HF.out, HDD.out, HBE.out⟩
end Go.Proofs.Ytnpbmfcilcnilaa.Tr
