/-
  How many terms, and how many words they want.
  (Ahead of it, in this text: How the specification puts a term: a tuple is walked. How the specification puts a term: a list. How the specification puts a term: all of them.)
-/
import Derived.Test.YtabgfaafpgholaaW12
import Derived.Test.YtabgfaafpgholaaW11
namespace Go.Proofs.Ytabgfaafpgholaa
open Go.RowKit
set_option linter.unusedVariables false

theorem undInt : Try.prog.underlying 3 = some (.int .i64) := by kernel_rfl
/-- How far the tuple or list is put. -/
structure Far (Z : PZ) (m m' : PM) (W wr : World) (A A' : List ByteArray) (l : List Tm) (i a0 : Nat) (ys ws ns : List Int) (ok : Bool) : Prop where
  ps : PS Z m' wr ys A'
  fr : Fr Z m W wr
  mv : Mv m m' W.heap.size
  wl : ws.length = i
  nl : ns.length = ndL (l.take i)
  al : A'.length ≤ A.length + nL (l.take i)
  ex : (ok = true ∧ ptL (l.take i) a0 A = some (ws, ns, A')) ∨ (ok = false ∧ ptL l a0 A = none ∧ LayL (l.take i) a0 ws ns)
/-- What stands in the element at i. -/
theorem elem_at {Z : PZ} {m : PM} {W wr : World} {xs : List Int} {A : List ByteArray} {l : List Tm} {ao : Option Addr} (hp : PS Z m W xs A) (hr : RpL (SZ Z) W l ao) (hf : Fr Z m W wr) (i : Nat) (hi : i < l.length) :
    ∃ b off a1 a2 a3 a4 a5 a6, ao = some ⟨b, off, none⟩ ∧ wr.cell? ⟨b, off + i * 4, none⟩ = some (.int .i64 a1) ∧ wr.cell? ⟨b, off + i * 4 + 1, none⟩ = some (.int .i64 a2) ∧ wr.cell? ⟨b, off + i * 4 + 2, none⟩ = some (.string a3) ∧ wr.cell? ⟨b, off + i * 4 + 3, none⟩ = some (.slice a4 a5 a6) ∧ RpV (SZ Z) wr l[i] (.agg #[.int .i64 a1, .int .i64 a2, .string a3, .slice a4 a5 a6]) := by
  obtain ⟨b, off, e, _, hT⟩ := RpL.at _ _ ((hf.moves hp).repL _ _ hr) i hi
  generalize l[i] = t at *
  obtain ⟨k', n', s', l'⟩ := t
  rw [RpT] at hT
  obtain ⟨h0, h1, h2, h3, ao', cap', h4, h5, h6, h7⟩ := hT
  exact ⟨b, off, k', n', s', ao', l'.length, cap', e, h0, h1, h2, h4, ao', cap', rfl, h3, h5, h6, h7⟩
/-- One more. -/
theorem Far.step {Z : PZ} {m m' m2 : PM} {W wr w5 : World} {A A' A2 : List ByteArray} {l : List Tm} {k : Nat} {xs ws ns ns2 : List Int} {ok ok2 : Bool} {x : Int} (h : Far Z m m' W wr A A' l k (xs.length + 1 + l.length) (tupW xs l.length k ws ns) ws ns ok) (hlt : k < l.length)
    (hp5 : PS Z m2 w5 (tupW xs l.length k ws ns ++ ns2) A2) (hf5 : Fr Z m' wr w5) (hm5 : Mv m' m2 wr.heap.size) (hn5 : ns2.length = ndT l[k]) (ha5 : A2.length ≤ A'.length + nT l[k])
    (hr5 : (ok2 = true ∧ ptT l[k] (tupW xs l.length k ws ns).length A' = some (ns2, A2, x)) ∨ (ok2 = false ∧ ptT l[k] (tupW xs l.length k ws ns).length A' = none ∧ LayT l[k] (tupW xs l.length k ws ns).length ns2 x)) :
    Far Z m m2 W (w5.setCell ⟨m2.gw, xs.length + 1 + k, none⟩ (.int .i64 x)) A A2 l (k + 1) (xs.length + 1 + l.length) (tupW xs l.length (k + 1) (ws ++ [x]) (ns ++ ns2)) (ws ++ [x]) (ns ++ ns2) (ok && ok2) := by
  obtain ⟨hps, hfr, hmv, hwl, hnl, hal, hex⟩ := h
  obtain ⟨q1, q2⟩ := hp5.stored (xs.length + 1 + k) x
  rw [tupW_set xs x hwl hlt] at q1
  have hm2 : Mv m m2 W.heap.size := hmv.trans hm5 hfr.size
  have e := ndL_take l k hlt
  have e2 := nL_take l k hlt
  refine ⟨q1, (hfr.trans hmv hf5).trans hm2 q2, hm2, by simp [hwl], by rw [List.length_append]; omega, by omega, ?_⟩
  rw [tupW_len xs hwl (Nat.le_of_lt hlt)] at hr5
  rcases hex with ⟨rfl, hx⟩ | ⟨rfl, hx, hly⟩
  · rcases hr5 with ⟨rfl, hy⟩ | ⟨rfl, hy, hz⟩
    · exact .inl ⟨rfl, ptL_yes hlt hx hy⟩
    · exact .inr ⟨rfl, ptL_no hlt hx hy, by rw [take_one l k hlt]; exact (lay_pl hx).snoc hz⟩
  · refine .inr ⟨rfl, hx, ?_⟩
    rw [take_one l k hlt]
    rcases hr5 with ⟨_, hy⟩ | ⟨_, _, hz⟩
    · exact hly.snoc (lay_pt hy)
    · exact hly.snoc hz
theorem tupW_end (xs : List Int) (n : Nat) (ws ns : List Int) : tupW xs n n ws ns = xs ++ (n : Int) :: (ws ++ ns) := by
  unfold tupW
  simp
set_option maxHeartbeats 8000000 in
set_option maxRecDepth 100000 in
theorem put_4 (n : Int) (s : ByteArray) (l : List Tm) (ih : ∀ t, t ∈ l → PutC t) : PutC (.mk 4 n s l) := by
  intro Z m w xs A v hps hv hK hx hA
  obtain ⟨ao, cap, rfl, hs, hlc, hcm, hr⟩ := hv
  have hg := hK
  rw [goodT] at hg
  have hl8 : l.length ≤ 8 := by have := hg.1; simp [shapeB] at this; omega
  have HGL : Hid (goodL l) := hg.2
  have IH : Hid (∀ t, t ∈ l → PutC t) := ih
  have hb : Below w.heap.size w (w.alloc (.cells #[.int .i64 4, .int .i64 n, .string s, .slice ao l.length cap] 39)) := (Below.refl _ _).alloc (Nat.le_refl _) _
  have HP : Hid (PS Z m (w.alloc (.cells #[.int .i64 4, .int .i64 n, .string s, .slice ao l.length cap] 39)) xs A) := hps.below hb
  have HRL : Hid (RpL (SZ Z) (w.alloc (.cells #[.int .i64 4, .int .i64 n, .string s, .slice ao l.length cap] 39)) l ao) := (Moves.below hb).repL _ _ hr
  have HF : Hid (Fr Z m w (w.alloc (.cells #[.int .i64 4, .int .i64 n, .string s, .slice ao l.length cap] 39))) := Fr.below hb
  have hnd : ndT (.mk 4 n s l) = 1 + l.length + ndL l := by simp [ndT, ndO]
  have hnt : nT (.mk 4 n s l) = 1 + nL l := by rw [nT]
  have HR1 : Hid (ptL l (xs.length + 1 + l.length) A = none → ptT (.mk 4 n s l) xs.length A = none) := fun h => by rw [ptT]; simp [h]
  have HR2 : Hid (∀ ws ns A', ptL l (xs.length + 1 + l.length) A = some (ws, ns, A') → ptT (.mk 4 n s l) xs.length A = some ((l.length : Int) :: (ws ++ ns), A', mkw 4 xs.length)) := fun ws ns A' h => by rw [ptT]; simp [h]
  rw [hnd] at hx
  rw [hnt] at hA
  have hxl : xs.length ≤ 100000 := by omega
  have hxi : (xs.length : Int) ≤ 100000 := by omega
  have HX : Hid (xs.length + (1 + l.length + ndL l) ≤ 100000) := hx
  have HAN : Hid (A.length + (1 + nL l) ≤ 1048577) := hA
  have HND : Hid (ndT (.mk 4 n s l) = 1 + l.length + ndL l) := hnd
  have HNT : Hid (nT (.mk 4 n s l) = 1 + nL l) := hnt
  have hgw := hps.gw
  have hga := hps.ga
  have hzw := hps.wl
  have hzn := hps.nl
  obtain ⟨i0, hi, hz0, hz1, hz2⟩ := infoParts infoInt
  have HI : Hid (Try.prog.info? 3 = some i0 ∧ i0.zero = some (.int .i64 0) ∧ i0.size = 1 ∧ i0.bytes = 8) := ⟨hi, hz0, hz1, hz2⟩
  clear hps hr hK hx hA hb hs hi hz0 hz1 hz2 hnd hnt hg ih
  go_enter Try.func42, Try.ntmps42
  have hwc0 := HP.out.wc
  go_wp2_with fail
  generalize hW : (w.alloc (.cells #[.int .i64 4, .int .i64 n, .string s, .slice ao l.length cap] 39)) = W at *
  have hbx : ∀ o, W.cell? ⟨w.heap.size, o, none⟩ = (#[.int .i64 4, .int .i64 n, .string s, .slice ao l.length cap] : Array Value)[o]? := fun o => by rw [← hW]; exact World.cell?_alloc_new w _ _ o
  have hzW : W.heap.size = w.heap.size + 1 := by rw [← hW, World.size_alloc]
  have HZW : Hid (W.heap.size = w.heap.size + 1) := hzW
  have HBX : Hid (∀ o, W.cell? ⟨w.heap.size, o, none⟩ = (#[.int .i64 4, .int .i64 n, .string s, .slice ao l.length cap] : Array Value)[o]?) := hbx
  have C3 : Hid (xs.length + 1 ≤ maxLen) := by show _ ≤ _; unfold maxLen; omega
  have C4 : Hid ((xs.length + 1) * 8 ≤ 140737488355328) := by show _ ≤ _; omega
  have C5 : Hid (Z.base ≤ (W.alloc (.cells #[.int .i64 l.length] 3)).drew.heap.size) := by show _ ≤ (W.alloc (.cells #[.int .i64 l.length] 3)).heap.size; rw [World.size_alloc]; omega
  have hw1' : (W.alloc (.cells #[.int .i64 l.length] 3)).cell? ⟨Z.wb, Z.wo, none⟩ = _ := (HP.out.one (.cells #[.int .i64 l.length] 3)).wc
  clear hW hzW
  go_region_law (first
    | (refine step_append_lies _ rfl (.tmp 94) (.tmp 98) 22 rfl Z.base 3 i0 (.int .i64 0) 1 8 undInts HI.out.1 HI.out.2.1 HI.out.2.2.1 HI.out.2.2.2 rfl (by decide) _ xs.length (xs.map (Value.int .i64)) (by simp [Act.eval]) (HP.out.one _).wr ⟨W.heap.size, 0, none⟩ 1 1 [.int .i64 l.length] (by simp [Act.eval]) rfl (srcI _ _ _) (oneI _) (by decide) C3.out C4.out C5.out _ rfl ?_; intro g6 c6 w6 hown6 hgrow6 hat6 hlt6; obtain ⟨t36, tf6⟩ := (HP.out.one _).far hgrow6)
    | go_simp)
  all_goals
    obtain ⟨p1, p2, p3⟩ := (HP.out.one _).app (n := xs.length + 1) (ys := xs ++ [(l.length : Int)]) (by simp) (by rw [List.map_append]; exact hown6) hgrow6 (hat6.imp id (fun e => e))
    have P1 : Hid (PS Z ⟨g6, c6, m.ga, m.ca⟩ (w6.setCell ⟨Z.wb, Z.wo, none⟩ (.slice (some ⟨g6, 0, none⟩) (xs.length + 1) c6)) (xs ++ [(l.length : Int)]) A) := p1
    have P2 : Hid (Fr Z m W (w6.setCell ⟨Z.wb, Z.wo, none⟩ (.slice (some ⟨g6, 0, none⟩) (xs.length + 1) c6))) := p2.one
    have P3 : Hid (Mv m ⟨g6, c6, m.ga, m.ca⟩ W.heap.size) := (Mv.refl m W.heap.size).trans p3 (by show W.heap.size ≤ (W.alloc _).heap.size; rw [World.size_alloc]; omega)
    clear p1 p2 p3 hown6 hgrow6 hat6 hlt6 t36 tf6
    generalize w6.setCell ⟨Z.wb, Z.wo, none⟩ (.slice (some ⟨g6, 0, none⟩) (xs.length + 1) c6) = w7 at *
    have zW := HZW.out
    have hb7 : ∀ o, w7.cell? ⟨w.heap.size, o, none⟩ = (#[.int .i64 4, .int .i64 n, .string s, .slice ao l.length cap] : Array Value)[o]? := fun o => by rw [(P2.out.cell (b := w.heap.size) (by omega) (by omega) (by omega) (by omega) (by omega) o).1]; exact HBX.out o
    have hw7 : w7.cell? ⟨Z.wb, Z.wo, none⟩ = some (.slice (some ⟨g6, 0, none⟩) (xs.length + 1) c6) := by have := P1.out.wc; simpa [PM.u] using this
    have HO7 : Hid (w7.drew.ownsRow Z.base 3 1 (.slice (some ⟨g6, 0, none⟩) (xs.length + 1) c6) (xs.length + 1) ((xs ++ [(l.length : Int)]).map (Value.int .i64))) := by
      have := P1.out.wr
      simp only [PM.u, List.length_append, List.length_cons, List.length_nil, Nat.zero_add] at this
      exact this
    have D1 : Hid (xs.length + 1 + l.length ≤ 1000000) := by show _ ≤ _; omega
    have D2 : Hid (Z.base ≤ w7.drew.heap.size) := P1.out.base
    have D3 : Hid (∀ w8, w7.drew.grownBy w8 (some g6) → w8.cell? ⟨Z.wb, Z.wo, none⟩ = some (.slice (some ⟨g6, 0, none⟩) (xs.length + 1) c6) ∧ w8.frozen? ⟨Z.wb, Z.wo, none⟩ = false) := fun w8 hg => by
      have := P1.out.drew.far hg
      simpa [PM.u] using this
    clear zW
    go_wp2_with fail
    go_region_law (first
      | (refine step_append_zeros _ rfl (.tmp 104) (.tmp 107) 22 3 rfl Z.base 3 i0 (.int .i64 0) .i64 .i64 undInts undInt HI.out.1 HI.out.2.1 HI.out.2.2.1 HI.out.2.2.2 rfl rfl _ (xs.length + 1) _ (by simp [Act.eval, Act.put]) HO7.out l.length (by simp [Act.eval, Act.put]) D1.out D2.out ?_; intro v8 w8 hown8 hgrow8 hat8; obtain ⟨g8, c8, rfl, hb8, hl8'⟩ := hown8.form (by omega); obtain ⟨t38, tf8⟩ := D3.out w8 hgrow8)
      | go_simp)
    all_goals
      obtain ⟨p1, p2, p3⟩ := P1.out.drew.app (n := xs.length + 1 + l.length) (ys := tupW xs l.length 0 [] []) (tupW_len xs (n := l.length) (i := 0) (ws := []) (ns := []) rfl (Nat.zero_le _)).symm (by rw [show (tupW xs l.length 0 [] []).map (Value.int .i64) = (xs ++ [(l.length : Int)]).map (Value.int .i64) ++ List.replicate l.length (.int .i64 0) from by simp [tupW]]; exact hown8) hgrow8 (hat8.imp Eq.symm Option.some.inj)
      have R1 : Hid (PS Z ⟨g8, c8, m.ga, m.ca⟩ (w8.setCell ⟨Z.wb, Z.wo, none⟩ (.slice (some ⟨g8, 0, none⟩) (xs.length + 1 + l.length) c8)) (tupW xs l.length 0 [] []) A) := p1
      have R2 : Hid (Fr Z m W (w8.setCell ⟨Z.wb, Z.wo, none⟩ (.slice (some ⟨g8, 0, none⟩) (xs.length + 1 + l.length) c8))) := P2.out.trans P3.out p2.undrew
      have R3 : Hid (Mv m ⟨g8, c8, m.ga, m.ca⟩ W.heap.size) := P3.out.trans p3 P2.out.size
      clear p1 p2 p3 hown8 hgrow8 hat8 t38 tf8 hb8 hl8' hb7 hw7 HO7 D1 D2 D3 P1 P2 P3
      generalize w8.setCell ⟨Z.wb, Z.wo, none⟩ (.slice (some ⟨g8, 0, none⟩) (xs.length + 1 + l.length) c8) = w9 at *
      go_wp2_with fail
      go_loopw [13, 14] (fun vo vi wr => ∃ (k : Nat) (m' : PM) (ws ns : List Int) (A' : List ByteArray) (ok : Bool), k ≤ l.length ∧ vi = .int .i64 k ∧ vo = .bool ok ∧ Far Z m m' W wr A A' l k (xs.length + 1 + l.length) (tupW xs l.length k ws ns) ws ns ok) (fun _ vi _ => l.length - (intOf vi).toNat)
      case atStart => exact ⟨0, _, [], [], A, true, Nat.zero_le _, rfl, rfl, ⟨R1.out, R2.out, R3.out, rfl, by simp [ndL], by omega, .inl ⟨rfl, by simp [ptL]⟩⟩⟩
      case round =>
        obtain ⟨k, m', ws, ns, A', ok, hk, rfl, rfl, hF⟩ := hrel
        have HFR : Hid (Far Z m m' W wr A A' l k (xs.length + 1 + l.length) (tupW xs l.length k ws ns) ws ns ok) := hF
        have zW := HZW.out
        have hbr : ∀ o, wr.cell? ⟨w.heap.size, o, none⟩ = (#[.int .i64 4, .int .i64 n, .string s, .slice ao l.length cap] : Array Value)[o]? := fun o => by rw [(hF.fr.cell (b := w.heap.size) (by omega) (by omega) (by omega) (by omega) (by omega) o).1]; exact HBX.out o
        have hwl : w.heap.size < wr.heap.size := by have := hF.fr.size; omega
        by_cases hlt : k < l.length
        · obtain ⟨b, off, a1, a2, a3, a4, a5, a6, rfl, c0, c1, c2, c3, hv⟩ := elem_at HP.out HRL.out hF.fr k hlt
          have HV : Hid (RpV (SZ Z) wr l[k] (.agg #[.int .i64 a1, .int .i64 a2, .string a3, .slice a4 a5 a6])) := hv
          have HT : Hid (PutC l[k]) := IH.out _ (List.getElem_mem hlt)
          have HG : Hid (goodT l[k]) := goodL_at l HGL.out k hlt
          have hyl := tupW_len xs (ns := ns) hF.wl (Nat.le_of_lt hlt)
          have hB1 : Hid ((tupW xs l.length k ws ns).length + ndT l[k] ≤ 100000) := by
            show _ ≤ _
            have e1 := ndL_take l k hlt
            have e2 := ndL_le l (k + 1)
            have e3 := HX.out
            have e4 := hF.nl
            omega
          have hB2 : Hid (A'.length + nT l[k] ≤ 1048577) := by
            show _ ≤ _
            have e1 := nL_take l k hlt
            have e2 := nL_le l (k + 1)
            have e3 := HAN.out
            have e4 := hF.al
            omega
          have HPR : Hid (PS Z m' wr (tupW xs l.length k ws ns) A') := hF.ps
          have HST : Hid (∀ (x : Int) (ok2 : Bool) (m2 : PM) (ns2 : List Int) (A2 : List ByteArray) (w5 : World), PS Z m2 w5 (tupW xs l.length k ws ns ++ ns2) A2 → Fr Z m' wr w5 → Mv m' m2 wr.heap.size → ns2.length = ndT l[k] → A2.length ≤ A'.length + nT l[k] → ((ok2 = true ∧ ptT l[k] (tupW xs l.length k ws ns).length A' = some (ns2, A2, x)) ∨ (ok2 = false ∧ ptT l[k] (tupW xs l.length k ws ns).length A' = none ∧ LayT l[k] (tupW xs l.length k ws ns).length ns2 x)) →
              (∃ N, xs.length + 1 + k < N ∧ w5.cell? ⟨Z.wb, Z.wo, none⟩ = some (.slice (some ⟨m2.gw, 0, none⟩) N m2.cw)) ∧ (∃ v, w5.cell? ⟨m2.gw, xs.length + 1 + k, none⟩ = some (.int .i64 v)) ∧ w5.frozen? ⟨m2.gw, xs.length + 1 + k, none⟩ = false ∧ Far Z m m2 W (w5.setCell ⟨m2.gw, xs.length + 1 + k, none⟩ (.int .i64 x)) A A2 l (k + 1) (xs.length + 1 + l.length) (tupW xs l.length (k + 1) (ws ++ [x]) (ns ++ ns2)) (ws ++ [x]) (ns ++ ns2) (ok && ok2)) := by
            intro x ok2 m2 ns2 A2 w5 r1 r2 r3 r4 r5 r6
            have hj : xs.length + 1 + k < (tupW xs l.length k ws ns ++ ns2).length := by rw [List.length_append]; omega
            exact ⟨⟨_, hj, r1.wc⟩, ⟨_, r1.word _ hj⟩, r1.wr.frozenAt _, hF.step hlt r1 r2 r3 r4 r5 r6⟩
          clear hv hF hyl HFR zW R1 R2 R3
          generalize tupW xs l.length k ws ns = ys at *
          have hki : (k : Int) ≤ 8 := by omega
          generalize l[k] = t at *
          cases ok <;>
          go_wp2_with (go_at_call 42; refine (HT.out Z m' wr ys A' _ HPR.out HV.out HG.out hB1.out hB2.out).mono ?_; rintro e w5 ⟨x, ok2, m2, ns2, A2, rfl, r1, r2, r3, r4, r5, r6⟩; obtain ⟨⟨N, hN, t35⟩, ⟨v5, u5⟩, f5, hST⟩ := HST.out x ok2 m2 ns2 A2 w5 r1 r2 r3 r4 r5 r6; have HS2 : Hid (Far Z m m2 W (w5.setCell ⟨m2.gw, xs.length + 1 + k, none⟩ (.int .i64 x)) A A2 l (k + 1) _ _ _ _ _) := hST; clear r1 r2 r3 r4 r5 r6 hST)
          all_goals
            go_roundw
            case rel => exact ⟨k + 1, m2, _, _, A2, _, by omega, by go_num, by rfl, HS2.out⟩
            case measure => simp [intOf]; omega
        · obtain rfl : k = l.length := by omega
          have HPF : Hid (PS Z m' wr (xs ++ (l.length : Int) :: (ws ++ ns)) A') := by show PS ..; rw [← tupW_end]; exact hF.ps
          have HM1 : Hid (Mv m m' w.heap.size) := (Mv.refl m w.heap.size).trans hF.mv (by omega)
          have HF1 : Hid (Fr Z m w wr) := HF.out.trans (Mv.refl _ _) hF.fr
          have HND2 : Hid (((l.length : Int) :: (ws ++ ns)).length = ndT (.mk 4 n s l)) := by
            show _ = _
            have e1 := hF.wl
            have e2 := hF.nl
            rw [HND.out, List.length_cons, List.length_append]
            simp only [List.take_length] at e2
            omega
          have HNT2 : Hid (A'.length ≤ A.length + nT (.mk 4 n s l)) := by
            show _ ≤ _
            have e2 := hF.al
            rw [HNT.out]
            simp only [List.take_length] at e2
            omega
          have HEX : Hid ((ok = true ∧ ptT (.mk 4 n s l) xs.length A = some ((l.length : Int) :: (ws ++ ns), A', mkw 4 xs.length)) ∨ (ok = false ∧ ptT (.mk 4 n s l) xs.length A = none ∧ LayT (.mk 4 n s l) xs.length ((l.length : Int) :: (ws ++ ns)) (mkw 4 xs.length))) := by
            have e := hF.ex
            simp only [List.take_length] at e
            rcases e with ⟨e1, e2⟩ | ⟨e1, e2, e3⟩
            · exact .inl ⟨e1, HR2.out _ _ _ e2⟩
            · exact .inr ⟨e1, HR1.out e2, LayT.tup e3⟩
          clear hF HFR zW R1 R2 R3
          go_wp2_with (go_at_call 66; refine (specMake_any _ _ _).mono ?_; rintro e w' ⟨rfl, hw'⟩; obtain rfl := hw'.symm)
          go_ret2
          exact ⟨_, ok, m', _, A', rfl, HPF.out, HF1.out, HM1.out, HND2.out, HNT2.out, HEX.out⟩
end Go.Proofs.Ytabgfaafpgholaa
namespace Go.Proofs.Ytabgfaafpgholaa
open Go.RowKit
set_option linter.unusedVariables false

/-- At the list of a plain region's operations. -/
theorem wpList_append_zeros {P : Program} (w : World) {ops : Array Oper} {rest : List Oper} {o : Oper} {a : Act} {Q : Exit → Act → World → Prop} (hgd : o.guard = none) (s x : Operand) (t tn : TypeId)
    (ho : o.op = .call { callee := .builtin .append, args := #[s, x], argTypes := #[t, tn] })
    (base : Nat) (e : TypeId) (i : TypeInfo) (z : Value) (kq kn : IntKind) (ht : P.underlying t = some (.slice e)) (htn : P.underlying tn = some (.int kn)) (hi : P.info? e = some i) (hz : i.zero = some z) (hsize : i.size = 1) (hby : i.bytes = 8) (hzc : z.cells = #[z]) (hz1 : z.oneCell' = true)
    (v : Value) (n : Nat) (xs : List Value) (hs : a.eval s = v) (hown : w.ownsRow base e 1 v n xs) (k : Nat) (hx : a.eval x = .int kq k) (hnk : n + k ≤ 1000000) (hbase : base ≤ w.heap.size)
    (h : ∀ v' w', w'.ownsRow base e 1 v' (n + k) (xs ++ List.replicate k z) → w.grownBy w' v.ownBlock → (v'.ownBlock = v.ownBlock ∨ v'.ownBlock = some w.heap.size) → wpList P ops Q rest (a.put o.dst v') w') : wpList P ops Q (o :: rest) a w :=
  wpList_plain hgd fun _ hK => by
    obtain ⟨v', w', hr, h2, h3, h4⟩ := run_append_zeros_own (P := P) w base t tn o.type e i z kq kn ht htn hi hz hsize hby hzc hz1 v n xs hown k hnk hbase
    unfold Oper.wp execOp
    simp only [ho, resolve, invoke, builtin, Sem.run_bind, Sem.run_pure, Result.andThen_ok, List.map_toArray, List.map_cons, List.map_nil, hs, hx, hr]
    exact hK _ _ (h v' w' h2 h3 h4)
/-- The cells of a list that goes on. -/
def consW : List Int → Nat → List Int
  | [], _ => []
  | x :: r, a => x :: mkw 5 ((a : Int) + 2) :: consW r (a + 2)
theorem consW_len : ∀ (ws : List Int) (a : Nat), (consW ws a).length = 2 * ws.length
  | [], a => rfl
  | x :: r, a => by rw [consW, List.length_cons, List.length_cons, consW_len r, List.length_cons]; omega
theorem consW_app : ∀ (ws : List Int) (a : Nat) (x : Int), consW (ws ++ [x]) a = consW ws a ++ [x, mkw 5 ((a : Int) + 2 * ws.length + 2)]
  | [], a, x => by simp [consW]
  | y :: r, a, x => by
    rw [List.cons_append, consW, consW, consW_app r (a + 2) x]
    have e : (((a + 2 : Nat) : Int) + 2 * (r.length : Int) + 2) = (a : Int) + 2 * ((y :: r).length : Nat) + 2 := by rw [List.length_cons]; omega
    rw [e]
    rfl
theorem consL_app : ∀ (ws : List Int) (a : Nat) (x : Int), consL (ws ++ [x]) a = consW ws a ++ [x, 3]
  | [], a, x => by simp [consL, consW]
  | [y], a, x => by simp [consL, consW]
  | y :: z :: r, a, x => by
    have := consL_app (z :: r) (a + 2) x
    rw [List.cons_append] at this
    rw [List.cons_append, List.cons_append, consL, this, consW]
    rfl
/-- What stands there behind i of them. -/
def lisW (xs : List Int) (n i : Nat) (ws ns : List Int) : List Int := xs ++ (consW ws xs.length ++ List.replicate (2 * (n - i)) 0 ++ ns)
theorem lisW_len (xs : List Int) {n i : Nat} {ws ns : List Int} (hw : ws.length = i) (hi : i ≤ n) : (lisW xs n i ws ns).length = xs.length + 2 * n + ns.length := by
  unfold lisW
  simp only [List.length_append, List.length_replicate, consW_len, hw]
  omega
theorem lisW_set (xs : List Int) {n i : Nat} {ws ns ns2 : List Int} (x : Int) (hw : ws.length = i) (hi : i < n) : ((lisW xs n i ws ns ++ ns2).set (xs.length + 2 * i) x).set (xs.length + 2 * i + 1) (mkw 5 ((xs.length : Int) + 2 * i + 2)) = lisW xs n (i + 1) (ws ++ [x]) (ns ++ ns2) := by
  unfold lisW
  rw [show 2 * (n - i) = 2 * (n - (i + 1)) + 1 + 1 by omega, List.replicate_succ, List.replicate_succ]
  have e : xs ++ (consW ws xs.length ++ 0 :: 0 :: List.replicate (2 * (n - (i + 1))) 0 ++ ns) ++ ns2 = (xs ++ consW ws xs.length) ++ 0 :: (0 :: (List.replicate (2 * (n - (i + 1))) 0 ++ ns ++ ns2)) := by simp
  rw [e, set_mid _ _ _ _ _ (by simp [consW_len, hw])]
  have e2 : (xs ++ consW ws xs.length) ++ x :: (0 :: (List.replicate (2 * (n - (i + 1))) 0 ++ ns ++ ns2)) = (xs ++ consW ws xs.length ++ [x]) ++ 0 :: (List.replicate (2 * (n - (i + 1))) 0 ++ ns ++ ns2) := by simp
  rw [e2, set_mid _ _ _ _ _ (by simp [consW_len, hw]; omega), consW_app, hw]
  simp
theorem lisW_end (xs : List Int) {n : Nat} {ws ns : List Int} (hw : ws.length = n) (hn : 0 < n) : (lisW xs n n ws ns).set (xs.length + 2 * n - 1) 3 = xs ++ (consL ws xs.length ++ ns) := by
  have hne : ws ≠ [] := fun e => by rw [e] at hw; simp at hw; omega
  obtain ⟨us, x, rfl⟩ : ∃ us x, ws = us ++ [x] := ⟨ws.dropLast, ws.getLast hne, (List.dropLast_concat_getLast hne).symm⟩
  have hu : us.length + 1 = n := by simpa using hw
  unfold lisW
  rw [consW_app, consL_app, Nat.sub_self]
  have e : xs ++ (consW us xs.length ++ [x, mkw 5 ((xs.length : Int) + 2 * us.length + 2)] ++ List.replicate (2 * 0) 0 ++ ns) = (xs ++ consW us xs.length ++ [x]) ++ mkw 5 ((xs.length : Int) + 2 * us.length + 2) :: ns := by simp
  rw [e, set_mid _ _ _ _ _ (by simp [consW_len]; omega)]
  simp
theorem Fr.drew {Z : PZ} {m : PM} {w w' : World} (h : Fr Z m w w') : Fr Z m w w'.drew := ⟨h.os, h.tape, h.output, h.size, h.block⟩
theorem Far.drew {Z : PZ} {m m' : PM} {W wr : World} {A A' : List ByteArray} {l : List Tm} {i a0 : Nat} {ys ws ns : List Int} {ok : Bool} (h : Far Z m m' W wr A A' l i a0 ys ws ns ok) : Far Z m m' W wr.drew A A' l i a0 ys ws ns ok := ⟨h.ps.drew, h.fr.drew, h.mv, h.wl, h.nl, h.al, h.ex⟩
/-- One more. -/
theorem Far.cell {Z : PZ} {m m' m2 : PM} {W wr w5 : World} {A A' A2 : List ByteArray} {l : List Tm} {k : Nat} {xs ws ns ns2 : List Int} {ok ok2 : Bool} {x : Int} (h : Far Z m m' W wr A A' l k (xs.length + 2 * l.length) (lisW xs l.length k ws ns) ws ns ok) (hlt : k < l.length)
    (hp5 : PS Z m2 w5 (lisW xs l.length k ws ns ++ ns2) A2) (hf5 : Fr Z m' wr w5) (hm5 : Mv m' m2 wr.heap.size) (hn5 : ns2.length = ndT l[k]) (ha5 : A2.length ≤ A'.length + nT l[k])
    (hr5 : (ok2 = true ∧ ptT l[k] (lisW xs l.length k ws ns).length A' = some (ns2, A2, x)) ∨ (ok2 = false ∧ ptT l[k] (lisW xs l.length k ws ns).length A' = none ∧ LayT l[k] (lisW xs l.length k ws ns).length ns2 x)) :
    Far Z m m2 W ((w5.setCell ⟨m2.gw, xs.length + 2 * k, none⟩ (.int .i64 x)).setCell ⟨m2.gw, xs.length + 2 * k + 1, none⟩ (.int .i64 (mkw 5 ((xs.length : Int) + 2 * k + 2)))) A A2 l (k + 1) (xs.length + 2 * l.length) (lisW xs l.length (k + 1) (ws ++ [x]) (ns ++ ns2)) (ws ++ [x]) (ns ++ ns2) (ok && ok2) := by
  obtain ⟨hps, hfr, hmv, hwl, hnl, hal, hex⟩ := h
  obtain ⟨q1, q2⟩ := hp5.stored (xs.length + 2 * k) x
  obtain ⟨q3, q4⟩ := q1.stored (xs.length + 2 * k + 1) (mkw 5 ((xs.length : Int) + 2 * k + 2))
  rw [lisW_set xs x hwl hlt] at q3
  have hm2 : Mv m m2 W.heap.size := hmv.trans hm5 hfr.size
  have e := ndL_take l k hlt
  have e2 := nL_take l k hlt
  refine ⟨q3, ((hfr.trans hmv hf5).trans hm2 q2).trans hm2 q4, hm2, by simp [hwl], by rw [List.length_append]; omega, by omega, ?_⟩
  rw [lisW_len xs hwl (Nat.le_of_lt hlt)] at hr5
  rcases hex with ⟨rfl, hx⟩ | ⟨rfl, hx, hly⟩
  · rcases hr5 with ⟨rfl, hy⟩ | ⟨rfl, hy, hz⟩
    · exact .inl ⟨rfl, ptL_yes hlt hx hy⟩
    · exact .inr ⟨rfl, ptL_no hlt hx hy, by rw [take_one l k hlt]; exact (lay_pl hx).snoc hz⟩
  · refine .inr ⟨rfl, hx, ?_⟩
    rw [take_one l k hlt]
    rcases hr5 with ⟨_, hy⟩ | ⟨_, _, hz⟩
    · exact hly.snoc (lay_pt hy)
    · exact hly.snoc hz
set_option maxHeartbeats 8000000 in
set_option maxRecDepth 100000 in
theorem l5List_any (n : Int) (s : ByteArray) (l : List Tm) (ih : ∀ t, t ∈ l → PutC t) (Z : PZ) (m : PM) (w : World) (xs : List Int) (A : List ByteArray) (v : Value) (hps : PS Z m w xs A) (hv : RpV (SZ Z) w (.mk 5 n s l) v) (hK : goodT (.mk 5 n s l)) (hx : xs.length + ndT (.mk 5 n s l) ≤ 100000) (hA : A.length + nT (.mk 5 n s l) ≤ 1048577) :
    Calls Try.prog 68 #[.pointer (some ⟨Z.wb, Z.wo, none⟩), .pointer (some ⟨Z.nb, 0, none⟩), v] w (Put Z m w xs A (ptT (.mk 5 n s l) xs.length A) (ndT (.mk 5 n s l)) (nT (.mk 5 n s l)) (LayT (.mk 5 n s l) xs.length)) := by
  obtain ⟨ao, cap, rfl, hs, hlc, hcm, hr⟩ := hv
  have hg := hK
  rw [goodT] at hg
  have hl20 : l.length ≤ 20 := by have := hg.1; simp [shapeB] at this; omega
  have hl20i : (l.length : Int) ≤ 20 := by omega
  have HGL : Hid (goodL l) := hg.2
  have IH : Hid (∀ t, t ∈ l → PutC t) := ih
  have hb : Below w.heap.size w (w.alloc (.cells #[.int .i64 5, .int .i64 n, .string s, .slice ao l.length cap] 39)) := (Below.refl _ _).alloc (Nat.le_refl _) _
  have HP : Hid (PS Z m (w.alloc (.cells #[.int .i64 5, .int .i64 n, .string s, .slice ao l.length cap] 39)) xs A) := hps.below hb
  have HRL : Hid (RpL (SZ Z) (w.alloc (.cells #[.int .i64 5, .int .i64 n, .string s, .slice ao l.length cap] 39)) l ao) := (Moves.below hb).repL _ _ hr
  have HF : Hid (Fr Z m w (w.alloc (.cells #[.int .i64 5, .int .i64 n, .string s, .slice ao l.length cap] 39))) := Fr.below hb
  have hnd : ndT (.mk 5 n s l) = 2 * l.length + ndL l := by simp [ndT, ndO]
  have hnt : nT (.mk 5 n s l) = 1 + nL l := by rw [nT]
  have HR0 : Hid (l.length = 0 → ptT (.mk 5 n s l) xs.length A = some ([], A, mkw 3 0) ∧ ndT (.mk 5 n s l) = 0) := fun h => by
    have e : l = [] := List.eq_nil_of_length_eq_zero h
    subst e
    refine ⟨?_, by simp [ndT, ndO, ndL]⟩
    rw [ptT]
    simp [mkw, inB]
  have HR1 : Hid (0 < l.length → ptL l (xs.length + 2 * l.length) A = none → ptT (.mk 5 n s l) xs.length A = none) := fun h0 h => by rw [ptT]; simp [h, Nat.ne_of_gt h0]
  have HR2 : Hid (0 < l.length → ∀ ws ns A', ptL l (xs.length + 2 * l.length) A = some (ws, ns, A') → ptT (.mk 5 n s l) xs.length A = some (consL ws xs.length ++ ns, A', mkw 5 xs.length)) := fun h0 ws ns A' h => by rw [ptT]; simp [h, Nat.ne_of_gt h0]
  rw [hnd] at hx
  rw [hnt] at hA
  have hxl : xs.length ≤ 100000 := by omega
  have hxi : (xs.length : Int) ≤ 100000 := by omega
  have HX : Hid (xs.length + (2 * l.length + ndL l) ≤ 100000) := hx
  have HAN : Hid (A.length + (1 + nL l) ≤ 1048577) := hA
  have HND : Hid (ndT (.mk 5 n s l) = 2 * l.length + ndL l) := hnd
  have HNT : Hid (nT (.mk 5 n s l) = 1 + nL l) := hnt
  have hgw := hps.gw
  have hga := hps.ga
  have hzw := hps.wl
  have hzn := hps.nl
  obtain ⟨i0, hi, hz0, hz1, hz2⟩ := infoParts infoInt
  have HI : Hid (Try.prog.info? 3 = some i0 ∧ i0.zero = some (.int .i64 0) ∧ i0.size = 1 ∧ i0.bytes = 8) := ⟨hi, hz0, hz1, hz2⟩
  clear hps hr hK hx hA hb hs hi hz0 hz1 hz2 hnd hnt hg ih
  by_cases h0 : l.length = 0
  · have hR := HR0.out h0
    have HR : Hid (ptT (.mk 5 n s l) xs.length A = some ([], A, mkw 3 0) ∧ ndT (.mk 5 n s l) = 0) := hR
    clear hR
    rw [h0] at HP HF
    go_enter Try.func68, Try.ntmps68
    go_wp2_with (go_at_call 66; refine (specMake_any _ _ _).mono ?_; rintro e w' ⟨rfl, hw'⟩; obtain rfl := hw'.symm)
    go_ret2
    exact ⟨_, true, m, [], A, rfl, by rw [List.append_nil]; exact HP.out, HF.out, Mv.refl _ _, HR.out.2.symm, by omega, .inl ⟨rfl, HR.out.1⟩⟩
  have hlp : 0 < l.length := by omega
  have hlpi : 0 < (l.length : Int) := by omega
  clear HR0
  go_enter Try.func68, Try.ntmps68
  have hwc0 := HP.out.wc
  have HO7 : Hid ((w.alloc (.cells #[.int .i64 5, .int .i64 n, .string s, .slice ao l.length cap] 39)).ownsRow Z.base 3 1 (.slice (some ⟨m.gw, 0, none⟩) xs.length m.cw) xs.length (xs.map (Value.int .i64))) := HP.out.wr
  have D1 : Hid (xs.length + 2 * l.length ≤ 1000000) := by show _ ≤ _; omega
  have D2 : Hid (Z.base ≤ (w.alloc (.cells #[.int .i64 5, .int .i64 n, .string s, .slice ao l.length cap] 39)).heap.size) := HP.out.base
  have D3 : Hid (∀ w8, (w.alloc (.cells #[.int .i64 5, .int .i64 n, .string s, .slice ao l.length cap] 39)).grownBy w8 (some m.gw) → w8.cell? ⟨Z.wb, Z.wo, none⟩ = some (.slice (some ⟨m.gw, 0, none⟩) xs.length m.cw) ∧ w8.frozen? ⟨Z.wb, Z.wo, none⟩ = false) := fun w8 hg => HP.out.far hg
  have hne : 0 < xs.length + 2 * l.length := by omega
  have HNE : Hid (0 < xs.length + 2 * l.length) := hne
  clear hne
  go_wp2_with (at_builtin; refine wpList_append_zeros _ rfl _ _ 22 3 rfl Z.base 3 i0 (.int .i64 0) .i64 .i64 undInts undInt HI.out.1 HI.out.2.1 HI.out.2.2.1 HI.out.2.2.2 rfl rfl _ xs.length _ rfl HO7.out (2 * l.length) (show Value.int .i64 (2 * (l.length : Int)) = _ from congrArg _ (by omega)) D1.out D2.out ?_; intro v8 w8 hown8 hgrow8 hat8; obtain ⟨g8, c8, rfl, hb8, hl8'⟩ := hown8.form HNE.out; obtain ⟨t38, tf8⟩ := D3.out w8 hgrow8)
  all_goals
    obtain ⟨p1, p2, p3⟩ := HP.out.app (n := xs.length + 2 * l.length) (ys := lisW xs l.length 0 [] []) (lisW_len xs (n := l.length) (i := 0) (ws := []) (ns := []) rfl (Nat.zero_le _)).symm (by rw [show (lisW xs l.length 0 [] []).map (Value.int .i64) = xs.map (Value.int .i64) ++ List.replicate (2 * l.length) (.int .i64 0) from by simp [lisW, consW]]; exact hown8) hgrow8 (hat8.imp Eq.symm Option.some.inj)
    have R1 : Hid (PS Z ⟨g8, c8, m.ga, m.ca⟩ (w8.setCell ⟨Z.wb, Z.wo, none⟩ (.slice (some ⟨g8, 0, none⟩) (xs.length + 2 * l.length) c8)) (lisW xs l.length 0 [] []) A) := p1
    clear p1 hown8 hgrow8 hat8 t38 tf8 hb8 hl8' HO7 D1 D2 D3 hwc0
    generalize hW : (w.alloc (.cells #[.int .i64 5, .int .i64 n, .string s, .slice ao l.length cap] 39)) = W at *
    have R2 : Hid (Fr Z m W (w8.setCell ⟨Z.wb, Z.wo, none⟩ (.slice (some ⟨g8, 0, none⟩) (xs.length + 2 * l.length) c8))) := p2
    have R3 : Hid (Mv m ⟨g8, c8, m.ga, m.ca⟩ W.heap.size) := p3
    have hbx : ∀ o, W.cell? ⟨w.heap.size, o, none⟩ = (#[.int .i64 5, .int .i64 n, .string s, .slice ao l.length cap] : Array Value)[o]? := fun o => by rw [← hW]; exact World.cell?_alloc_new w _ _ o
    have hzW : W.heap.size = w.heap.size + 1 := by rw [← hW, World.size_alloc]
    have HZW : Hid (W.heap.size = w.heap.size + 1) := hzW
    have HBX : Hid (∀ o, W.cell? ⟨w.heap.size, o, none⟩ = (#[.int .i64 5, .int .i64 n, .string s, .slice ao l.length cap] : Array Value)[o]?) := hbx
    clear p2 p3 hW hzW hbx
    generalize w8.setCell ⟨Z.wb, Z.wo, none⟩ (.slice (some ⟨g8, 0, none⟩) (xs.length + 2 * l.length) c8) = w9 at *
    go_loopw [10, 11] (fun vo vi wr => ∃ (k : Nat) (m' : PM) (ws ns : List Int) (A' : List ByteArray) (ok : Bool), k ≤ l.length ∧ vi = .int .i64 k ∧ vo = .bool ok ∧ Far Z m m' W wr A A' l k (xs.length + 2 * l.length) (lisW xs l.length k ws ns) ws ns ok) (fun _ vi _ => l.length - (intOf vi).toNat)
    case atStart => exact ⟨0, _, [], [], A, true, Nat.zero_le _, rfl, rfl, ⟨R1.out, R2.out, R3.out, rfl, by simp [ndL], by omega, .inl ⟨rfl, by simp [ptL]⟩⟩⟩
    case round =>
      obtain ⟨k, m', ws, ns, A', ok, hk, rfl, rfl, hF⟩ := hrel
      have zW := HZW.out
      have hbr : ∀ o, wr.cell? ⟨w.heap.size, o, none⟩ = (#[.int .i64 5, .int .i64 n, .string s, .slice ao l.length cap] : Array Value)[o]? := fun o => by rw [(hF.fr.cell (b := w.heap.size) (by omega) (by omega) (by omega) (by omega) (by omega) o).1]; exact HBX.out o
      have hwl : w.heap.size < wr.heap.size := by have := hF.fr.size; omega
      by_cases hlt : k < l.length
      · obtain ⟨b, off, a1, a2, a3, a4, a5, a6, rfl, c0, c1, c2, c3, hv⟩ := elem_at HP.out HRL.out hF.fr k hlt
        have HV : Hid (RpV (SZ Z) wr l[k] (.agg #[.int .i64 a1, .int .i64 a2, .string a3, .slice a4 a5 a6])) := hv
        have HT : Hid (PutC l[k]) := IH.out _ (List.getElem_mem hlt)
        have HG : Hid (goodT l[k]) := goodL_at l HGL.out k hlt
        have hyl := lisW_len xs (ns := ns) hF.wl (Nat.le_of_lt hlt)
        have hB1 : Hid ((lisW xs l.length k ws ns).length + ndT l[k] ≤ 100000) := by
          show _ ≤ _
          have e1 := ndL_take l k hlt
          have e2 := ndL_le l (k + 1)
          have e3 := HX.out
          have e4 := hF.nl
          omega
        have hB2 : Hid (A'.length + nT l[k] ≤ 1048577) := by
          show _ ≤ _
          have e1 := nL_take l k hlt
          have e2 := nL_le l (k + 1)
          have e3 := HAN.out
          have e4 := hF.al
          omega
        have HPR : Hid (PS Z m' wr (lisW xs l.length k ws ns) A') := hF.ps
        have HST : Hid (∀ (x : Int) (ok2 : Bool) (m2 : PM) (ns2 : List Int) (A2 : List ByteArray) (w5 : World), PS Z m2 w5 (lisW xs l.length k ws ns ++ ns2) A2 → Fr Z m' wr w5 → Mv m' m2 wr.heap.size → ns2.length = ndT l[k] → A2.length ≤ A'.length + nT l[k] → ((ok2 = true ∧ ptT l[k] (lisW xs l.length k ws ns).length A' = some (ns2, A2, x)) ∨ (ok2 = false ∧ ptT l[k] (lisW xs l.length k ws ns).length A' = none ∧ LayT l[k] (lisW xs l.length k ws ns).length ns2 x)) →
            (∃ N, xs.length + 2 * k + 1 < N ∧ w5.cell? ⟨Z.wb, Z.wo, none⟩ = some (.slice (some ⟨m2.gw, 0, none⟩) N m2.cw) ∧ (w5.setCell ⟨m2.gw, xs.length + 2 * k, none⟩ (.int .i64 x)).cell? ⟨Z.wb, Z.wo, none⟩ = some (.slice (some ⟨m2.gw, 0, none⟩) N m2.cw)) ∧ (∃ v, w5.cell? ⟨m2.gw, xs.length + 2 * k, none⟩ = some (.int .i64 v)) ∧ (∃ v, (w5.setCell ⟨m2.gw, xs.length + 2 * k, none⟩ (.int .i64 x)).cell? ⟨m2.gw, xs.length + 2 * k + 1, none⟩ = some (.int .i64 v)) ∧ (∀ o, w5.frozen? ⟨m2.gw, o, none⟩ = false) ∧ Far Z m m2 W ((w5.setCell ⟨m2.gw, xs.length + 2 * k, none⟩ (.int .i64 x)).setCell ⟨m2.gw, xs.length + 2 * k + 1, none⟩ (.int .i64 (mkw 5 ((xs.length : Int) + 2 * k + 2)))) A A2 l (k + 1) (xs.length + 2 * l.length) (lisW xs l.length (k + 1) (ws ++ [x]) (ns ++ ns2)) (ws ++ [x]) (ns ++ ns2) (ok && ok2)) := by
          intro x ok2 m2 ns2 A2 w5 r1 r2 r3 r4 r5 r6
          have hj : xs.length + 2 * k + 1 < (lisW xs l.length k ws ns ++ ns2).length := by rw [List.length_append]; omega
          have s1 := (r1.stored (xs.length + 2 * k) x).1
          have s2 := s1.wc
          rw [PM.u, List.length_set] at s2
          exact ⟨⟨_, hj, r1.wc, s2⟩, ⟨_, r1.word _ (by omega)⟩, ⟨_, s1.word _ (by rw [List.length_set]; exact hj)⟩, r1.wr.frozenAt, hF.cell hlt r1 r2 r3 r4 r5 r6⟩
        clear hv hF hyl zW R1 R2 R3
        generalize lisW xs l.length k ws ns = ys at *
        have hki : (k : Int) < 20 := by omega
        generalize l[k] = t at *
        cases ok <;>
        go_wp2_with (go_at_call 42; refine (HT.out Z m' wr ys A' _ HPR.out HV.out HG.out hB1.out hB2.out).mono ?_; rintro e w5 ⟨x, ok2, m2, ns2, A2, rfl, r1, r2, r3, r4, r5, r6⟩; obtain ⟨⟨N, hN, t35, t36⟩, ⟨v5, u5⟩, ⟨v6, u6⟩, f5, hST⟩ := HST.out x ok2 m2 ns2 A2 w5 r1 r2 r3 r4 r5 r6; have HS2 : Hid (Far Z m m2 W ((w5.setCell ⟨m2.gw, xs.length + 2 * k, none⟩ (.int .i64 x)).setCell ⟨m2.gw, xs.length + 2 * k + 1, none⟩ (.int .i64 (mkw 5 ((xs.length : Int) + 2 * k + 2)))) A A2 l (k + 1) _ _ _ _ _) := hST; clear r1 r2 r3 r4 r5 r6 hST)
        all_goals
          have f6 : ∀ o, (w5.setCell ⟨m2.gw, xs.length + 2 * k, none⟩ (.int .i64 x)).frozen? ⟨m2.gw, o, none⟩ = false := fun o => by rw [World.frozen?_setCell]; exact f5 o
          clear f5 u5 t35
          generalize w5.setCell ⟨m2.gw, xs.length + 2 * k, none⟩ (.int .i64 x) = w6 at *
          obtain ⟨J, hJ⟩ : ∃ J, xs.length + 2 * k + 1 = J := ⟨_, rfl⟩
          obtain ⟨M, hM⟩ : ∃ M : Nat, (xs.length : Int) + 2 * (k : Int) + 2 = (M : Int) := ⟨xs.length + 2 * k + 2, by omega⟩
          obtain ⟨p, hp⟩ : ∃ p : Nat, 2 * k = p := ⟨_, rfl⟩
          obtain ⟨q, hq⟩ : ∃ q : Nat, xs.length + p = q := ⟨_, rfl⟩
          have hw1 : IntKind.i64.wrap (2 * (k : Int)) = (p : Int) := by rw [IntKind.wrap_i64]; omega
          have hw2 : IntKind.i64.wrap ((xs.length : Int) + (p : Int)) = (q : Int) := by rw [IntKind.wrap_i64]; omega
          have hw3 : IntKind.i64.wrap ((q : Int) + 1) = (J : Int) := by rw [IntKind.wrap_i64]; omega
          have hw4 : IntKind.i64.wrap ((q : Int) + 2) = (M : Int) := by rw [IntKind.wrap_i64]; omega
          rw [hJ] at u6 HS2 hN
          rw [hM] at HS2
          clear hJ hM hp hq
          clear HR1 HR2 HX HAN HND HNT HP HRL HF IH HGL HI HZW HBX HT HV HG hB1 hB2 HPR HST HNE hbr hwl c0 c1 c2 c3 hlc hcm hgw hga hzw hzn
          go_region_law (go_simp; go_wp2_with (go_at_call 66; refine (specMake_any _ _ _).mono ?_; rintro e w' ⟨rfl, hw'⟩; obtain rfl := hw'.symm))
          all_goals
            go_wp2_with fail
            go_roundw
            case rel => exact ⟨k + 1, m2, _, _, A2, _, by omega, by go_num, by rfl, HS2.out.drew⟩
            case measure => simp [intOf]; omega
      · obtain rfl : k = l.length := by omega
        have hwc := hF.ps.wc
        have hyl := lisW_len xs (ns := ns) hF.wl (Nat.le_refl _)
        obtain ⟨J, hJ⟩ : ∃ J, xs.length + 2 * l.length - 1 = J := ⟨_, rfl⟩
        have hJN : J < (lisW xs l.length l.length ws ns).length := by omega
        have hw0 := hF.ps.word J hJN
        have hw0f := hF.ps.wr.frozenAt J
        obtain ⟨e1, e2⟩ := hF.ps.stored J 3
        rw [← hJ, lisW_end xs hF.wl hlp, hJ] at e1
        have HPF : Hid (PS Z m' (wr.setCell ⟨m'.gw, J, none⟩ (.int .i64 3)) (xs ++ (consL ws xs.length ++ ns)) A') := e1
        have HM1 : Hid (Mv m m' w.heap.size) := (Mv.refl m w.heap.size).trans hF.mv (by omega)
        have HF1 : Hid (Fr Z m w (wr.setCell ⟨m'.gw, J, none⟩ (.int .i64 3))) := (HF.out.trans (Mv.refl _ _) hF.fr).trans HM1.out e2
        have HND2 : Hid ((consL ws xs.length ++ ns).length = ndT (.mk 5 n s l)) := by
          show _ = _
          have e1 := hF.wl
          have e2 := hF.nl
          rw [HND.out, List.length_append, consL_len]
          simp only [List.take_length] at e2
          omega
        have HNT2 : Hid (A'.length ≤ A.length + nT (.mk 5 n s l)) := by
          show _ ≤ _
          have e2 := hF.al
          rw [HNT.out]
          simp only [List.take_length] at e2
          omega
        have HEX : Hid ((ok = true ∧ ptT (.mk 5 n s l) xs.length A = some (consL ws xs.length ++ ns, A', mkw 5 xs.length)) ∨ (ok = false ∧ ptT (.mk 5 n s l) xs.length A = none ∧ LayT (.mk 5 n s l) xs.length (consL ws xs.length ++ ns) (mkw 5 xs.length))) := by
          have e := hF.ex
          simp only [List.take_length] at e
          rcases e with ⟨e1, e2⟩ | ⟨e1, e2, e3⟩
          · exact .inl ⟨e1, HR2.out hlp _ _ _ e2⟩
          · exact .inr ⟨e1, HR1.out hlp e2, LayT.lis (Nat.ne_of_gt hlp) e3⟩
        have hm3 : mkw 3 0 = 3 := by simp [mkw, inB]
        have hw1 : IntKind.i64.wrap (2 * (l.length : Int)) = 2 * (l.length : Int) := by rw [IntKind.wrap_i64]; omega
        have hw2 : IntKind.i64.wrap ((xs.length : Int) + 2 * (l.length : Int)) = (xs.length : Int) + 2 * (l.length : Int) := by rw [IntKind.wrap_i64]; omega
        have hw3 : IntKind.i64.wrap ((xs.length : Int) + 2 * (l.length : Int) - 1) = (J : Int) := by rw [IntKind.wrap_i64]; omega
        have hwc' : wr.cell? ⟨Z.wb, Z.wo, none⟩ = some (.slice (some ⟨m'.gw, 0, none⟩) (lisW xs l.length l.length ws ns).length m'.cw) := hwc
        clear hF zW R1 R2 R3 e1 e2 hJ hyl hwc
        generalize (lisW xs l.length l.length ws ns)[J] = v0 at *
        generalize (lisW xs l.length l.length ws ns).length = N at *
        go_wp2_with fail
        go_region_law (go_simp; go_wp2_with (go_at_call 66; refine (specMake_any _ _ _).mono ?_; rintro e w' ⟨rfl, hw'⟩; obtain rfl := hw'.symm; rw [hm3]))
        all_goals
          clear hm3
          generalize wr.setCell ⟨m'.gw, J, none⟩ (.int .i64 3) = w9 at *
          go_wp2_with (go_at_call 66; refine (specMake_any _ _ _).mono ?_; rintro e w' ⟨rfl, hw'⟩; obtain rfl := hw'.symm)
          go_ret2
          exact ⟨_, ok, m', _, A', rfl, HPF.out.drew, HF1.out.drew, HM1.out, HND2.out, HNT2.out, HEX.out⟩
end Go.Proofs.Ytabgfaafpgholaa
namespace Go.Proofs.Ytabgfaafpgholaa
open Go.RowKit
set_option linter.unusedVariables false

set_option maxHeartbeats 4000000 in
set_option maxRecDepth 100000 in
theorem put_5 (n : Int) (s : ByteArray) (l : List Tm) (ih : ∀ t, t ∈ l → PutC t) : PutC (.mk 5 n s l) := by
  intro Z m w xs A v hps hv hK hx hA
  obtain ⟨ao, cap, rfl, hs, hlc, hcm, hr⟩ := hv
  have hb : Below w.heap.size w (w.alloc (.cells #[.int .i64 5, .int .i64 n, .string s, .slice ao l.length cap] 39)) := (Below.refl _ _).alloc (Nat.le_refl _) _
  have HF : Hid (Fr Z m w (w.alloc (.cells #[.int .i64 5, .int .i64 n, .string s, .slice ao l.length cap] 39))) := Fr.below hb
  have HC : Hid (Calls Try.prog 68 #[.pointer (some ⟨Z.wb, Z.wo, none⟩), .pointer (some ⟨Z.nb, 0, none⟩), .agg #[.int .i64 5, .int .i64 n, .string s, .slice ao l.length cap]] (w.alloc (.cells #[.int .i64 5, .int .i64 n, .string s, .slice ao l.length cap] 39)) (Put Z m (w.alloc (.cells #[.int .i64 5, .int .i64 n, .string s, .slice ao l.length cap] 39)) xs A (ptT (.mk 5 n s l) xs.length A) (ndT (.mk 5 n s l)) (nT (.mk 5 n s l)) (LayT (.mk 5 n s l) xs.length))) :=
    l5List_any n s l ih Z m _ xs A _ (hps.below hb) ⟨ao, cap, rfl, hs, hlc, hcm, (Moves.below hb).repL _ _ hr⟩ hK hx hA
  clear hps hr hK hx hA hb hs ih
  go_enter Try.func42, Try.ntmps42
  go_wp2_with (go_at_call 68; refine HC.out.mono ?_; rintro e w5 ⟨x, ok, m2, ns, A2, rfl, r1, r2, r3, r4, r5, r6⟩; have Q1 : Hid (PS Z m2 w5 (xs ++ ns) A2) := r1; have Q2 : Hid (Fr Z m w w5) := HF.out.trans (Mv.refl _ _) r2; have Q3 : Hid (Mv m m2 w.heap.size) := (Mv.refl m w.heap.size).trans r3 HF.out.size; have Q4 : Hid (ns.length = ndT (.mk 5 n s l)) := r4; have Q5 : Hid (A2.length ≤ A.length + nT (.mk 5 n s l)) := r5; have Q6 : Hid ((ok = true ∧ ptT (.mk 5 n s l) xs.length A = some (ns, A2, x)) ∨ (ok = false ∧ ptT (.mk 5 n s l) xs.length A = none ∧ LayT (.mk 5 n s l) xs.length ns x)) := r6; clear r1 r2 r3 r4 r5 r6)
  go_ret2
  exact ⟨x, ok, m2, ns, A2, rfl, Q1.out, Q2.out, Q3.out, Q4.out, Q5.out, Q6.out⟩
theorem put_all : ∀ t, PutC t := Tm.ind fun k n s l ih => by
  intro Z m w xs A v hps hv hK hx hA
  have hsh : shapeB k n s l.length = true := by have := hK; rw [goodT] at this; exact this.1
  have hnil : (l.length : Int) = 0 → l = [] := fun h => List.eq_nil_of_length_eq_zero (by omega)
  by_cases k1 : k = 1
  · subst k1
    exact put_1 n s l (by simp [shapeB] at hsh; exact hsh.2) Z m w xs A v hps hv hK hx hA
  by_cases k2 : k = 2
  · subst k2
    exact put_2 n s l (by simp [shapeB] at hsh; exact hsh.2) Z m w xs A v hps hv hK hx hA
  by_cases k3 : k = 3
  · subst k3
    exact put_3 n s l (by simp [shapeB] at hsh; exact hsh.2) Z m w xs A v hps hv hK hx hA
  by_cases k4 : k = 4
  · subst k4
    exact put_4 n s l ih Z m w xs A v hps hv hK hx hA
  by_cases k5 : k = 5
  · subst k5
    exact put_5 n s l ih Z m w xs A v hps hv hK hx hA
  by_cases k6 : k = 6
  · subst k6
    exact put_6 n s l (by simp [shapeB] at hsh; exact hsh.2) Z m w xs A v hps hv hK hx hA
  · exfalso
    simp [shapeB, k1, k2, k3, k4, k5, k6] at hsh
end Go.Proofs.Ytabgfaafpgholaa
namespace Go.Proofs.Ytabgfaafpgholaa
open Go.RowKit
set_option linter.unusedVariables false

mutual
theorem look_n : ∀ (t : Tm) (d m x : Nat), look t d m = some x → nT t + x = m
  | .mk k n s l, d, m, x, h => by
    rw [look] at h
    split at h
    · cases h
    · rename_i hc
      have := lookL_n l _ _ _ h
      rw [nT]
      omega
theorem lookL_n : ∀ (l : List Tm) (d m x : Nat), lookL l d m = some x → nL l + x = m
  | [], d, m, x, h => by
    rw [lookL] at h
    injection h with h
    rw [nL]
    omega
  | t :: r, d, m, x, h => by
    rw [lookL] at h
    split at h
    · cases h
    · rename_i y hy
      have h1 := look_n t d m y hy
      have h2 := lookL_n r d y x h
      rw [nL]
      omega
end
theorem ndO_le (k n : Int) (s : ByteArray) (len : Nat) (h : shapeB k n s len = true) : ndO k s len ≤ 41 := by
  unfold ndO
  split
  · rename_i hk
    subst hk
    simp [shapeB] at h
    omega
  · split
    · rename_i hk
      subst hk
      simp [shapeB] at h
      omega
    · split
      · rename_i hk
        subst hk
        simp [shapeB] at h
        omega
      · omega
mutual
theorem nd_n : ∀ (t : Tm), goodT t → ndT t ≤ 41 * nT t
  | .mk k n s l, h => by
    rw [goodT] at h
    have h1 := ndO_le k n s l.length h.1
    have h2 := ndL_n l h.2
    rw [ndT, nT]
    omega
theorem ndL_n : ∀ (l : List Tm), goodL l → ndL l ≤ 41 * nL l
  | [], h => by rw [ndL]; omega
  | t :: r, h => by
    rw [goodL] at h
    have h1 := nd_n t h.1
    have h2 := ndL_n r h.2
    rw [ndL, nL]
    omega
end
theorem look_b {t : Tm} (h : (look t 6 100).isSome = true) : goodT t ∧ nT t ≤ 100 ∧ ndT t ≤ 4100 := by
  obtain ⟨x, hx⟩ := Option.isSome_iff_exists.1 h
  have h1 := look_good t _ _ _ hx
  have h2 := look_n t _ _ _ hx
  have h3 := nd_n t h1
  exact ⟨h1, by omega, by omega⟩
/-- What PutTerm is to answer. -/
def PtR (t : Tm) (xs : List Int) (A : List ByteArray) : Option (List Int × List ByteArray × Int) := if (look t 6 100).isSome = true ∧ xs.length + ndT t ≤ 2000 then ptT t xs.length A else none
/-- An answer of PutTerm: words and atoms stand in rows of the call's own. -/
structure PtA (w w' : World) (g c ga ca : Nat) (xs : List Int) (A : List ByteArray) : Prop where
  wr : w'.ownsRow w.heap.size 3 1 (.slice (some ⟨g, 0, none⟩) xs.length c) xs.length (xs.map (Value.int .i64))
  ar : w'.ownsRow w.heap.size 9 1 (.slice (some ⟨ga, 0, none⟩) A.length ca) A.length (A.map Value.string)
  be : Below w.heap.size w w'
def Pt (w : World) (t : Tm) (xs : List Int) (A : List ByteArray) (e : Ending) (w' : World) : Prop :=
  ∃ g c ga ca xs' A' x ok, e = .returned (.tuple #[.agg #[.slice (some ⟨g, 0, none⟩) xs'.length c], .slice (some ⟨ga, 0, none⟩) A'.length ca, .int .i64 x, .bool ok]) ∧ PtA w w' g c ga ca xs' A' ∧
    ((ok = false ∧ xs' = xs ∧ A' = A ∧ x = 0 ∧ PtR t xs A = none) ∨ (ok = true ∧ (∃ ns, xs' = xs ++ ns ∧ PtR t xs A = some (ns, A', x)) ∧ xs'.length ≤ 2000 ∧ A'.length ≤ A.length + 100))
end Go.Proofs.Ytabgfaafpgholaa
