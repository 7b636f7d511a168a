/-
  How the specification puts a term: a tuple is walked.
-/
import Derived.Test.YthdoamdjhpkimaaPuD
namespace Go.Proofs.Ythdoamdjhpkimaa
open Go.RowKit
set_option linter.unusedVariables false

theorem undInt : Try.prog.underlying 3 = some (.int .i64) := by kernel_rfl
/-- How far the tuple or list is put. -/
structure Far (Z : PZ) (m m' : PM) (W wr : World) (A A' : List ByteArray) (l : List Tm) (i a0 : Nat) (ys ws ns : List Int) (ok : Bool) : Prop where
  ps : PS Z m' wr ys A'
  fr : Fr Z m W wr
  mv : Mv m m' W.heap.size
  wl : ws.length = i
  nl : ns.length = ndL (l.take i)
  al : A'.length ≤ A.length + nL (l.take i)
  ex : (ok = true ∧ ptL (l.take i) a0 A = some (ws, ns, A')) ∨ (ok = false ∧ ptL l a0 A = none)
/-- What stands in the element at i. -/
theorem elem_at {Z : PZ} {m : PM} {W wr : World} {xs : List Int} {A : List ByteArray} {l : List Tm} {ao : Option Addr} (hp : PS Z m W xs A) (hr : RpL (SZ Z) W l ao) (hf : Fr Z m W wr) (i : Nat) (hi : i < l.length) :
    ∃ b off a1 a2 a3 a4 a5 a6, ao = some ⟨b, off, none⟩ ∧ wr.cell? ⟨b, off + i * 4, none⟩ = some (.int .i64 a1) ∧ wr.cell? ⟨b, off + i * 4 + 1, none⟩ = some (.int .i64 a2) ∧ wr.cell? ⟨b, off + i * 4 + 2, none⟩ = some (.string a3) ∧ wr.cell? ⟨b, off + i * 4 + 3, none⟩ = some (.slice a4 a5 a6) ∧ RpV (SZ Z) wr l[i] (.agg #[.int .i64 a1, .int .i64 a2, .string a3, .slice a4 a5 a6]) := by
  obtain ⟨b, off, e, _, hT⟩ := RpL.at _ _ ((hf.moves hp).repL _ _ hr) i hi
  generalize l[i] = t at *
  obtain ⟨k', n', s', l'⟩ := t
  rw [RpT] at hT
  obtain ⟨h0, h1, h2, h3, ao', cap', h4, h5, h6, h7⟩ := hT
  exact ⟨b, off, k', n', s', ao', l'.length, cap', e, h0, h1, h2, h4, ao', cap', rfl, h3, h5, h6, h7⟩
/-- One more. -/
theorem Far.step {Z : PZ} {m m' m2 : PM} {W wr w5 : World} {A A' A2 : List ByteArray} {l : List Tm} {k : Nat} {xs ws ns ns2 : List Int} {ok ok2 : Bool} {x : Int} (h : Far Z m m' W wr A A' l k (xs.length + 1 + l.length) (tupW xs l.length k ws ns) ws ns ok) (hlt : k < l.length)
    (hp5 : PS Z m2 w5 (tupW xs l.length k ws ns ++ ns2) A2) (hf5 : Fr Z m' wr w5) (hm5 : Mv m' m2 wr.heap.size) (hn5 : ns2.length = ndT l[k]) (ha5 : A2.length ≤ A'.length + nT l[k])
    (hr5 : (ok2 = true ∧ ptT l[k] (tupW xs l.length k ws ns).length A' = some (ns2, A2, x)) ∨ (ok2 = false ∧ ptT l[k] (tupW xs l.length k ws ns).length A' = none)) :
    Far Z m m2 W (w5.setCell ⟨m2.gw, xs.length + 1 + k, none⟩ (.int .i64 x)) A A2 l (k + 1) (xs.length + 1 + l.length) (tupW xs l.length (k + 1) (ws ++ [x]) (ns ++ ns2)) (ws ++ [x]) (ns ++ ns2) (ok && ok2) := by
  obtain ⟨hps, hfr, hmv, hwl, hnl, hal, hex⟩ := h
  obtain ⟨q1, q2⟩ := hp5.stored (xs.length + 1 + k) x
  rw [tupW_set xs x hwl hlt] at q1
  have hm2 : Mv m m2 W.heap.size := hmv.trans hm5 hfr.size
  have e := ndL_take l k hlt
  have e2 := nL_take l k hlt
  refine ⟨q1, (hfr.trans hmv hf5).trans hm2 q2, hm2, by simp [hwl], by rw [List.length_append]; omega, by omega, ?_⟩
  rw [tupW_len xs hwl (Nat.le_of_lt hlt)] at hr5
  rcases hex with ⟨rfl, hx⟩ | ⟨rfl, hx⟩
  · rcases hr5 with ⟨rfl, hy⟩ | ⟨rfl, hy⟩
    · exact .inl ⟨rfl, ptL_yes hlt hx hy⟩
    · exact .inr ⟨rfl, ptL_no hlt hx hy⟩
  · exact .inr ⟨rfl, hx⟩
theorem tupW_end (xs : List Int) (n : Nat) (ws ns : List Int) : tupW xs n n ws ns = xs ++ (n : Int) :: (ws ++ ns) := by
  unfold tupW
  simp
set_option maxHeartbeats 8000000 in
set_option maxRecDepth 100000 in
theorem put_4 (n : Int) (s : ByteArray) (l : List Tm) (ih : ∀ t, t ∈ l → PutC t) : PutC (.mk 4 n s l) := by
  intro Z m w xs A v hps hv hK hx hA
  obtain ⟨ao, cap, rfl, hs, hlc, hcm, hr⟩ := hv
  have hg := hK
  rw [goodT] at hg
  have hl8 : l.length ≤ 8 := by have := hg.1; simp [shapeB] at this; omega
  have HGL : Hid (goodL l) := hg.2
  have IH : Hid (∀ t, t ∈ l → PutC t) := ih
  have hb : Below w.heap.size w (w.alloc (.cells #[.int .i64 4, .int .i64 n, .string s, .slice ao l.length cap] 32)) := (Below.refl _ _).alloc (Nat.le_refl _) _
  have HP : Hid (PS Z m (w.alloc (.cells #[.int .i64 4, .int .i64 n, .string s, .slice ao l.length cap] 32)) xs A) := hps.below hb
  have HRL : Hid (RpL (SZ Z) (w.alloc (.cells #[.int .i64 4, .int .i64 n, .string s, .slice ao l.length cap] 32)) l ao) := (Moves.below hb).repL _ _ hr
  have HF : Hid (Fr Z m w (w.alloc (.cells #[.int .i64 4, .int .i64 n, .string s, .slice ao l.length cap] 32))) := Fr.below hb
  have hnd : ndT (.mk 4 n s l) = 1 + l.length + ndL l := by simp [ndT, ndO]
  have hnt : nT (.mk 4 n s l) = 1 + nL l := by rw [nT]
  have HR1 : Hid (ptL l (xs.length + 1 + l.length) A = none → ptT (.mk 4 n s l) xs.length A = none) := fun h => by rw [ptT]; simp [h]
  have HR2 : Hid (∀ ws ns A', ptL l (xs.length + 1 + l.length) A = some (ws, ns, A') → ptT (.mk 4 n s l) xs.length A = some ((l.length : Int) :: (ws ++ ns), A', mkw 4 xs.length)) := fun ws ns A' h => by rw [ptT]; simp [h]
  rw [hnd] at hx
  rw [hnt] at hA
  have hxl : xs.length ≤ 100000 := by omega
  have hxi : (xs.length : Int) ≤ 100000 := by omega
  have HX : Hid (xs.length + (1 + l.length + ndL l) ≤ 100000) := hx
  have HAN : Hid (A.length + (1 + nL l) ≤ 1000000) := hA
  have HND : Hid (ndT (.mk 4 n s l) = 1 + l.length + ndL l) := hnd
  have HNT : Hid (nT (.mk 4 n s l) = 1 + nL l) := hnt
  have hgw := hps.gw
  have hga := hps.ga
  have hzw := hps.wl
  have hzn := hps.nl
  obtain ⟨i0, hi, hz0, hz1, hz2⟩ := infoParts infoInt
  have HI : Hid (Try.prog.info? 3 = some i0 ∧ i0.zero = some (.int .i64 0) ∧ i0.size = 1 ∧ i0.bytes = 8) := ⟨hi, hz0, hz1, hz2⟩
  clear hps hr hK hx hA hb hs hi hz0 hz1 hz2 hnd hnt hg ih
  go_enter Try.func109, Try.ntmps109
  have hwc0 := HP.out.wc
  go_wp2_with fail
  generalize hW : (w.alloc (.cells #[.int .i64 4, .int .i64 n, .string s, .slice ao l.length cap] 32)) = W at *
  have hbx : ∀ o, W.cell? ⟨w.heap.size, o, none⟩ = (#[.int .i64 4, .int .i64 n, .string s, .slice ao l.length cap] : Array Value)[o]? := fun o => by rw [← hW]; exact World.cell?_alloc_new w _ _ o
  have hzW : W.heap.size = w.heap.size + 1 := by rw [← hW, World.size_alloc]
  have HZW : Hid (W.heap.size = w.heap.size + 1) := hzW
  have HBX : Hid (∀ o, W.cell? ⟨w.heap.size, o, none⟩ = (#[.int .i64 4, .int .i64 n, .string s, .slice ao l.length cap] : Array Value)[o]?) := hbx
  have C3 : Hid (xs.length + 1 ≤ maxLen) := by show _ ≤ _; unfold maxLen; omega
  have C4 : Hid ((xs.length + 1) * 8 ≤ 140737488355328) := by show _ ≤ _; omega
  have C5 : Hid (Z.base ≤ (W.alloc (.cells #[.int .i64 l.length] 3)).drew.heap.size) := by show _ ≤ (W.alloc (.cells #[.int .i64 l.length] 3)).heap.size; rw [World.size_alloc]; omega
  have hw1' : (W.alloc (.cells #[.int .i64 l.length] 3)).cell? ⟨Z.wb, Z.wo, none⟩ = _ := (HP.out.one (.cells #[.int .i64 l.length] 3)).wc
  clear hW hzW
  go_region_law (first
    | (refine step_append_lies _ rfl (.tmp 94) (.tmp 98) 24 rfl Z.base 3 i0 (.int .i64 0) 1 8 undInts HI.out.1 HI.out.2.1 HI.out.2.2.1 HI.out.2.2.2 rfl (by decide) _ xs.length (xs.map (Value.int .i64)) (by simp [Act.eval]) (HP.out.one _).wr ⟨W.heap.size, 0, none⟩ 1 1 [.int .i64 l.length] (by simp [Act.eval]) rfl (srcI _ _ _) (oneI _) (by decide) C3.out C4.out C5.out _ rfl ?_; intro g6 c6 w6 hown6 hgrow6 hat6 hlt6; obtain ⟨t36, tf6⟩ := (HP.out.one _).far hgrow6)
    | go_simp)
  all_goals
    obtain ⟨p1, p2, p3⟩ := (HP.out.one _).app (n := xs.length + 1) (ys := xs ++ [(l.length : Int)]) (by simp) (by rw [List.map_append]; exact hown6) hgrow6 (hat6.imp id (fun e => e))
    have P1 : Hid (PS Z ⟨g6, c6, m.ga, m.ca⟩ (w6.setCell ⟨Z.wb, Z.wo, none⟩ (.slice (some ⟨g6, 0, none⟩) (xs.length + 1) c6)) (xs ++ [(l.length : Int)]) A) := p1
    have P2 : Hid (Fr Z m W (w6.setCell ⟨Z.wb, Z.wo, none⟩ (.slice (some ⟨g6, 0, none⟩) (xs.length + 1) c6))) := p2.one
    have P3 : Hid (Mv m ⟨g6, c6, m.ga, m.ca⟩ W.heap.size) := (Mv.refl m W.heap.size).trans p3 (by show W.heap.size ≤ (W.alloc _).heap.size; rw [World.size_alloc]; omega)
    clear p1 p2 p3 hown6 hgrow6 hat6 hlt6 t36 tf6
    generalize w6.setCell ⟨Z.wb, Z.wo, none⟩ (.slice (some ⟨g6, 0, none⟩) (xs.length + 1) c6) = w7 at *
    have zW := HZW.out
    have hb7 : ∀ o, w7.cell? ⟨w.heap.size, o, none⟩ = (#[.int .i64 4, .int .i64 n, .string s, .slice ao l.length cap] : Array Value)[o]? := fun o => by rw [(P2.out.cell (b := w.heap.size) (by omega) (by omega) (by omega) (by omega) (by omega) o).1]; exact HBX.out o
    have hw7 : w7.cell? ⟨Z.wb, Z.wo, none⟩ = some (.slice (some ⟨g6, 0, none⟩) (xs.length + 1) c6) := by have := P1.out.wc; simpa [PM.u] using this
    have HO7 : Hid (w7.drew.ownsRow Z.base 3 1 (.slice (some ⟨g6, 0, none⟩) (xs.length + 1) c6) (xs.length + 1) ((xs ++ [(l.length : Int)]).map (Value.int .i64))) := by
      have := P1.out.wr
      simp only [PM.u, List.length_append, List.length_cons, List.length_nil, Nat.zero_add] at this
      exact this
    have D1 : Hid (xs.length + 1 + l.length ≤ 1000000) := by show _ ≤ _; omega
    have D2 : Hid (Z.base ≤ w7.drew.heap.size) := P1.out.base
    have D3 : Hid (∀ w8, w7.drew.grownBy w8 (some g6) → w8.cell? ⟨Z.wb, Z.wo, none⟩ = some (.slice (some ⟨g6, 0, none⟩) (xs.length + 1) c6) ∧ w8.frozen? ⟨Z.wb, Z.wo, none⟩ = false) := fun w8 hg => by
      have := P1.out.drew.far hg
      simpa [PM.u] using this
    clear zW
    go_wp2_with fail
    go_region_law (first
      | (refine step_append_zeros _ rfl (.tmp 104) (.tmp 107) 24 3 rfl Z.base 3 i0 (.int .i64 0) .i64 .i64 undInts undInt HI.out.1 HI.out.2.1 HI.out.2.2.1 HI.out.2.2.2 rfl rfl _ (xs.length + 1) _ (by simp [Act.eval, Act.put]) HO7.out l.length (by simp [Act.eval, Act.put]) D1.out D2.out ?_; intro v8 w8 hown8 hgrow8 hat8; obtain ⟨g8, c8, rfl, hb8, hl8'⟩ := hown8.form (by omega); obtain ⟨t38, tf8⟩ := D3.out w8 hgrow8)
      | go_simp)
    all_goals
      obtain ⟨p1, p2, p3⟩ := P1.out.drew.app (n := xs.length + 1 + l.length) (ys := tupW xs l.length 0 [] []) (tupW_len xs (n := l.length) (i := 0) (ws := []) (ns := []) rfl (Nat.zero_le _)).symm (by rw [show (tupW xs l.length 0 [] []).map (Value.int .i64) = (xs ++ [(l.length : Int)]).map (Value.int .i64) ++ List.replicate l.length (.int .i64 0) from by simp [tupW]]; exact hown8) hgrow8 (hat8.imp Eq.symm Option.some.inj)
      have R1 : Hid (PS Z ⟨g8, c8, m.ga, m.ca⟩ (w8.setCell ⟨Z.wb, Z.wo, none⟩ (.slice (some ⟨g8, 0, none⟩) (xs.length + 1 + l.length) c8)) (tupW xs l.length 0 [] []) A) := p1
      have R2 : Hid (Fr Z m W (w8.setCell ⟨Z.wb, Z.wo, none⟩ (.slice (some ⟨g8, 0, none⟩) (xs.length + 1 + l.length) c8))) := P2.out.trans P3.out p2.undrew
      have R3 : Hid (Mv m ⟨g8, c8, m.ga, m.ca⟩ W.heap.size) := P3.out.trans p3 P2.out.size
      clear p1 p2 p3 hown8 hgrow8 hat8 t38 tf8 hb8 hl8' hb7 hw7 HO7 D1 D2 D3 P1 P2 P3
      generalize w8.setCell ⟨Z.wb, Z.wo, none⟩ (.slice (some ⟨g8, 0, none⟩) (xs.length + 1 + l.length) c8) = w9 at *
      go_wp2_with fail
      go_loopw [13, 14] (fun vo vi wr => ∃ (k : Nat) (m' : PM) (ws ns : List Int) (A' : List ByteArray) (ok : Bool), k ≤ l.length ∧ vi = .int .i64 k ∧ vo = .bool ok ∧ Far Z m m' W wr A A' l k (xs.length + 1 + l.length) (tupW xs l.length k ws ns) ws ns ok) (fun _ vi _ => l.length - (intOf vi).toNat)
      case atStart => exact ⟨0, _, [], [], A, true, Nat.zero_le _, rfl, rfl, ⟨R1.out, R2.out, R3.out, rfl, by simp [ndL], by omega, .inl ⟨rfl, by simp [ptL]⟩⟩⟩
      case round =>
        obtain ⟨k, m', ws, ns, A', ok, hk, rfl, rfl, hF⟩ := hrel
        have HFR : Hid (Far Z m m' W wr A A' l k (xs.length + 1 + l.length) (tupW xs l.length k ws ns) ws ns ok) := hF
        have zW := HZW.out
        have hbr : ∀ o, wr.cell? ⟨w.heap.size, o, none⟩ = (#[.int .i64 4, .int .i64 n, .string s, .slice ao l.length cap] : Array Value)[o]? := fun o => by rw [(hF.fr.cell (b := w.heap.size) (by omega) (by omega) (by omega) (by omega) (by omega) o).1]; exact HBX.out o
        have hwl : w.heap.size < wr.heap.size := by have := hF.fr.size; omega
        by_cases hlt : k < l.length
        · obtain ⟨b, off, a1, a2, a3, a4, a5, a6, rfl, c0, c1, c2, c3, hv⟩ := elem_at HP.out HRL.out hF.fr k hlt
          have HV : Hid (RpV (SZ Z) wr l[k] (.agg #[.int .i64 a1, .int .i64 a2, .string a3, .slice a4 a5 a6])) := hv
          have HT : Hid (PutC l[k]) := IH.out _ (List.getElem_mem hlt)
          have HG : Hid (goodT l[k]) := goodL_at l HGL.out k hlt
          have hyl := tupW_len xs (ns := ns) hF.wl (Nat.le_of_lt hlt)
          have hB1 : Hid ((tupW xs l.length k ws ns).length + ndT l[k] ≤ 100000) := by
            show _ ≤ _
            have e1 := ndL_take l k hlt
            have e2 := ndL_le l (k + 1)
            have e3 := HX.out
            have e4 := hF.nl
            omega
          have hB2 : Hid (A'.length + nT l[k] ≤ 1000000) := by
            show _ ≤ _
            have e1 := nL_take l k hlt
            have e2 := nL_le l (k + 1)
            have e3 := HAN.out
            have e4 := hF.al
            omega
          have HPR : Hid (PS Z m' wr (tupW xs l.length k ws ns) A') := hF.ps
          have HST : Hid (∀ (x : Int) (ok2 : Bool) (m2 : PM) (ns2 : List Int) (A2 : List ByteArray) (w5 : World), PS Z m2 w5 (tupW xs l.length k ws ns ++ ns2) A2 → Fr Z m' wr w5 → Mv m' m2 wr.heap.size → ns2.length = ndT l[k] → A2.length ≤ A'.length + nT l[k] → ((ok2 = true ∧ ptT l[k] (tupW xs l.length k ws ns).length A' = some (ns2, A2, x)) ∨ (ok2 = false ∧ ptT l[k] (tupW xs l.length k ws ns).length A' = none)) →
              (∃ N, xs.length + 1 + k < N ∧ w5.cell? ⟨Z.wb, Z.wo, none⟩ = some (.slice (some ⟨m2.gw, 0, none⟩) N m2.cw)) ∧ (∃ v, w5.cell? ⟨m2.gw, xs.length + 1 + k, none⟩ = some (.int .i64 v)) ∧ w5.frozen? ⟨m2.gw, xs.length + 1 + k, none⟩ = false ∧ Far Z m m2 W (w5.setCell ⟨m2.gw, xs.length + 1 + k, none⟩ (.int .i64 x)) A A2 l (k + 1) (xs.length + 1 + l.length) (tupW xs l.length (k + 1) (ws ++ [x]) (ns ++ ns2)) (ws ++ [x]) (ns ++ ns2) (ok && ok2)) := by
            intro x ok2 m2 ns2 A2 w5 r1 r2 r3 r4 r5 r6
            have hj : xs.length + 1 + k < (tupW xs l.length k ws ns ++ ns2).length := by rw [List.length_append]; omega
            exact ⟨⟨_, hj, r1.wc⟩, ⟨_, r1.word _ hj⟩, r1.wr.frozenAt _, hF.step hlt r1 r2 r3 r4 r5 r6⟩
          clear hv hF hyl HFR zW R1 R2 R3
          generalize tupW xs l.length k ws ns = ys at *
          have hki : (k : Int) ≤ 8 := by omega
          generalize l[k] = t at *
          cases ok <;>
          go_wp2_with (go_at_call 109; refine (HT.out Z m' wr ys A' _ HPR.out HV.out HG.out hB1.out hB2.out).mono ?_; rintro e w5 ⟨x, ok2, m2, ns2, A2, rfl, r1, r2, r3, r4, r5, r6⟩; obtain ⟨⟨N, hN, t35⟩, ⟨v5, u5⟩, f5, hST⟩ := HST.out x ok2 m2 ns2 A2 w5 r1 r2 r3 r4 r5 r6; have HS2 : Hid (Far Z m m2 W (w5.setCell ⟨m2.gw, xs.length + 1 + k, none⟩ (.int .i64 x)) A A2 l (k + 1) _ _ _ _ _) := hST; clear r1 r2 r3 r4 r5 r6 hST)
          all_goals
            go_roundw
            case rel => exact ⟨k + 1, m2, _, _, A2, _, by omega, by go_num, by rfl, HS2.out⟩
            case measure => simp [intOf]; omega
        · obtain rfl : k = l.length := by omega
          have HPF : Hid (PS Z m' wr (xs ++ (l.length : Int) :: (ws ++ ns)) A') := by show PS ..; rw [← tupW_end]; exact hF.ps
          have HM1 : Hid (Mv m m' w.heap.size) := (Mv.refl m w.heap.size).trans hF.mv (by omega)
          have HF1 : Hid (Fr Z m w wr) := HF.out.trans (Mv.refl _ _) hF.fr
          have HND2 : Hid (((l.length : Int) :: (ws ++ ns)).length = ndT (.mk 4 n s l)) := by
            show _ = _
            have e1 := hF.wl
            have e2 := hF.nl
            rw [HND.out, List.length_cons, List.length_append]
            simp only [List.take_length] at e2
            omega
          have HNT2 : Hid (A'.length ≤ A.length + nT (.mk 4 n s l)) := by
            show _ ≤ _
            have e2 := hF.al
            rw [HNT.out]
            simp only [List.take_length] at e2
            omega
          have HEX : Hid ((ok = true ∧ ptT (.mk 4 n s l) xs.length A = some ((l.length : Int) :: (ws ++ ns), A', mkw 4 xs.length)) ∨ (ok = false ∧ ptT (.mk 4 n s l) xs.length A = none)) := by
            have e := hF.ex
            simp only [List.take_length] at e
            rcases e with ⟨e1, e2⟩ | ⟨e1, e2⟩
            · exact .inl ⟨e1, HR2.out _ _ _ e2⟩
            · exact .inr ⟨e1, HR1.out e2⟩
          clear hF HFR zW R1 R2 R3
          go_wp2_with (go_at_call 102; refine (specMake_any _ _ _).mono ?_; rintro e w' ⟨rfl, hw'⟩; obtain rfl := hw'.symm)
          go_ret2
          exact ⟨_, ok, m', _, A', rfl, HPF.out, HF1.out, HM1.out, HND2.out, HNT2.out, HEX.out⟩
end Go.Proofs.Ythdoamdjhpkimaa
