/-
  What the laws mark of timers.
-/
import Derived.Test.YtljfjaoebbmfgaaTrA
import Derived.Test.YtljfjaoebbmfgaaMkD
namespace Go.Proofs.Ytljfjaoebbmfgaa.Tr
open Go.RowKit Atom
set_option linter.unusedVariables false

def cS (x : Sd) : Nat := match x.t with
  | .mk _ _ _ l => 5 + cL l
def mrS (x : Sd) (K : Nat) : Sd := ⟨K, (K : Int) + 1, match x.t with
  | .mk _ _ _ l => .mk ((K : Int) + 1 + 1) ((K : Int) + 1 + 1 + 1) (mkT (K + 4)) (mrL l (K + 5))⟩
set_option maxHeartbeats 4000000 in
set_option maxRecDepth 100000 in
theorem markTimerS_any (l : List Sd) (bs : List Nat) (ao : Option Addr) (cap K : Nat) (w : World) (h : GL eltS w l bs ao) (hnd : bs.Nodup) (hl : l.length ≤ maxLen) (hK1 : 1 ≤ K) (hK : K + cG cS l ≤ 8999990) :
    Calls Try.prog 13 #[.slice ao l.length cap, .int .i64 K] w fun e w' => e = .returned (.int .i64 ((K + cG cS l : Nat) : Int)) ∧ GL eltS w' (mrG mrS cS l K) bs ao ∧ OutB bs w w' := by
  rcases h with ⟨h0, hb⟩ | ⟨hne, g, f, b0, hb, ha, hf, hr⟩
  · subst h0 hb
    go_enter Try.func13, Try.ntmps13
    go_wp2_with fail
    go_loopw [1, 5] (fun vk vi wr => vk = .int .i64 K ∧ vi = .int .i64 0 ∧ wr = w) (fun _ _ _ => 0)
    case atStart => exact ⟨rfl, rfl, rfl⟩
    case round =>
      obtain ⟨rfl, rfl, rfl⟩ := hrel
      go_wp2_with fail
      go_ret
      exact ⟨by simp [cG], by rw [mrG]; exact GL.nil _ _, OutB.refl _ _⟩
  · subst hb ha
    have HR : Hid (GR eltS w l b0 g f) := hr
    have HFZ : Hid (∀ x, w.frozen? ⟨g, x, none⟩ = false) := hf
    have HNE : Hid (l ≠ []) := hne
    have HND : Hid ((g :: b0).Nodup) := hnd
    clear hr hf hne hnd
    unfold maxLen at hl
    go_enter Try.func13, Try.ntmps13
    go_wp2_with fail
    go_loopw [1, 5] (fun vk vi wr => ∃ i : Nat, i ≤ l.length ∧ vi = .int .i64 i ∧ vk = .int .i64 ((K + cG cS (l.take i) : Nat) : Int) ∧ GR eltS wr (mrG mrS cS (l.take i) K ++ l.drop i) b0 g f ∧ (∀ o, wr.frozen? ⟨g, o, none⟩ = false) ∧ OutB (g :: b0) w wr) (fun _ vi _ => l.length - (intOf vi).toNat)
    case atStart => exact ⟨0, Nat.zero_le _, rfl, by simp [cG], by simpa [mrG] using HR.out, HFZ.out, OutB.refl _ _⟩
    case round =>
      obtain ⟨i, hi0, rfl, rfl, hr, hff, ho⟩ := hrel
      by_cases hlt : i < l.length
      · have hcl := cG_take (c := cS) l i hlt
        have hcle := cG_le (c := cS) l (i + 1)
        rw [List.drop_eq_getElem_cons hlt] at hr
        have hltw := GR.lt hr
        obtain ⟨ba, bt, bb, eb, hA, hE, hB⟩ := GR.split hr
        have hAl : (mrG mrS cS (l.take i) K).length = i := by rw [mrG_len]; simp; omega
        have HMR : Hid (mrG mrS cS (l.take (i + 1)) K = mrG mrS cS (l.take i) K ++ [mrS l[i] (K + cG cS (l.take i))]) := mrG_take l i K hlt
        have hnd := HND.out
        rw [eb] at hnd hltw
        have hs6 : (eltS).s = 6 := rfl
        rw [hAl, hs6] at hE hB
        obtain ⟨c0, c1, hT0⟩ := hE
        have hoff : f + i * 6 = f + (mrG mrS cS (l.take i) K).length * (eltS).s := by rw [hAl, hs6]
        have HT : Hid (∀ w', OutB (g :: bt) wr w' → (∀ o v, (o < f + i * 6 ∨ f + i * 6 + 6 ≤ o) → wr.cell? ⟨g, o, none⟩ = some v → w'.cell? ⟨g, o, none⟩ = some v) → (eltS).E w' (mrS l[i] (K + cG cS (l.take i))) bt g (f + i * 6) → GR eltS w' (mrG mrS cS (l.take i) K ++ mrS l[i] (K + cG cS (l.take i)) :: l.drop (i + 1)) b0 g f) := fun w' h1 h2 h3 => by
          rw [eb]
          exact GR.turn (e := eltS) hoff hA hB hnd hltw h1 h2 h3
        have hgw : g < wr.heap.size := World.block_lt_of_cell? wr _ c0
        generalize l[i] = a at *
        obtain ⟨kind, pid, tt⟩ := a
        obtain ⟨tk, tn, xs, tl⟩ := tt
        rw [OsT] at hT0
        obtain ⟨c2, c3, c4, hxs, tao, tcap, c5, htl, htc, hOL⟩ := hT0
        obtain ⟨Q, hQ⟩ : ∃ Q, Q = K + cG cS (l.take i) := ⟨_, rfl⟩
        rw [← hQ] at HMR HT ⊢
        have hcA : cS ⟨kind, pid, .mk tk tn xs tl⟩ = 5 + cL tl := rfl
        rw [hcA] at hcl
        have HQN : Hid (K + cG cS (l.take (i + 1)) = Q + 5 + cL tl) := by show _ = _; omega
        have hQi : (Q : Int) + 5 + cL tl ≤ 8999990 := by omega
        have hQ1 : 1 ≤ Q := by omega
        clear hQ hcl hcle
        dsimp only at c0 c1
        obtain ⟨W, hW⟩ : ∃ W, W = wr.setCells g (f + i * 6) [.int .i64 Q, .int .i64 ((Q : Int) + 1), .int .i64 ((Q : Int) + 1 + 1), .int .i64 ((Q : Int) + 1 + 1 + 1)] := ⟨_, rfl⟩
        have hin := World.cell?_setCells_in g [.int .i64 Q, .int .i64 ((Q : Int) + 1), .int .i64 ((Q : Int) + 1 + 1), .int .i64 ((Q : Int) + 1 + 1 + 1)] (f + i * 6) wr (fun j hj => by
          have hj5 : j < 4 := hj
          match j, hj5 with
          | 0, _ => rw [Nat.add_zero, c0]; rfl
          | 1, _ => rw [c1]; rfl
          | 2, _ => rw [c2]; rfl
          | 3, _ => rw [show f + i * 6 + 3 = f + i * 6 + 2 + 1 from rfl, c3]; rfl)
        have hfar : ∀ o v, (o < f + i * 6 ∨ f + i * 6 + 4 ≤ o) → wr.cell? ⟨g, o, none⟩ = some v → W.cell? ⟨g, o, none⟩ = some v := fun o v hov hv => by
          rw [hW]
          exact (World.cell?_setCells_out g [.int .i64 Q, .int .i64 ((Q : Int) + 1), .int .i64 ((Q : Int) + 1 + 1), .int .i64 ((Q : Int) + 1 + 1 + 1)] (f + i * 6) wr ⟨g, o, none⟩ (fun _ _ => hov)).trans hv
        rw [← hW] at hin
        have hWs : W.heap.size = wr.heap.size := by rw [hW, setCells_sz]
        have HCW : Hid (W.cell? ⟨g, f + i * 6, none⟩ = some (.int .i64 Q) ∧ W.cell? ⟨g, f + i * 6 + 1, none⟩ = some (.int .i64 ((Q : Int) + 1)) ∧ W.cell? ⟨g, f + i * 6 + 2, none⟩ = some (.int .i64 ((Q : Int) + 1 + 1)) ∧ W.cell? ⟨g, f + i * 6 + 3, none⟩ = some (.int .i64 ((Q : Int) + 1 + 1 + 1)) ∧ W.cell? ⟨g, f + i * 6 + 4, none⟩ = some (.string xs) ∧ W.cell? ⟨g, f + i * 6 + 5, none⟩ = some (.slice tao tl.length tcap)) :=
          ⟨hin 0 (by show 0 < 4; omega), hin 1 (by show 1 < 4; omega), hin 2 (by show 2 < 4; omega), hin 3 (by show 3 < 4; omega), hfar _ _ (by omega) c4, hfar _ _ (by omega) c5⟩
        have HFAR : Hid (∀ o v, (o < f + i * 6 ∨ f + i * 6 + 6 ≤ o) → wr.cell? ⟨g, o, none⟩ = some v → W.cell? ⟨g, o, none⟩ = some v) := fun o v hov hv => hfar o v (by omega) hv
        have HOW : Hid (OutB (g :: bt) wr W) := by
          rw [hW]
          exact ⟨by simp [World.setCells, World.setCell], by simp [World.setCells, World.setCell], by simp [World.setCells, World.setCell], by rw [setCells_sz]; exact Nat.le_refl _, fun x _ hx => setCells_blk (fun q => hx (by rw [q]; simp)) _ _ _⟩
        have HFW : Hid (∀ o, W.frozen? ⟨g, o, none⟩ = false) := fun o => by rw [hW, World.frozen?_setCells]; exact hff o
        have HO : Hid (OutB (g :: b0) w wr) := ho
        have HW' : Hid ((((wr.setCell ⟨g, f + i * 6, none⟩ (.int .i64 Q)).setCell ⟨g, f + i * 6 + 1, none⟩ (.int .i64 ((Q : Int) + 1))).setCell ⟨g, f + i * 6 + 2, none⟩ (.int .i64 ((Q : Int) + 1 + 1))).setCell ⟨g, f + i * 6 + 3, none⟩ (.int .i64 ((Q : Int) + 1 + 1 + 1)) = W) := by show _ = _; rw [hW]; rfl
        have HE4 : Hid (((Q : Int) + 1 + 1 + 1 + 1) = ((Q + 4 : Nat) : Int) ∧ ((Q : Int) + 4) = ((Q + 4 : Nat) : Int)) := ⟨by omega, by omega⟩
        have HE5 : Hid (((Q + 4 : Nat) : Int) + 1 = ((Q + 5 : Nat) : Int)) := by show _ = _; omega
        obtain ⟨n1, n2⟩ := List.nodup_cons.1 hnd
        have d1 := List.nodup_append.1 n2
        have d2 := List.nodup_append.1 d1.2.1
        have HG : Hid (g ∉ bt ∧ bt.Nodup) := ⟨fun hm => n1 (by simp [hm]), d2.1⟩
        have HOW1 : Hid (OsL W tl bt tao ∧ tl.length ≤ tcap ∧ tcap ≤ maxLen) := by
          refine ⟨OsL.keep _ _ _ (fun x hx _ => ?_) hOL, htl, htc⟩
          rw [hW]
          exact setCells_blk (fun q => n1 (by rw [← q]; simp [hx])) _ _ _
        have HSUB : Hid (∀ x ∈ g :: bt, x ∈ g :: b0) := fun x hx => by
          rw [eb]
          rcases List.mem_cons.1 hx with rfl | hx
          · simp
          · simp [hx]
        clear hr hA hB hnd hltw hin hfar ho eb hoff hcA hs6 hAl hW n1 n2 d1 d2 hOL htl htc hxs
        have fz : ∀ o, wr.frozen? ⟨g, o, none⟩ = false := hff
        go_wp2_with (go_at_call 27; fail)
        rw [HW'.out]
        clear HW' c0 c1 c2 c3 c4 c5 fz
        first | rw [HE4.out.1] | rw [HE4.out.2]
        refine (markText_any (Q + 4) (by omega) (by omega) W).mono ?_
        rintro e w3 ⟨rfl, hb3⟩
        have c4 := keepM hb3 HCW.out.2.2.2.2.1
        have c5 := keepM hb3 HCW.out.2.2.2.2.2
        have f5 : ∀ o, w3.frozen? ⟨g, o, none⟩ = false := fun o => by rw [hb3.frozen (p := ⟨g, o, none⟩) (by show g < _; rw [hWs]; exact hgw)]; exact HFW.out o
        obtain ⟨w4, hw4⟩ : ∃ w4, w4 = w3.setCell ⟨g, f + i * 6 + 4, none⟩ (.string (mkT (Q + 4))) := ⟨_, rfl⟩
        have HCELL : Hid (∀ o v, o ≠ f + i * 6 + 4 → W.cell? ⟨g, o, none⟩ = some v → w4.cell? ⟨g, o, none⟩ = some v) := fun o v hne hv => by
          rw [hw4, World.cell?_setCell_other (h := fun q => hne (by simp only [Addr.mk.injEq] at q; omega))]
          exact keepM hb3 hv
        have HC4 : Hid (w4.cell? ⟨g, f + i * 6 + 4, none⟩ = some (.string (mkT (Q + 4)))) := by rw [hw4]; exact World.cell?_setCell_same w3 _ _ c4
        have HOUT : Hid (OutB (g :: bt) wr w4) := by rw [hw4]; exact (HOW.out.trans (OutB.below hb3)).set (by simp) _ _
        have HF4 : Hid (∀ o, w4.frozen? ⟨g, o, none⟩ = false) := fun o => by rw [hw4, World.frozen?_setCell]; exact f5 o
        have hz4 : g < w4.heap.size := by rw [hw4, World.size_setCell]; have := hb3.size; omega
        have HOL4 : Hid (OsL w4 tl bt tao) := by
          rw [hw4]
          exact OsL.keep _ _ _ (fun x hx hlx => by rw [Below.heap_setCell _ ⟨g, f + i * 6 + 4, none⟩ _ x (by show x ≠ g; intro q; exact HG.out.1 (by rw [← q]; exact hx)), hb3.block x hlx]) HOW1.out.1
        have HMK : Hid (Calls Try.prog 28 #[.slice tao tl.length tcap, .int .i64 ((Q + 5 : Nat) : Int)] w4 fun e w' => e = .returned (.int .i64 ((Q + 5 + cL tl : Nat) : Int)) ∧ OsL w' (mrL tl (Q + 5)) bt tao ∧ OutB bt w4 w') := mkB_all tl w4 bt tao tcap (Q + 5) HOL4.out HG.out.2 HOW1.out.2.1 HOW1.out.2.2 (by omega) (by omega)
        have HSZ : Hid ((mkT (Q + 4)).size ≤ 1048576) := mkT_dig _ (by omega)
        have HW4 : Hid (w3.setCell ⟨g, f + i * 6 + 4, none⟩ (.string (mkT (Q + 4))) = w4) := hw4.symm
        clear hb3 hw4
        generalize hR4 : ((Q + 4 : Nat) : Int) = Z4 at HE5
        have HR4 : Hid (((Q + 4 : Nat) : Int) = Z4) := hR4
        have hZ : Z4 ≤ 8999990 := by omega
        have hZ0 : 0 ≤ Z4 := by omega
        clear hR4
        go_wp2_with (go_at_call 28; fail)
        rw [HW4.out, HE5.out]
        clear c4 c5 f5
        refine HMK.out.mono ?_
        rintro e w5 ⟨rfl, hO5, hout5⟩
        have HC5 : Hid (∀ o v, w4.cell? ⟨g, o, none⟩ = some v → w5.cell? ⟨g, o, none⟩ = some v) := fun o v hv => cellOut hout5 HG.out.1 hv
        have HFIN : Hid (GR eltS w5 (mrG mrS cS (l.take (i + 1)) K ++ l.drop (i + 1)) b0 g f) := by
          show GR ..
          rw [HMR.out, List.append_assoc]
          refine HT.out _ (HOUT.out.trans (hout5.wide (fun x hx => by simp [hx]))) (fun o v hov hv => HC5.out o v (HCELL.out o v (by omega) (HFAR.out o v hov hv))) ⟨HC5.out _ _ (HCELL.out _ _ (by omega) HCW.out.1), HC5.out _ _ (HCELL.out _ _ (by omega) HCW.out.2.1), ?_⟩
          show OsT w5 (.mk _ _ _ _) bt g (f + i * 6 + 2)
          rw [OsT]
          refine ⟨HC5.out _ _ (HCELL.out _ _ (by omega) HCW.out.2.2.1), HC5.out _ _ (HCELL.out _ _ (by omega) HCW.out.2.2.2.1), HC5.out _ _ HC4.out, HSZ.out, tao, tcap, ?_, ?_, HOW1.out.2.2, hO5⟩
          · rw [mrL_len]; exact HC5.out _ _ (HCELL.out _ _ (by omega) HCW.out.2.2.2.2.2)
          · rw [mrL_len]; exact HOW1.out.2.1
        have HF5 : Hid (∀ o, w5.frozen? ⟨g, o, none⟩ = false) := fun o => by rw [World.frozen?_of_block (w := w4) (hout5.block g hz4 HG.out.1)]; exact HF4.out o
        have HO5 : Hid (OutB (g :: b0) w w5) := HO.out.trans ((HOUT.out.trans (hout5.wide (fun x hx => by simp [hx]))).wide HSUB.out)
        clear hO5 hout5
        generalize hR5 : ((Q + 5 + cL tl : Nat) : Int) = Z5
        have HR5 : Hid (((Q + 5 + cL tl : Nat) : Int) = Z5) := hR5
        clear hR5
        go_wp2_with fail
        go_roundw
        case rel => exact ⟨i + 1, by omega, by go_num, by rw [HQN.out]; exact congrArg (Value.int .i64) HR5.out.symm, HFIN.out, HF5.out, HO5.out⟩
        case measure => simp [intOf]; omega
      · have hil : i = l.length := by omega
        have HE : Hid (GR eltS wr (mrG mrS cS l K) b0 g f) := by
          show GR ..
          rw [hil] at hr
          simpa using hr
        have HEQ : Hid (K + cG cS (l.take i) = K + cG cS l) := by show _ = _; rw [hil]; simp
        have HF : Hid (∀ o, wr.frozen? ⟨g, o, none⟩ = false) := hff
        have HO : Hid (OutB (g :: b0) w wr) := ho
        have HNE2 : Hid (mrG mrS cS l K ≠ []) := by
          intro e
          have := mrG_len (m := mrS) (c := cS) l K
          rw [e] at this
          exact HNE.out (List.eq_nil_of_length_eq_zero this.symm)
        clear hr hff ho hil
        go_wp2_with fail
        go_ret
        exact ⟨ret_int (by have := HEQ.out; omega), .inr ⟨HNE2.out, g, f, b0, rfl, rfl, HF.out, HE.out⟩, HO.out⟩
end Go.Proofs.Ytljfjaoebbmfgaa.Tr
