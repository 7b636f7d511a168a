/-
  What the laws of timers have in hand while they are walked.
  (Ahead of it, in this text: Timers that are due, timers that are dropped: the program's answers. What the laws mark of timers. What the laws look for in timers. The laws' own functions on timers: measure and comparison.)
-/
import Derived.Test.YtnpbmfcilcnilaaTrK
import Derived.Test.YtnpbmfcilcnilaaTrA
import Derived.Test.YtnpbmfcilcnilaaMkD
import Derived.Deep.RegionWith
import Derived.Test.YtnpbmfcilcnilaaTmD
import Derived.Test.YtnpbmfcilcnilaaU2
namespace Go.Proofs.Ytnpbmfcilcnilaa.Tr
open Go.RowKit Atom
set_option linter.unusedVariables false


end Go.Proofs.Ytnpbmfcilcnilaa.Tr
namespace Go.Proofs.Ytnpbmfcilcnilaa.Tr
open Go.RowKit Atom
set_option linter.unusedVariables false

def cS (x : Sd) : Nat := match x.t with
  | .mk _ _ _ l => 5 + cL l
def mrS (x : Sd) (K : Nat) : Sd := ⟨K, (K : Int) + 1, match x.t with
  | .mk _ _ _ l => .mk ((K : Int) + 1 + 1) ((K : Int) + 1 + 1 + 1) (mkT (K + 4)) (mrL l (K + 5))⟩
set_option maxHeartbeats 4000000 in
set_option maxRecDepth 100000 in
theorem markTimerS_any (l : List Sd) (bs : List Nat) (ao : Option Addr) (cap K : Nat) (w : World) (h : GL eltS w l bs ao) (hnd : bs.Nodup) (hl : l.length ≤ maxLen) (hK1 : 1 ≤ K) (hK : K + cG cS l ≤ 8999990) :
    Calls Try.prog 12 #[.slice ao l.length cap, .int .i64 K] w fun e w' => e = .returned (.int .i64 ((K + cG cS l : Nat) : Int)) ∧ GL eltS w' (mrG mrS cS l K) bs ao ∧ OutB bs w w' := by
  rcases h with ⟨h0, hb⟩ | ⟨hne, g, f, b0, hb, ha, hf, hr⟩
  · subst h0 hb
    go_enter Try.func12, Try.ntmps12
    go_wp2_with fail
    go_loopw [1, 5] (fun vk vi wr => vk = .int .i64 K ∧ vi = .int .i64 0 ∧ wr = w) (fun _ _ _ => 0)
    case atStart => exact ⟨rfl, rfl, rfl⟩
    case round =>
      obtain ⟨rfl, rfl, rfl⟩ := hrel
      go_wp2_with fail
      go_ret
      exact ⟨by simp [cG], by rw [mrG]; exact GL.nil _ _, OutB.refl _ _⟩
  · subst hb ha
    have HR : Hid (GR eltS w l b0 g f) := hr
    have HFZ : Hid (∀ x, w.frozen? ⟨g, x, none⟩ = false) := hf
    have HNE : Hid (l ≠ []) := hne
    have HND : Hid ((g :: b0).Nodup) := hnd
    clear hr hf hne hnd
    unfold maxLen at hl
    go_enter Try.func12, Try.ntmps12
    go_wp2_with fail
    go_loopw [1, 5] (fun vk vi wr => ∃ i : Nat, i ≤ l.length ∧ vi = .int .i64 i ∧ vk = .int .i64 ((K + cG cS (l.take i) : Nat) : Int) ∧ GR eltS wr (mrG mrS cS (l.take i) K ++ l.drop i) b0 g f ∧ (∀ o, wr.frozen? ⟨g, o, none⟩ = false) ∧ OutB (g :: b0) w wr) (fun _ vi _ => l.length - (intOf vi).toNat)
    case atStart => exact ⟨0, Nat.zero_le _, rfl, by simp [cG], by simpa [mrG] using HR.out, HFZ.out, OutB.refl _ _⟩
    case round =>
      obtain ⟨i, hi0, rfl, rfl, hr, hff, ho⟩ := hrel
      by_cases hlt : i < l.length
      · have hcl := cG_take (c := cS) l i hlt
        have hcle := cG_le (c := cS) l (i + 1)
        rw [List.drop_eq_getElem_cons hlt] at hr
        have hltw := GR.lt hr
        obtain ⟨ba, bt, bb, eb, hA, hE, hB⟩ := GR.split hr
        have hAl : (mrG mrS cS (l.take i) K).length = i := by rw [mrG_len]; simp; omega
        have HMR : Hid (mrG mrS cS (l.take (i + 1)) K = mrG mrS cS (l.take i) K ++ [mrS l[i] (K + cG cS (l.take i))]) := mrG_take l i K hlt
        have hnd := HND.out
        rw [eb] at hnd hltw
        have hs6 : (eltS).s = 6 := rfl
        rw [hAl, hs6] at hE hB
        obtain ⟨c0, c1, hT0⟩ := hE
        have hoff : f + i * 6 = f + (mrG mrS cS (l.take i) K).length * (eltS).s := by rw [hAl, hs6]
        have HT : Hid (∀ w', OutB (g :: bt) wr w' → (∀ o v, (o < f + i * 6 ∨ f + i * 6 + 6 ≤ o) → wr.cell? ⟨g, o, none⟩ = some v → w'.cell? ⟨g, o, none⟩ = some v) → (eltS).E w' (mrS l[i] (K + cG cS (l.take i))) bt g (f + i * 6) → GR eltS w' (mrG mrS cS (l.take i) K ++ mrS l[i] (K + cG cS (l.take i)) :: l.drop (i + 1)) b0 g f) := fun w' h1 h2 h3 => by
          rw [eb]
          exact GR.turn (e := eltS) hoff hA hB hnd hltw h1 h2 h3
        have hgw : g < wr.heap.size := World.block_lt_of_cell? wr _ c0
        generalize l[i] = a at *
        obtain ⟨kind, pid, tt⟩ := a
        obtain ⟨tk, tn, xs, tl⟩ := tt
        rw [OsT] at hT0
        obtain ⟨c2, c3, c4, hxs, tao, tcap, c5, htl, htc, hOL⟩ := hT0
        obtain ⟨Q, hQ⟩ : ∃ Q, Q = K + cG cS (l.take i) := ⟨_, rfl⟩
        rw [← hQ] at HMR HT ⊢
        have hcA : cS ⟨kind, pid, .mk tk tn xs tl⟩ = 5 + cL tl := rfl
        rw [hcA] at hcl
        have HQN : Hid (K + cG cS (l.take (i + 1)) = Q + 5 + cL tl) := by show _ = _; omega
        have hQi : (Q : Int) + 5 + cL tl ≤ 8999990 := by omega
        have hQ1 : 1 ≤ Q := by omega
        clear hQ hcl hcle
        dsimp only at c0 c1
        obtain ⟨W, hW⟩ : ∃ W, W = wr.setCells g (f + i * 6) [.int .i64 Q, .int .i64 ((Q : Int) + 1), .int .i64 ((Q : Int) + 1 + 1), .int .i64 ((Q : Int) + 1 + 1 + 1)] := ⟨_, rfl⟩
        have hin := World.cell?_setCells_in g [.int .i64 Q, .int .i64 ((Q : Int) + 1), .int .i64 ((Q : Int) + 1 + 1), .int .i64 ((Q : Int) + 1 + 1 + 1)] (f + i * 6) wr (fun j hj => by
          have hj5 : j < 4 := hj
          match j, hj5 with
          | 0, _ => rw [Nat.add_zero, c0]; rfl
          | 1, _ => rw [c1]; rfl
          | 2, _ => rw [c2]; rfl
          | 3, _ => rw [show f + i * 6 + 3 = f + i * 6 + 2 + 1 from rfl, c3]; rfl)
        have hfar : ∀ o v, (o < f + i * 6 ∨ f + i * 6 + 4 ≤ o) → wr.cell? ⟨g, o, none⟩ = some v → W.cell? ⟨g, o, none⟩ = some v := fun o v hov hv => by
          rw [hW]
          exact (World.cell?_setCells_out g [.int .i64 Q, .int .i64 ((Q : Int) + 1), .int .i64 ((Q : Int) + 1 + 1), .int .i64 ((Q : Int) + 1 + 1 + 1)] (f + i * 6) wr ⟨g, o, none⟩ (fun _ _ => hov)).trans hv
        rw [← hW] at hin
        have hWs : W.heap.size = wr.heap.size := by rw [hW, setCells_sz]
        have HCW : Hid (W.cell? ⟨g, f + i * 6, none⟩ = some (.int .i64 Q) ∧ W.cell? ⟨g, f + i * 6 + 1, none⟩ = some (.int .i64 ((Q : Int) + 1)) ∧ W.cell? ⟨g, f + i * 6 + 2, none⟩ = some (.int .i64 ((Q : Int) + 1 + 1)) ∧ W.cell? ⟨g, f + i * 6 + 3, none⟩ = some (.int .i64 ((Q : Int) + 1 + 1 + 1)) ∧ W.cell? ⟨g, f + i * 6 + 4, none⟩ = some (.string xs) ∧ W.cell? ⟨g, f + i * 6 + 5, none⟩ = some (.slice tao tl.length tcap)) :=
          ⟨hin 0 (by show 0 < 4; omega), hin 1 (by show 1 < 4; omega), hin 2 (by show 2 < 4; omega), hin 3 (by show 3 < 4; omega), hfar _ _ (by omega) c4, hfar _ _ (by omega) c5⟩
        have HFAR : Hid (∀ o v, (o < f + i * 6 ∨ f + i * 6 + 6 ≤ o) → wr.cell? ⟨g, o, none⟩ = some v → W.cell? ⟨g, o, none⟩ = some v) := fun o v hov hv => hfar o v (by omega) hv
        have HOW : Hid (OutB (g :: bt) wr W) := by
          rw [hW]
          exact ⟨by simp [World.setCells, World.setCell], by simp [World.setCells, World.setCell], by simp [World.setCells, World.setCell], by rw [setCells_sz]; exact Nat.le_refl _, fun x _ hx => setCells_blk (fun q => hx (by rw [q]; simp)) _ _ _⟩
        have HFW : Hid (∀ o, W.frozen? ⟨g, o, none⟩ = false) := fun o => by rw [hW, World.frozen?_setCells]; exact hff o
        have HO : Hid (OutB (g :: b0) w wr) := ho
        have HW' : Hid ((((wr.setCell ⟨g, f + i * 6, none⟩ (.int .i64 Q)).setCell ⟨g, f + i * 6 + 1, none⟩ (.int .i64 ((Q : Int) + 1))).setCell ⟨g, f + i * 6 + 2, none⟩ (.int .i64 ((Q : Int) + 1 + 1))).setCell ⟨g, f + i * 6 + 3, none⟩ (.int .i64 ((Q : Int) + 1 + 1 + 1)) = W) := by show _ = _; rw [hW]; rfl
        have HE4 : Hid (((Q : Int) + 1 + 1 + 1 + 1) = ((Q + 4 : Nat) : Int) ∧ ((Q : Int) + 4) = ((Q + 4 : Nat) : Int)) := ⟨by omega, by omega⟩
        have HE5 : Hid (((Q + 4 : Nat) : Int) + 1 = ((Q + 5 : Nat) : Int)) := by show _ = _; omega
        obtain ⟨n1, n2⟩ := List.nodup_cons.1 hnd
        have d1 := List.nodup_append.1 n2
        have d2 := List.nodup_append.1 d1.2.1
        have HG : Hid (g ∉ bt ∧ bt.Nodup) := ⟨fun hm => n1 (by simp [hm]), d2.1⟩
        have HOW1 : Hid (OsL W tl bt tao ∧ tl.length ≤ tcap ∧ tcap ≤ maxLen) := by
          refine ⟨OsL.keep _ _ _ (fun x hx _ => ?_) hOL, htl, htc⟩
          rw [hW]
          exact setCells_blk (fun q => n1 (by rw [← q]; simp [hx])) _ _ _
        have HSUB : Hid (∀ x ∈ g :: bt, x ∈ g :: b0) := fun x hx => by
          rw [eb]
          rcases List.mem_cons.1 hx with rfl | hx
          · simp
          · simp [hx]
        clear hr hA hB hnd hltw hin hfar ho eb hoff hcA hs6 hAl hW n1 n2 d1 d2 hOL htl htc hxs
        have fz : ∀ o, wr.frozen? ⟨g, o, none⟩ = false := hff
        go_wp2_with (go_at_call 27; fail)
        rw [HW'.out]
        clear HW' c0 c1 c2 c3 c4 c5 fz
        first | rw [HE4.out.1] | rw [HE4.out.2]
        refine (markText_any (Q + 4) (by omega) (by omega) W).mono ?_
        rintro e w3 ⟨rfl, hb3⟩
        have c4 := keepM hb3 HCW.out.2.2.2.2.1
        have c5 := keepM hb3 HCW.out.2.2.2.2.2
        have f5 : ∀ o, w3.frozen? ⟨g, o, none⟩ = false := fun o => by rw [hb3.frozen (p := ⟨g, o, none⟩) (by show g < _; rw [hWs]; exact hgw)]; exact HFW.out o
        obtain ⟨w4, hw4⟩ : ∃ w4, w4 = w3.setCell ⟨g, f + i * 6 + 4, none⟩ (.string (mkT (Q + 4))) := ⟨_, rfl⟩
        have HCELL : Hid (∀ o v, o ≠ f + i * 6 + 4 → W.cell? ⟨g, o, none⟩ = some v → w4.cell? ⟨g, o, none⟩ = some v) := fun o v hne hv => by
          rw [hw4, World.cell?_setCell_other (h := fun q => hne (by simp only [Addr.mk.injEq] at q; omega))]
          exact keepM hb3 hv
        have HC4 : Hid (w4.cell? ⟨g, f + i * 6 + 4, none⟩ = some (.string (mkT (Q + 4)))) := by rw [hw4]; exact World.cell?_setCell_same w3 _ _ c4
        have HOUT : Hid (OutB (g :: bt) wr w4) := by rw [hw4]; exact (HOW.out.trans (OutB.below hb3)).set (by simp) _ _
        have HF4 : Hid (∀ o, w4.frozen? ⟨g, o, none⟩ = false) := fun o => by rw [hw4, World.frozen?_setCell]; exact f5 o
        have hz4 : g < w4.heap.size := by rw [hw4, World.size_setCell]; have := hb3.size; omega
        have HOL4 : Hid (OsL w4 tl bt tao) := by
          rw [hw4]
          exact OsL.keep _ _ _ (fun x hx hlx => by rw [Below.heap_setCell _ ⟨g, f + i * 6 + 4, none⟩ _ x (by show x ≠ g; intro q; exact HG.out.1 (by rw [← q]; exact hx)), hb3.block x hlx]) HOW1.out.1
        have HMK : Hid (Calls Try.prog 28 #[.slice tao tl.length tcap, .int .i64 ((Q + 5 : Nat) : Int)] w4 fun e w' => e = .returned (.int .i64 ((Q + 5 + cL tl : Nat) : Int)) ∧ OsL w' (mrL tl (Q + 5)) bt tao ∧ OutB bt w4 w') := mkB_all tl w4 bt tao tcap (Q + 5) HOL4.out HG.out.2 HOW1.out.2.1 HOW1.out.2.2 (by omega) (by omega)
        have HSZ : Hid ((mkT (Q + 4)).size ≤ 1048576) := mkT_dig _ (by omega)
        have HW4 : Hid (w3.setCell ⟨g, f + i * 6 + 4, none⟩ (.string (mkT (Q + 4))) = w4) := hw4.symm
        clear hb3 hw4
        generalize hR4 : ((Q + 4 : Nat) : Int) = Z4 at HE5
        have HR4 : Hid (((Q + 4 : Nat) : Int) = Z4) := hR4
        have hZ : Z4 ≤ 8999990 := by omega
        have hZ0 : 0 ≤ Z4 := by omega
        clear hR4
        go_wp2_with (go_at_call 28; fail)
        rw [HW4.out, HE5.out]
        clear c4 c5 f5
        refine HMK.out.mono ?_
        rintro e w5 ⟨rfl, hO5, hout5⟩
        have HC5 : Hid (∀ o v, w4.cell? ⟨g, o, none⟩ = some v → w5.cell? ⟨g, o, none⟩ = some v) := fun o v hv => cellOut hout5 HG.out.1 hv
        have HFIN : Hid (GR eltS w5 (mrG mrS cS (l.take (i + 1)) K ++ l.drop (i + 1)) b0 g f) := by
          show GR ..
          rw [HMR.out, List.append_assoc]
          refine HT.out _ (HOUT.out.trans (hout5.wide (fun x hx => by simp [hx]))) (fun o v hov hv => HC5.out o v (HCELL.out o v (by omega) (HFAR.out o v hov hv))) ⟨HC5.out _ _ (HCELL.out _ _ (by omega) HCW.out.1), HC5.out _ _ (HCELL.out _ _ (by omega) HCW.out.2.1), ?_⟩
          show OsT w5 (.mk _ _ _ _) bt g (f + i * 6 + 2)
          rw [OsT]
          refine ⟨HC5.out _ _ (HCELL.out _ _ (by omega) HCW.out.2.2.1), HC5.out _ _ (HCELL.out _ _ (by omega) HCW.out.2.2.2.1), HC5.out _ _ HC4.out, HSZ.out, tao, tcap, ?_, ?_, HOW1.out.2.2, hO5⟩
          · rw [mrL_len]; exact HC5.out _ _ (HCELL.out _ _ (by omega) HCW.out.2.2.2.2.2)
          · rw [mrL_len]; exact HOW1.out.2.1
        have HF5 : Hid (∀ o, w5.frozen? ⟨g, o, none⟩ = false) := fun o => by rw [World.frozen?_of_block (w := w4) (hout5.block g hz4 HG.out.1)]; exact HF4.out o
        have HO5 : Hid (OutB (g :: b0) w w5) := HO.out.trans ((HOUT.out.trans (hout5.wide (fun x hx => by simp [hx]))).wide HSUB.out)
        clear hO5 hout5
        generalize hR5 : ((Q + 5 + cL tl : Nat) : Int) = Z5
        have HR5 : Hid (((Q + 5 + cL tl : Nat) : Int) = Z5) := hR5
        clear hR5
        go_wp2_with fail
        go_roundw
        case rel => exact ⟨i + 1, by omega, by go_num, by rw [HQN.out]; exact congrArg (Value.int .i64) HR5.out.symm, HFIN.out, HF5.out, HO5.out⟩
        case measure => simp [intOf]; omega
      · have hil : i = l.length := by omega
        have HE : Hid (GR eltS wr (mrG mrS cS l K) b0 g f) := by
          show GR ..
          rw [hil] at hr
          simpa using hr
        have HEQ : Hid (K + cG cS (l.take i) = K + cG cS l) := by show _ = _; rw [hil]; simp
        have HF : Hid (∀ o, wr.frozen? ⟨g, o, none⟩ = false) := hff
        have HO : Hid (OutB (g :: b0) w wr) := ho
        have HNE2 : Hid (mrG mrS cS l K ≠ []) := by
          intro e
          have := mrG_len (m := mrS) (c := cS) l K
          rw [e] at this
          exact HNE.out (List.eq_nil_of_length_eq_zero this.symm)
        clear hr hff ho hil
        go_wp2_with fail
        go_ret
        exact ⟨ret_int (by have := HEQ.out; omega), .inr ⟨HNE2.out, g, f, b0, rfl, rfl, HF.out, HE.out⟩, HO.out⟩
end Go.Proofs.Ytnpbmfcilcnilaa.Tr
namespace Go.Proofs.Ytnpbmfcilcnilaa.Tr
open Go.RowKit Atom
set_option linter.unusedVariables false

set_option maxHeartbeats 4000000 in
set_option maxRecDepth 100000 in
theorem heldTimerS_any (l : List Sd) (ao : Option Addr) (cap K : Nat) (w : World) (h : RowS w ao (mrG mrS cS l K)) (hl : l.length ≤ maxLen) (hK1 : 1 ≤ K) (hK : K + cG cS l ≤ 8999990) :
    Calls Try.prog 14 #[.slice ao l.length cap, .int .i64 K] w fun e w' => e = .returned (.int .i64 ((K + cG cS l : Nat) : Int)) ∧ Below w.heap.size w w' := by
  have HR : Hid (RowS w ao (mrG mrS cS l K)) := h
  clear h
  unfold maxLen at hl
  go_enter Try.func14, Try.ntmps14
  go_wp2_with fail
  go_loopw [1, 5] (fun vk vi wr => ∃ i : Nat, i ≤ l.length ∧ vi = .int .i64 i ∧ vk = .int .i64 ((K + cG cS (l.take i) : Nat) : Int) ∧ Below w.heap.size w wr) (fun _ vi _ => l.length - (intOf vi).toNat)
  case atStart => exact ⟨0, Nat.zero_le _, rfl, by simp [cG], Below.refl _ _⟩
  case round =>
    obtain ⟨i, hi0, rfl, rfl, hb⟩ := hrel
    have HB : Hid (Below w.heap.size w wr) := hb
    by_cases hlt : i < l.length
    · have hcl := cG_take (c := cS) l i hlt
      have hcle := cG_le (c := cS) l (i + 1)
      rcases HR.out.below hb with h0 | ⟨b, o, rfl, hrow⟩
      · have := mrG_len (m := mrS) (c := cS) l K
        rw [h0] at this; simp at this; omega
      have hbx := hrow i (by rw [mrG_len]; exact hlt)
      rw [mrG_get l K i _ hlt] at hbx
      generalize l[i] = a at *
      obtain ⟨kind, pid, tt⟩ := a
      obtain ⟨tk, tn, xs, tl⟩ := tt
      obtain ⟨Q, hQ⟩ : ∃ Q, Q = K + cG cS (l.take i) := ⟨_, rfl⟩
      rw [← hQ] at hbx ⊢
      have hcA : cS ⟨kind, pid, .mk tk tn xs tl⟩ = 5 + cL tl := rfl
      rw [hcA] at hcl
      have HQN : Hid (K + cG cS (l.take (i + 1)) = Q + 5 + cL tl) := by show _ = _; omega
      have HQB : Hid (Q + 5 + cL tl ≤ 8999990) := by show _ ≤ _; omega
      have hQi : (Q : Int) ≤ 8999985 := by omega
      have hQ1 : 1 ≤ Q := by omega
      clear hQ hcl hcle hrow hcA
      have c0 : wr.cell? ⟨b, o + i * 6, none⟩ = some (.int .i64 Q) := hbx.c0
      have c1 : wr.cell? ⟨b, o + i * 6 + 1, none⟩ = some (.int .i64 ((Q : Int) + 1)) := hbx.c1
      have hT : RepT 0 wr (.mk ((Q : Int) + 1 + 1) ((Q : Int) + 1 + 1 + 1) (mkT (Q + 4)) (mrL tl (Q + 5))) b (o + i * 6 + 2) := hbx.t
      rw [RepT] at hT
      obtain ⟨c2, c3, c4, _, tao, tcap, c5, htl, htc, hrp⟩ := hT
      rw [mrL_len] at c5 htl
      have c3' : wr.cell? ⟨b, o + i * 6 + 3, none⟩ = some (.int .i64 ((Q : Int) + 1 + 1 + 1)) := c3
      have c4' : wr.cell? ⟨b, o + i * 6 + 4, none⟩ = some (.string (mkT (Q + 4))) := c4
      have c5' : wr.cell? ⟨b, o + i * 6 + 5, none⟩ = some (.slice tao tl.length tcap) := c5
      have HE4 : Hid (((Q : Int) + 1 + 1 + 1 + 1) = ((Q + 4 : Nat) : Int) ∧ ((Q : Int) + 4) = ((Q + 4 : Nat) : Int)) := ⟨by omega, by omega⟩
      have HE5 : Hid (((Q : Int) + 1 + 1 + 1 + 1 + 1) = ((Q + 5 : Nat) : Int) ∧ ((Q : Int) + 4 + 1) = ((Q + 5 : Nat) : Int) ∧ ((Q : Int) + 5) = ((Q + 5 : Nat) : Int) ∧ ((Q + 4 : Nat) : Int) + 1 = ((Q + 5 : Nat) : Int)) := ⟨by omega, by omega, by omega, by omega⟩
      obtain ⟨x, hx⟩ : ∃ x, mkT (Q + 4) = x := ⟨_, rfl⟩
      have HX : Hid (mkT (Q + 4) = x) := hx
      rw [hx] at c4'
      have HRP : Hid (RepL 0 wr (mrL tl (Q + 5)) tao ∧ tl.length ≤ tcap ∧ tcap ≤ maxLen) := ⟨hrp, htl, htc⟩
      have KC : Hid (∀ w1, Below wr.drew.heap.size wr.drew w1 → w1.cell? ⟨b, o + i * 6 + 4, none⟩ = some (.string x) ∧ w1.cell? ⟨b, o + i * 6 + 5, none⟩ = some (.slice tao tl.length tcap) ∧ Below wr.heap.size wr w1) := fun w1 h => by
        have h1 : Below wr.heap.size wr w1 := bundrewM h
        exact ⟨keepM h1 c4', keepM h1 c5', h1⟩
      clear hx hb hbx hrp htl htc c3 c4 c5
      go_wp2_with fail
      go_region_with (go_at_call 27; (first | rw [HE4.out.1] | rw [HE4.out.2]); refine (markText_any (Q + 4) (by omega) (by omega) _).mono ?_; rintro e w1 ⟨rfl, hb1⟩; rw [HX.out]; obtain ⟨k4, k5, hbw⟩ := KC.out w1 hb1; have HBW : Hid (Below wr.heap.size wr w1) := hbw; clear hb1 hbw)
      all_goals
        go_wp2_with (first | (go_at_call 30; (first | rw [HE5.out.1] | rw [HE5.out.2.1] | rw [HE5.out.2.2.1] | rw [HE5.out.2.2.2]); refine (heS_all tl _ tao tcap (Q + 5) (repL_below HRP.out.1 (by first | exact HBW.out | exact HBW.out.drew)) HRP.out.2.1 HRP.out.2.2 (by omega) HQB.out).mono ?_; rintro e w5 ⟨rfl, hb5⟩; have HB5 : Hid (Below w.heap.size w w5) := HB.out.trans (Below.mono (by first | exact HBW.out.trans (hb5.mono HBW.out.size) | exact HBW.out.trans ((bundrewM hb5).mono HBW.out.size)) HB.out.size); clear hb5))
        go_roundw
        case rel => exact ⟨i + 1, by omega, by go_num, by rw [HQN.out]; exact congrArg (Value.int .i64) (by omega), HB5.out⟩
        case measure => simp [intOf]; omega
    · have hil : i = l.length := by omega
      have HEQ : Hid (K + cG cS (l.take i) = K + cG cS l) := by show _ = _; rw [hil]; simp
      clear hil
      go_wp2_with fail
      go_ret
      exact ⟨ret_int (by have := HEQ.out; omega), HB.out⟩
end Go.Proofs.Ytnpbmfcilcnilaa.Tr
namespace Go.Proofs.Ytnpbmfcilcnilaa.Tr
open Go.RowKit Atom
set_option linter.unusedVariables false

set_option maxHeartbeats 1000000 in
set_option maxRecDepth 100000 in
theorem szTimer_any (kind pid k n : Int) (s : ByteArray) (l : List Tm) (ao : Option Addr) (cap : Nat) (left : Int) (w : World) (hv : RepV 0 w (.mk k n s l) (.agg #[.int .i64 k, .int .i64 n, .string s, .slice ao l.length cap])) (h0 : 0 ≤ left) (h1 : left ≤ 1048576) :
    Calls Try.prog 5 #[sdV kind pid k n s ao l.length cap, .int .i64 left] w fun e w' => (∃ r : Int, e = .returned (.int .i64 r) ∧ -1 ≤ r ∧ r ≤ left ∧ (0 ≤ r → StS (.mk k n s l) ∧ r + (ntL l : Int) ≤ left)) ∧ Below w.heap.size w w' := by
  have HV : Hid (RepV 0 w (.mk k n s l) (.agg #[.int .i64 k, .int .i64 n, .string s, .slice ao l.length cap])) := hv
  clear hv
  have z1 := szT_le (.mk k n s l) left h0
  have HS1 : Hid (0 ≤ szT (.mk k n s l) left → StS (.mk k n s l)) := fun h => sz_sts _ left h0 h1 h
  have HS2 : Hid (0 ≤ szT (.mk k n s l) left → szT (.mk k n s l) left + (ntL l : Int) ≤ left) := fun h => by
    show _ ≤ _
    rw [szT] at h ⊢
    split at h
    · omega
    · rename_i q1
      rw [if_neg q1]
      split at h
      · omega
      · rename_i q2
        rw [if_neg q2]
        have h5 := szGo_nt l (left - s.size - l.length) (by omega) h
        have h6 := ntL_eq l
        omega
  go_enter Try.func5, Try.ntmps5
  go_wp2_with fail
  refine (szT_all (.mk k n s l) 0 _ _ left ((Keeps.below ?_ 0).repV HV.out) h0 h1).mono ?_
  · exact (Below.refl _ _).alloc (Nat.le_refl _) _
  rintro e w1 ⟨rfl, hb1⟩
  have HB1 : Hid (Below w.heap.size w w1) := ((Below.refl _ _).alloc (Nat.le_refl _) _).trans (hb1.mono (by simp))
  clear hb1
  generalize szT (.mk k n s l) left = x at *
  by_cases hx : x < 0
  · go_wp2_with fail
    go_ret
    exact ⟨⟨-1, rfl, by omega, by omega, fun h => absurd h (by decide)⟩, HB1.out⟩
  · go_wp2_with fail
    go_ret
    exact ⟨⟨x, rfl, by omega, by omega, fun h => ⟨HS1.out h, HS2.out h⟩⟩, HB1.out⟩
/-- How many terms were said. -/
def ntX (x : Sd) : Nat := ntL [x.t]
def ntXs (l : List Sd) : Nat := (l.map ntX).sum
theorem ntXs_take {l : List Sd} {k : Nat} (h : k < l.length) : ntXs (l.take (k + 1)) = ntXs (l.take k) + ntX l[k] := by
  unfold ntXs
  rw [List.take_succ_eq_append_getElem h, List.map_append, List.sum_append]; simp
set_option maxHeartbeats 1000000 in
set_option maxRecDepth 100000 in
theorem szTimerS_any (l : List Sd) (ao : Option Addr) (cap : Nat) (left : Int) (w : World) (hr : RowS w ao l) (hl : l.length ≤ maxLen) (h0 : 0 ≤ left) (h1 : left ≤ 1048576) :
    Calls Try.prog 4 #[.slice ao l.length cap, .int .i64 left] w fun e w' => (∃ r : Int, e = .returned (.int .i64 r) ∧ r ≤ left ∧ (0 ≤ r → l.length ≤ 1048576 ∧ (∀ a ∈ l, StS a.t) ∧ r + (ntXs l : Int) ≤ left)) ∧ Below w.heap.size w w' := by
  unfold maxLen at hl
  by_cases hbig : left - l.length < 0
  · go_enter Try.func4, Try.ntmps4
    go_wp2
    go_ret
    exact ⟨⟨-1, rfl, by omega, fun h => absurd h (by decide)⟩, Below.refl _ _⟩
  · have HRW : Hid (RowS w ao l) := hr
    clear hr
    obtain ⟨L, hL⟩ : ∃ L, L = left - (l.length : Int) := ⟨_, rfl⟩
    have ew : IntKind.i64.wrap (left - (l.length : Int)) = L := by rw [IntKind.wrap_i64]; omega
    have hL0 : ¬ L < 0 := by omega
    have HLL : Hid (L = left - (l.length : Int)) := hL
    go_enter Try.func4, Try.ntmps4
    go_wp2_with fail
    go_loopw [1, 5] (fun v i wr => ∃ (k : Nat) (r : Int), k ≤ l.length ∧ i = .int .i64 k ∧ v = .int .i64 r ∧ 0 ≤ r ∧ r + (ntXs (l.take k) : Int) ≤ L + (k : Int) ∧ r ≤ L ∧ (∀ a ∈ l.take k, StS a.t) ∧ Below w.heap.size w wr) (fun v i wr => l.length - (intOf i).toNat)
    case atStart => exact ⟨0, L, Nat.zero_le _, rfl, by congr 1; omega, by omega, by simp [ntXs], by omega, (by intro x hx; simp at hx), Below.refl _ _⟩
    case round =>
      obtain ⟨k, r, hk, rfl, rfl, hr0, hr1, hr2, hsm, hbr⟩ := hrel
      have HBR : Hid (Below w.heap.size w wr) := hbr
      have HSM : Hid (∀ a ∈ l.take k, StS a.t) := hsm
      have HR1 : Hid (r + (ntXs (l.take k) : Int) ≤ L + (k : Int)) := hr1
      have HR2 : Hid (r ≤ L) := hr2
      have hrL : r ≤ 1048576 := by omega
      clear hbr hsm hr1 hr2
      by_cases hlt : k < l.length
      · rcases HRW.out.below HBR.out with h | ⟨b, o, rfl, hrow⟩
        · rw [h] at hlt; simp at hlt
        have hbx := hrow k hlt
        have HTK : Hid (StS l[k].t → ∀ a ∈ l.take (k + 1), StS a.t) := fun h x hx => by
          rw [List.take_succ_eq_append_getElem hlt, List.mem_append] at hx
          rcases hx with hx | hx
          · exact HSM.out x hx
          · simp at hx; rw [hx]; exact h
        have HNT : Hid (ntXs (l.take (k + 1)) = ntXs (l.take k) + ntX l[k]) := ntXs_take hlt
        generalize l[k] = x at hbx HTK HNT
        obtain ⟨kind, pid, t⟩ := x
        obtain ⟨tk, tn, ts, tl⟩ := t
        have d0 := hbx.c0
        have d1 := hbx.c1
        have hRT := hbx.t
        rw [RepT] at hRT
        obtain ⟨d2, d3, d4, hs4, tao, tcap, d5, hl5, hc5, hr5⟩ := hRT
        have HC : Hid (Calls Try.prog 5 #[sdV kind pid tk tn ts tao tl.length tcap, .int .i64 r] wr fun e w' => (∃ r' : Int, e = .returned (.int .i64 r') ∧ -1 ≤ r' ∧ r' ≤ r ∧ (0 ≤ r' → StS (.mk tk tn ts tl) ∧ r' + (ntL tl : Int) ≤ r)) ∧ Below wr.heap.size wr w') := szTimer_any kind pid tk tn ts tl tao tcap r wr ⟨tao, tcap, rfl, hs4, hl5, hc5, hr5⟩ hr0 hrL
        clear hbx hrow hr5 hs4 hl5 hc5
        go_wp2_with fail
        refine HC.out.mono ?_
        rintro e w3 ⟨⟨r', rfl, h3, h4, h5⟩, hb3⟩
        have HB3 : Hid (Below w.heap.size w w3) := HBR.out.trans (hb3.mono HBR.out.size)
        have H5 : Hid (0 ≤ r' → StS (.mk tk tn ts tl) ∧ r' + (ntL tl : Int) ≤ r) := h5
        clear hb3 h5 d0 d1 d2 d3 d4 d5
        by_cases hneg : r' < 0
        · go_wp2_with fail
          go_ret
          exact ⟨⟨-1, rfl, by omega, fun h => absurd h (by decide)⟩, HB3.out⟩
        · have HG : Hid (r' + (ntXs (l.take (k + 1)) : Int) ≤ L + ((k + 1 : Nat) : Int) ∧ r' ≤ L ∧ ∀ a ∈ l.take (k + 1), StS a.t) := by
            have a1 := H5.out (by omega)
            have a2 := HNT.out
            have a3 := HR1.out
            have a4 := HR2.out
            have a5 : ntX ⟨kind, pid, .mk tk tn ts tl⟩ = 1 + ntL tl := by unfold ntX; simp [ntL]
            exact ⟨by omega, by omega, HTK.out a1.1⟩
          go_wp2_with fail
          go_roundw
          case rel => exact ⟨k + 1, r', by omega, by go_num, rfl, by omega, HG.out.1, HG.out.2.1, HG.out.2.2, HB3.out⟩
          case measure => simp [intOf]; omega
      · have HF : Hid (l.length ≤ 1048576 ∧ (∀ a ∈ l, StS a.t) ∧ r + (ntXs l : Int) ≤ left) := by
          have a1 := HSM.out
          have a2 := HR1.out
          have a3 := HLL.out
          rw [List.take_of_length_le (by omega)] at a1 a2
          exact ⟨by omega, a1, by omega⟩
        have hrl : r ≤ left := by have := HF.out.2.2; omega
        go_wp2
        go_ret
        exact ⟨⟨r, rfl, hrl, fun _ => HF.out⟩, HBR.out⟩
set_option maxHeartbeats 1000000 in
theorem eqTimer_same (kind pid : Int) (t : Tm) (k n : Int) (s : ByteArray) (ao ao' : Option Addr) (len len' cap cap' : Nat) (k' n' : Int) (s' : ByteArray) (w : World) (hv : RepV 0 w t (.agg #[.int .i64 k, .int .i64 n, .string s, .slice ao len cap])) (hv' : RepV 0 w t (.agg #[.int .i64 k', .int .i64 n', .string s', .slice ao' len' cap'])) :
    Calls Try.prog 11 #[sdV kind pid k n s ao len cap, sdV kind pid k' n' s' ao' len' cap'] w fun e w' => e = .returned (.bool true) ∧ Below w.heap.size w w' := by
  have HV : Hid (RepV 0 w t (.agg #[.int .i64 k, .int .i64 n, .string s, .slice ao len cap]) ∧ RepV 0 w t (.agg #[.int .i64 k', .int .i64 n', .string s', .slice ao' len' cap'])) := ⟨hv, hv'⟩
  clear hv hv'
  go_enter Try.func11, Try.ntmps11
  go_wp2_with fail
  refine (eqT_all t 0 _ _ _ ((Keeps.below ?_ 0).repV HV.out.1) ((Keeps.below ?_ 0).repV HV.out.2)).mono ?_
  · exact ((Below.refl _ _).alloc (Nat.le_refl _) _).alloc (by simp) _
  · exact ((Below.refl _ _).alloc (Nat.le_refl _) _).alloc (by simp) _
  rintro e w1 ⟨rfl, hb1⟩
  have HB1 : Hid (Below w.heap.size w w1) := (((Below.refl _ _).alloc (Nat.le_refl _) _).alloc (by simp) _).trans (hb1.mono (by simp; omega))
  clear hb1
  go_wp2_with fail
  go_ret
  exact ⟨rfl, HB1.out⟩
set_option maxHeartbeats 1000000 in
set_option maxRecDepth 100000 in
theorem eqTimerS_same (l : List Sd) (ao bo : Option Addr) (cap cap' : Nat) (w : World) (hr : RowS w ao l) (hr' : RowS w bo l) (hl : l.length ≤ maxLen) :
    Calls Try.prog 10 #[.slice ao l.length cap, .slice bo l.length cap'] w fun e w' => e = .returned (.bool true) ∧ Below w.heap.size w w' := by
  have HRA : Hid (RowS w ao l) := hr
  have HRB : Hid (RowS w bo l) := hr'
  clear hr hr'
  unfold maxLen at hl
  have hbl : ((l.length : Int) != (l.length : Int)) = false := by simp
  go_enter Try.func10, Try.ntmps10
  go_wp2_with fail
  go_loopw [5] (fun i w' => ∃ k : Nat, k ≤ l.length ∧ i = .int .i64 k ∧ Below w.heap.size w w') (fun i _ => l.length - (intOf i).toNat)
  case atStart => exact ⟨0, Nat.zero_le _, rfl, Below.refl _ _⟩
  case round =>
    obtain ⟨k, hk, rfl, hb⟩ := hrel
    have HB : Hid (Below w.heap.size w wr) := hb
    clear hb
    by_cases hlt : k < l.length
    · rcases HRA.out.below HB.out with h0 | ⟨b, o, rfl, hrow⟩
      · rw [h0] at hlt; simp at hlt
      rcases HRB.out.below HB.out with h0 | ⟨b', o', rfl, hrow'⟩
      · rw [h0] at hlt; simp at hlt
      have hbx := hrow k hlt
      have hbx' := hrow' k hlt
      obtain ⟨tk, tn, ts, tao, tlen, tcap, e0, e1, e2, e3, hv⟩ := hbx.t.cells
      obtain ⟨tk', tn', ts', tao', tlen', tcap', e0', e1', e2', e3', hv'⟩ := hbx'.t.cells
      have HC : Hid (Calls Try.prog 11 #[sdV l[k].kind l[k].pid tk tn ts tao tlen tcap, sdV l[k].kind l[k].pid tk' tn' ts' tao' tlen' tcap'] wr.drew fun e w' => e = .returned (.bool true) ∧ Below wr.drew.heap.size wr.drew w') :=
        eqTimer_same l[k].kind l[k].pid l[k].t tk tn ts tao tao' tlen tlen' tcap tcap' tk' tn' ts' wr.drew hv.drew hv'.drew
      have c0 := hbx.c0
      have c1 := hbx.c1
      have c0' := hbx'.c0
      have c1' := hbx'.c1
      clear hbx hbx' hrow hrow' hv hv'
      generalize l[k].kind = kind at *
      generalize l[k].pid = pid at *
      go_wp2_with fail
      go_region_with (go_at_call 11; refine HC.out.mono ?_; rintro e w1 ⟨rfl, hb1⟩)
      all_goals
        have HB1 : Hid (Below w.heap.size w w1) := (HB.out.drew).trans (hb1.mono HB.out.size)
        clear hb1 c0 c1 c0' c1' e0 e1 e2 e3 e0' e1' e2' e3'
        go_wp2_with fail
        go_roundw
        case rel => exact ⟨k + 1, by omega, by go_num, HB1.out⟩
        case measure => simp [intOf]; omega
    · go_wp2_with fail
      go_ret
      exact ⟨rfl, HB.out⟩
end Go.Proofs.Ytnpbmfcilcnilaa.Tr
namespace Go.Proofs.Ytnpbmfcilcnilaa.Tr
open Go.RowKit Atom
set_option linter.unusedVariables false

mutual
theorem cT_ntm : ∀ (k n : Int) (s : ByteArray) (l : List Tm), cT (.mk k n s l) = 3 + 3 * ntL l
  | k, n, s, l => by rw [cT, cL_ntm l]
theorem cL_ntm : ∀ (l : List Tm), cL l = 3 * ntL l
  | [] => by rw [cL, ntL]
  | .mk k n s l :: r => by rw [cL, ntL, cL_ntm r, cT_ntm k n s l]; omega
end
theorem cS_nt (x : Sd) : cS x + 1 = 3 * ntX x + 3 := by
  obtain ⟨a, p, t⟩ := x
  obtain ⟨k, n, s, l⟩ := t
  show 5 + cL l + 1 = 3 * ntL [.mk k n s l] + 3
  rw [cL_ntm, ntL, ntL]; omega
theorem ntX_pos (x : Sd) : 1 ≤ ntX x := by
  obtain ⟨a, p, t⟩ := x
  obtain ⟨k, n, s, l⟩ := t
  show 1 ≤ ntL [.mk k n s l]
  rw [ntL]; omega
theorem cG_nt : ∀ (l : List Sd), cG cS l ≤ 5 * ntXs l
  | [] => by rw [cG]; exact Nat.zero_le _
  | x :: r => by
    have h1 := cG_nt r
    have h2 := cS_nt x
    have h3 := ntX_pos x
    have h4 : ntXs (x :: r) = ntX x + ntXs r := by unfold ntXs; rw [List.map_cons, List.sum_cons]
    rw [cG, h4]; omega
theorem cG_parts (P : Sd → Bool) : ∀ (l : List Sd), cG cS (l.filter P) + cG cS (l.filter (notB P)) = cG cS l
  | [] => by simp [cG]
  | x :: r => by
    have h := cG_parts P r
    cases hp : P x
    · have hq : notB P x = true := by unfold notB; rw [hp]; rfl
      rw [List.filter_cons_of_neg (by rw [hp]; simp), List.filter_cons_of_pos hq, cG, cG]; omega
    · have hq : notB P x = false := by unfold notB; rw [hp]; rfl
      rw [List.filter_cons_of_pos hp, List.filter_cons_of_neg (by rw [hq]; simp), cG, cG]; omega
theorem nt_mem {l : List Sd} {x : Sd} (h : x ∈ l) : ntX x ≤ ntXs l := by
  induction l with
  | nil => cases h
  | cons a r ih =>
    have h4 : ntXs (a :: r) = ntX a + ntXs r := by unfold ntXs; rw [List.map_cons, List.sum_cons]
    rcases List.mem_cons.1 h with rfl | h
    · omega
    · have := ih h; omega
/-- The copy handed in and the two answers, apart from each other, and none of them where the specification's answer stands. -/
structure Ax (w2 wr : World) (lx : List Sd) (xo : Option Addr) (bx : List Nat) (n0 n1 : List Sd) (g0 g1 : Option Addr) (b0 b1 : List Nat) : Prop where
  below : Below w2.heap.size w2 wr
  x : GL eltS wr lx bx xo
  im0 : GL eltS wr n0 b0 g0
  im1 : GL eltS wr n1 b1 g1
  lo : ∀ b ∈ bx ++ (b0 ++ b1), w2.heap.size ≤ b
  nd : (bx ++ (b0 ++ b1)).Nodup
variable {w2 wr w' : World} {lx l' : List Sd} {xo : Option Addr} {bx : List Nat} {n0 n1 : List Sd} {g0 g1 : Option Addr} {b0 b1 : List Nat}
theorem Ax.call (h : Ax w2 wr lx xo bx n0 n1 g0 g1 b0 b1) (hb : Below wr.heap.size wr w') : Ax w2 w' lx xo bx n0 n1 g0 g1 b0 b1 :=
  ⟨h.below.trans (hb.mono h.below.size), h.x.below hb, h.im0.below hb, h.im1.below hb, h.lo, h.nd⟩
theorem out_below {B : Nat} {bs : List Nat} (h : Below B w2 wr) (hB : B = w2.heap.size) (ho : OutB bs wr w') (hl : ∀ b ∈ bs, B ≤ b) : Below B w2 w' :=
  ⟨ho.os.trans h.os, ho.tape.trans h.tape, ho.output.trans h.output, Nat.le_trans h.size ho.size, fun x hx => (ho.block x (Nat.lt_of_lt_of_le (by omega) h.size) (fun hm => by have := hl x hm; omega)).trans (h.block x hx)⟩
theorem Ax.markX (h : Ax w2 wr lx xo bx n0 n1 g0 g1 b0 b1) (hx : GL eltS w' l' bx xo) (ho : OutB bx wr w') : Ax w2 w' l' xo bx n0 n1 g0 g1 b0 b1 := by
  obtain ⟨n1', n2', n3'⟩ := List.nodup_append.1 h.nd
  exact ⟨out_below h.below rfl ho (fun b hb => h.lo b (by simp [hb])), hx, h.im0.keep (fun x hx hl => ho.block x hl (fun hm => n3' x hm x (by simp [hx]) rfl)), h.im1.keep (fun x hx hl => ho.block x hl (fun hm => n3' x hm x (by simp [hx]) rfl)), h.lo, h.nd⟩
theorem Ax.mark0 (h : Ax w2 wr lx xo bx n0 n1 g0 g1 b0 b1) (hx : GL eltS w' l' b0 g0) (ho : OutB b0 wr w') : Ax w2 w' lx xo bx l' n1 g0 g1 b0 b1 := by
  obtain ⟨n1', n2', n3'⟩ := List.nodup_append.1 h.nd
  obtain ⟨m1', m2', m3'⟩ := List.nodup_append.1 n2'
  exact ⟨out_below h.below rfl ho (fun b hb => h.lo b (by simp [hb])), h.x.keep (fun x hx hl => ho.block x hl (fun hm => n3' x hx x (by simp [hm]) rfl)), hx, h.im1.keep (fun x hx hl => ho.block x hl (fun hm => m3' x hm x hx rfl)), h.lo, h.nd⟩
theorem Ax.mark1 (h : Ax w2 wr lx xo bx n0 n1 g0 g1 b0 b1) (hx : GL eltS w' l' b1 g1) (ho : OutB b1 wr w') : Ax w2 w' lx xo bx n0 l' g0 g1 b0 b1 := by
  obtain ⟨n1', n2', n3'⟩ := List.nodup_append.1 h.nd
  obtain ⟨m1', m2', m3'⟩ := List.nodup_append.1 n2'
  exact ⟨out_below h.below rfl ho (fun b hb => h.lo b (by simp [hb])), h.x.keep (fun x hx hl => ho.block x hl (fun hm => n3' x hx x (by simp [hm]) rfl)), h.im0.keep (fun x hx hl => ho.block x hl (fun hm => m3' x hx x hm rfl)), hx, h.lo, h.nd⟩
end Go.Proofs.Ytnpbmfcilcnilaa.Tr
