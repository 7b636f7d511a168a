/-
  A system measured and compared.
  (Ahead of it, in this text: What the laws mark of instructions and of what was said. What is marked of instructions, actors and what was said is found marked; a system marked and found marked. FnExactPlainNew's sizes: the purse counts the code, too; the new system is small; its marks are not too many. The laws' own functions on a system: measure and comparison.)
-/
import Derived.Test.YtjibnlpjpbileaaGreatDoorU10
import Derived.Test.YtjibnlpjpbileaaGreatDoorU8
import Derived.Test.YtjibnlpjpbileaaGreatDoorU1
import Derived.Test.YtjibnlpjpbileaaGreatDoorU3
import Derived.Test.YtjibnlpjpbileaaGreatDoorAcD
import Derived.Test.YtjibnlpjpbileaaGreatDoorTmD
import Derived.Deep.RegionWith
namespace Go.Proofs.YtjibnlpjpbileaaGreatDoor
open Go.RowKit
open Go.Proofs.YtjibnlpjpbileaaGreatDoor.Code
set_option linter.unusedVariables false

/-! ### Instructions -/
def cI (x : I) : Nat := 6
def mrI (x : I) (K : Nat) : I := ⟨K, (K : Int) + 1, (K : Int) + 1 + 1, (K : Int) + 1 + 1 + 1, (K : Int) + 1 + 1 + 1 + 1, mkT (K + 5)⟩

set_option maxHeartbeats 4000000 in
set_option maxRecDepth 100000 in
theorem markInsS_any (l : List I) (bs : List Nat) (ao : Option Addr) (cap K : Nat) (w : World) (h : GL eltI w l bs ao) (hnd : bs.Nodup) (hl : l.length ≤ maxLen) (hK1 : 1 ≤ K) (hK : K + cG cI l ≤ 8999990) :
    Calls Tryz.prog 15 #[.slice ao l.length cap, .int .i64 K] w fun e w' => e = .returned (.int .i64 ((K + cG cI l : Nat) : Int)) ∧ GL eltI w' (mrG mrI cI l K) bs ao ∧ OutB bs w w' := by
  rcases h with ⟨h0, hb⟩ | ⟨hne, g, f, b0, hb, ha, hf, hr⟩
  · subst h0 hb
    go_enter Tryz.func15, Tryz.ntmps15
    go_wp2_with fail
    go_loopw [1, 5] (fun vk vi wr => vk = .int .i64 K ∧ vi = .int .i64 0 ∧ wr = w) (fun _ _ _ => 0)
    case atStart => exact ⟨rfl, rfl, rfl⟩
    case round =>
      obtain ⟨rfl, rfl, rfl⟩ := hrel
      go_wp2_with fail
      go_ret
      exact ⟨by simp [cG], by rw [mrG]; exact GL.nil _ _, OutB.refl _ _⟩
  · subst hb ha
    have HR : Hid (GR eltI w l b0 g f) := hr
    have HFZ : Hid (∀ x, w.frozen? ⟨g, x, none⟩ = false) := hf
    have HNE : Hid (l ≠ []) := hne
    have HND : Hid ((g :: b0).Nodup) := hnd
    clear hr hf hne hnd
    unfold maxLen at hl
    go_enter Tryz.func15, Tryz.ntmps15
    go_wp2_with fail
    go_loopw [1, 5] (fun vk vi wr => ∃ i : Nat, i ≤ l.length ∧ vi = .int .i64 i ∧ vk = .int .i64 ((K + cG cI (l.take i) : Nat) : Int) ∧ GR eltI wr (mrG mrI cI (l.take i) K ++ l.drop i) b0 g f ∧ (∀ o, wr.frozen? ⟨g, o, none⟩ = false) ∧ OutB (g :: b0) w wr) (fun _ vi _ => l.length - (intOf vi).toNat)
    case atStart => exact ⟨0, Nat.zero_le _, rfl, by simp [cG], by simpa [mrG] using HR.out, HFZ.out, OutB.refl _ _⟩
    case round =>
      obtain ⟨i, hi0, rfl, rfl, hr, hff, ho⟩ := hrel
      by_cases hlt : i < l.length
      · have hcl := cG_take (c := cI) l i hlt
        have hcle := cG_le (c := cI) l (i + 1)
        rw [List.drop_eq_getElem_cons hlt] at hr
        have hltw := GR.lt hr
        obtain ⟨ba, bt, bb, eb, hA, hE, hB⟩ := GR.split hr
        have hAl : (mrG mrI cI (l.take i) K).length = i := by rw [mrG_len]; simp; omega
        have HMR : Hid (mrG mrI cI (l.take (i + 1)) K = mrG mrI cI (l.take i) K ++ [mrI l[i] (K + cG cI (l.take i))]) := mrG_take l i K hlt
        have hnd := HND.out
        rw [eb] at hnd hltw
        have hs6 : (eltI).s = 6 := rfl
        rw [hAl, hs6] at hE hB
        obtain ⟨hbt, hbx⟩ := hE
        have hoff : f + i * 6 = f + (mrG mrI cI (l.take i) K).length * (eltI).s := by rw [hAl, hs6]
        have HT : Hid (∀ w', OutB (g :: bt) wr w' → (∀ o v, (o < f + i * 6 ∨ f + i * 6 + 6 ≤ o) → wr.cell? ⟨g, o, none⟩ = some v → w'.cell? ⟨g, o, none⟩ = some v) → (eltI).E w' (mrI l[i] (K + cG cI (l.take i))) bt g (f + i * 6) → GR eltI w' (mrG mrI cI (l.take i) K ++ mrI l[i] (K + cG cI (l.take i)) :: l.drop (i + 1)) b0 g f) := fun w' h1 h2 h3 => by
          rw [eb]
          exact GR.turn (e := eltI) hoff hA hB hnd hltw h1 h2 h3
        have hgw : g < wr.heap.size := World.block_lt_of_cell? wr _ hbx.c0
        generalize l[i] = a at *
        obtain ⟨op, xa, xb, xc, xn, xs⟩ := a
        obtain ⟨Q, hQ⟩ : ∃ Q, Q = K + cG cI (l.take i) := ⟨_, rfl⟩
        rw [← hQ] at HMR HT ⊢
        have hcA : cI ⟨op, xa, xb, xc, xn, xs⟩ = 6 := rfl
        rw [hcA] at hcl
        have HQN : Hid (K + cG cI (l.take (i + 1)) = Q + 6) := by show _ = _; omega
        have hQi : (Q : Int) + 6 ≤ 8999990 := by omega
        have hQ1 : 1 ≤ Q := by omega
        clear hQ hcl hcle
        have c0 := hbx.c0
        have c1 := hbx.c1
        have c2 := hbx.c2
        have c3 := hbx.c3
        have c4 := hbx.c4
        have c5 := hbx.c5
        dsimp only at c0 c1 c2 c3 c4 c5
        subst hbt
        obtain ⟨W, hW⟩ : ∃ W, W = wr.setCells g (f + i * 6) [.int .i64 Q, .int .i64 ((Q : Int) + 1), .int .i64 ((Q : Int) + 1 + 1), .int .i64 ((Q : Int) + 1 + 1 + 1), .int .i64 ((Q : Int) + 1 + 1 + 1 + 1)] := ⟨_, rfl⟩
        have hin := World.cell?_setCells_in g [.int .i64 Q, .int .i64 ((Q : Int) + 1), .int .i64 ((Q : Int) + 1 + 1), .int .i64 ((Q : Int) + 1 + 1 + 1), .int .i64 ((Q : Int) + 1 + 1 + 1 + 1)] (f + i * 6) wr (fun j hj => by
          have hj5 : j < 5 := hj
          match j, hj5 with
          | 0, _ => rw [Nat.add_zero, c0]; rfl
          | 1, _ => rw [c1]; rfl
          | 2, _ => rw [c2]; rfl
          | 3, _ => rw [c3]; rfl
          | 4, _ => rw [c4]; rfl)
        have hfar : ∀ o v, (o < f + i * 6 ∨ f + i * 6 + 5 ≤ o) → wr.cell? ⟨g, o, none⟩ = some v → W.cell? ⟨g, o, none⟩ = some v := fun o v hov hv => by
          rw [hW]
          exact (World.cell?_setCells_out g [.int .i64 Q, .int .i64 ((Q : Int) + 1), .int .i64 ((Q : Int) + 1 + 1), .int .i64 ((Q : Int) + 1 + 1 + 1), .int .i64 ((Q : Int) + 1 + 1 + 1 + 1)] (f + i * 6) wr ⟨g, o, none⟩ (fun _ _ => hov)).trans hv
        rw [← hW] at hin
        have hWs : W.heap.size = wr.heap.size := by rw [hW, setCells_sz]
        have HCW : Hid (W.cell? ⟨g, f + i * 6, none⟩ = some (.int .i64 Q) ∧ W.cell? ⟨g, f + i * 6 + 1, none⟩ = some (.int .i64 ((Q : Int) + 1)) ∧ W.cell? ⟨g, f + i * 6 + 2, none⟩ = some (.int .i64 ((Q : Int) + 1 + 1)) ∧ W.cell? ⟨g, f + i * 6 + 3, none⟩ = some (.int .i64 ((Q : Int) + 1 + 1 + 1)) ∧ W.cell? ⟨g, f + i * 6 + 4, none⟩ = some (.int .i64 ((Q : Int) + 1 + 1 + 1 + 1)) ∧ W.cell? ⟨g, f + i * 6 + 5, none⟩ = some (.string xs)) :=
          ⟨hin 0 (by show 0 < 5; omega), hin 1 (by show 1 < 5; omega), hin 2 (by show 2 < 5; omega), hin 3 (by show 3 < 5; omega), hin 4 (by show 4 < 5; omega), hfar _ _ (by omega) c5⟩
        have HFAR : Hid (∀ o v, (o < f + i * 6 ∨ f + i * 6 + 6 ≤ o) → wr.cell? ⟨g, o, none⟩ = some v → W.cell? ⟨g, o, none⟩ = some v) := fun o v hov hv => hfar o v (by omega) hv
        have HOW : Hid (OutB [g] wr W) := by
          rw [hW]
          exact ⟨by simp [World.setCells, World.setCell], by simp [World.setCells, World.setCell], by simp [World.setCells, World.setCell], by rw [setCells_sz]; exact Nat.le_refl _, fun x _ hx => setCells_blk (fun q => hx (by rw [q]; simp)) _ _ _⟩
        have HFW : Hid (∀ o, W.frozen? ⟨g, o, none⟩ = false) := fun o => by rw [hW, World.frozen?_setCells]; exact hff o
        have HO : Hid (OutB (g :: b0) w wr) := ho
        have HW' : Hid (((((wr.setCell ⟨g, f + i * 6, none⟩ (.int .i64 Q)).setCell ⟨g, f + i * 6 + 1, none⟩ (.int .i64 ((Q : Int) + 1))).setCell ⟨g, f + i * 6 + 2, none⟩ (.int .i64 ((Q : Int) + 1 + 1))).setCell ⟨g, f + i * 6 + 3, none⟩ (.int .i64 ((Q : Int) + 1 + 1 + 1))).setCell ⟨g, f + i * 6 + 4, none⟩ (.int .i64 ((Q : Int) + 1 + 1 + 1 + 1)) = W) := by show _ = _; rw [hW]; rfl
        have HE5 : Hid (((Q : Int) + 1 + 1 + 1 + 1 + 1) = ((Q + 5 : Nat) : Int) ∧ ((Q : Int) + 5) = ((Q + 5 : Nat) : Int)) := ⟨by omega, by omega⟩
        clear hr hA hB hbx hnd hltw hin hfar ho eb hoff hcA hs6 hAl hW
        have fz : ∀ o, wr.frozen? ⟨g, o, none⟩ = false := hff
        go_wp2_with (go_at_call 41; fail)
        rw [HW'.out]
        clear HW' c0 c1 c2 c3 c4 c5 fz
        first | rw [HE5.out.1] | rw [HE5.out.2]
        refine (markText_any (Q + 5) (by omega) (by omega) W).mono ?_
        rintro e w3 ⟨rfl, hb3⟩
        have c5 := keepM hb3 HCW.out.2.2.2.2.2
        have f5 : ∀ o, w3.frozen? ⟨g, o, none⟩ = false := fun o => by rw [hb3.frozen (p := ⟨g, o, none⟩) (by show g < _; rw [hWs]; exact hgw)]; exact HFW.out o
        have HB3 : Hid (Below W.heap.size W w3) := hb3
        have HCELL : Hid (∀ o v, o ≠ f + i * 6 + 5 → W.cell? ⟨g, o, none⟩ = some v → (w3.setCell ⟨g, f + i * 6 + 5, none⟩ (.string (mkT (Q + 5)))).cell? ⟨g, o, none⟩ = some v) := fun o v hne hv => by
          rw [World.cell?_setCell_other (h := fun q => hne (by simp only [Addr.mk.injEq] at q; omega))]
          exact keepM hb3 hv
        have HC5 : Hid ((w3.setCell ⟨g, f + i * 6 + 5, none⟩ (.string (mkT (Q + 5)))).cell? ⟨g, f + i * 6 + 5, none⟩ = some (.string (mkT (Q + 5)))) := World.cell?_setCell_same w3 _ _ c5
        have HOUT : Hid (OutB [g] wr (w3.setCell ⟨g, f + i * 6 + 5, none⟩ (.string (mkT (Q + 5))))) := (HOW.out.trans (OutB.below hb3)).set (by simp) _ _
        have HF4 : Hid (∀ o, (w3.setCell ⟨g, f + i * 6 + 5, none⟩ (.string (mkT (Q + 5)))).frozen? ⟨g, o, none⟩ = false) := fun o => by rw [World.frozen?_setCell]; exact f5 o
        have HFIN : Hid (GR eltI (w3.setCell ⟨g, f + i * 6 + 5, none⟩ (.string (mkT (Q + 5)))) (mrG mrI cI (l.take (i + 1)) K ++ l.drop (i + 1)) b0 g f) := by
          show GR ..
          rw [HMR.out, List.append_assoc]
          refine HT.out _ HOUT.out (fun o v hov hv => HCELL.out o v (by omega) (HFAR.out o v hov hv)) ⟨rfl, HCELL.out _ _ (by omega) HCW.out.1, HCELL.out _ _ (by omega) HCW.out.2.1, HCELL.out _ _ (by omega) HCW.out.2.2.1, HCELL.out _ _ (by omega) HCW.out.2.2.2.1, HCELL.out _ _ (by omega) HCW.out.2.2.2.2.1, HC5.out⟩
        have HO5 : Hid (OutB (g :: b0) w (w3.setCell ⟨g, f + i * 6 + 5, none⟩ (.string (mkT (Q + 5))))) := HO.out.trans (HOUT.out.wide (fun x hx => by simp at hx; simp [hx]))
        clear hb3
        generalize mkT (Q + 5) = tx at *
        generalize hR4 : ((Q + 5 : Nat) : Int) = Z4
        have HR4 : Hid (((Q + 5 : Nat) : Int) = Z4) := hR4
        have hZ : Z4 ≤ 8999990 := by omega
        have hZ0 : 0 ≤ Z4 := by omega
        clear hR4
        go_wp2_with fail
        go_roundw
        case rel => exact ⟨i + 1, by omega, by go_num, by rw [HQN.out]; exact congrArg (Value.int .i64) (by have := HR4.out; omega), HFIN.out, HF4.out, HO5.out⟩
        case measure => simp [intOf]; omega
      · have hil : i = l.length := by omega
        have HE : Hid (GR eltI wr (mrG mrI cI l K) b0 g f) := by
          show GR ..
          rw [hil] at hr
          simpa using hr
        have HEQ : Hid (K + cG cI (l.take i) = K + cG cI l) := by show _ = _; rw [hil]; simp
        have HF : Hid (∀ o, wr.frozen? ⟨g, o, none⟩ = false) := hff
        have HO : Hid (OutB (g :: b0) w wr) := ho
        have HNE2 : Hid (mrG mrI cI l K ≠ []) := by
          intro e
          have := mrG_len (m := mrI) (c := cI) l K
          rw [e] at this
          exact HNE.out (List.eq_nil_of_length_eq_zero this.symm)
        clear hr hff ho hil
        go_wp2_with fail
        go_ret
        exact ⟨ret_int (by have := HEQ.out; omega), .inr ⟨HNE2.out, g, f, b0, rfl, rfl, HF.out, HE.out⟩, HO.out⟩

/-! ### What was said -/
def cS (x : Sd) : Nat := match x.t with
  | .mk _ _ _ l => 5 + cL l
def mrS (x : Sd) (K : Nat) : Sd := ⟨K, (K : Int) + 1, match x.t with
  | .mk _ _ _ l => .mk ((K : Int) + 1 + 1) ((K : Int) + 1 + 1 + 1) (mkT (K + 4)) (mrL l (K + 5))⟩

set_option maxHeartbeats 4000000 in
set_option maxRecDepth 100000 in
theorem markSaidS_any (l : List Sd) (bs : List Nat) (ao : Option Addr) (cap K : Nat) (w : World) (h : GL eltS w l bs ao) (hnd : bs.Nodup) (hl : l.length ≤ maxLen) (hK1 : 1 ≤ K) (hK : K + cG cS l ≤ 8999990) :
    Calls Tryz.prog 44 #[.slice ao l.length cap, .int .i64 K] w fun e w' => e = .returned (.int .i64 ((K + cG cS l : Nat) : Int)) ∧ GL eltS w' (mrG mrS cS l K) bs ao ∧ OutB bs w w' := by
  rcases h with ⟨h0, hb⟩ | ⟨hne, g, f, b0, hb, ha, hf, hr⟩
  · subst h0 hb
    go_enter Tryz.func44, Tryz.ntmps44
    go_wp2_with fail
    go_loopw [1, 5] (fun vk vi wr => vk = .int .i64 K ∧ vi = .int .i64 0 ∧ wr = w) (fun _ _ _ => 0)
    case atStart => exact ⟨rfl, rfl, rfl⟩
    case round =>
      obtain ⟨rfl, rfl, rfl⟩ := hrel
      go_wp2_with fail
      go_ret
      exact ⟨by simp [cG], by rw [mrG]; exact GL.nil _ _, OutB.refl _ _⟩
  · subst hb ha
    have HR : Hid (GR eltS w l b0 g f) := hr
    have HFZ : Hid (∀ x, w.frozen? ⟨g, x, none⟩ = false) := hf
    have HNE : Hid (l ≠ []) := hne
    have HND : Hid ((g :: b0).Nodup) := hnd
    clear hr hf hne hnd
    unfold maxLen at hl
    go_enter Tryz.func44, Tryz.ntmps44
    go_wp2_with fail
    go_loopw [1, 5] (fun vk vi wr => ∃ i : Nat, i ≤ l.length ∧ vi = .int .i64 i ∧ vk = .int .i64 ((K + cG cS (l.take i) : Nat) : Int) ∧ GR eltS wr (mrG mrS cS (l.take i) K ++ l.drop i) b0 g f ∧ (∀ o, wr.frozen? ⟨g, o, none⟩ = false) ∧ OutB (g :: b0) w wr) (fun _ vi _ => l.length - (intOf vi).toNat)
    case atStart => exact ⟨0, Nat.zero_le _, rfl, by simp [cG], by simpa [mrG] using HR.out, HFZ.out, OutB.refl _ _⟩
    case round =>
      obtain ⟨i, hi0, rfl, rfl, hr, hff, ho⟩ := hrel
      by_cases hlt : i < l.length
      · have hcl := cG_take (c := cS) l i hlt
        have hcle := cG_le (c := cS) l (i + 1)
        rw [List.drop_eq_getElem_cons hlt] at hr
        have hltw := GR.lt hr
        obtain ⟨ba, bt, bb, eb, hA, hE, hB⟩ := GR.split hr
        have hAl : (mrG mrS cS (l.take i) K).length = i := by rw [mrG_len]; simp; omega
        have HMR : Hid (mrG mrS cS (l.take (i + 1)) K = mrG mrS cS (l.take i) K ++ [mrS l[i] (K + cG cS (l.take i))]) := mrG_take l i K hlt
        have hnd := HND.out
        rw [eb] at hnd hltw
        have hs6 : (eltS).s = 6 := rfl
        rw [hAl, hs6] at hE hB
        obtain ⟨c0, c1, hT0⟩ := hE
        have hoff : f + i * 6 = f + (mrG mrS cS (l.take i) K).length * (eltS).s := by rw [hAl, hs6]
        have HT : Hid (∀ w', OutB (g :: bt) wr w' → (∀ o v, (o < f + i * 6 ∨ f + i * 6 + 6 ≤ o) → wr.cell? ⟨g, o, none⟩ = some v → w'.cell? ⟨g, o, none⟩ = some v) → (eltS).E w' (mrS l[i] (K + cG cS (l.take i))) bt g (f + i * 6) → GR eltS w' (mrG mrS cS (l.take i) K ++ mrS l[i] (K + cG cS (l.take i)) :: l.drop (i + 1)) b0 g f) := fun w' h1 h2 h3 => by
          rw [eb]
          exact GR.turn (e := eltS) hoff hA hB hnd hltw h1 h2 h3
        have hgw : g < wr.heap.size := World.block_lt_of_cell? wr _ c0
        generalize l[i] = a at *
        obtain ⟨kind, pid, tt⟩ := a
        obtain ⟨tk, tn, xs, tl⟩ := tt
        rw [OsT] at hT0
        obtain ⟨c2, c3, c4, hxs, tao, tcap, c5, htl, htc, hOL⟩ := hT0
        obtain ⟨Q, hQ⟩ : ∃ Q, Q = K + cG cS (l.take i) := ⟨_, rfl⟩
        rw [← hQ] at HMR HT ⊢
        have hcA : cS ⟨kind, pid, .mk tk tn xs tl⟩ = 5 + cL tl := rfl
        rw [hcA] at hcl
        have HQN : Hid (K + cG cS (l.take (i + 1)) = Q + 5 + cL tl) := by show _ = _; omega
        have hQi : (Q : Int) + 5 + cL tl ≤ 8999990 := by omega
        have hQ1 : 1 ≤ Q := by omega
        clear hQ hcl hcle
        dsimp only at c0 c1
        obtain ⟨W, hW⟩ : ∃ W, W = wr.setCells g (f + i * 6) [.int .i64 Q, .int .i64 ((Q : Int) + 1), .int .i64 ((Q : Int) + 1 + 1), .int .i64 ((Q : Int) + 1 + 1 + 1)] := ⟨_, rfl⟩
        have hin := World.cell?_setCells_in g [.int .i64 Q, .int .i64 ((Q : Int) + 1), .int .i64 ((Q : Int) + 1 + 1), .int .i64 ((Q : Int) + 1 + 1 + 1)] (f + i * 6) wr (fun j hj => by
          have hj5 : j < 4 := hj
          match j, hj5 with
          | 0, _ => rw [Nat.add_zero, c0]; rfl
          | 1, _ => rw [c1]; rfl
          | 2, _ => rw [c2]; rfl
          | 3, _ => rw [show f + i * 6 + 3 = f + i * 6 + 2 + 1 from rfl, c3]; rfl)
        have hfar : ∀ o v, (o < f + i * 6 ∨ f + i * 6 + 4 ≤ o) → wr.cell? ⟨g, o, none⟩ = some v → W.cell? ⟨g, o, none⟩ = some v := fun o v hov hv => by
          rw [hW]
          exact (World.cell?_setCells_out g [.int .i64 Q, .int .i64 ((Q : Int) + 1), .int .i64 ((Q : Int) + 1 + 1), .int .i64 ((Q : Int) + 1 + 1 + 1)] (f + i * 6) wr ⟨g, o, none⟩ (fun _ _ => hov)).trans hv
        rw [← hW] at hin
        have hWs : W.heap.size = wr.heap.size := by rw [hW, setCells_sz]
        have HCW : Hid (W.cell? ⟨g, f + i * 6, none⟩ = some (.int .i64 Q) ∧ W.cell? ⟨g, f + i * 6 + 1, none⟩ = some (.int .i64 ((Q : Int) + 1)) ∧ W.cell? ⟨g, f + i * 6 + 2, none⟩ = some (.int .i64 ((Q : Int) + 1 + 1)) ∧ W.cell? ⟨g, f + i * 6 + 3, none⟩ = some (.int .i64 ((Q : Int) + 1 + 1 + 1)) ∧ W.cell? ⟨g, f + i * 6 + 4, none⟩ = some (.string xs) ∧ W.cell? ⟨g, f + i * 6 + 5, none⟩ = some (.slice tao tl.length tcap)) :=
          ⟨hin 0 (by show 0 < 4; omega), hin 1 (by show 1 < 4; omega), hin 2 (by show 2 < 4; omega), hin 3 (by show 3 < 4; omega), hfar _ _ (by omega) c4, hfar _ _ (by omega) c5⟩
        have HFAR : Hid (∀ o v, (o < f + i * 6 ∨ f + i * 6 + 6 ≤ o) → wr.cell? ⟨g, o, none⟩ = some v → W.cell? ⟨g, o, none⟩ = some v) := fun o v hov hv => hfar o v (by omega) hv
        have HOW : Hid (OutB (g :: bt) wr W) := by
          rw [hW]
          exact ⟨by simp [World.setCells, World.setCell], by simp [World.setCells, World.setCell], by simp [World.setCells, World.setCell], by rw [setCells_sz]; exact Nat.le_refl _, fun x _ hx => setCells_blk (fun q => hx (by rw [q]; simp)) _ _ _⟩
        have HFW : Hid (∀ o, W.frozen? ⟨g, o, none⟩ = false) := fun o => by rw [hW, World.frozen?_setCells]; exact hff o
        have HO : Hid (OutB (g :: b0) w wr) := ho
        have HW' : Hid ((((wr.setCell ⟨g, f + i * 6, none⟩ (.int .i64 Q)).setCell ⟨g, f + i * 6 + 1, none⟩ (.int .i64 ((Q : Int) + 1))).setCell ⟨g, f + i * 6 + 2, none⟩ (.int .i64 ((Q : Int) + 1 + 1))).setCell ⟨g, f + i * 6 + 3, none⟩ (.int .i64 ((Q : Int) + 1 + 1 + 1)) = W) := by show _ = _; rw [hW]; rfl
        have HE4 : Hid (((Q : Int) + 1 + 1 + 1 + 1) = ((Q + 4 : Nat) : Int) ∧ ((Q : Int) + 4) = ((Q + 4 : Nat) : Int)) := ⟨by omega, by omega⟩
        have HE5 : Hid (((Q + 4 : Nat) : Int) + 1 = ((Q + 5 : Nat) : Int)) := by show _ = _; omega
        obtain ⟨n1, n2⟩ := List.nodup_cons.1 hnd
        have d1 := List.nodup_append.1 n2
        have d2 := List.nodup_append.1 d1.2.1
        have HG : Hid (g ∉ bt ∧ bt.Nodup) := ⟨fun hm => n1 (by simp [hm]), d2.1⟩
        have HOW1 : Hid (OsL W tl bt tao ∧ tl.length ≤ tcap ∧ tcap ≤ maxLen) := by
          refine ⟨OsL.keep _ _ _ (fun x hx _ => ?_) hOL, htl, htc⟩
          rw [hW]
          exact setCells_blk (fun q => n1 (by rw [← q]; simp [hx])) _ _ _
        have HSUB : Hid (∀ x ∈ g :: bt, x ∈ g :: b0) := fun x hx => by
          rw [eb]
          rcases List.mem_cons.1 hx with rfl | hx
          · simp
          · simp [hx]
        clear hr hA hB hnd hltw hin hfar ho eb hoff hcA hs6 hAl hW n1 n2 d1 d2 hOL htl htc hxs
        have fz : ∀ o, wr.frozen? ⟨g, o, none⟩ = false := hff
        go_wp2_with (go_at_call 41; fail)
        rw [HW'.out]
        clear HW' c0 c1 c2 c3 c4 c5 fz
        first | rw [HE4.out.1] | rw [HE4.out.2]
        refine (markText_any (Q + 4) (by omega) (by omega) W).mono ?_
        rintro e w3 ⟨rfl, hb3⟩
        have c4 := keepM hb3 HCW.out.2.2.2.2.1
        have c5 := keepM hb3 HCW.out.2.2.2.2.2
        have f5 : ∀ o, w3.frozen? ⟨g, o, none⟩ = false := fun o => by rw [hb3.frozen (p := ⟨g, o, none⟩) (by show g < _; rw [hWs]; exact hgw)]; exact HFW.out o
        obtain ⟨w4, hw4⟩ : ∃ w4, w4 = w3.setCell ⟨g, f + i * 6 + 4, none⟩ (.string (mkT (Q + 4))) := ⟨_, rfl⟩
        have HCELL : Hid (∀ o v, o ≠ f + i * 6 + 4 → W.cell? ⟨g, o, none⟩ = some v → w4.cell? ⟨g, o, none⟩ = some v) := fun o v hne hv => by
          rw [hw4, World.cell?_setCell_other (h := fun q => hne (by simp only [Addr.mk.injEq] at q; omega))]
          exact keepM hb3 hv
        have HC4 : Hid (w4.cell? ⟨g, f + i * 6 + 4, none⟩ = some (.string (mkT (Q + 4)))) := by rw [hw4]; exact World.cell?_setCell_same w3 _ _ c4
        have HOUT : Hid (OutB (g :: bt) wr w4) := by rw [hw4]; exact (HOW.out.trans (OutB.below hb3)).set (by simp) _ _
        have HF4 : Hid (∀ o, w4.frozen? ⟨g, o, none⟩ = false) := fun o => by rw [hw4, World.frozen?_setCell]; exact f5 o
        have hz4 : g < w4.heap.size := by rw [hw4, World.size_setCell]; have := hb3.size; omega
        have HOL4 : Hid (OsL w4 tl bt tao) := by
          rw [hw4]
          exact OsL.keep _ _ _ (fun x hx hlx => by rw [Below.heap_setCell _ ⟨g, f + i * 6 + 4, none⟩ _ x (by show x ≠ g; intro q; exact HG.out.1 (by rw [← q]; exact hx)), hb3.block x hlx]) HOW1.out.1
        have HMK : Hid (Calls Tryz.prog 42 #[.slice tao tl.length tcap, .int .i64 ((Q + 5 : Nat) : Int)] w4 fun e w' => e = .returned (.int .i64 ((Q + 5 + cL tl : Nat) : Int)) ∧ OsL w' (mrL tl (Q + 5)) bt tao ∧ OutB bt w4 w') := mkB_all tl w4 bt tao tcap (Q + 5) HOL4.out HG.out.2 HOW1.out.2.1 HOW1.out.2.2 (by omega) (by omega)
        have HSZ : Hid ((mkT (Q + 4)).size ≤ 1048576) := mkT_dig _ (by omega)
        have HW4 : Hid (w3.setCell ⟨g, f + i * 6 + 4, none⟩ (.string (mkT (Q + 4))) = w4) := hw4.symm
        clear hb3 hw4
        generalize hR4 : ((Q + 4 : Nat) : Int) = Z4 at HE5
        have HR4 : Hid (((Q + 4 : Nat) : Int) = Z4) := hR4
        have hZ : Z4 ≤ 8999990 := by omega
        have hZ0 : 0 ≤ Z4 := by omega
        clear hR4
        go_wp2_with (go_at_call 42; fail)
        rw [HW4.out, HE5.out]
        clear c4 c5 f5
        refine HMK.out.mono ?_
        rintro e w5 ⟨rfl, hO5, hout5⟩
        have HC5 : Hid (∀ o v, w4.cell? ⟨g, o, none⟩ = some v → w5.cell? ⟨g, o, none⟩ = some v) := fun o v hv => cellOut hout5 HG.out.1 hv
        have HFIN : Hid (GR eltS w5 (mrG mrS cS (l.take (i + 1)) K ++ l.drop (i + 1)) b0 g f) := by
          show GR ..
          rw [HMR.out, List.append_assoc]
          refine HT.out _ (HOUT.out.trans (hout5.wide (fun x hx => by simp [hx]))) (fun o v hov hv => HC5.out o v (HCELL.out o v (by omega) (HFAR.out o v hov hv))) ⟨HC5.out _ _ (HCELL.out _ _ (by omega) HCW.out.1), HC5.out _ _ (HCELL.out _ _ (by omega) HCW.out.2.1), ?_⟩
          show OsT w5 (.mk _ _ _ _) bt g (f + i * 6 + 2)
          rw [OsT]
          refine ⟨HC5.out _ _ (HCELL.out _ _ (by omega) HCW.out.2.2.1), HC5.out _ _ (HCELL.out _ _ (by omega) HCW.out.2.2.2.1), HC5.out _ _ HC4.out, HSZ.out, tao, tcap, ?_, ?_, HOW1.out.2.2, hO5⟩
          · rw [mrL_len]; exact HC5.out _ _ (HCELL.out _ _ (by omega) HCW.out.2.2.2.2.2)
          · rw [mrL_len]; exact HOW1.out.2.1
        have HF5 : Hid (∀ o, w5.frozen? ⟨g, o, none⟩ = false) := fun o => by rw [World.frozen?_of_block (w := w4) (hout5.block g hz4 HG.out.1)]; exact HF4.out o
        have HO5 : Hid (OutB (g :: b0) w w5) := HO.out.trans ((HOUT.out.trans (hout5.wide (fun x hx => by simp [hx]))).wide HSUB.out)
        clear hO5 hout5
        generalize hR5 : ((Q + 5 + cL tl : Nat) : Int) = Z5
        have HR5 : Hid (((Q + 5 + cL tl : Nat) : Int) = Z5) := hR5
        clear hR5
        go_wp2_with fail
        go_roundw
        case rel => exact ⟨i + 1, by omega, by go_num, by rw [HQN.out]; exact congrArg (Value.int .i64) HR5.out.symm, HFIN.out, HF5.out, HO5.out⟩
        case measure => simp [intOf]; omega
      · have hil : i = l.length := by omega
        have HE : Hid (GR eltS wr (mrG mrS cS l K) b0 g f) := by
          show GR ..
          rw [hil] at hr
          simpa using hr
        have HEQ : Hid (K + cG cS (l.take i) = K + cG cS l) := by show _ = _; rw [hil]; simp
        have HF : Hid (∀ o, wr.frozen? ⟨g, o, none⟩ = false) := hff
        have HO : Hid (OutB (g :: b0) w wr) := ho
        have HNE2 : Hid (mrG mrS cS l K ≠ []) := by
          intro e
          have := mrG_len (m := mrS) (c := cS) l K
          rw [e] at this
          exact HNE.out (List.eq_nil_of_length_eq_zero this.symm)
        clear hr hff ho hil
        go_wp2_with fail
        go_ret
        exact ⟨ret_int (by have := HEQ.out; omega), .inr ⟨HNE2.out, g, f, b0, rfl, rfl, HF.out, HE.out⟩, HO.out⟩
end Go.Proofs.YtjibnlpjpbileaaGreatDoor
namespace Go.Proofs.YtjibnlpjpbileaaGreatDoor
open Go.RowKit
open Go.Proofs.YtjibnlpjpbileaaGreatDoor.Code
set_option linter.unusedVariables false

set_option maxHeartbeats 4000000 in
set_option maxRecDepth 100000 in
theorem heldActorS_any (l : List Ac) (ao : Option Addr) (cap K : Nat) (w : World) (h : RowA w ao (mrG mrA cA l K)) (hl : l.length ≤ maxLen) (hK1 : 1 ≤ K) (hK : K + cG cA l ≤ 8999990) :
    Calls Tryz.prog 46 #[.slice ao l.length cap, .int .i64 K] w fun e w' => e = .returned (.int .i64 ((K + cG cA l : Nat) : Int)) ∧ Below w.heap.size w w' := by
  have HR : Hid (RowA w ao (mrG mrA cA l K)) := h
  clear h
  unfold maxLen at hl
  go_enter Tryz.func46, Tryz.ntmps46
  go_wp2_with fail
  go_loopw [1, 5] (fun vk vi wr => ∃ i : Nat, i ≤ l.length ∧ vi = .int .i64 i ∧ vk = .int .i64 ((K + cG cA (l.take i) : Nat) : Int) ∧ Below w.heap.size w wr) (fun _ vi _ => l.length - (intOf vi).toNat)
  case atStart => exact ⟨0, Nat.zero_le _, rfl, by simp [cG], Below.refl _ _⟩
  case round =>
    obtain ⟨i, hi0, rfl, rfl, hb⟩ := hrel
    have HB : Hid (Below w.heap.size w wr) := hb
    by_cases hlt : i < l.length
    · have hcl := cG_take (c := cA) l i hlt
      have hcle := cG_le (c := cA) l (i + 1)
      rcases HR.out.below hb with h0 | ⟨b, o, rfl, hrow⟩
      · have := mrG_len (m := mrA) (c := cA) l K
        rw [h0] at this; simp at this; omega
      obtain ⟨hh, hbx, hac⟩ := hrow i (by rw [mrG_len]; exact hlt)
      rw [mrG_get l K i _ hlt] at hbx hac
      generalize l[i] = a at *
      obtain ⟨pid, pc, regs, box, N, fl⟩ := a
      obtain ⟨ra, rc, bxa, bc, la, lc⟩ := hh
      obtain ⟨Q, hQ⟩ : ∃ Q, Q = K + cG cA (l.take i) := ⟨_, rfl⟩
      rw [← hQ] at hbx hac ⊢
      have hcA : cA ⟨pid, pc, regs, box, N, fl⟩ = 2 + cL regs + cL box + N := rfl
      rw [hcA] at hcl
      have HQN : Hid (K + cG cA (l.take (i + 1)) = Q + 2 + cL regs + cL box + N) := by show _ = _; omega
      have HQB : Hid (Q + 2 + cL regs + cL box + N ≤ 8999990 ∧ 1 ≤ Q) := ⟨by omega, by omega⟩
      have hQi : (Q : Int) ≤ 8999988 := by omega
      clear hQ hcl hcle hrow hcA
      have c0 : wr.cell? ⟨b, o + i * 5, none⟩ = some (.int .i64 Q) := hbx.c0
      have c1 : wr.cell? ⟨b, o + i * 5 + 1, none⟩ = some (.int .i64 ((Q : Int) + 1)) := hbx.c1
      have c2 : wr.cell? ⟨b, o + i * 5 + 2, none⟩ = some (.slice ra regs.length rc) := by have := hbx.c2; dsimp only [mrA] at this; rw [mrL_len] at this; exact this
      have c3 : wr.cell? ⟨b, o + i * 5 + 3, none⟩ = some (.slice bxa box.length bc) := by have := hbx.c3; dsimp only [mrA] at this; rw [mrL_len] at this; exact this
      have c4 : wr.cell? ⟨b, o + i * 5 + 4, none⟩ = some (.slice la N lc) := hbx.c4
      have hr1 : regs.length ≤ rc := by have := hac.r1; dsimp only [mrA] at this; rw [mrL_len] at this; exact this
      have hb1 : box.length ≤ bc := by have := hac.b1; dsimp only [mrA] at this; rw [mrL_len] at this; exact this
      have HAC : Hid (RepL 0 wr (mrL regs (Q + 2)) ra ∧ RepL 0 wr (mrL box (Q + 2 + cL regs)) bxa ∧ RdI wr la N (fun j => ((Q + 2 + cL regs + cL box + j : Nat) : Int)) ∧ regs.length ≤ rc ∧ rc ≤ maxLen ∧ box.length ≤ bc ∧ bc ≤ maxLen ∧ N ≤ maxLen) := ⟨hac.regs, hac.box, hac.links, hr1, hac.r2, hb1, hac.b2, Nat.le_trans hac.l1 hac.l2⟩
      have HE2 : Hid (((Q : Int) + 1 + 1) = ((Q + 2 : Nat) : Int) ∧ ((Q : Int) + 2) = ((Q + 2 : Nat) : Int)) := ⟨by omega, by omega⟩
      clear hbx hac hb hr1 hb1
      go_wp2_with (go_at_call 81; fail)
      first | rw [HE2.out.1] | rw [HE2.out.2]
      refine (heS_all regs wr ra rc (Q + 2) HAC.out.1 HAC.out.2.2.2.1 HAC.out.2.2.2.2.1 (by omega) (by have := HQB.out.1; omega)).mono ?_
      rintro e w2 ⟨rfl, hb2⟩
      have HB2 : Hid (Below wr.heap.size wr w2) := hb2
      have d3 := keepM hb2 c3
      have d4 := keepM hb2 c4
      clear hb2 c0 c1 c2 c3 c4
      generalize hR2 : ((Q + 2 + cL regs : Nat) : Int) = Z2
      have HR2 : Hid (((Q + 2 + cL regs : Nat) : Int) = Z2) := hR2
      have hz2 : ¬ Z2 < 0 := by omega
      clear hR2
      go_wp2_with (go_at_call 81; fail)
      rw [← HR2.out]
      refine (heS_all box w2 bxa bc (Q + 2 + cL regs) (repL_below HAC.out.2.1 HB2.out) HAC.out.2.2.2.2.2.1 HAC.out.2.2.2.2.2.2.1 (by omega) (by have := HQB.out.1; omega)).mono ?_
      rintro e w3 ⟨rfl, hb3⟩
      have HB3 : Hid (Below wr.heap.size wr w3) := HB2.out.trans (hb3.mono HB2.out.size)
      have f4 := keepM hb3 d4
      clear hb3 d3 d4
      generalize hR3 : ((Q + 2 + cL regs + cL box : Nat) : Int) = Z3
      have HR3 : Hid (((Q + 2 + cL regs + cL box : Nat) : Int) = Z3) := hR3
      have hz3 : ¬ Z3 < 0 := by omega
      clear hR3
      go_wp2_with (go_at_call 82; fail)
      rw [← HR3.out]
      refine (heldIntS_any N la lc (Q + 2 + cL regs + cL box) w3 (HAC.out.2.2.1.below HB3.out) HAC.out.2.2.2.2.2.2.2 HQB.out.1).mono ?_
      rintro e w4 ⟨rfl, hb4⟩
      have HB4 : Hid (Below w.heap.size w w4) := HB.out.trans ((HB3.out.trans (hb4.mono HB3.out.size)).mono HB.out.size)
      clear hb4 f4
      generalize hR4 : ((Q + 2 + cL regs + cL box + N : Nat) : Int) = Z4
      have HR4 : Hid (((Q + 2 + cL regs + cL box + N : Nat) : Int) = Z4) := hR4
      have hz4 : ¬ Z4 < 0 := by omega
      clear hR4
      go_wp2_with fail
      go_roundw
      case rel => exact ⟨i + 1, by omega, by go_num, by rw [HQN.out]; exact congrArg (Value.int .i64) HR4.out.symm, HB4.out⟩
      case measure => simp [intOf]; omega
    · have hil : i = l.length := by omega
      have HEQ : Hid (K + cG cA (l.take i) = K + cG cA l) := by show _ = _; rw [hil]; simp
      clear hil
      go_wp2_with fail
      go_ret
      exact ⟨ret_int (by have := HEQ.out; omega), HB.out⟩

set_option maxHeartbeats 4000000 in
set_option maxRecDepth 100000 in
theorem heldInsS_any (l : List I) (ao : Option Addr) (cap K : Nat) (w : World) (h : RowI w ao (mrG mrI cI l K)) (hl : l.length ≤ maxLen) (hK1 : 1 ≤ K) (hK : K + cG cI l ≤ 8999990) :
    Calls Tryz.prog 45 #[.slice ao l.length cap, .int .i64 K] w fun e w' => e = .returned (.int .i64 ((K + cG cI l : Nat) : Int)) ∧ Below w.heap.size w w' := by
  have HR : Hid (RowI w ao (mrG mrI cI l K)) := h
  clear h
  unfold maxLen at hl
  go_enter Tryz.func45, Tryz.ntmps45
  go_wp2_with fail
  go_loopw [1, 5] (fun vk vi wr => ∃ i : Nat, i ≤ l.length ∧ vi = .int .i64 i ∧ vk = .int .i64 ((K + cG cI (l.take i) : Nat) : Int) ∧ Below w.heap.size w wr) (fun _ vi _ => l.length - (intOf vi).toNat)
  case atStart => exact ⟨0, Nat.zero_le _, rfl, by simp [cG], Below.refl _ _⟩
  case round =>
    obtain ⟨i, hi0, rfl, rfl, hb⟩ := hrel
    have HB : Hid (Below w.heap.size w wr) := hb
    by_cases hlt : i < l.length
    · have hcl := cG_take (c := cI) l i hlt
      have hcle := cG_le (c := cI) l (i + 1)
      rcases HR.out.below hb with h0 | ⟨b, o, rfl, hrow⟩
      · have := mrG_len (m := mrI) (c := cI) l K
        rw [h0] at this; simp at this; omega
      have hbx := hrow i (by rw [mrG_len]; exact hlt)
      rw [mrG_get l K i _ hlt] at hbx
      generalize l[i] = a at *
      obtain ⟨Q, hQ⟩ : ∃ Q, Q = K + cG cI (l.take i) := ⟨_, rfl⟩
      rw [← hQ] at hbx ⊢
      have hcA : cI a = 6 := rfl
      rw [hcA] at hcl
      have HQN : Hid (K + cG cI (l.take (i + 1)) = Q + 6) := by show _ = _; omega
      have hQi : (Q : Int) ≤ 8999984 := by omega
      have hQ1 : 1 ≤ Q := by omega
      clear hQ hcl hcle hrow hcA
      have c0 : wr.cell? ⟨b, o + i * 6, none⟩ = some (.int .i64 Q) := hbx.c0
      have c1 : wr.cell? ⟨b, o + i * 6 + 1, none⟩ = some (.int .i64 ((Q : Int) + 1)) := hbx.c1
      have c2 : wr.cell? ⟨b, o + i * 6 + 2, none⟩ = some (.int .i64 ((Q : Int) + 1 + 1)) := hbx.c2
      have c3 : wr.cell? ⟨b, o + i * 6 + 3, none⟩ = some (.int .i64 ((Q : Int) + 1 + 1 + 1)) := hbx.c3
      have c4 : wr.cell? ⟨b, o + i * 6 + 4, none⟩ = some (.int .i64 ((Q : Int) + 1 + 1 + 1 + 1)) := hbx.c4
      have c5 : wr.cell? ⟨b, o + i * 6 + 5, none⟩ = some (.string (mkT (Q + 5))) := hbx.c5
      have HE5 : Hid (((Q : Int) + 1 + 1 + 1 + 1 + 1) = ((Q + 5 : Nat) : Int) ∧ ((Q : Int) + 5) = ((Q + 5 : Nat) : Int)) := ⟨by omega, by omega⟩
      obtain ⟨x, hx⟩ : ∃ x, mkT (Q + 5) = x := ⟨_, rfl⟩
      have HX : Hid (mkT (Q + 5) = x) := hx
      rw [hx] at c5
      have KC : Hid (∀ w1, Below wr.drew.heap.size wr.drew w1 → w1.cell? ⟨b, o + i * 6 + 5, none⟩ = some (.string x) ∧ Below wr.heap.size wr w1) := fun w1 h => by
        have h1 : Below wr.heap.size wr w1 := bundrewM h
        exact ⟨keepM h1 c5, h1⟩
      clear hx hb hbx
      go_wp2_with fail
      go_region_with (go_at_call 41; (first | rw [HE5.out.1] | rw [HE5.out.2]); refine (markText_any (Q + 5) (by omega) (by omega) _).mono ?_; rintro e w1 ⟨rfl, hb1⟩; rw [HX.out]; obtain ⟨c1', hbw⟩ := KC.out w1 hb1; have HBW : Hid (Below wr.heap.size wr w1) := hbw; clear hb1 hbw)
      all_goals
        have HB1 : Hid (Below w.heap.size w w1) := HB.out.trans (HBW.out.mono HB.out.size)
        go_wp2_with fail
        go_roundw
        case rel => exact ⟨i + 1, by omega, by go_num, by rw [HQN.out]; exact congrArg (Value.int .i64) (by omega), HB1.out⟩
        case measure => simp [intOf]; omega
    · have hil : i = l.length := by omega
      have HEQ : Hid (K + cG cI (l.take i) = K + cG cI l) := by show _ = _; rw [hil]; simp
      clear hil
      go_wp2_with fail
      go_ret
      exact ⟨ret_int (by have := HEQ.out; omega), HB.out⟩

set_option maxHeartbeats 4000000 in
set_option maxRecDepth 100000 in
theorem heldSaidS_any (l : List Sd) (ao : Option Addr) (cap K : Nat) (w : World) (h : RowS w ao (mrG mrS cS l K)) (hl : l.length ≤ maxLen) (hK1 : 1 ≤ K) (hK : K + cG cS l ≤ 8999990) :
    Calls Tryz.prog 47 #[.slice ao l.length cap, .int .i64 K] w fun e w' => e = .returned (.int .i64 ((K + cG cS l : Nat) : Int)) ∧ Below w.heap.size w w' := by
  have HR : Hid (RowS w ao (mrG mrS cS l K)) := h
  clear h
  unfold maxLen at hl
  go_enter Tryz.func47, Tryz.ntmps47
  go_wp2_with fail
  go_loopw [1, 5] (fun vk vi wr => ∃ i : Nat, i ≤ l.length ∧ vi = .int .i64 i ∧ vk = .int .i64 ((K + cG cS (l.take i) : Nat) : Int) ∧ Below w.heap.size w wr) (fun _ vi _ => l.length - (intOf vi).toNat)
  case atStart => exact ⟨0, Nat.zero_le _, rfl, by simp [cG], Below.refl _ _⟩
  case round =>
    obtain ⟨i, hi0, rfl, rfl, hb⟩ := hrel
    have HB : Hid (Below w.heap.size w wr) := hb
    by_cases hlt : i < l.length
    · have hcl := cG_take (c := cS) l i hlt
      have hcle := cG_le (c := cS) l (i + 1)
      rcases HR.out.below hb with h0 | ⟨b, o, rfl, hrow⟩
      · have := mrG_len (m := mrS) (c := cS) l K
        rw [h0] at this; simp at this; omega
      have hbx := hrow i (by rw [mrG_len]; exact hlt)
      rw [mrG_get l K i _ hlt] at hbx
      generalize l[i] = a at *
      obtain ⟨kind, pid, tt⟩ := a
      obtain ⟨tk, tn, xs, tl⟩ := tt
      obtain ⟨Q, hQ⟩ : ∃ Q, Q = K + cG cS (l.take i) := ⟨_, rfl⟩
      rw [← hQ] at hbx ⊢
      have hcA : cS ⟨kind, pid, .mk tk tn xs tl⟩ = 5 + cL tl := rfl
      rw [hcA] at hcl
      have HQN : Hid (K + cG cS (l.take (i + 1)) = Q + 5 + cL tl) := by show _ = _; omega
      have HQB : Hid (Q + 5 + cL tl ≤ 8999990) := by show _ ≤ _; omega
      have hQi : (Q : Int) ≤ 8999985 := by omega
      have hQ1 : 1 ≤ Q := by omega
      clear hQ hcl hcle hrow hcA
      have c0 : wr.cell? ⟨b, o + i * 6, none⟩ = some (.int .i64 Q) := hbx.c0
      have c1 : wr.cell? ⟨b, o + i * 6 + 1, none⟩ = some (.int .i64 ((Q : Int) + 1)) := hbx.c1
      have hT : RepT 0 wr (.mk ((Q : Int) + 1 + 1) ((Q : Int) + 1 + 1 + 1) (mkT (Q + 4)) (mrL tl (Q + 5))) b (o + i * 6 + 2) := hbx.t
      rw [RepT] at hT
      obtain ⟨c2, c3, c4, _, tao, tcap, c5, htl, htc, hrp⟩ := hT
      rw [mrL_len] at c5 htl
      have c3' : wr.cell? ⟨b, o + i * 6 + 3, none⟩ = some (.int .i64 ((Q : Int) + 1 + 1 + 1)) := c3
      have c4' : wr.cell? ⟨b, o + i * 6 + 4, none⟩ = some (.string (mkT (Q + 4))) := c4
      have c5' : wr.cell? ⟨b, o + i * 6 + 5, none⟩ = some (.slice tao tl.length tcap) := c5
      have HE4 : Hid (((Q : Int) + 1 + 1 + 1 + 1) = ((Q + 4 : Nat) : Int) ∧ ((Q : Int) + 4) = ((Q + 4 : Nat) : Int)) := ⟨by omega, by omega⟩
      have HE5 : Hid (((Q : Int) + 1 + 1 + 1 + 1 + 1) = ((Q + 5 : Nat) : Int) ∧ ((Q : Int) + 4 + 1) = ((Q + 5 : Nat) : Int) ∧ ((Q : Int) + 5) = ((Q + 5 : Nat) : Int) ∧ ((Q + 4 : Nat) : Int) + 1 = ((Q + 5 : Nat) : Int)) := ⟨by omega, by omega, by omega, by omega⟩
      obtain ⟨x, hx⟩ : ∃ x, mkT (Q + 4) = x := ⟨_, rfl⟩
      have HX : Hid (mkT (Q + 4) = x) := hx
      rw [hx] at c4'
      have HRP : Hid (RepL 0 wr (mrL tl (Q + 5)) tao ∧ tl.length ≤ tcap ∧ tcap ≤ maxLen) := ⟨hrp, htl, htc⟩
      have KC : Hid (∀ w1, Below wr.drew.heap.size wr.drew w1 → w1.cell? ⟨b, o + i * 6 + 4, none⟩ = some (.string x) ∧ w1.cell? ⟨b, o + i * 6 + 5, none⟩ = some (.slice tao tl.length tcap) ∧ Below wr.heap.size wr w1) := fun w1 h => by
        have h1 : Below wr.heap.size wr w1 := bundrewM h
        exact ⟨keepM h1 c4', keepM h1 c5', h1⟩
      clear hx hb hbx hrp htl htc c3 c4 c5
      go_wp2_with fail
      go_region_with (go_at_call 41; (first | rw [HE4.out.1] | rw [HE4.out.2]); refine (markText_any (Q + 4) (by omega) (by omega) _).mono ?_; rintro e w1 ⟨rfl, hb1⟩; rw [HX.out]; obtain ⟨k4, k5, hbw⟩ := KC.out w1 hb1; have HBW : Hid (Below wr.heap.size wr w1) := hbw; clear hb1 hbw)
      all_goals
        go_wp2_with (first | (go_at_call 81; (first | rw [HE5.out.1] | rw [HE5.out.2.1] | rw [HE5.out.2.2.1] | rw [HE5.out.2.2.2]); refine (heS_all tl _ tao tcap (Q + 5) (repL_below HRP.out.1 (by first | exact HBW.out | exact HBW.out.drew)) HRP.out.2.1 HRP.out.2.2 (by omega) HQB.out).mono ?_; rintro e w5 ⟨rfl, hb5⟩; have HB5 : Hid (Below w.heap.size w w5) := HB.out.trans (Below.mono (by first | exact HBW.out.trans (hb5.mono HBW.out.size) | exact HBW.out.trans ((bundrewM hb5).mono HBW.out.size)) HB.out.size); clear hb5))
        go_roundw
        case rel => exact ⟨i + 1, by omega, by go_num, by rw [HQN.out]; exact congrArg (Value.int .i64) (by omega), HB5.out⟩
        case measure => simp [intOf]; omega
    · have hil : i = l.length := by omega
      have HEQ : Hid (K + cG cS (l.take i) = K + cG cS l) := by show _ = _; rw [hil]; simp
      clear hil
      go_wp2_with fail
      go_ret
      exact ⟨ret_int (by have := HEQ.out; omega), HB.out⟩

/-! ### A system -/
def cP (p : Pl) : Nat := cG cI p.code + cG cA p.acts + cG cS p.out
def mrP (p : Pl) (K : Nat) : Pl := ⟨mrG mrI cI p.code K, mrG mrA cA p.acts (K + cG cI p.code), p.next, mrG mrS cS p.out (K + cG cI p.code + cG cA p.acts)⟩
/-- The three lists alone. -/
structure PlM (w : World) (p : Pl) (h : Pw) (b1 b2 b3 : List Nat) : Prop where
  code : GL eltI w p.code b1 h.ca
  acts : GL eltA w p.acts b2 h.aa
  out : GL eltS w p.out b3 h.oa

set_option maxHeartbeats 4000000 in
set_option maxRecDepth 100000 in
theorem markPlain_any (p : Pl) (h : Pw) (b1 b2 b3 : List Nat) (K : Nat) (w : World) (hm : PlM w p h b1 b2 b3) (hnd : (b1 ++ (b2 ++ b3)).Nodup) (hc : p.code.length ≤ maxLen) (ha : p.acts.length ≤ maxLen) (ho : p.out.length ≤ maxLen) (hK1 : 1 ≤ K) (hK : K + cP p ≤ 8999990) :
    Calls Tryz.prog 17 #[plV p h, .int .i64 K] w fun e w' => e = .returned (.int .i64 ((K + cP p : Nat) : Int)) ∧ PlM w' (mrP p K) h b1 b2 b3 ∧ OutB (b1 ++ (b2 ++ b3)) w w' := by
  obtain ⟨code, acts, next, out⟩ := p
  obtain ⟨ca, cc, aa, ac, oa, oc⟩ := h
  have hcP : cP ⟨code, acts, next, out⟩ = cG cI code + cG cA acts + cG cS out := rfl
  rw [hcP] at hK ⊢
  have d1 := List.nodup_append.1 hnd
  have d2 := List.nodup_append.1 d1.2.1
  have HG : Hid (b1.Nodup ∧ b2.Nodup ∧ b3.Nodup ∧ (∀ x ∈ b1, x ∉ b2) ∧ (∀ x ∈ b1, x ∉ b3) ∧ (∀ x ∈ b2, x ∉ b3)) := ⟨d1.1, d2.1, d2.2.1, fun x h1 h2 => d1.2.2 x h1 x (by simp [h2]) rfl, fun x h1 h2 => d1.2.2 x h1 x (by simp [h2]) rfl, fun x h1 h2 => d2.2.2 x h1 x h2 rfl⟩
  have HL : Hid (code.length ≤ maxLen ∧ acts.length ≤ maxLen ∧ out.length ≤ maxLen) := ⟨hc, ha, ho⟩
  obtain ⟨W, hW⟩ : ∃ W, W = w.alloc (.cells #[.slice ca code.length cc, .slice aa acts.length ac, .int .i64 next, .slice oa out.length oc] 32) := ⟨_, rfl⟩
  have hbW : Below w.heap.size w W := by rw [hW]; exact (Below.refl _ _).alloc (Nat.le_refl _) _
  have HM : Hid (GL eltI W code b1 ca ∧ GL eltA W acts b2 aa ∧ GL eltS W out b3 oa ∧ OutB (b1 ++ (b2 ++ b3)) w W) := ⟨hm.code.below hbW, hm.acts.below hbW, hm.out.below hbW, OutB.below hbW⟩
  have hnb : ∀ x ∈ b1 ++ (b2 ++ b3), x ≠ w.heap.size := fun x hx q => by
    rcases List.mem_append.1 hx with hx | hx
    · have := hm.code.lt x hx; omega
    · rcases List.mem_append.1 hx with hx | hx
      · have := hm.acts.lt x hx; omega
      · have := hm.out.lt x hx; omega
  have HNB : Hid (w.heap.size ∉ b1 ∧ w.heap.size ∉ b2) := ⟨fun hx => hnb _ (by simp [hx]) rfl, fun hx => hnb _ (by simp [hx]) rfl⟩
  have q : ∀ x, W.cell? ⟨w.heap.size, x, none⟩ = (#[.slice ca code.length cc, .slice aa acts.length ac, .int .i64 next, .slice oa out.length oc] : Array Value)[x]? := fun x => by rw [hW, World.cell?_alloc_new]
  have HQ : Hid (W.cell? ⟨w.heap.size, 1, none⟩ = some (.slice aa acts.length ac) ∧ W.cell? ⟨w.heap.size, 3, none⟩ = some (.slice oa out.length oc)) := ⟨q 1, q 3⟩
  clear hm hnd hc ha ho d1 d2 q hnb hbW hcP
  go_enter Tryz.func17, Tryz.ntmps17
  go_wp2_with (go_at_call 15; fail)
  rw [← hW]
  clear hW
  refine (markInsS_any code b1 ca cc K W HM.out.1 HG.out.1 HL.out.1 hK1 (by omega)).mono ?_
  rintro e w1 ⟨rfl, h1, o1⟩
  have H1 : Hid (GL eltI w1 (mrG mrI cI code K) b1 ca ∧ GL eltA w1 acts b2 aa ∧ GL eltS w1 out b3 oa ∧ OutB (b1 ++ (b2 ++ b3)) w w1) := ⟨h1, HM.out.2.1.keep (fun x hx hl => o1.block x hl (fun hx1 => HG.out.2.2.2.1 x hx1 hx)), HM.out.2.2.1.keep (fun x hx hl => o1.block x hl (fun hx1 => HG.out.2.2.2.2.1 x hx1 hx)), HM.out.2.2.2.trans (o1.wide (fun x hx => by simp [hx]))⟩
  have c1 := cellOut o1 HNB.out.1 HQ.out.1
  have c3 := cellOut o1 HNB.out.1 HQ.out.2
  clear h1 o1
  generalize hR1 : ((K + cG cI code : Nat) : Int) = Z1
  have HR1 : Hid (((K + cG cI code : Nat) : Int) = Z1) := hR1
  clear hR1
  go_wp2_with (go_at_call 43; fail)
  rw [← HR1.out]
  refine (markActorS_any acts b2 aa ac (K + cG cI code) w1 H1.out.2.1 HG.out.2.1 HL.out.2.1 (by omega) (by omega)).mono ?_
  rintro e w2 ⟨rfl, h2, o2⟩
  have H2 : Hid (GL eltI w2 (mrG mrI cI code K) b1 ca ∧ GL eltA w2 (mrG mrA cA acts (K + cG cI code)) b2 aa ∧ GL eltS w2 out b3 oa ∧ OutB (b1 ++ (b2 ++ b3)) w w2) := ⟨H1.out.1.keep (fun x hx hl => o2.block x hl (HG.out.2.2.2.1 x hx)), h2, H1.out.2.2.1.keep (fun x hx hl => o2.block x hl (fun hx2 => HG.out.2.2.2.2.2 x hx2 hx)), H1.out.2.2.2.trans (o2.wide (fun x hx => by simp [hx]))⟩
  have e3 := cellOut o2 HNB.out.2 c3
  clear h2 o2 c1 c3
  generalize hR2 : ((K + cG cI code + cG cA acts : Nat) : Int) = Z2
  have HR2 : Hid (((K + cG cI code + cG cA acts : Nat) : Int) = Z2) := hR2
  clear hR2
  go_wp2_with (go_at_call 44; fail)
  rw [← HR2.out]
  refine (markSaidS_any out b3 oa oc (K + cG cI code + cG cA acts) w2 H2.out.2.2.1 HG.out.2.2.1 HL.out.2.2 (by omega) (by omega)).mono ?_
  rintro e w3 ⟨rfl, h3, o3⟩
  have H3 : Hid (PlM w3 (mrP ⟨code, acts, next, out⟩ K) ⟨ca, cc, aa, ac, oa, oc⟩ b1 b2 b3 ∧ OutB (b1 ++ (b2 ++ b3)) w w3) := ⟨⟨H2.out.1.keep (fun x hx hl => o3.block x hl (HG.out.2.2.2.2.1 x hx)), H2.out.2.1.keep (fun x hx hl => o3.block x hl (HG.out.2.2.2.2.2 x hx)), h3⟩, H2.out.2.2.2.trans (o3.wide (fun x hx => by simp [hx]))⟩
  clear h3 o3 e3
  generalize hR3 : ((K + cG cI code + cG cA acts + cG cS out : Nat) : Int) = Z3
  have HR3 : Hid (((K + (cG cI code + cG cA acts + cG cS out) : Nat) : Int) = Z3) := by show _ = _; rw [← hR3]; omega
  clear hR3
  go_wp2_with fail
  go_ret
  exact ⟨ret_int HR3.out.symm, H3.out.1, H3.out.2⟩

set_option maxHeartbeats 4000000 in
set_option maxRecDepth 100000 in
theorem heldPlain_any (p : Pl) (h : Pw) (K : Nat) (w : World) (hI : RowI w h.ca (mrP p K).code) (hA : RowA w h.aa (mrP p K).acts) (hO : RowS w h.oa (mrP p K).out) (hc : p.code.length ≤ maxLen) (ha : p.acts.length ≤ maxLen) (ho : p.out.length ≤ maxLen) (hK1 : 1 ≤ K) (hK : K + cP p ≤ 8999990) :
    Calls Tryz.prog 18 #[plV p h, .int .i64 K] w fun e w' => e = .returned (.int .i64 ((K + cP p : Nat) : Int)) ∧ Below w.heap.size w w' := by
  obtain ⟨code, acts, next, out⟩ := p
  obtain ⟨ca, cc, aa, ac, oa, oc⟩ := h
  have hcP : cP ⟨code, acts, next, out⟩ = cG cI code + cG cA acts + cG cS out := rfl
  rw [hcP] at hK ⊢
  have HL : Hid (code.length ≤ maxLen ∧ acts.length ≤ maxLen ∧ out.length ≤ maxLen) := ⟨hc, ha, ho⟩
  obtain ⟨W, hW⟩ : ∃ W, W = w.alloc (.cells #[.slice ca code.length cc, .slice aa acts.length ac, .int .i64 next, .slice oa out.length oc] 32) := ⟨_, rfl⟩
  have hbW : Below w.heap.size w W := by rw [hW]; exact (Below.refl _ _).alloc (Nat.le_refl _) _
  have HBW : Hid (Below w.heap.size w W) := hbW
  have HM : Hid (RowI W ca (mrG mrI cI code K) ∧ RowA W aa (mrG mrA cA acts (K + cG cI code)) ∧ RowS W oa (mrG mrS cS out (K + cG cI code + cG cA acts))) := ⟨RowI.below hI hbW, RowA.below hA hbW, RowS.below hO hbW⟩
  have q : ∀ x, W.cell? ⟨w.heap.size, x, none⟩ = (#[.slice ca code.length cc, .slice aa acts.length ac, .int .i64 next, .slice oa out.length oc] : Array Value)[x]? := fun x => by rw [hW, World.cell?_alloc_new]
  have HQ : Hid (W.cell? ⟨w.heap.size, 1, none⟩ = some (.slice aa acts.length ac) ∧ W.cell? ⟨w.heap.size, 3, none⟩ = some (.slice oa out.length oc)) := ⟨q 1, q 3⟩
  clear hI hA hO hc ha ho q hbW hcP
  go_enter Tryz.func18, Tryz.ntmps18
  go_wp2_with (go_at_call 45; fail)
  rw [← hW]
  clear hW
  refine (heldInsS_any code ca cc K W HM.out.1 HL.out.1 hK1 (by omega)).mono ?_
  rintro e w1 ⟨rfl, hb1⟩
  have HB1 : Hid (Below W.heap.size W w1) := hb1
  have c1 := keepM hb1 HQ.out.1
  clear hb1
  generalize hR1 : ((K + cG cI code : Nat) : Int) = Z1
  have HR1 : Hid (((K + cG cI code : Nat) : Int) = Z1) := hR1
  have hz1 : ¬ Z1 < 0 := by omega
  clear hR1
  go_wp2_with (go_at_call 46; fail)
  rw [← HR1.out]
  refine (heldActorS_any acts aa ac (K + cG cI code) w1 (HM.out.2.1.below HB1.out) HL.out.2.1 (by omega) (by omega)).mono ?_
  rintro e w2 ⟨rfl, hb2⟩
  have HB2 : Hid (Below W.heap.size W w2) := HB1.out.trans (hb2.mono HB1.out.size)
  have c3 := keepM HB2.out HQ.out.2
  clear hb2 c1
  generalize hR2 : ((K + cG cI code + cG cA acts : Nat) : Int) = Z2
  have HR2 : Hid (((K + cG cI code + cG cA acts : Nat) : Int) = Z2) := hR2
  have hz2 : ¬ Z2 < 0 := by omega
  clear hR2
  go_wp2_with (go_at_call 47; fail)
  rw [← HR2.out]
  refine (heldSaidS_any out oa oc (K + cG cI code + cG cA acts) w2 (HM.out.2.2.below HB2.out) HL.out.2.2 (by omega) (by omega)).mono ?_
  rintro e w3 ⟨rfl, hb3⟩
  have HB3 : Hid (Below w.heap.size w w3) := HBW.out.trans ((HB2.out.trans (hb3.mono HB2.out.size)).mono HBW.out.size)
  clear hb3 c3
  generalize hR3 : ((K + cG cI code + cG cA acts + cG cS out : Nat) : Int) = Z3
  have HR3 : Hid (((K + (cG cI code + cG cA acts + cG cS out) : Nat) : Int) = Z3) := by show _ = _; rw [← hR3]; omega
  have hz3 : ¬ Z3 < 0 := by omega
  clear hR3
  go_wp2_with fail
  go_ret
  exact ⟨ret_int HR3.out.symm, HB3.out⟩
end Go.Proofs.YtjibnlpjpbileaaGreatDoor
namespace Go.Proofs.YtjibnlpjpbileaaGreatDoor.Code
open Go.RowKit
open Go.Proofs.YtjibnlpjpbileaaGreatDoor.Atom
set_option linter.unusedVariables false

/-- The purse: what is left of it says that all was small. -/
theorem szInsS_len (l : List I) (ao : Option Addr) (cap : Nat) (w : World) (hr : RowI w ao l) (hs : SmI maxLen l) (hl : l.length ≤ maxLen) :
    Calls Tryz.prog 6 #[.slice ao l.length cap, .int .i64 1048576] w fun e w' => (∃ r : Int, e = .returned (.int .i64 r) ∧ (0 ≤ r → r ≤ 1048576 - (l.length : Int) ∧ l.length ≤ 1048576 ∧ SmI 1048576 l)) ∧ Below w.heap.size w w' := by
  unfold maxLen at hl
  by_cases hbig : (1048576 : Int) - l.length < 0
  · go_enter Tryz.func6, Tryz.ntmps6
    go_wp2
    go_ret
    exact ⟨⟨-1, rfl, fun h => absurd h (by decide)⟩, Below.refl _ _⟩
  · have HL : Hid (l.length ≤ 1048576) := by show _ ≤ _; omega
    have HRW : Hid (RowI w ao l) := hr
    clear hr
    go_enter Tryz.func6, Tryz.ntmps6
    go_wp2_with fail
    go_loopw [1, 5] (fun v i wr => ∃ (k : Nat) (r : Int), k ≤ l.length ∧ i = .int .i64 k ∧ v = .int .i64 r ∧ 0 ≤ r ∧ r ≤ 1048576 ∧ Hid (r ≤ 1048576 - (l.length : Int)) ∧ SmI 1048576 (l.take k) ∧ Below w.heap.size w wr) (fun v i wr => l.length - (intOf i).toNat)
    case atStart => exact ⟨0, (1048576 : Int) - l.length, Nat.zero_le _, rfl, rfl, by omega, by omega, Int.le_refl _, (by intro x hx; simp at hx), Below.refl _ _⟩
    case round =>
      obtain ⟨k, r, hk, rfl, rfl, hr0, hr1, hrl, hsm, hbr⟩ := hrel
      have HBR : Hid (Below w.heap.size w wr) := hbr
      have HSM : Hid (SmI 1048576 (l.take k)) := hsm
      clear hbr hsm
      by_cases hlt : k < l.length
      · rcases HRW.out with h | ⟨b, o, rfl, hrow⟩
        · rw [h] at hlt; simp at hlt
        have hbx := (hrow k hlt).below HBR.out
        have hsx := hs l[k] (List.getElem_mem hlt)
        have HTK : Hid ((l[k]).s.size ≤ 1048576 → SmI 1048576 (l.take (k + 1))) := fun h x hx => by
          rw [List.take_succ_eq_append_getElem hlt, List.mem_append] at hx
          rcases hx with hx | hx
          · exact HSM.out x hx
          · simp at hx; rw [hx]; exact h
        generalize l[k] = x at hbx hsx HTK
        obtain ⟨op, xa, xb, xc, xn, xs⟩ := x
        have d0 := hbx.c0
        have d1 := hbx.c1
        have d2 := hbx.c2
        have d3 := hbx.c3
        have d4 := hbx.c4
        have d5 := hbx.c5
        clear hbx hrow
        have hsx' : xs.size ≤ maxLen := hsx
        by_cases hq : r < (xs.size : Int)
        · have hL : leftS r xs.size = -1 := if_pos hq
          have HSZ : Hid (∀ w', Calls Tryz.prog 25 #[.agg #[.int .i64 op, .int .i64 xa, .int .i64 xb, .int .i64 xc, .int .i64 xn, .string xs], .int .i64 r] w' fun e w'' => e = .returned (.int .i64 (-1)) ∧ Below w'.heap.size w' w'') := fun w' => by
            have := szIns_any op xa xb xc xn xs r w' hr0 hr1 hsx'
            rw [hL] at this; exact this
          clear hL
          go_wp2_with (go_at_call 25; refine (HSZ.out _).mono ?_; rintro e w3 ⟨rfl, hb3⟩; have HB3 : Hid (Below w.heap.size w w3) := HBR.out.trans (hb3.mono HBR.out.size); clear hb3)
          go_ret
          exact ⟨⟨-1, rfl, fun h => absurd h (by decide)⟩, HB3.out⟩
        · have hL : leftS r xs.size = r - xs.size := if_neg hq
          obtain ⟨r', hr'⟩ : ∃ r', r' = r - (xs.size : Int) := ⟨_, rfl⟩
          have HSZ : Hid (∀ w', Calls Tryz.prog 25 #[.agg #[.int .i64 op, .int .i64 xa, .int .i64 xb, .int .i64 xc, .int .i64 xn, .string xs], .int .i64 r] w' fun e w'' => e = .returned (.int .i64 r') ∧ Below w'.heap.size w' w'') := fun w' => by
            have := szIns_any op xa xb xc xn xs r w' hr0 hr1 hsx'
            rw [hL, ← hr'] at this; exact this
          have h0' : 0 ≤ r' := by omega
          have h1' : r' ≤ 1048576 := by omega
          have HRL : Hid (r' ≤ 1048576 - (l.length : Int)) := by show _ ≤ _; have := hrl.out; omega
          have HXS : Hid (xs.size ≤ 1048576) := by show _ ≤ _; omega
          clear hL hr' hq
          go_wp2_with (go_at_call 25; refine (HSZ.out _).mono ?_; rintro e w3 ⟨rfl, hb3⟩; have HB3 : Hid (Below w.heap.size w w3) := HBR.out.trans (hb3.mono HBR.out.size); clear hb3)
          go_roundw
          case rel => exact ⟨k + 1, r', by omega, by go_num, rfl, h0', h1', HRL, HTK.out HXS.out, HB3.out⟩
          case measure => simp [intOf]; omega
      · have HF : Hid (SmI 1048576 l) := by
          have := HSM.out
          rw [List.take_of_length_le (by omega)] at this; exact this
        go_wp2
        go_ret
        exact ⟨⟨r, rfl, fun _ => ⟨hrl.out, HL.out, HF.out⟩⟩, HBR.out⟩

end Go.Proofs.YtjibnlpjpbileaaGreatDoor.Code
namespace Go.Proofs.YtjibnlpjpbileaaGreatDoor
open Go.RowKit Atom
open Go.Proofs.YtjibnlpjpbileaaGreatDoor.Code
set_option linter.unusedVariables false

theorem stS_e0 : StS e0T := by
  unfold e0T
  rw [StS]
  exact ⟨by decide, by decide, fun t ht => by cases ht⟩
theorem stL_new {t : Tm} (h : StS t) : StL (nwR 1 0 t) := by
  unfold nwR
  split
  · refine ⟨by simp [seven], fun x hx => ?_⟩
    rcases List.mem_cons.1 hx with rfl | hx
    · exact h
    · rw [List.eq_of_mem_replicate hx]; exact stS_e0
  · exact ⟨by simp, fun x hx => by cases hx⟩
theorem nPl_S {code : List I} {t : Tm} (hl : code.length ≤ 1048576) (hs : SmI 1048576 code) (h : StS t) : PlS (nPl code t) := by
  refine ⟨hl, hs, by show 1 ≤ _; omega, fun x hx => ?_, by show 1 ≤ _; omega, fun x hx => ?_⟩
  · have : x = newA t := List.mem_singleton.1 hx
    subst this
    exact ⟨stL_new h, ⟨Nat.zero_le _, fun x hx => by cases hx⟩, Nat.zero_le _⟩
  · have : x = ⟨1, 1, t⟩ := List.mem_singleton.1 hx
    subst this
    exact h
theorem aPl_S {code : List I} {t : Tm} (hl : code.length ≤ 1048576) (hs : SmI 1048576 code) (h : StS t) : PlS (aPl code t) := by
  unfold aPl
  split
  · exact nPl_S hl hs h
  · exact ⟨Nat.zero_le _, (fun x hx => by cases hx), Nat.zero_le _, (fun x hx => by cases hx), Nat.zero_le _, (fun x hx => by cases hx)⟩
mutual
theorem cT_nt9 : ∀ (k n : Int) (s : ByteArray) (l : List Tm), cT (.mk k n s l) = 3 * (1 + ntL l)
  | k, n, s, l => by rw [cT, cL_nt9 l]; omega
theorem cL_nt9 : ∀ (l : List Tm), cL l = 3 * ntL l
  | [] => by rw [cL, ntL]
  | .mk k n s l :: r => by rw [cL, ntL, cL_nt9 r, cT_nt9 k n s l]; omega
end
theorem cG_code : ∀ l : List I, cG cI l = 6 * l.length
  | [] => rfl
  | x :: r => by rw [cG, cG_code r, List.length_cons]; unfold cI; omega
theorem cP_new {code : List I} {k n : Int} {s : ByteArray} {l : List Tm} (h : code.length + ntL l ≤ 1048576) : cP (aPl code (.mk k n s l)) ≤ 6300000 := by
  unfold aPl
  split
  · unfold cP nPl
    show cG cI code + (cA (newA (.mk k n s l)) + 0) + (cS ⟨1, 1, .mk k n s l⟩ + 0) ≤ _
    have h1 : cS ⟨1, 1, .mk k n s l⟩ = 5 + 3 * ntL l := by show 5 + cL l = _; rw [cL_nt9]
    have h2 : cA (newA (.mk k n s l)) ≤ 2 + 3 * (1 + ntL l + 7) := by
      unfold cA newA
      show 2 + cL (nwR 1 0 (.mk k n s l)) + cL [] + 0 ≤ _
      have h3 : ntL (nwR 1 0 (.mk k n s l)) ≤ 1 + ntL l + 7 := by
        unfold nwR
        split
        · have h7 : ntL seven = 7 := by unfold seven e0T; simp [List.replicate, ntL]
          rw [ntL, h7]; omega
        · rw [ntL]; omega
      rw [cL_nt9, cL_nt9, ntL]; omega
    rw [h1, cG_code]; omega
  · show 0 + 0 + 0 ≤ _; omega
end Go.Proofs.YtjibnlpjpbileaaGreatDoor
namespace Go.Proofs.YtjibnlpjpbileaaGreatDoor
open Go.RowKit Atom
open Go.Proofs.YtjibnlpjpbileaaGreatDoor.Code
set_option linter.unusedVariables false

theorem zL_sts {l : List Tm} {a : Int} (h0 : 0 ≤ a) (h1 : a ≤ 1048576) (h2 : 0 ≤ zL l a) : StL l ∧ zL l a + (ntL l : Int) ≤ a := by
  unfold zL at h2 ⊢
  split at h2
  · omega
  · rename_i hq
    rw [if_neg hq]
    have h3 := szGo_nt l (a - l.length) (by omega) h2
    have h4 := ntL_eq l
    refine ⟨⟨by omega, ?_⟩, by omega⟩
    have go : ∀ (m : List Tm) (c : Int), 0 ≤ c → c ≤ 1048576 → 0 ≤ szGo m c → ∀ t, t ∈ m → StS t := by
      intro m
      induction m with
      | nil => intro c _ _ _ t ht; cases ht
      | cons x r ihr =>
        intro c h0 h1 hz t ht
        rw [szGo] at hz
        have hx := szT_le x c h0
        split at hz
        · omega
        · rcases List.mem_cons.1 ht with rfl | ht
          · exact sz_sts t c h0 h1 (by omega)
          · exact ihr (szT x c) (by omega) (by omega) hz t ht
    exact go l _ (by omega) (by omega) h2
/-- How many terms and numbers an actor has. -/
def ntA (a : Ac) : Nat := ntL a.regs + ntL a.box + a.N

set_option maxHeartbeats 1000000 in
set_option maxRecDepth 100000 in
theorem szActorQ_any (a : Ac) (h : Wh) (left : Int) (w : World) (hr : AcR w a h) (h0 : 0 ≤ left) (h1 : left ≤ 1048576) :
    Calls Tryz.prog 83 #[acV a h, .int .i64 left] w fun e w' => (∃ r : Int, e = .returned (.int .i64 r) ∧ -1 ≤ r ∧ r ≤ left ∧ (0 ≤ r → AcT a ∧ r + (ntA a : Int) ≤ left)) ∧ Below w.heap.size w w' := by
  obtain ⟨pid, pc, regs, box, N, f⟩ := a
  obtain ⟨ra, rc, ba, bc, la, lc⟩ := h
  have HR : Hid (AcR w ⟨pid, pc, regs, box, N, f⟩ ⟨ra, rc, ba, bc, la, lc⟩) := hr
  have hn := Nat.le_trans hr.l1 hr.l2
  have HN : Hid (N ≤ maxLen) := hn
  clear hr hn
  obtain ⟨w0, hw0⟩ : ∃ w0, w0 = w.alloc (.cells #[.int .i64 pid, .int .i64 pc, .slice ra regs.length rc, .slice ba box.length bc, .slice la N lc] 118) := ⟨_, rfl⟩
  have HB0 : Hid (Below w.heap.size w w0) := by rw [hw0]; exact (Below.refl _ _).alloc (Nat.le_refl _) _
  have hq : ∀ j (v : Value), (#[.int .i64 pid, .int .i64 pc, .slice ra regs.length rc, .slice ba box.length bc, .slice la N lc] : Array Value)[j]? = some v → w0.cell? ⟨w.heap.size, j, none⟩ = some v := fun j v hv => by
    rw [hw0, World.cell?_alloc_new]; exact hv
  have HC : Hid (∀ w1, Below w0.heap.size w0 w1 → w1.cell? ⟨w.heap.size, 2, none⟩ = some (.slice ra regs.length rc) ∧ w1.cell? ⟨w.heap.size, 3, none⟩ = some (.slice ba box.length bc) ∧ w1.cell? ⟨w.heap.size, 4, none⟩ = some (.slice la N lc)) := fun w1 hb =>
    ⟨keepA hb (hq 2 _ rfl), keepA hb (hq 3 _ rfl), keepA hb (hq 4 _ rfl)⟩
  clear hq
  go_enter Tryz.func83, Tryz.ntmps83
  go_wp2_with fail
  rw [← hw0]
  clear hw0
  have z1 := zL_le regs left h0
  have HS1 : Hid (0 ≤ zL regs left → StL regs ∧ zL regs left + (ntL regs : Int) ≤ left) := fun h => zL_sts h0 h1 h
  refine (szL_any regs ra rc left w0 (HR.out.below HB0.out).regs HR.out.r1 HR.out.r2 h0 h1).mono ?_
  rintro e w1 ⟨rfl, hb1⟩
  have HB1 : Hid (Below w0.heap.size w0 w1) := hb1
  have HX1 : Hid (Below w.heap.size w w1) := HB0.out.trans (hb1.mono HB0.out.size)
  obtain ⟨_, d3, _⟩ := HC.out w1 hb1
  clear hb1
  generalize zL regs left = x1 at *
  by_cases hx1 : x1 < 0
  · go_wp2_with fail
    go_ret
    exact ⟨⟨-1, rfl, by omega, by omega, fun h => absurd h (by decide)⟩, HX1.out⟩
  · go_wp2_with fail
    have z2 := zL_le box x1 (by omega)
    have HS2 : Hid (0 ≤ zL box x1 → StL box ∧ zL box x1 + (ntL box : Int) ≤ x1) := fun h => zL_sts (by omega) (by omega) h
    refine (szL_any box ba bc x1 w1 (HR.out.below HX1.out).box HR.out.b1 HR.out.b2 (by omega) (by omega)).mono ?_
    rintro e w2 ⟨rfl, hb2⟩
    have HB2 : Hid (Below w0.heap.size w0 w2) := HB1.out.trans (hb2.mono HB1.out.size)
    have HX2 : Hid (Below w.heap.size w w2) := HX1.out.trans (hb2.mono HX1.out.size)
    obtain ⟨_, _, d4⟩ := HC.out w2 HB2.out
    clear hb2 d3
    generalize zL box x1 = x2 at *
    by_cases hx2 : x2 < 0
    · go_wp2_with fail
      go_ret
      exact ⟨⟨-1, rfl, by omega, by omega, fun h => absurd h (by decide)⟩, HX2.out⟩
    · go_wp2_with fail
      refine (szIntS_any la N lc x2 HN.out (by omega) w2).mono ?_
      rintro e w3 ⟨rfl, hw3⟩
      obtain rfl := hw3.symm
      have HS3 : Hid (0 ≤ szI N x2 → N ≤ 1048576 ∧ szI N x2 + (N : Int) ≤ x2) := fun h => by unfold szI at h ⊢; split at h <;> rename_i hq <;> first | omega | (rw [if_neg hq]; omega)
      have z3 : szI N x2 ≤ x2 := by unfold szI; split <;> omega
      have z4 := szI_ge N x2
      generalize szI N x2 = x3 at *
      by_cases hx3 : x3 < 0
      · go_wp2_with fail
        go_ret
        exact ⟨⟨-1, rfl, by omega, by omega, fun h => absurd h (by decide)⟩, HX2.out⟩
      · have HALL : Hid (AcT ⟨pid, pc, regs, box, N, f⟩ ∧ x3 + (ntA ⟨pid, pc, regs, box, N, f⟩ : Int) ≤ left) := by
          have a1 := HS1.out (by omega)
          have a2 := HS2.out (by omega)
          have a3 := HS3.out (by omega)
          refine ⟨⟨a1.1, a2.1, a3.1⟩, ?_⟩
          have : ntA ⟨pid, pc, regs, box, N, f⟩ = ntL regs + ntL box + N := rfl
          rw [this]
          omega
        go_wp2_with fail
        go_ret
        exact ⟨⟨x3, rfl, by omega, by omega, fun _ => HALL.out⟩, HX2.out⟩

def ntAs (l : List Ac) : Nat := (l.map ntA).sum
theorem ntAs_take {l : List Ac} {k : Nat} (h : k < l.length) : ntAs (l.take (k + 1)) = ntAs (l.take k) + ntA l[k] := by
  unfold ntAs
  rw [List.take_succ_eq_append_getElem h, List.map_append, List.sum_append]; simp

set_option maxHeartbeats 1000000 in
set_option maxRecDepth 100000 in
theorem szActorS_any (l : List Ac) (ao : Option Addr) (cap : Nat) (left : Int) (w : World) (hr : RowA w ao l) (hl : l.length ≤ maxLen) (h0 : 0 ≤ left) (h1 : left ≤ 1048576) :
    Calls Tryz.prog 48 #[.slice ao l.length cap, .int .i64 left] w fun e w' => (∃ r : Int, e = .returned (.int .i64 r) ∧ r ≤ left ∧ (0 ≤ r → l.length ≤ 1048576 ∧ (∀ a ∈ l, AcT a) ∧ r + (l.length : Int) + (ntAs l : Int) ≤ left)) ∧ Below w.heap.size w w' := by
  unfold maxLen at hl
  by_cases hbig : left - l.length < 0
  · go_enter Tryz.func48, Tryz.ntmps48
    go_wp2
    go_ret
    exact ⟨⟨-1, rfl, by omega, fun h => absurd h (by decide)⟩, Below.refl _ _⟩
  · have HRW : Hid (RowA w ao l) := hr
    clear hr
    obtain ⟨L, hL⟩ : ∃ L, L = left - (l.length : Int) := ⟨_, rfl⟩
    have ew : IntKind.i64.wrap (left - (l.length : Int)) = L := by rw [IntKind.wrap_i64]; omega
    have hL0 : ¬ L < 0 := by omega
    have HLL : Hid (L = left - (l.length : Int)) := hL
    go_enter Tryz.func48, Tryz.ntmps48
    go_wp2_with fail
    go_loopw [1, 5] (fun v i wr => ∃ (k : Nat) (r : Int), k ≤ l.length ∧ i = .int .i64 k ∧ v = .int .i64 r ∧ 0 ≤ r ∧ r + (ntAs (l.take k) : Int) ≤ L ∧ (∀ a ∈ l.take k, AcT a) ∧ Below w.heap.size w wr) (fun v i wr => l.length - (intOf i).toNat)
    case atStart => exact ⟨0, L, Nat.zero_le _, rfl, by congr 1; omega, by omega, by simp [ntAs], (by intro x hx; simp at hx), Below.refl _ _⟩
    case round =>
      obtain ⟨k, r, hk, rfl, rfl, hr0, hr1, hsm, hbr⟩ := hrel
      have HBR : Hid (Below w.heap.size w wr) := hbr
      have HSM : Hid (∀ a ∈ l.take k, AcT a) := hsm
      have HR1 : Hid (r + (ntAs (l.take k) : Int) ≤ L) := hr1
      have hrL : r ≤ 1048576 := by omega
      clear hbr hsm hr1
      by_cases hlt : k < l.length
      · rcases HRW.out.below HBR.out with h | ⟨b, o, rfl, hrow⟩
        · rw [h] at hlt; simp at hlt
        obtain ⟨hh, hbx, hac⟩ := hrow k hlt
        have HTK : Hid (AcT l[k] → ∀ a ∈ l.take (k + 1), AcT a) := fun h x hx => by
          rw [List.take_succ_eq_append_getElem hlt, List.mem_append] at hx
          rcases hx with hx | hx
          · exact HSM.out x hx
          · simp at hx; rw [hx]; exact h
        have HNT : Hid (ntAs (l.take (k + 1)) = ntAs (l.take k) + ntA l[k]) := ntAs_take hlt
        have HC : Hid (Calls Tryz.prog 83 #[acV l[k] hh, .int .i64 r] wr fun e w' => (∃ r' : Int, e = .returned (.int .i64 r') ∧ -1 ≤ r' ∧ r' ≤ r ∧ (0 ≤ r' → AcT l[k] ∧ r' + (ntA l[k] : Int) ≤ r)) ∧ Below wr.heap.size wr w') := szActorQ_any l[k] hh r wr hac hr0 hrL
        generalize l[k] = x at hbx HTK HNT HC
        obtain ⟨pid, pc, regs, box, N, f⟩ := x
        obtain ⟨ra, rc, ba, bc, la, lc⟩ := hh
        have d0 := hbx.c0
        have d1 := hbx.c1
        have d2 := hbx.c2
        have d3 := hbx.c3
        have d4 := hbx.c4
        clear hbx hrow hac
        go_wp2_with fail
        refine HC.out.mono ?_
        rintro e w3 ⟨⟨r', rfl, h3, h4, h5⟩, hb3⟩
        have HB3 : Hid (Below w.heap.size w w3) := HBR.out.trans (hb3.mono HBR.out.size)
        have H5 : Hid (0 ≤ r' → AcT ⟨pid, pc, regs, box, N, f⟩ ∧ r' + (ntA ⟨pid, pc, regs, box, N, f⟩ : Int) ≤ r) := h5
        clear hb3 h5 d0 d1 d2 d3 d4
        by_cases hneg : r' < 0
        · go_wp2_with fail
          go_ret
          exact ⟨⟨-1, rfl, by omega, fun h => absurd h (by decide)⟩, HB3.out⟩
        · have HG : Hid (r' + (ntAs (l.take (k + 1)) : Int) ≤ L ∧ ∀ a ∈ l.take (k + 1), AcT a) := by
            have a1 := H5.out (by omega)
            have a2 := HNT.out
            have a3 := HR1.out
            exact ⟨by omega, HTK.out a1.1⟩
          go_wp2_with fail
          go_roundw
          case rel => exact ⟨k + 1, r', by omega, by go_num, rfl, by omega, HG.out.1, HG.out.2, HB3.out⟩
          case measure => simp [intOf]; omega
      · have HF : Hid (l.length ≤ 1048576 ∧ (∀ a ∈ l, AcT a) ∧ r + (l.length : Int) + (ntAs l : Int) ≤ left) := by
          have a1 := HSM.out
          have a2 := HR1.out
          have a3 := HLL.out
          rw [List.take_of_length_le (by omega)] at a1 a2
          exact ⟨by omega, a1, by omega⟩
        have hrl : r ≤ left := by have := HF.out.2.2; omega
        go_wp2
        go_ret
        exact ⟨⟨r, rfl, hrl, fun _ => HF.out⟩, HBR.out⟩

set_option maxHeartbeats 1000000 in
set_option maxRecDepth 100000 in
theorem szSaid_any (kind pid k n : Int) (s : ByteArray) (l : List Tm) (ao : Option Addr) (cap : Nat) (left : Int) (w : World) (hv : RepV 0 w (.mk k n s l) (.agg #[.int .i64 k, .int .i64 n, .string s, .slice ao l.length cap])) (h0 : 0 ≤ left) (h1 : left ≤ 1048576) :
    Calls Tryz.prog 84 #[sdV kind pid k n s ao l.length cap, .int .i64 left] w fun e w' => (∃ r : Int, e = .returned (.int .i64 r) ∧ -1 ≤ r ∧ r ≤ left ∧ (0 ≤ r → StS (.mk k n s l) ∧ r + (ntL l : Int) ≤ left)) ∧ Below w.heap.size w w' := by
  have HV : Hid (RepV 0 w (.mk k n s l) (.agg #[.int .i64 k, .int .i64 n, .string s, .slice ao l.length cap])) := hv
  clear hv
  have z1 := szT_le (.mk k n s l) left h0
  have HS1 : Hid (0 ≤ szT (.mk k n s l) left → StS (.mk k n s l)) := fun h => sz_sts _ left h0 h1 h
  have HS2 : Hid (0 ≤ szT (.mk k n s l) left → szT (.mk k n s l) left + (ntL l : Int) ≤ left) := fun h => by
    show _ ≤ _
    rw [szT] at h ⊢
    split at h
    · omega
    · rename_i q1
      rw [if_neg q1]
      split at h
      · omega
      · rename_i q2
        rw [if_neg q2]
        have h5 := szGo_nt l (left - s.size - l.length) (by omega) h
        have h6 := ntL_eq l
        omega
  go_enter Tryz.func84, Tryz.ntmps84
  go_wp2_with fail
  refine (szT_all (.mk k n s l) 0 _ _ left ((Keeps.below ?_ 0).repV HV.out) h0 h1).mono ?_
  · exact (Below.refl _ _).alloc (Nat.le_refl _) _
  rintro e w1 ⟨rfl, hb1⟩
  have HB1 : Hid (Below w.heap.size w w1) := ((Below.refl _ _).alloc (Nat.le_refl _) _).trans (hb1.mono (by simp))
  clear hb1
  generalize szT (.mk k n s l) left = x at *
  by_cases hx : x < 0
  · go_wp2_with fail
    go_ret
    exact ⟨⟨-1, rfl, by omega, by omega, fun h => absurd h (by decide)⟩, HB1.out⟩
  · go_wp2_with fail
    go_ret
    exact ⟨⟨x, rfl, by omega, by omega, fun h => ⟨HS1.out h, HS2.out h⟩⟩, HB1.out⟩

/-- How many terms were said. -/
def ntX (x : Sd) : Nat := ntL [x.t]
def ntXs (l : List Sd) : Nat := (l.map ntX).sum
theorem ntXs_take {l : List Sd} {k : Nat} (h : k < l.length) : ntXs (l.take (k + 1)) = ntXs (l.take k) + ntX l[k] := by
  unfold ntXs
  rw [List.take_succ_eq_append_getElem h, List.map_append, List.sum_append]; simp

set_option maxHeartbeats 1000000 in
set_option maxRecDepth 100000 in
theorem szSaidS_any (l : List Sd) (ao : Option Addr) (cap : Nat) (left : Int) (w : World) (hr : RowS w ao l) (hl : l.length ≤ maxLen) (h0 : 0 ≤ left) (h1 : left ≤ 1048576) :
    Calls Tryz.prog 49 #[.slice ao l.length cap, .int .i64 left] w fun e w' => (∃ r : Int, e = .returned (.int .i64 r) ∧ r ≤ left ∧ (0 ≤ r → l.length ≤ 1048576 ∧ (∀ a ∈ l, StS a.t) ∧ r + (ntXs l : Int) ≤ left)) ∧ Below w.heap.size w w' := by
  unfold maxLen at hl
  by_cases hbig : left - l.length < 0
  · go_enter Tryz.func49, Tryz.ntmps49
    go_wp2
    go_ret
    exact ⟨⟨-1, rfl, by omega, fun h => absurd h (by decide)⟩, Below.refl _ _⟩
  · have HRW : Hid (RowS w ao l) := hr
    clear hr
    obtain ⟨L, hL⟩ : ∃ L, L = left - (l.length : Int) := ⟨_, rfl⟩
    have ew : IntKind.i64.wrap (left - (l.length : Int)) = L := by rw [IntKind.wrap_i64]; omega
    have hL0 : ¬ L < 0 := by omega
    have HLL : Hid (L = left - (l.length : Int)) := hL
    go_enter Tryz.func49, Tryz.ntmps49
    go_wp2_with fail
    go_loopw [1, 5] (fun v i wr => ∃ (k : Nat) (r : Int), k ≤ l.length ∧ i = .int .i64 k ∧ v = .int .i64 r ∧ 0 ≤ r ∧ r + (ntXs (l.take k) : Int) ≤ L + (k : Int) ∧ r ≤ L ∧ (∀ a ∈ l.take k, StS a.t) ∧ Below w.heap.size w wr) (fun v i wr => l.length - (intOf i).toNat)
    case atStart => exact ⟨0, L, Nat.zero_le _, rfl, by congr 1; omega, by omega, by simp [ntXs], by omega, (by intro x hx; simp at hx), Below.refl _ _⟩
    case round =>
      obtain ⟨k, r, hk, rfl, rfl, hr0, hr1, hr2, hsm, hbr⟩ := hrel
      have HBR : Hid (Below w.heap.size w wr) := hbr
      have HSM : Hid (∀ a ∈ l.take k, StS a.t) := hsm
      have HR1 : Hid (r + (ntXs (l.take k) : Int) ≤ L + (k : Int)) := hr1
      have HR2 : Hid (r ≤ L) := hr2
      have hrL : r ≤ 1048576 := by omega
      clear hbr hsm hr1 hr2
      by_cases hlt : k < l.length
      · rcases HRW.out.below HBR.out with h | ⟨b, o, rfl, hrow⟩
        · rw [h] at hlt; simp at hlt
        have hbx := hrow k hlt
        have HTK : Hid (StS l[k].t → ∀ a ∈ l.take (k + 1), StS a.t) := fun h x hx => by
          rw [List.take_succ_eq_append_getElem hlt, List.mem_append] at hx
          rcases hx with hx | hx
          · exact HSM.out x hx
          · simp at hx; rw [hx]; exact h
        have HNT : Hid (ntXs (l.take (k + 1)) = ntXs (l.take k) + ntX l[k]) := ntXs_take hlt
        generalize l[k] = x at hbx HTK HNT
        obtain ⟨kind, pid, t⟩ := x
        obtain ⟨tk, tn, ts, tl⟩ := t
        have d0 := hbx.c0
        have d1 := hbx.c1
        have hRT := hbx.t
        rw [RepT] at hRT
        obtain ⟨d2, d3, d4, hs4, tao, tcap, d5, hl5, hc5, hr5⟩ := hRT
        have HC : Hid (Calls Tryz.prog 84 #[sdV kind pid tk tn ts tao tl.length tcap, .int .i64 r] wr fun e w' => (∃ r' : Int, e = .returned (.int .i64 r') ∧ -1 ≤ r' ∧ r' ≤ r ∧ (0 ≤ r' → StS (.mk tk tn ts tl) ∧ r' + (ntL tl : Int) ≤ r)) ∧ Below wr.heap.size wr w') := szSaid_any kind pid tk tn ts tl tao tcap r wr ⟨tao, tcap, rfl, hs4, hl5, hc5, hr5⟩ hr0 hrL
        clear hbx hrow hr5 hs4 hl5 hc5
        go_wp2_with fail
        refine HC.out.mono ?_
        rintro e w3 ⟨⟨r', rfl, h3, h4, h5⟩, hb3⟩
        have HB3 : Hid (Below w.heap.size w w3) := HBR.out.trans (hb3.mono HBR.out.size)
        have H5 : Hid (0 ≤ r' → StS (.mk tk tn ts tl) ∧ r' + (ntL tl : Int) ≤ r) := h5
        clear hb3 h5 d0 d1 d2 d3 d4 d5
        by_cases hneg : r' < 0
        · go_wp2_with fail
          go_ret
          exact ⟨⟨-1, rfl, by omega, fun h => absurd h (by decide)⟩, HB3.out⟩
        · have HG : Hid (r' + (ntXs (l.take (k + 1)) : Int) ≤ L + ((k + 1 : Nat) : Int) ∧ r' ≤ L ∧ ∀ a ∈ l.take (k + 1), StS a.t) := by
            have a1 := H5.out (by omega)
            have a2 := HNT.out
            have a3 := HR1.out
            have a4 := HR2.out
            have a5 : ntX ⟨kind, pid, .mk tk tn ts tl⟩ = 1 + ntL tl := by unfold ntX; simp [ntL]
            exact ⟨by omega, by omega, HTK.out a1.1⟩
          go_wp2_with fail
          go_roundw
          case rel => exact ⟨k + 1, r', by omega, by go_num, rfl, by omega, HG.out.1, HG.out.2.1, HG.out.2.2, HB3.out⟩
          case measure => simp [intOf]; omega
      · have HF : Hid (l.length ≤ 1048576 ∧ (∀ a ∈ l, StS a.t) ∧ r + (ntXs l : Int) ≤ left) := by
          have a1 := HSM.out
          have a2 := HR1.out
          have a3 := HLL.out
          rw [List.take_of_length_le (by omega)] at a1 a2
          exact ⟨by omega, a1, by omega⟩
        have hrl : r ≤ left := by have := HF.out.2.2; omega
        go_wp2
        go_ret
        exact ⟨⟨r, rfl, hrl, fun _ => HF.out⟩, HBR.out⟩
end Go.Proofs.YtjibnlpjpbileaaGreatDoor
namespace Go.Proofs.YtjibnlpjpbileaaGreatDoor
open Go.RowKit Atom
open Go.Proofs.YtjibnlpjpbileaaGreatDoor.Code
set_option linter.unusedVariables false

set_option maxHeartbeats 1000000 in
set_option maxRecDepth 100000 in
theorem eqActorS_same (l : List Ac) (ao bo : Option Addr) (cap cap' : Nat) (w : World) (hr : RowA w ao l) (hr' : RowA w bo l) (hl : l.length ≤ maxLen) (hs : ∀ a ∈ l, AcT a) :
    Calls Tryz.prog 37 #[.slice ao l.length cap, .slice bo l.length cap'] w fun e w' => e = .returned (.bool true) ∧ Below w.heap.size w w' := by
  have HRA : Hid (RowA w ao l) := hr
  have HRB : Hid (RowA w bo l) := hr'
  have HS : Hid (∀ a ∈ l, AcT a) := hs
  clear hr hr' hs
  unfold maxLen at hl
  have hbl : ((l.length : Int) != (l.length : Int)) = false := by simp
  go_enter Tryz.func37, Tryz.ntmps37
  go_wp2_with fail
  go_loopw [5] (fun i w' => ∃ k : Nat, k ≤ l.length ∧ i = .int .i64 k ∧ Below w.heap.size w w') (fun i _ => l.length - (intOf i).toNat)
  case atStart => exact ⟨0, Nat.zero_le _, rfl, Below.refl _ _⟩
  case round =>
    obtain ⟨k, hk, rfl, hb⟩ := hrel
    have HB : Hid (Below w.heap.size w wr) := hb
    clear hb
    by_cases hlt : k < l.length
    · rcases HRA.out.below HB.out with h0 | ⟨b, o, rfl, hrow⟩
      · rw [h0] at hlt; simp at hlt
      rcases HRB.out.below HB.out with h0 | ⟨b', o', rfl, hrow'⟩
      · rw [h0] at hlt; simp at hlt
      obtain ⟨h, hbx, hac⟩ := hrow k hlt
      obtain ⟨h', hbx', hac'⟩ := hrow' k hlt
      have HC : Hid (Calls Tryz.prog 78 #[acV l[k] h, acV l[k] h'] wr.drew fun e w' => e = .returned (.bool true) ∧ Below wr.drew.heap.size wr.drew w') :=
        eqActor_same l[k] h h' wr.drew (hac.below ((Below.refl _ _).drew)) (hac'.below ((Below.refl _ _).drew)) (HS.out _ (List.getElem_mem hlt)).2.2
      have c0 := hbx.c0
      have c1 := hbx.c1
      have c2 := hbx.c2
      have c3 := hbx.c3
      have c4 := hbx.c4
      have c0' := hbx'.c0
      have c1' := hbx'.c1
      have c2' := hbx'.c2
      have c3' := hbx'.c3
      have c4' := hbx'.c4
      clear hbx hbx' hac hac' hrow hrow'
      generalize l[k] = a at *
      obtain ⟨pid, pc, regs, box, N, f⟩ := a
      dsimp only at c0 c1 c2 c3 c4 c0' c1' c2' c3' c4' HC
      go_wp2_with fail
      go_region_with (go_at_call 78; refine HC.out.mono ?_; rintro e w1 ⟨rfl, hb1⟩)
      all_goals
        have HB1 : Hid (Below w.heap.size w w1) := (HB.out.drew).trans (hb1.mono HB.out.size)
        clear hb1 c0 c1 c2 c3 c4 c0' c1' c2' c3' c4'
        go_wp2_with fail
        go_roundw
        case rel => exact ⟨k + 1, by omega, by go_num, HB1.out⟩
        case measure => simp [intOf]; omega
    · go_wp2_with fail
      go_ret
      exact ⟨rfl, HB.out⟩

set_option maxHeartbeats 1000000 in
theorem eqSaid_same (kind pid : Int) (t : Tm) (k n : Int) (s : ByteArray) (ao ao' : Option Addr) (len len' cap cap' : Nat) (k' n' : Int) (s' : ByteArray) (w : World) (hv : RepV 0 w t (.agg #[.int .i64 k, .int .i64 n, .string s, .slice ao len cap])) (hv' : RepV 0 w t (.agg #[.int .i64 k', .int .i64 n', .string s', .slice ao' len' cap'])) :
    Calls Tryz.prog 79 #[sdV kind pid k n s ao len cap, sdV kind pid k' n' s' ao' len' cap'] w fun e w' => e = .returned (.bool true) ∧ Below w.heap.size w w' := by
  have HV : Hid (RepV 0 w t (.agg #[.int .i64 k, .int .i64 n, .string s, .slice ao len cap]) ∧ RepV 0 w t (.agg #[.int .i64 k', .int .i64 n', .string s', .slice ao' len' cap'])) := ⟨hv, hv'⟩
  clear hv hv'
  go_enter Tryz.func79, Tryz.ntmps79
  go_wp2_with fail
  refine (eqT_all t 0 _ _ _ ((Keeps.below ?_ 0).repV HV.out.1) ((Keeps.below ?_ 0).repV HV.out.2)).mono ?_
  · exact ((Below.refl _ _).alloc (Nat.le_refl _) _).alloc (by simp) _
  · exact ((Below.refl _ _).alloc (Nat.le_refl _) _).alloc (by simp) _
  rintro e w1 ⟨rfl, hb1⟩
  have HB1 : Hid (Below w.heap.size w w1) := (((Below.refl _ _).alloc (Nat.le_refl _) _).alloc (by simp) _).trans (hb1.mono (by simp; omega))
  clear hb1
  go_wp2_with fail
  go_ret
  exact ⟨rfl, HB1.out⟩

set_option maxHeartbeats 1000000 in
set_option maxRecDepth 100000 in
theorem eqSaidS_same (l : List Sd) (ao bo : Option Addr) (cap cap' : Nat) (w : World) (hr : RowS w ao l) (hr' : RowS w bo l) (hl : l.length ≤ maxLen) :
    Calls Tryz.prog 38 #[.slice ao l.length cap, .slice bo l.length cap'] w fun e w' => e = .returned (.bool true) ∧ Below w.heap.size w w' := by
  have HRA : Hid (RowS w ao l) := hr
  have HRB : Hid (RowS w bo l) := hr'
  clear hr hr'
  unfold maxLen at hl
  have hbl : ((l.length : Int) != (l.length : Int)) = false := by simp
  go_enter Tryz.func38, Tryz.ntmps38
  go_wp2_with fail
  go_loopw [5] (fun i w' => ∃ k : Nat, k ≤ l.length ∧ i = .int .i64 k ∧ Below w.heap.size w w') (fun i _ => l.length - (intOf i).toNat)
  case atStart => exact ⟨0, Nat.zero_le _, rfl, Below.refl _ _⟩
  case round =>
    obtain ⟨k, hk, rfl, hb⟩ := hrel
    have HB : Hid (Below w.heap.size w wr) := hb
    clear hb
    by_cases hlt : k < l.length
    · rcases HRA.out.below HB.out with h0 | ⟨b, o, rfl, hrow⟩
      · rw [h0] at hlt; simp at hlt
      rcases HRB.out.below HB.out with h0 | ⟨b', o', rfl, hrow'⟩
      · rw [h0] at hlt; simp at hlt
      have hbx := hrow k hlt
      have hbx' := hrow' k hlt
      obtain ⟨tk, tn, ts, tao, tlen, tcap, e0, e1, e2, e3, hv⟩ := hbx.t.cells
      obtain ⟨tk', tn', ts', tao', tlen', tcap', e0', e1', e2', e3', hv'⟩ := hbx'.t.cells
      have HC : Hid (Calls Tryz.prog 79 #[sdV l[k].kind l[k].pid tk tn ts tao tlen tcap, sdV l[k].kind l[k].pid tk' tn' ts' tao' tlen' tcap'] wr.drew fun e w' => e = .returned (.bool true) ∧ Below wr.drew.heap.size wr.drew w') :=
        eqSaid_same l[k].kind l[k].pid l[k].t tk tn ts tao tao' tlen tlen' tcap tcap' tk' tn' ts' wr.drew hv.drew hv'.drew
      have c0 := hbx.c0
      have c1 := hbx.c1
      have c0' := hbx'.c0
      have c1' := hbx'.c1
      clear hbx hbx' hrow hrow' hv hv'
      generalize l[k].kind = kind at *
      generalize l[k].pid = pid at *
      go_wp2_with fail
      go_region_with (go_at_call 79; refine HC.out.mono ?_; rintro e w1 ⟨rfl, hb1⟩)
      all_goals
        have HB1 : Hid (Below w.heap.size w w1) := (HB.out.drew).trans (hb1.mono HB.out.size)
        clear hb1 c0 c1 c0' c1' e0 e1 e2 e3 e0' e1' e2' e3'
        go_wp2_with fail
        go_roundw
        case rel => exact ⟨k + 1, by omega, by go_num, HB1.out⟩
        case measure => simp [intOf]; omega
    · go_wp2_with fail
      go_ret
      exact ⟨rfl, HB.out⟩

set_option maxHeartbeats 1000000 in
set_option maxRecDepth 100000 in
theorem eqPlain_same (p : Pl) (g h : Pw) (w : World) (hg : PlR w p g) (hh : PlR w p h) (hs : PlS p) :
    Calls Tryz.prog 12 #[plV p g, plV p h] w fun e w' => e = .returned (.bool true) ∧ Below w.heap.size w w' := by
  have KI : Hid (∀ wc, Below w.heap.size w wc → Calls Tryz.prog 13 #[.slice g.ca p.code.length g.cc, .slice h.ca p.code.length h.cc] wc fun e w' => e = .returned (.bool true) ∧ Below wc.heap.size wc w') := fun wc hb => eqInsS_same p.code g.ca h.ca g.cc h.cc wc (hg.code.below hb) (hh.code.below hb) hs.c
  have KA : Hid (∀ wc, Below w.heap.size w wc → Calls Tryz.prog 37 #[.slice g.aa p.acts.length g.ac, .slice h.aa p.acts.length h.ac] wc fun e w' => e = .returned (.bool true) ∧ Below wc.heap.size wc w') := fun wc hb => eqActorS_same p.acts g.aa h.aa g.ac h.ac wc (hg.acts.below hb) (hh.acts.below hb) hg.a1 hs.ax
  have KS : Hid (∀ wc, Below w.heap.size w wc → Calls Tryz.prog 38 #[.slice g.oa p.out.length g.oc, .slice h.oa p.out.length h.oc] wc fun e w' => e = .returned (.bool true) ∧ Below wc.heap.size wc w') := fun wc hb => eqSaidS_same p.out g.oa h.oa g.oc h.oc wc (hg.out.below hb) (hh.out.below hb) hg.o1
  obtain ⟨code, acts, next, out⟩ := p
  obtain ⟨ca, cc, aa, ac, oa, oc⟩ := g
  obtain ⟨ca', cc', aa', ac', oa', oc'⟩ := h
  dsimp only at KI KA KS
  clear hg hh hs
  obtain ⟨w0, hw0⟩ : ∃ w0, w0 = (w.alloc (.cells #[.slice ca code.length cc, .slice aa acts.length ac, .int .i64 next, .slice oa out.length oc] 32)).alloc (.cells #[.slice ca' code.length cc', .slice aa' acts.length ac', .int .i64 next, .slice oa' out.length oc'] 32) := ⟨_, rfl⟩
  have hb0 : Below w.heap.size w w0 := by rw [hw0]; exact ((Below.refl _ _).alloc (Nat.le_refl _) _).alloc (by simp) _
  have HB0 : Hid (Below w.heap.size w w0) := hb0
  have e1 : (w.alloc (.cells #[.slice ca code.length cc, .slice aa acts.length ac, .int .i64 next, .slice oa out.length oc] 32)).heap.size = w.heap.size + 1 := by simp
  have q : ∀ x, w0.cell? ⟨w.heap.size, x, none⟩ = (#[.slice ca code.length cc, .slice aa acts.length ac, .int .i64 next, .slice oa out.length oc] : Array Value)[x]? := fun x => by rw [hw0, World.cell?_alloc_lt (h := by simp), World.cell?_alloc_new]
  have q' : ∀ x, w0.cell? ⟨w.heap.size + 1, x, none⟩ = (#[.slice ca' code.length cc', .slice aa' acts.length ac', .int .i64 next, .slice oa' out.length oc'] : Array Value)[x]? := fun x => by rw [hw0, ← e1, World.cell?_alloc_new]
  have HQ : Hid (∀ wc, Below w0.heap.size w0 wc → wc.cell? ⟨w.heap.size, 1, none⟩ = some (.slice aa acts.length ac) ∧ wc.cell? ⟨w.heap.size + 1, 1, none⟩ = some (.slice aa' acts.length ac') ∧ wc.cell? ⟨w.heap.size, 2, none⟩ = some (.int .i64 next) ∧ wc.cell? ⟨w.heap.size + 1, 2, none⟩ = some (.int .i64 next) ∧ wc.cell? ⟨w.heap.size, 3, none⟩ = some (.slice oa out.length oc) ∧ wc.cell? ⟨w.heap.size + 1, 3, none⟩ = some (.slice oa' out.length oc')) := fun wc hb =>
    ⟨keepA hb (q 1), keepA hb (q' 1), keepA hb (q 2), keepA hb (q' 2), keepA hb (q 3), keepA hb (q' 3)⟩
  have HW : Hid (∀ wc, Below w0.heap.size w0 wc → Below w.heap.size w wc) := fun wc hb => HB0.out.trans (hb.mono HB0.out.size)
  clear q q' e1 hb0
  go_enter Tryz.func12, Tryz.ntmps12
  go_wp2_with (go_at_call 13; fail)
  rw [← hw0]
  clear hw0
  refine (KI.out w0 HB0.out).mono ?_
  rintro e w1 ⟨rfl, hb1⟩
  have HB1 : Hid (Below w0.heap.size w0 w1) := hb1
  obtain ⟨d1, d1', d2, d2', d3, d3'⟩ := HQ.out w1 hb1
  clear hb1
  go_wp2_with (go_at_call 37; fail)
  refine (KA.out w1 (HW.out _ HB1.out)).mono ?_
  rintro e w2 ⟨rfl, hb2⟩
  have HB2 : Hid (Below w0.heap.size w0 w2) := HB1.out.trans (hb2.mono HB1.out.size)
  clear hb2 d1 d1' d2 d2' d3 d3'
  obtain ⟨d1, d1', d2, d2', d3, d3'⟩ := HQ.out w2 HB2.out
  go_wp2_with (go_at_call 38; fail)
  refine (KS.out w2 (HW.out _ HB2.out)).mono ?_
  rintro e w3 ⟨rfl, hb3⟩
  have HB3 : Hid (Below w0.heap.size w0 w3) := HB2.out.trans (hb3.mono HB2.out.size)
  clear hb3 d1 d1' d2 d2' d3 d3'
  go_wp2_with fail
  go_ret
  exact ⟨rfl, HW.out _ HB3.out⟩

set_option maxHeartbeats 1000000 in
set_option maxRecDepth 100000 in
theorem szPlain_any (p : Pl) (h : Pw) (w : World) (hr : PlR w p h) :
    Calls Tryz.prog 19 #[plV p h, .int .i64 1048576] w fun e w' => (∃ r : Int, e = .returned (.int .i64 r) ∧ r ≤ 1048576 ∧ (0 ≤ r → PlS p ∧ r + (p.acts.length : Int) + (ntAs p.acts : Int) + (ntXs p.out : Int) ≤ 1048576)) ∧ Below w.heap.size w w' := by
  have KI : Hid (∀ wc, Below w.heap.size w wc → Calls Tryz.prog 6 #[.slice h.ca p.code.length h.cc, .int .i64 1048576] wc fun e w' => (∃ r : Int, e = .returned (.int .i64 r) ∧ r ≤ 1048576 ∧ (0 ≤ r → p.code.length ≤ 1048576 ∧ SmI 1048576 p.code)) ∧ Below wc.heap.size wc w') := fun wc hb => szInsS_le p.code h.ca h.cc wc (hr.code.below hb) hr.sm hr.c1
  have KA : Hid (∀ wc, Below w.heap.size w wc → ∀ r : Int, 0 ≤ r → r ≤ 1048576 → Calls Tryz.prog 48 #[.slice h.aa p.acts.length h.ac, .int .i64 r] wc fun e w' => (∃ r' : Int, e = .returned (.int .i64 r') ∧ r' ≤ r ∧ (0 ≤ r' → p.acts.length ≤ 1048576 ∧ (∀ a ∈ p.acts, AcT a) ∧ r' + (p.acts.length : Int) + (ntAs p.acts : Int) ≤ r)) ∧ Below wc.heap.size wc w') := fun wc hb r h0 h1 => szActorS_any p.acts h.aa h.ac r wc (hr.acts.below hb) hr.a1 h0 h1
  have KS : Hid (∀ wc, Below w.heap.size w wc → ∀ r : Int, 0 ≤ r → r ≤ 1048576 → Calls Tryz.prog 49 #[.slice h.oa p.out.length h.oc, .int .i64 r] wc fun e w' => (∃ r' : Int, e = .returned (.int .i64 r') ∧ r' ≤ r ∧ (0 ≤ r' → p.out.length ≤ 1048576 ∧ (∀ a ∈ p.out, StS a.t) ∧ r' + (ntXs p.out : Int) ≤ r)) ∧ Below wc.heap.size wc w') := fun wc hb r h0 h1 => szSaidS_any p.out h.oa h.oc r wc (hr.out.below hb) hr.o1 h0 h1
  have HFIN : Hid ((p.code.length ≤ 1048576 ∧ SmI 1048576 p.code) → (p.acts.length ≤ 1048576 ∧ (∀ a ∈ p.acts, AcT a)) → (p.out.length ≤ 1048576 ∧ (∀ a ∈ p.out, StS a.t)) → PlS p) := fun a b c => ⟨a.1, a.2, b.1, b.2, c.1, c.2⟩
  obtain ⟨code, acts, next, out⟩ := p
  obtain ⟨ca, cc, aa, ac, oa, oc⟩ := h
  dsimp only at KI KA KS HFIN
  clear hr
  obtain ⟨w0, hw0⟩ : ∃ w0, w0 = w.alloc (.cells #[.slice ca code.length cc, .slice aa acts.length ac, .int .i64 next, .slice oa out.length oc] 50) := ⟨_, rfl⟩
  have hb0 : Below w.heap.size w w0 := by rw [hw0]; exact (Below.refl _ _).alloc (Nat.le_refl _) _
  have HB0 : Hid (Below w.heap.size w w0) := hb0
  have q : ∀ x, w0.cell? ⟨w.heap.size, x, none⟩ = (#[.slice ca code.length cc, .slice aa acts.length ac, .int .i64 next, .slice oa out.length oc] : Array Value)[x]? := fun x => by rw [hw0, World.cell?_alloc_new]
  have HQ : Hid (∀ wc, Below w0.heap.size w0 wc → wc.cell? ⟨w.heap.size, 1, none⟩ = some (.slice aa acts.length ac) ∧ wc.cell? ⟨w.heap.size, 3, none⟩ = some (.slice oa out.length oc)) := fun wc hb => ⟨keepA hb (q 1), keepA hb (q 3)⟩
  have HW : Hid (∀ wc, Below w0.heap.size w0 wc → Below w.heap.size w wc) := fun wc hb => HB0.out.trans (hb.mono HB0.out.size)
  clear q hb0
  go_enter Tryz.func19, Tryz.ntmps19
  go_wp2_with (go_at_call 6; fail)
  rw [← hw0]
  clear hw0
  refine (KI.out w0 HB0.out).mono ?_
  rintro e w1 ⟨⟨r1, rfl, h1, h1'⟩, hb1⟩
  have HB1 : Hid (Below w0.heap.size w0 w1) := hb1
  have HR1 : Hid (0 ≤ r1 → code.length ≤ 1048576 ∧ SmI 1048576 code) := h1'
  obtain ⟨d1, d3⟩ := HQ.out w1 hb1
  clear hb1 h1'
  by_cases hn1 : r1 < 0
  · go_wp2_with fail
    go_ret
    exact ⟨⟨-1, rfl, by decide, fun h => absurd h (by decide)⟩, HW.out _ HB1.out⟩
  go_wp2_with (go_at_call 48; fail)
  refine (KA.out w1 (HW.out _ HB1.out) r1 (by omega) h1).mono ?_
  rintro e w2 ⟨⟨r2, rfl, h2, h2'⟩, hb2⟩
  have HB2 : Hid (Below w0.heap.size w0 w2) := HB1.out.trans (hb2.mono HB1.out.size)
  have HR2 : Hid (0 ≤ r2 → acts.length ≤ 1048576 ∧ (∀ a ∈ acts, AcT a) ∧ r2 + (acts.length : Int) + (ntAs acts : Int) ≤ r1) := h2'
  clear hb2 h2' d1 d3
  obtain ⟨d1, d3⟩ := HQ.out w2 HB2.out
  by_cases hn2 : r2 < 0
  · go_wp2_with fail
    go_ret
    exact ⟨⟨-1, rfl, by decide, fun h => absurd h (by decide)⟩, HW.out _ HB2.out⟩
  go_wp2_with (go_at_call 49; fail)
  refine (KS.out w2 (HW.out _ HB2.out) r2 (by omega) (by omega)).mono ?_
  rintro e w3 ⟨⟨r3, rfl, h3, h3'⟩, hb3⟩
  have HB3 : Hid (Below w0.heap.size w0 w3) := HB2.out.trans (hb3.mono HB2.out.size)
  have HR3 : Hid (0 ≤ r3 → out.length ≤ 1048576 ∧ (∀ a ∈ out, StS a.t) ∧ r3 + (ntXs out : Int) ≤ r2) := h3'
  clear hb3 h3' d1 d3
  by_cases hn3 : r3 < 0
  · go_wp2_with fail
    go_ret
    exact ⟨⟨-1, rfl, by decide, fun h => absurd h (by decide)⟩, HW.out _ HB3.out⟩
  have HF : Hid (PlS ⟨code, acts, next, out⟩ ∧ r3 + (acts.length : Int) + (ntAs acts : Int) + (ntXs out : Int) ≤ 1048576) := by
    have a1 := HR1.out (by omega)
    have a2 := HR2.out (by omega)
    have a3 := HR3.out (by omega)
    exact ⟨HFIN.out a1 ⟨a2.1, a2.2.1⟩ ⟨a3.1, a3.2.1⟩, by omega⟩
  go_wp2_with fail
  go_ret
  exact ⟨⟨r3, rfl, by omega, fun _ => HF.out⟩, HW.out _ HB3.out⟩
end Go.Proofs.YtjibnlpjpbileaaGreatDoor
