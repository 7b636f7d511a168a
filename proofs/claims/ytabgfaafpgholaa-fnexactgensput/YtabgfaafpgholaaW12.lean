/-
  How the specification puts a term: a tuple.
  (Ahead of it, in this text: How the specification puts a term: bytes.)
-/
import Derived.Test.YtabgfaafpgholaaW11
namespace Go.Proofs.Ytabgfaafpgholaa
open Go.RowKit
set_option linter.unusedVariables false

theorem PS.drew {Z : PZ} {m : PM} {w : World} {xs : List Int} {A : List ByteArray} (h : PS Z m w xs A) : PS Z m w.drew xs A := ⟨h.z, h.ww, h.wa, h.nw, h.na, h.wc, h.wf, h.ac, h.af, h.wr, h.ar⟩
/-- Behind an append onto the words, ahead of the store: the variable is as it was. -/
theorem PS.far {Z : PZ} {m : PM} {w w6 : World} {xs : List Int} {A : List ByteArray} (h : PS Z m w xs A) (hg : w.grownBy w6 (some m.gw)) : w6.cell? ⟨Z.wb, Z.wo, none⟩ = some (m.u xs) ∧ w6.frozen? ⟨Z.wb, Z.wo, none⟩ = false := by
  have hl := h.wl
  have hne : some Z.wb ≠ some m.gw := fun e => by simp at e; exact h.ww e
  rw [hg.cell_far ⟨Z.wb, Z.wo, none⟩ hl hne, hg.frozen_far ⟨Z.wb, Z.wo, none⟩ hl hne]
  exact ⟨h.wc, h.wf⟩
theorem PS.app {Z : PZ} {m : PM} {w w6 : World} {xs ys : List Int} {A : List ByteArray} (h : PS Z m w xs A) {n g c : Nat} (hn : n = ys.length) (ho : w6.ownsRow Z.base 3 1 (.slice (some ⟨g, 0, none⟩) n c) n (ys.map (Value.int .i64))) (hg : w.grownBy w6 (some m.gw)) (ha : some m.gw = some g ∨ g = w.heap.size) :
    PS Z ⟨g, c, m.ga, m.ca⟩ (w6.setCell ⟨Z.wb, Z.wo, none⟩ (.slice (some ⟨g, 0, none⟩) n c)) ys A ∧ Fr Z m w (w6.setCell ⟨Z.wb, Z.wo, none⟩ (.slice (some ⟨g, 0, none⟩) n c)) ∧ Mv m ⟨g, c, m.ga, m.ca⟩ w.heap.size := by
  subst hn
  refine h.grow ho hg ?_
  rcases ha with e | e
  · left; simpa using e.symm
  · right; omega
/-- One cell is laid ahead of an append. -/
theorem PS.one {Z : PZ} {m : PM} {w : World} {xs : List Int} {A : List ByteArray} (h : PS Z m w xs A) (o : Obj) : PS Z m (w.alloc o).drew xs A := (h.below ((Below.refl _ _).alloc (Nat.le_refl _) o)).drew
theorem Fr.one {Z : PZ} {m : PM} {w w' : World} {o : Obj} (h : Fr Z m (w.alloc o).drew w') : Fr Z m w w' := (Fr.below ((Below.refl _ _).alloc (Nat.le_refl _) o)).trans (Mv.refl _ _) h.undrew
theorem bytes_take (s : ByteArray) (k : Nat) (h : k < s.size) : ((s.size : Int) :: bytesI s).take (k + 2) = ((s.size : Int) :: bytesI s).take (k + 1) ++ [((s.data[k]'h).toNat : Int)] := by
  rw [List.take_succ_cons, List.take_succ_cons, List.take_add_one]
  have e : (bytesI s)[k]? = some ((s.data[k]'h).toNat : Int) := by
    unfold bytesI
    rw [List.getElem?_map, Array.getElem?_toList, Array.getElem?_eq_getElem h]
    rfl
  rw [e]
  rfl
set_option maxHeartbeats 4000000 in
set_option maxRecDepth 100000 in
theorem put_6 (n : Int) (s : ByteArray) (l : List Tm) (hl : l = []) : PutC (.mk 6 n s l) := by
  intro Z m w xs A v hps hv hK hx hA
  obtain ⟨ao, cap, rfl, hs, hlc, hcm, hr⟩ := hv
  subst hl
  have hsh : shapeB 6 n s 0 = true := by rw [goodT] at hK; exact hK.1
  have hb : Below w.heap.size w (w.alloc (.cells #[.int .i64 6, .int .i64 n, .string s, .slice ao ([] : List Tm).length cap] 39)) := (Below.refl _ _).alloc (Nat.le_refl _) _
  have HP : Hid (PS Z m (w.alloc (.cells #[.int .i64 6, .int .i64 n, .string s, .slice ao ([] : List Tm).length cap] 39)) xs A) := hps.below hb
  have HF : Hid (Fr Z m w (w.alloc (.cells #[.int .i64 6, .int .i64 n, .string s, .slice ao ([] : List Tm).length cap] 39))) := Fr.below hb
  have hs40 : s.size ≤ 40 := by simp [shapeB] at hsh; omega
  have HR : Hid (ptT (.mk 6 n s []) xs.length A = some ((s.size : Int) :: bytesI s, A, mkw 6 xs.length)) := by show _ = _; rw [ptT]; simp
  have hnd : ndT (.mk 6 n s []) = 1 + s.size := by simp [ndT, ndO, ndL]
  have HD : Hid (((s.size : Int) :: bytesI s).length = ndT (.mk 6 n s [])) := by show _ = _; rw [hnd, List.length_cons, bytesI_len]; omega
  have hxl : xs.length ≤ 100000 := by omega
  have hxi : (xs.length : Int) ≤ 100000 := by omega
  have hgw := hps.gw
  have hga := hps.ga
  have hzw := hps.wl
  have hzn := hps.nl
  obtain ⟨i0, hi, hz0, hz1, hz2⟩ := infoParts infoInt
  have HI : Hid (Try.prog.info? 3 = some i0 ∧ i0.zero = some (.int .i64 0) ∧ i0.size = 1 ∧ i0.bytes = 8) := ⟨hi, hz0, hz1, hz2⟩
  clear hps hr hK hx hA hb hsh hs hi hz0 hz1 hz2 hnd
  simp only [List.length_nil] at *
  go_enter Try.func42, Try.ntmps42
  have hwc0 := HP.out.wc
  go_wp2_with fail
  generalize hW : (w.alloc (.cells #[.int .i64 6, .int .i64 n, .string s, .slice ao 0 cap] 39)) = W at *
  have hbx : ∀ o, W.cell? ⟨w.heap.size, o, none⟩ = (#[.int .i64 6, .int .i64 n, .string s, .slice ao 0 cap] : Array Value)[o]? := fun o => by rw [← hW]; exact World.cell?_alloc_new w _ _ o
  have hzW : W.heap.size = w.heap.size + 1 := by rw [← hW, World.size_alloc]
  have HZW : Hid (W.heap.size = w.heap.size + 1) := hzW
  have HBX : Hid (∀ o, W.cell? ⟨w.heap.size, o, none⟩ = (#[.int .i64 6, .int .i64 n, .string s, .slice ao 0 cap] : Array Value)[o]?) := hbx
  have C3 : Hid (xs.length + 1 ≤ maxLen) := by show _ ≤ _; unfold maxLen; omega
  have C4 : Hid ((xs.length + 1) * 8 ≤ 140737488355328) := by show _ ≤ _; omega
  have C5 : Hid (Z.base ≤ (W.alloc (.cells #[.int .i64 s.size] 3)).drew.heap.size) := by show _ ≤ (W.alloc (.cells #[.int .i64 s.size] 3)).heap.size; rw [World.size_alloc]; omega
  have hw1 := (HP.out.one (.cells #[.int .i64 s.size] 3)).wc
  have hw1' : (W.alloc (.cells #[.int .i64 s.size] 3)).cell? ⟨Z.wb, Z.wo, none⟩ = _ := hw1
  clear hW hzW
  go_region_law (first
    | (refine step_append_lies _ rfl (.tmp 57) (.tmp 61) 22 rfl Z.base 3 i0 (.int .i64 0) 1 8 undInts HI.out.1 HI.out.2.1 HI.out.2.2.1 HI.out.2.2.2 rfl (by decide) _ xs.length (xs.map (Value.int .i64)) (by simp [Act.eval]) (HP.out.one _).wr ⟨W.heap.size, 0, none⟩ 1 1 [.int .i64 s.size] (by simp [Act.eval]) rfl (srcI _ _ _) (oneI _) (by decide) C3.out C4.out C5.out _ rfl ?_; intro g6 c6 w6 hown6 hgrow6 hat6 hlt6; obtain ⟨t36, tf6⟩ := (HP.out.one _).far hgrow6)
    | go_simp)
  all_goals
    obtain ⟨p1, p2, p3⟩ := (HP.out.one _).app (n := xs.length + 1) (ys := xs ++ [(s.size : Int)]) (by simp) (by rw [List.map_append]; exact hown6) hgrow6 (hat6.imp id (fun e => e))
    have P1 : Hid (PS Z ⟨g6, c6, m.ga, m.ca⟩ (w6.setCell ⟨Z.wb, Z.wo, none⟩ (.slice (some ⟨g6, 0, none⟩) (xs.length + 1) c6)) (xs ++ [(s.size : Int)]) A) := p1
    have P2 : Hid (Fr Z m W (w6.setCell ⟨Z.wb, Z.wo, none⟩ (.slice (some ⟨g6, 0, none⟩) (xs.length + 1) c6))) := p2.one
    have P3 : Hid (Mv m ⟨g6, c6, m.ga, m.ca⟩ W.heap.size) := (Mv.refl m W.heap.size).trans p3 (by show W.heap.size ≤ (W.alloc _).heap.size; rw [World.size_alloc]; omega)
    clear p1 p2 p3 hown6 hgrow6 hat6 hlt6 t36 tf6
    generalize w6.setCell ⟨Z.wb, Z.wo, none⟩ (.slice (some ⟨g6, 0, none⟩) (xs.length + 1) c6) = w7 at *
    go_wp2_with fail
    go_loopw [11] (fun i wr => ∃ (k : Nat) (m' : PM), k ≤ s.size ∧ i = .int .i64 k ∧ PS Z m' wr (xs ++ ((s.size : Int) :: bytesI s).take (k + 1)) A ∧ Fr Z m W wr ∧ Mv m m' W.heap.size) (fun i _ => s.size - (intOf i).toNat)
    case atStart => exact ⟨0, _, Nat.zero_le _, rfl, P1.out, P2.out, P3.out⟩
    case round =>
      obtain ⟨k, m', hk, rfl, hp, hf, hm⟩ := hrel
      have zW := HZW.out
      have hbr : ∀ o, wr.cell? ⟨w.heap.size, o, none⟩ = (#[.int .i64 6, .int .i64 n, .string s, .slice ao 0 cap] : Array Value)[o]? := fun o => by rw [(hf.cell (b := w.heap.size) (by omega) (by omega) (by omega) (by omega) (by omega) o).1]; exact HBX.out o
      have HPR : Hid (PS Z m' wr (xs ++ ((s.size : Int) :: bytesI s).take (k + 1)) A) := hp
      have HFR : Hid (Fr Z m W wr) := hf
      have HMR : Hid (Mv m m' W.heap.size) := hm
      have hwl : w.heap.size < wr.heap.size := by have := hf.size; omega
      by_cases hlt : k < s.size
      · have hlen : (xs ++ ((s.size : Int) :: bytesI s).take (k + 1)).length = xs.length + (k + 1) := by rw [List.length_append, List.length_take, List.length_cons, bytesI_len]; omega
        have HBT : Hid (((s.size : Int) :: bytesI s).take (k + 2) = ((s.size : Int) :: bytesI s).take (k + 1) ++ [((s.data[k]'hlt).toNat : Int)]) := bytes_take s k hlt
        obtain ⟨ys, hys⟩ : ∃ ys, xs ++ ((s.size : Int) :: bytesI s).take (k + 1) = ys := ⟨_, rfl⟩
        have HYS : Hid (xs ++ ((s.size : Int) :: bytesI s).take (k + 2) = ys ++ [((s.data[k]'hlt).toNat : Int)]) := by show _ = _; rw [HBT.out, ← hys, List.append_assoc]
        rw [hys] at HPR hlen
        have hyl : ys.length ≤ 200000 := by omega
        obtain ⟨bt, hbt⟩ : ∃ bt : Nat, (s.data[k]'hlt).toNat = bt := ⟨_, rfl⟩
        rw [hbt] at HYS
        have hbt0 : (s.data[k]'hlt).toNat ≤ 255 := by have := (s.data[k]'hlt).toBitVec.isLt; show (s.data[k]'hlt).toBitVec.toNat ≤ 255; omega
        have hbt2 : (s[k]'hlt).toNat = bt := hbt
        have hbti : (bt : Int) ≤ 255 := by omega
        have hwb : IntKind.i64.wrap (bt : Int) = bt := by rw [IntKind.wrap_i64]; omega
        have hwr := HPR.out.wc
        have hwr1 : (wr.alloc (.cells #[.int .i64 bt] 3)).cell? ⟨Z.wb, Z.wo, none⟩ = _ := (HPR.out.one (.cells #[.int .i64 bt] 3)).wc
        have C3 : Hid (ys.length + 1 ≤ maxLen) := by show _ ≤ _; unfold maxLen; omega
        have C4 : Hid ((ys.length + 1) * 8 ≤ 140737488355328) := by show _ ≤ _; omega
        have C5 : Hid (Z.base ≤ (wr.alloc (.cells #[.int .i64 bt] 3)).drew.heap.size) := by show _ ≤ (wr.alloc (.cells #[.int .i64 bt] 3)).heap.size; rw [World.size_alloc]; have := HPR.out.base; omega
        clear hys hp hf hm HBT hlen zW hbt hbt0
        go_wp2_with fail
        go_region_law (first
    | (refine step_append_lies _ rfl (.tmp 74) (.tmp 80) 22 rfl Z.base 3 i0 (.int .i64 0) 1 8 undInts HI.out.1 HI.out.2.1 HI.out.2.2.1 HI.out.2.2.2 rfl (by decide) _ ys.length (ys.map (Value.int .i64)) (by simp [Act.eval]) (HPR.out.one _).wr ⟨wr.heap.size, 0, none⟩ 1 1 [.int .i64 _] (by simp [Act.eval]) rfl (srcI _ _ _) (oneI _) (by decide) C3.out C4.out C5.out _ rfl ?_; intro g6 c6 w6 hown6 hgrow6 hat6 hlt6; obtain ⟨t36, tf6⟩ := (HPR.out.one _).far hgrow6)
    | go_simp)
        all_goals
          obtain ⟨p1, p2, p3⟩ := (HPR.out.one _).app (n := ys.length + 1) (ys := ys ++ [(bt : Int)]) (by simp) (by rw [List.map_append]; exact hown6) hgrow6 (hat6.imp id (fun e => e))
          have Q1 : Hid (PS Z ⟨g6, c6, m'.ga, m'.ca⟩ (w6.setCell ⟨Z.wb, Z.wo, none⟩ (.slice (some ⟨g6, 0, none⟩) (ys.length + 1) c6)) (xs ++ ((s.size : Int) :: bytesI s).take (k + 2)) A) := by show PS ..; rw [HYS.out]; exact p1
          have Q2 : Hid (Fr Z m W (w6.setCell ⟨Z.wb, Z.wo, none⟩ (.slice (some ⟨g6, 0, none⟩) (ys.length + 1) c6))) := HFR.out.trans HMR.out p2.one
          have Q3 : Hid (Mv m ⟨g6, c6, m'.ga, m'.ca⟩ W.heap.size) := HMR.out.trans p3 (by have h1 := HFR.out.size; show W.heap.size ≤ (wr.alloc _).heap.size; rw [World.size_alloc]; omega)
          clear p1 p2 p3 hown6 hgrow6 hat6 hlt6 t36 tf6
          go_wp2_with fail
          go_roundw
          case rel => exact ⟨k + 1, _, by omega, by go_num, Q1.out, Q2.out, Q3.out⟩
          case measure => simp [intOf]; omega
      · have hke : k = s.size := by omega
        have HPF : Hid (PS Z m' wr (xs ++ (s.size : Int) :: bytesI s) A) := by
          show PS ..
          have e : ((s.size : Int) :: bytesI s).take (k + 1) = (s.size : Int) :: bytesI s := List.take_of_length_le (by rw [List.length_cons, bytesI_len]; omega)
          rw [e] at hp; exact hp
        have HM1 : Hid (Mv m m' w.heap.size) := (Mv.refl m w.heap.size).trans hm (by omega)
        have HF1 : Hid (Fr Z m w wr) := HF.out.trans (Mv.refl _ _) hf
        clear hp hf hm hke zW
        go_wp2_with (go_at_call 66; refine (specMake_any _ _ _).mono ?_; rintro e w' ⟨rfl, hw'⟩; obtain rfl := hw'.symm)
        go_ret2
        exact ⟨_, true, m', _, A, rfl, HPF.out, HF1.out, HM1.out, HD.out, by omega, .inl ⟨rfl, HR.out⟩⟩
end Go.Proofs.Ytabgfaafpgholaa
namespace Go.Proofs.Ytabgfaafpgholaa
open Go.RowKit
set_option linter.unusedVariables false

theorem ptL_app (p q : List Tm) : ∀ (a : Nat) (A : List ByteArray), ptL (p ++ q) a A = match ptL p a A with
    | none => none
    | some (ws, ns, A1) => match ptL q (a + ns.length) A1 with
      | none => none
      | some (ws2, ns2, A2) => some (ws ++ ws2, ns ++ ns2, A2) := by
  induction p with
  | nil =>
    intro a A
    rw [List.nil_append, ptL]
    simp only [List.length_nil, Nat.add_zero, List.nil_append]
    cases ptL q a A with
    | none => rfl
    | some r => rfl
  | cons t p ih =>
    intro a A
    rw [List.cons_append, ptL, ptL]
    cases ptT t a A with
    | none => rfl
    | some r =>
      obtain ⟨ns, A1, x⟩ := r
      simp only
      rw [ih]
      cases ptL p (a + ns.length) A1 with
      | none => rfl
      | some r2 =>
        obtain ⟨ws2, ns2, A2⟩ := r2
        simp only [List.length_append, Nat.add_assoc]
        cases ptL q (a + (ns.length + ns2.length)) A2 with
        | none => rfl
        | some r3 => simp only [List.append_assoc, List.cons_append]
theorem take_one (l : List Tm) (i : Nat) (h : i < l.length) : l.take (i + 1) = l.take i ++ [l[i]] := by rw [List.take_add_one, List.getElem?_eq_getElem h]; rfl
theorem take_drop1 (l : List Tm) (i : Nat) (h : i < l.length) : l = l.take i ++ l[i] :: l.drop (i + 1) := by
  rw [← List.drop_eq_getElem_cons h, List.take_append_drop]
theorem ptL_yes {l : List Tm} {i a : Nat} {A A1 A2 : List ByteArray} {ws ns ns2 : List Int} {x : Int} (h : i < l.length) (h1 : ptL (l.take i) a A = some (ws, ns, A1)) (h2 : ptT l[i] (a + ns.length) A1 = some (ns2, A2, x)) : ptL (l.take (i + 1)) a A = some (ws ++ [x], ns ++ ns2, A2) := by
  rw [take_one l i h, ptL_app, h1]
  simp only
  rw [ptL, h2]
  simp only [ptL, List.append_nil]
theorem ptL_no {l : List Tm} {i a : Nat} {A A1 : List ByteArray} {ws ns : List Int} (h : i < l.length) (h1 : ptL (l.take i) a A = some (ws, ns, A1)) (h2 : ptT l[i] (a + ns.length) A1 = none) : ptL l a A = none := by
  rw [take_drop1 l i h, ptL_app, h1]
  simp only
  rw [ptL, h2]
theorem nL_app (p q : List Tm) : nL (p ++ q) = nL p + nL q := by
  induction p with
  | nil => simp [nL]
  | cons t p ih => rw [List.cons_append, nL, nL, ih]; omega
theorem nL_take (l : List Tm) (i : Nat) (h : i < l.length) : nL (l.take (i + 1)) = nL (l.take i) + nT l[i] := by rw [take_one l i h, nL_app, nL, nL]; omega
theorem nL_le (l : List Tm) (i : Nat) : nL (l.take i) ≤ nL l := by
  have := nL_app (l.take i) (l.drop i)
  rw [List.take_append_drop] at this
  omega
theorem RpL.at {S : Nat → Prop} {w : World} : ∀ (l : List Tm) (ao : Option Addr), RpL S w l ao → ∀ i (hi : i < l.length), ∃ b off, ao = some ⟨b, off, none⟩ ∧ S b ∧ RpT S w l[i] b (off + i * 4)
  | [], _, _, i, hi => absurd hi (Nat.not_lt_zero i)
  | t :: r, ao, h, 0, hi => by
    rw [RpL] at h
    obtain ⟨b, off, e, hb, ht, _⟩ := h
    exact ⟨b, off, e, hb, by simpa using ht⟩
  | t :: r, ao, h, i + 1, hi => by
    rw [RpL] at h
    obtain ⟨b, off, e, hb, _, hr⟩ := h
    obtain ⟨b', off', e', hb', ht'⟩ := RpL.at r _ hr i (by simpa using hi)
    simp only [Option.some.injEq, Addr.mk.injEq, and_true] at e'
    obtain ⟨rfl, rfl⟩ := e'
    refine ⟨b, off, e, hb', ?_⟩
    have e2 : off + 4 + i * 4 = off + (i + 1) * 4 := by omega
    rw [e2] at ht'
    exact ht'
theorem goodL_at : ∀ (l : List Tm), goodL l → ∀ i (h : i < l.length), goodT l[i]
  | [], _, i, h => absurd h (Nat.not_lt_zero i)
  | t :: r, hg, 0, h => by rw [goodL] at hg; exact hg.1
  | t :: r, hg, i + 1, h => by rw [goodL] at hg; exact goodL_at r hg.2 i (by simpa using h)
theorem set_mid (P : List Int) (z : Int) (Q : List Int) (x : Int) (j : Nat) (h : j = P.length) : (P ++ z :: Q).set j x = P ++ x :: Q := by
  subst h
  rw [List.set_append_right _ _ (Nat.le_refl _)]
  simp
/-- What stands there behind i of them. -/
def tupW (xs : List Int) (n i : Nat) (ws ns : List Int) : List Int := xs ++ ((n : Int) :: (ws ++ List.replicate (n - i) 0 ++ ns))
theorem tupW_len (xs : List Int) {n i : Nat} {ws ns : List Int} (hw : ws.length = i) (hi : i ≤ n) : (tupW xs n i ws ns).length = xs.length + 1 + n + ns.length := by
  unfold tupW
  simp only [List.length_append, List.length_cons, List.length_replicate, hw]
  omega
theorem tupW_set (xs : List Int) {n i : Nat} {ws ns ns2 : List Int} (x : Int) (hw : ws.length = i) (hi : i < n) : (tupW xs n i ws ns ++ ns2).set (xs.length + 1 + i) x = tupW xs n (i + 1) (ws ++ [x]) (ns ++ ns2) := by
  unfold tupW
  rw [show n - i = (n - (i + 1)) + 1 by omega, List.replicate_succ]
  have e : xs ++ ((n : Int) :: (ws ++ 0 :: List.replicate (n - (i + 1)) 0 ++ ns)) ++ ns2 = (xs ++ (n : Int) :: ws) ++ 0 :: (List.replicate (n - (i + 1)) 0 ++ ns ++ ns2) := by simp
  rw [e, set_mid _ _ _ _ _ (by simp [hw]; omega)]
  simp
end Go.Proofs.Ytabgfaafpgholaa
