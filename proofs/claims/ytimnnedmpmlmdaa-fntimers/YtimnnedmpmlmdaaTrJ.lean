/-
  Timers in memory of their own: the program's copies.
-/
import Derived.Test.YtimnnedmpmlmdaaTrA
import Derived.Test.YtimnnedmpmlmdaaOtA
import Derived.Test.YtimnnedmpmlmdaaMkC
import Derived.Deep.RegionHeld3
namespace Go.Proofs.Ytimnnedmpmlmdaa.Tr
open Go.RowKit Atom
set_option linter.unusedVariables false

set_option maxHeartbeats 2000000 in
set_option maxRecDepth 100000 in
theorem ownTimer_any (a p k n : Int) (s : ByteArray) (l : List Tm) (ao : Option Addr) (cap : Nat) (bs : List Nat) (w : World) (h : OsV w bs (.mk k n s l) (.agg #[.int .i64 k, .int .i64 n, .string s, .slice ao l.length cap])) (hnd : bs.Nodup) (hn : ntL [.mk k n s l] ≤ 4194304) :
    Calls Try.prog 28 #[sdV a p k n s ao l.length cap] w fun e w' => ∃ ao' cap' bs', e = .returned (sdV a p k n s ao' l.length cap') ∧ OsV w' bs' (.mk k n s l) (.agg #[.int .i64 k, .int .i64 n, .string s, .slice ao' l.length cap']) ∧ bs'.Nodup ∧ (∀ b ∈ bs', w.heap.size ≤ b) ∧ Below w.heap.size w w' := by
  obtain ⟨W, hW⟩ : ∃ W, W = (w.alloc (.cells #[.int .i64 a, .int .i64 p, .int .i64 k, .int .i64 n, .string s, .slice ao l.length cap] 32)).alloc (.cells #[.int .i64 0, .int .i64 0, .int .i64 0, .int .i64 0, .string ⟨#[]⟩, .slice none 0 0] 32) := ⟨_, rfl⟩
  have hbW : Below w.heap.size w W := by rw [hW]; exact ((Below.refl _ _).alloc (Nat.le_refl _) _).alloc (by simp) _
  have hzW : W.heap.size = w.heap.size + 2 := by rw [hW]; simp
  have e1 : (w.alloc (.cells #[.int .i64 a, .int .i64 p, .int .i64 k, .int .i64 n, .string s, .slice ao l.length cap] 32)).heap.size = w.heap.size + 1 := by simp
  have qa : ∀ o, W.cell? ⟨w.heap.size, o, none⟩ = (#[.int .i64 a, .int .i64 p, .int .i64 k, .int .i64 n, .string s, .slice ao l.length cap] : Array Value)[o]? := fun o => by
    rw [hW, World.cell?_alloc_lt (h := by simp), World.cell?_alloc_new]
  have qr : ∀ o, W.cell? ⟨w.heap.size + 1, o, none⟩ = (#[.int .i64 0, .int .i64 0, .int .i64 0, .int .i64 0, .string ⟨#[]⟩, .slice none 0 0] : Array Value)[o]? := fun o => by
    rw [hW, ← e1, World.cell?_alloc_new]
  have fr : ∀ o, W.frozen? ⟨w.heap.size + 1, o, none⟩ = false := fun o => by
    rw [hW, ← e1, World.frozen?_alloc_new]
  have HBW : Hid (Below w.heap.size w W ∧ W.heap.size = w.heap.size + 2) := ⟨hbW, hzW⟩
  have HQ : Hid (∀ w1, Below W.heap.size W w1 → w1.cell? ⟨w.heap.size, 0, none⟩ = some (.int .i64 a) ∧ w1.cell? ⟨w.heap.size, 1, none⟩ = some (.int .i64 p) ∧ w1.cell? ⟨w.heap.size, 2, none⟩ = some (.int .i64 k) ∧ w1.cell? ⟨w.heap.size, 3, none⟩ = some (.int .i64 n) ∧ w1.cell? ⟨w.heap.size, 4, none⟩ = some (.string s) ∧ w1.cell? ⟨w.heap.size, 5, none⟩ = some (.slice ao l.length cap)) := fun w1 hb =>
    ⟨keepOt hb (qa 0), keepOt hb (qa 1), keepOt hb (qa 2), keepOt hb (qa 3), keepOt hb (qa 4), keepOt hb (qa 5)⟩
  have HR : Hid (∀ w1, Below W.heap.size W w1 → (w1.cell? ⟨w.heap.size + 1, 0, none⟩ = some (.int .i64 0) ∧ w1.cell? ⟨w.heap.size + 1, 1, none⟩ = some (.int .i64 0) ∧ w1.cell? ⟨w.heap.size + 1, 2, none⟩ = some (.int .i64 0) ∧ w1.cell? ⟨w.heap.size + 1, 3, none⟩ = some (.int .i64 0) ∧ w1.cell? ⟨w.heap.size + 1, 4, none⟩ = some (.string ⟨#[]⟩) ∧ w1.cell? ⟨w.heap.size + 1, 5, none⟩ = some (.slice none 0 0)) ∧ ∀ o, w1.frozen? ⟨w.heap.size + 1, o, none⟩ = false) := fun w1 hb =>
    ⟨⟨keepOt hb (qr 0), keepOt hb (qr 1), keepOt hb (qr 2), keepOt hb (qr 3), keepOt hb (qr 4), keepOt hb (qr 5)⟩, fun o => by rw [hb.frozen (p := ⟨w.heap.size + 1, o, none⟩) (by show w.heap.size + 1 < _; omega)]; exact fr o⟩
  have HT : Hid (∀ wc, Below w.heap.size w wc → Calls Try.prog 51 #[.agg #[.int .i64 k, .int .i64 n, .string s, .slice ao l.length cap]] wc fun e w' => ∃ ao' cap' bs', e = .returned (.agg #[.int .i64 k, .int .i64 n, .string s, .slice ao' l.length cap']) ∧ OsV w' bs' (.mk k n s l) (.agg #[.int .i64 k, .int .i64 n, .string s, .slice ao' l.length cap']) ∧ bs'.Nodup ∧ (∀ b ∈ bs', wc.heap.size ≤ b) ∧ Below wc.heap.size wc w') := fun wc hw =>
    (ownTerm_any (.mk k n s l) bs _ wc (OsV.keep (fun x hx hlt => hw.block x hlt) h) hnd hn).mono fun e w' ⟨v', bs', h1, h2, h3, h4, h5⟩ => by
      obtain ⟨ao', cap', hv, q⟩ := h2
      exact ⟨ao', cap', bs', by rw [h1, hv], ⟨ao', cap', rfl, q⟩, h3, h4, h5⟩
  clear h hnd hn hbW hzW qa qr fr e1
  go_enter Try.func28, Try.ntmps28
  go_wp2_with fail
  rw [← hW]
  clear hW
  obtain ⟨⟨r0, r1, r2, r3, r4, r5⟩, rf⟩ := HR.out W (Below.refl _ _)
  have S0 := HQ.out W.drew (Below.refl _ _).drew
  go_region_held3 (fun w1 => w1.cell? ⟨w.heap.size, 0, none⟩ = some (.int .i64 a) ∧ w1.cell? ⟨w.heap.size, 1, none⟩ = some (.int .i64 p) ∧ w1.cell? ⟨w.heap.size, 2, none⟩ = some (.int .i64 k) ∧ w1.cell? ⟨w.heap.size, 3, none⟩ = some (.int .i64 n) ∧ w1.cell? ⟨w.heap.size, 4, none⟩ = some (.string s) ∧ w1.cell? ⟨w.heap.size, 5, none⟩ = some (.slice ao l.length cap)) (first | (refine HQ.out _ ?_; (first | with_reducible exact HB1.out | with_reducible exact (Below.refl _ _).drew)) | go_keep)
    (first
      | (go_at_call 51; refine (HT.out W.drew (HBW.out.1.trans ((Below.refl _ _).drew.mono HBW.out.1.size))).mono ?_; rintro e w1 ⟨ao', cap', bs', rfl, k1, k2, k3, k4⟩; have HB1 : Hid (Below W.heap.size W w1) := (Below.refl _ _).drew.trans k4; have HO1 : Hid (OsV w1 bs' (.mk k n s l) (.agg #[.int .i64 k, .int .i64 n, .string s, .slice ao' l.length cap']) ∧ bs'.Nodup ∧ ∀ b ∈ bs', W.heap.size ≤ b) := ⟨k1, k2, k3⟩; clear k1 k2 k3 k4; obtain ⟨⟨_, _, _, _, _, _⟩, _⟩ := HR.out w1 HB1.out))
  all_goals
    go_wp2_with fail
    clear r0 r1 r2 r3 r4 r5 rf
    obtain ⟨⟨r0, r1, r2, r3, r4, r5⟩, rf⟩ := HR.out w1 HB1.out
    refine bodyPost_ret (v := sdV a p k n s ao' l.length cap') (by simp [results, Try.results28, go_sem, r0, r1, r2, r3, r4, r5]) rfl ?_
    have hz := HBW.out.2
    have hlo := HO1.out.2.2
    have n1 : w.heap.size ≤ w.heap.size + 1 := by omega
    have hW1 : Below w.heap.size w w1 := HBW.out.1.trans (HB1.out.mono HBW.out.1.size)
    refine ⟨ao', cap', bs', rfl, OsV.keep (fun x hx _ => ?_) HO1.out.1, HO1.out.2.1, fun b hb => by have := hlo b hb; omega, ?_⟩
    · have := hlo x hx
      have n2 : x ≠ w.heap.size + 1 := by omega
      rw [Below.heap_setCell _ ⟨w.heap.size + 1, 5, none⟩ _ x n2, Below.heap_setCell _ ⟨w.heap.size + 1, 4, none⟩ _ x n2, Below.heap_setCell _ ⟨w.heap.size + 1, 3, none⟩ _ x n2, Below.heap_setCell _ ⟨w.heap.size + 1, 2, none⟩ _ x n2, Below.heap_setCell _ ⟨w.heap.size + 1, 1, none⟩ _ x n2, Below.heap_setCell _ ⟨w.heap.size + 1, 0, none⟩ _ x n2]
    · exact (((((hW1.setCell (p := ⟨w.heap.size + 1, 0, none⟩) n1 _).setCell (p := ⟨w.heap.size + 1, 1, none⟩) n1 _).setCell (p := ⟨w.heap.size + 1, 2, none⟩) n1 _).setCell (p := ⟨w.heap.size + 1, 3, none⟩) n1 _).setCell (p := ⟨w.heap.size + 1, 4, none⟩) n1 _).setCell (p := ⟨w.heap.size + 1, 5, none⟩) n1 _
theorem GL.elt {w : World} {l : List Sd} {bs : List Nat} {ao : Option Addr} (h : GL eltS w l bs ao) (hnd : bs.Nodup) (j : Nat) (hj : j < l.length) : ∃ g o bt, ao = some ⟨g, o, none⟩ ∧ bt.Nodup ∧ (∀ x ∈ bt, x ∈ bs) ∧ eltS.E w l[j] bt g (o + j * 6) := by
  rcases h with h | ⟨hl, g, o, b, e1, e2, _, hr⟩
  · rw [h.1] at hj; simp at hj
  · have el : l = l.take j ++ l[j] :: l.drop (j + 1) := by rw [← List.drop_eq_getElem_cons hj, List.take_append_drop]
    have hr' : GR eltS w (l.take j ++ l[j] :: l.drop (j + 1)) b g o := by rw [← el]; exact hr
    obtain ⟨ba, bt, bb, eb, hA, hE, hB⟩ := GR.split hr'
    have hlen : (l.take j).length = j := by simp; omega
    rw [hlen] at hE
    rw [e1, eb, List.nodup_cons] at hnd
    have d1 := List.nodup_append.1 hnd.2
    exact ⟨g, o, bt, e2, (List.nodup_append.1 d1.2.1).1, fun x hx => by rw [e1, eb]; simp [hx], hE⟩
theorem undQ : Try.prog.underlying 44 = some (.slice 32) := by kernel_rfl
theorem run_zerosQ (n : Nat) (hn : n ≤ 1048576) (w : World) :
    (Instr.makeSlice 44 (.int .i64 (n : Int)) (.int .i64 (n : Int))).run Try.prog w = .ok (.slice (some ⟨w.heap.size, 0, none⟩) n n) (w.alloc (.cells (zerosS n) 32)) := by
  obtain ⟨i, hi, hzz⟩ := Option.map_eq_some_iff.1 infoTimer
  simp only [Prod.mk.injEq] at hzz
  obtain ⟨hz, hs, hb⟩ := hzz
  have hr := run_make (P := Try.prog) w 44 32 i _ undQ hi hz .i64 .i64 n n (by omega) (Int.le_refl _) (by rw [hb]; omega) (by omega)
  rw [hs] at hr
  simp only [Int.toNat_natCast] at hr
  exact hr

set_option maxHeartbeats 2000000 in
set_option maxRecDepth 100000 in
theorem ownTimers_any (l : List Sd) (bs0 : List Nat) (ao : Option Addr) (cap : Nat) (w : World) (hr : GL eltS w l bs0 ao) (hnd0 : bs0.Nodup) (hl : l.length ≤ 1048576) (hn : ∀ x ∈ l, ntL [x.t] ≤ 4194304) :
    Calls Try.prog 18 #[.slice ao l.length cap] w fun e w' => (∃ (g : Nat) (bs : List Nat), e = .returned (.slice (some ⟨g, 0, none⟩) l.length l.length) ∧ GL eltS w' l bs (some ⟨g, 0, none⟩) ∧ bs.Nodup ∧ ∀ b ∈ bs, w.heap.size ≤ b) ∧ Below w.heap.size w w' := by
  have HRW : Hid (GL eltS w l bs0 ao) := hr
  have HND0 : Hid (bs0.Nodup) := hnd0
  have HN : Hid (∀ x ∈ l, ntL [x.t] ≤ 4194304) := hn
  clear hr hn hnd0
  have hmk := run_zerosQ l.length hl
  go_enter Try.func18, Try.ntmps18
  go_wp2_with fail
  clear hmk
  go_loopw [11] (fun i w' => ∃ (k : Nat) (bs : List Nat), k ≤ l.length ∧ i = .int .i64 k ∧ MadeG eltS w w' w.heap.size l k bs) (fun i _ => l.length - (intOf i).toNat)
  case atStart => exact ⟨0, [], Nat.zero_le _, rfl, madeG_start w l _ (by unfold zerosS; rw [size_madeCells]; rfl) _⟩
  case round =>
    obtain ⟨k, bs, hk, rfl, hm⟩ := hrel
    have HM : Hid (MadeG eltS w wr w.heap.size l k bs) := hm
    clear hm
    by_cases hlt : k < l.length
    · obtain ⟨b, o, bt0, rfl, hnt, _, hE⟩ := GL.elt (HRW.out.below HM.out.below) HND0.out k hlt
      have hT := HN.out _ (List.getElem_mem hlt)
      have HST : Hid (∀ w1 bt tk tn ts tl tao tcap, l[k].t = .mk tk tn ts tl → MadeG eltS w w1 w.heap.size l k bs → OsV w1 bt (.mk tk tn ts tl) (.agg #[.int .i64 tk, .int .i64 tn, .string ts, .slice tao tl.length tcap]) → bt.Nodup → (∀ x ∈ bt, wr.heap.size ≤ x) → (∀ x ∈ bs, x < wr.heap.size) → MadeG eltS w (w1.setCells w.heap.size (k * 6) [.int .i64 l[k].kind, .int .i64 l[k].pid, .int .i64 tk, .int .i64 tn, .string ts, .slice tao tl.length tcap]) w.heap.size l (k + 1) (bs ++ (bt ++ []))) := fun w1 bt tk tn ts tl tao tcap et h1 h2 h3 h4 h5 => by
        refine h1.store (e := eltS) (B := wr.heap.size) (Nat.le_refl _) hlt _ rfl (fun w' hc hb => ⟨hc 0 (by show 0 < 6; omega), hc 1 (by show 1 < 6; omega), ?_⟩) h3 h4 h5 HM.out.lt
        obtain ⟨ao', cap', e, b1, b2, b3, b4⟩ := h2
        simp only [Value.agg.injEq, Array.mk.injEq, List.cons.injEq, and_true, Value.slice.injEq, true_and] at e
        obtain ⟨rfl, rfl⟩ := e
        rw [et, OsT]
        exact ⟨hc 2 (by show 2 < 6; omega), hc 3 (by show 3 < 6; omega), hc 4 (by show 4 < 6; omega), b1, tao, tcap, hc 5 (by show 5 < 6; omega), b2, b3, OsL.keep _ _ _ hb b4⟩
      generalize l[k] = x at hE HST hT
      obtain ⟨kind, pid, t⟩ := x
      obtain ⟨tk, tn, ts, tl⟩ := t
      obtain ⟨d0, d1, hOT⟩ := hE
      rw [OsT] at hOT
      obtain ⟨d2, d3, d4, hs4, tao, tcap, d5, hl5, hc5, hr5⟩ := hOT
      dsimp only at d0 d1
      obtain ⟨wa, hwa⟩ : ∃ wa, wa = wr.alloc (.cells #[.int .i64 kind, .int .i64 pid, .int .i64 tk, .int .i64 tn, .string ts, .slice tao tl.length tcap] 32) := ⟨_, rfl⟩
      have hba : Below wr.heap.size wr wa := by rw [hwa]; exact (Below.refl _ _).alloc (Nat.le_refl _) _
      have HBA : Hid (Below wr.heap.size wr wa) := hba
      have HC : Hid (Calls Try.prog 28 #[sdV kind pid tk tn ts tao tl.length tcap] wa fun e w' => ∃ ao' cap' bt, e = .returned (sdV kind pid tk tn ts ao' tl.length cap') ∧ OsV w' bt (.mk tk tn ts tl) (.agg #[.int .i64 tk, .int .i64 tn, .string ts, .slice ao' tl.length cap']) ∧ bt.Nodup ∧ (∀ b ∈ bt, wa.heap.size ≤ b) ∧ Below wa.heap.size wa w') :=
        ownTimer_any kind pid tk tn ts tl tao tcap bt0 wa ⟨tao, tcap, rfl, hs4, hl5, hc5, OsL.below hba hr5⟩ hnt hT
      clear hT hr5 hs4 hl5 hc5 hnt hba
      go_wp2_with (go_at_call 28; fail)
      rw [← hwa]
      clear hwa
      refine HC.out.mono ?_
      rintro e w1 ⟨ao', cap', bt, rfl, hq, hnd, hlo, hb1⟩
      have HB1 : Hid (Below wr.heap.size wr w1) := HBA.out.trans (hb1.mono HBA.out.size)
      have HM1 : Hid (MadeG eltS w w1 w.heap.size l k bs) := HM.out.call HB1.out
      have HOLD : Hid (∀ x ∈ bs, x < wr.heap.size) := HM.out.row.lt
      have HQ : Hid (OsV w1 bt (.mk tk tn ts tl) (.agg #[.int .i64 tk, .int .i64 tn, .string ts, .slice ao' tl.length cap']) ∧ bt.Nodup ∧ ∀ b ∈ bt, wr.heap.size ≤ b) := ⟨hq, hnd, fun b hb => Nat.le_trans HBA.out.size (hlo b hb)⟩
      have hf := HM1.out.free
      obtain ⟨x0, hs0⟩ := Option.isSome_iff_exists.1 (HM1.out.some (k * 6) (by show k * 6 < l.length * 6; omega))
      obtain ⟨x1, hs1⟩ := Option.isSome_iff_exists.1 (HM1.out.some (k * 6 + 1) (by show k * 6 + 1 < l.length * 6; omega))
      obtain ⟨x2, hs2⟩ := Option.isSome_iff_exists.1 (HM1.out.some (k * 6 + 2) (by show k * 6 + 2 < l.length * 6; omega))
      obtain ⟨x3, hs3⟩ := Option.isSome_iff_exists.1 (HM1.out.some (k * 6 + 3) (by show k * 6 + 3 < l.length * 6; omega))
      obtain ⟨x4, hs4⟩ := Option.isSome_iff_exists.1 (HM1.out.some (k * 6 + 4) (by show k * 6 + 4 < l.length * 6; omega))
      obtain ⟨x5, hs5⟩ := Option.isSome_iff_exists.1 (HM1.out.some (k * 6 + 5) (by show k * 6 + 5 < l.length * 6; omega))
      clear hb1 hq hnd hlo d0 d1 d2 d3 d4 d5
      have HM2 : Hid (MadeG eltS w (w1.setCells w.heap.size (k * 6) [.int .i64 kind, .int .i64 pid, .int .i64 tk, .int .i64 tn, .string ts, .slice ao' tl.length cap']) w.heap.size l (k + 1) (bs ++ (bt ++ []))) := HST.out w1 bt tk tn ts tl ao' cap' rfl HM1.out HQ.out.1 HQ.out.2.1 HQ.out.2.2 HOLD.out
      go_wp2_with fail
      go_roundw
      case rel => exact ⟨k + 1, _, by omega, by go_num, HM2.out⟩
      case measure => simp [intOf]; omega
    · go_wp2_with fail
      go_ret
      have hkl : k = l.length := by omega
      subst hkl
      obtain ⟨bs', h1, h2, h3⟩ := HM.out.done (Nat.le_refl _)
      exact ⟨⟨w.heap.size, bs', rfl, h1, h2, h3⟩, HM.out.below⟩
end Go.Proofs.Ytimnnedmpmlmdaa.Tr
