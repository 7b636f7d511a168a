/-
  A drawn timer, perhaps bent, is put among drawn timers behind all that are not later; all others stay in order, and are the same terms: for every list of bytes the law FnTimers returns true and its argument reads as before. No condition.
  (Ahead of it, in this text: A timer drawn beside drawn timers; a timer put among timers in order. What the law FnTimers does.)
-/
import Derived.Test.YtimnnedmpmlmdaaV9
import Derived.OpenShut
import Derived.ChangeOld
namespace Go.Proofs.Ytimnnedmpmlmdaa.Tv
open Go.RowKit Atom
open Go.Proofs.Ytimnnedmpmlmdaa.Tr
set_option linter.unusedVariables false

/-! ### What a timer that is put in does to a list -/
theorem ins_ord {l : List Sd} {x : Sd} {k : Nat} (ho : ordB l = true) (hp : Tr.Place l x.kind k) : ordB (putAt l k x) = true := by
  have hw := ord_pair.1 ho
  refine ord_pair.2 ?_
  unfold putAt
  have hlo : ∀ y ∈ l.take k, y.kind ≤ x.kind := fun y hy => by
    obtain ⟨j, hj, rfl⟩ := List.getElem_of_mem hy
    rw [List.getElem_take]
    rw [List.length_take] at hj
    exact hp.lo j (by omega) (by omega)
  have hhi : ∀ y ∈ l.drop k, x.kind ≤ y.kind := fun y hy => by
    obtain ⟨j, hj, rfl⟩ := List.getElem_of_mem hy
    rw [List.getElem_drop]
    rw [List.length_drop] at hj
    exact Int.le_of_lt (hp.hi (k + j) (by omega) (by omega))
  refine List.pairwise_append.2 ⟨hw.sublist (List.take_sublist _ _), List.pairwise_cons.2 ⟨hhi, hw.sublist (List.drop_sublist _ _)⟩, fun y hy z hz => ?_⟩
  rcases List.mem_cons.1 hz with rfl | hz
  · exact hlo y hy
  · exact Int.le_trans (hlo y hy) (hhi z hz)
theorem put_len {l : List Sd} {x : Sd} {k : Nat} (h : k ≤ l.length) : (putAt l k x).length = l.length + 1 := by
  unfold putAt; simp; omega
theorem ins_ok {l : List Sd} {x : Sd} {k : Nat} (ha : addB l x = true) (hp : Tr.Place l x.kind k) : tmsB (putAt l k x) = true := by
  unfold addB at ha
  simp only [Bool.and_eq_true, decide_eq_true_eq] at ha
  obtain ⟨h1, h2, h3⟩ := ha
  unfold tmsB at h1 ⊢
  simp only [Bool.and_eq_true, decide_eq_true_eq] at h1 ⊢
  obtain ⟨_, h4, h5⟩ := h1
  refine ⟨by rw [put_len hp.le]; omega, ins_ord h4 hp, ?_⟩
  unfold allB at h5 ⊢
  rw [List.all_eq_true] at h5 ⊢
  intro y hy
  unfold putAt at hy
  rcases List.mem_append.1 hy with hy | hy
  · exact h5 y (List.mem_of_mem_take hy)
  · rcases List.mem_cons.1 hy with rfl | hy
    · exact h2
    · exact h5 y (List.mem_of_mem_drop hy)
theorem put_same {l : List Sd} {x : Sd} {k : Nat} (h : k ≤ l.length) : ∃ q : k < (putAt l k x).length, (putAt l k x)[k]'q = x := by
  refine ⟨by rw [put_len h]; omega, ?_⟩
  have hlt : (l.take k).length = k := by rw [List.length_take]; omega
  have : (putAt l k x)[k]? = some x := by
    unfold putAt
    rw [List.getElem?_append_right (by omega), hlt, Nat.sub_self]; rfl
  exact (List.getElem?_eq_some_iff.1 this).2
theorem put_lo {l : List Sd} {x : Sd} {k i : Nat} (h : k ≤ l.length) (hik : i < k) (hi : i < l.length) : ∃ q : i < (putAt l k x).length, (putAt l k x)[i]'q = l[i] := by
  refine ⟨by rw [put_len h]; omega, ?_⟩
  have hlt : (l.take k).length = k := by rw [List.length_take]; omega
  have : (putAt l k x)[i]? = some l[i] := by
    unfold putAt
    rw [List.getElem?_append_left (by omega), List.getElem?_take, if_pos hik, List.getElem?_eq_getElem hi]
  exact (List.getElem?_eq_some_iff.1 this).2
theorem put_hi {l : List Sd} {x : Sd} {k i : Nat} (h : k ≤ l.length) (hik : k ≤ i) (hi : i < l.length) : ∃ q : i + 1 < (putAt l k x).length, (putAt l k x)[i + 1]'q = l[i] := by
  refine ⟨by rw [put_len h]; omega, ?_⟩
  have hlt : (l.take k).length = k := by rw [List.length_take]; omega
  have : (putAt l k x)[i + 1]? = some l[i] := by
    unfold putAt
    rw [List.getElem?_append_right (by omega), hlt, show i + 1 - k = (i - k) + 1 by omega, List.getElem?_cons_succ, List.getElem?_drop, show k + (i - k) = i by omega, List.getElem?_eq_getElem hi]
  exact (List.getElem?_eq_some_iff.1 this).2
theorem place_of {l : List Sd} {a : Int} {k : Nat} (ho : ordB l = true) (hk : k ≤ l.length) (hlo : ∀ t, t < k → (h2 : t < l.length) → l[t].kind ≤ a) (hx : ∀ h : k < l.length, a < l[k].kind) : Tr.Place l a k :=
  ⟨hk, hlo, fun t ht h2 => by
    obtain ⟨d, rfl⟩ : ∃ d, t = k + d := ⟨t - k, by omega⟩
    exact Int.lt_of_lt_of_le (hx (by omega)) (ord_le ho k d h2)⟩

/-! ### The draw -/
set_option maxHeartbeats 2000000 in
theorem drawAdd_any (w : World) (ao : Option Addr) (len cap : Nat) (zs : List Int) (hr : IsRow w ao len cap zs) (hsm : len ≤ 1048576) :
    Calls Try.prog 12 #[.slice ao len cap] w fun e w' => ∃ (l : List Sd) (a : Option Addr) (c : Nat) (x : Sd) (tk tn : Int) (ts : ByteArray) (tao : Option Addr) (tlen tcap : Nat), e = .returned (.tuple #[.slice a l.length c, sdV x.kind x.pid tk tn ts tao tlen tcap]) ∧ l.length ≤ 52 ∧ (∃ bs, GL eltS w' l bs a ∧ bs.Nodup) ∧ (∃ bx, OsV w' bx x.t (.agg #[.int .i64 tk, .int .i64 tn, .string ts, .slice tao tlen tcap]) ∧ bx.Nodup) ∧ BnT 46 x.t ∧ (∀ x ∈ l, SdOk x) ∧ Below w.heap.size w w' := by
  obtain ⟨w0, hw0⟩ : ∃ w0, w0 = w.alloc (.cells #[.int .i64 0, .int .i64 0, .int .i64 0, .int .i64 0, .string ⟨#[]⟩, .slice none 0 0] 32) := ⟨_, rfl⟩
  have hb0 : Below w.heap.size w w0 := by rw [hw0]; exact (Below.refl _ _).alloc (Nat.le_refl _) _
  have HR : Hid (IsRow w0 ao len cap zs ∧ Below w.heap.size w w0 ∧ w0.heap.size = w.heap.size + 1 ∧ (∀ o, w0.cell? ⟨w.heap.size, o, none⟩ = (#[.int .i64 0, .int .i64 0, .int .i64 0, .int .i64 0, .string ⟨#[]⟩, .slice none 0 0] : Array Value)[o]?) ∧ ∀ o, w0.frozen? ⟨w.heap.size, o, none⟩ = false) := by
    refine ⟨hr.below hb0, hb0, ?_, ?_, ?_⟩
    · rw [hw0, World.size_alloc]
    · intro o; rw [hw0, World.cell?_alloc_new]
    · intro o; rw [hw0, World.frozen?_alloc_new]
  clear hr hb0
  go_enter Try.func12, Try.ntmps12
  go_wp2_with (go_at_call 15; fail)
  rw [← hw0]
  clear hw0
  refine (new_any w0 ao len cap zs HR.out.1 hsm).mono ?_
  rintro e w1 ⟨rfl, hcur, hb1, hsz⟩
  have HC1 : Hid (Cur w0.heap.size ao len cap zs w1 ∧ Below w0.heap.size w0 w1 ∧ w1.heap.size = w0.heap.size + 1) := ⟨hcur, hb1, hsz⟩
  clear hcur hb1 hsz
  go_wp2_with (go_at_call 16; fail)
  refine (tmsAny_any w0.heap.size ao len cap zs w1 HC1.out.1).mono ?_
  rintro e w2 ⟨l, a, c, xs, bs, rfl, hl, har, hok, hd2⟩
  have H2 : Hid (AR w2 w1.heap.size (.slice a l.length c) l xs bs ∧ (∀ x ∈ l, SdOk x) ∧ Drawn w0.heap.size ao len cap zs w1 w2) := ⟨har, hok, hd2⟩
  clear har hok hd2
  go_wp2_with (go_at_call 23; fail)
  refine (bent_any w0.heap.size ao len cap zs w2 H2.out.2.2.1).mono ?_
  rintro e w3 ⟨⟨kd, pd, t⟩, tk, tn, ts, tao, tlen, tcap, rfl, ⟨bx, hos, hbn, hbl⟩, hbnt, hd3⟩
  have htt : Turn w0.heap.size w0 w3 := (Turn.of_below HC1.out.2.1).trans (H2.out.2.2.2.trans hd3.2)
  obtain ⟨q3, f3⟩ := htt.kept (W := w.heap.size) (by have := HR.out.2.2.1; omega) (by have := HR.out.2.2.1; omega) HR.out.2.2.2.1 HR.out.2.2.2.2
  have HW : Hid (w0.heap.size = w.heap.size + 1 ∧ w1.heap.size = w0.heap.size + 1) := ⟨HR.out.2.2.1, HC1.out.2.2⟩
  have HF : Hid ((∃ bs, GL eltS ((((((w3.setCell ⟨w.heap.size, 0, none⟩ (.int .i64 kd)).setCell ⟨w.heap.size, 1, none⟩ (.int .i64 pd)).setCell ⟨w.heap.size, 2, none⟩ (.int .i64 tk)).setCell ⟨w.heap.size, 3, none⟩ (.int .i64 tn)).setCell ⟨w.heap.size, 4, none⟩ (.string ts)).setCell ⟨w.heap.size, 5, none⟩ (.slice tao tlen tcap)) l bs a ∧ bs.Nodup) ∧ (∃ bx, OsV ((((((w3.setCell ⟨w.heap.size, 0, none⟩ (.int .i64 kd)).setCell ⟨w.heap.size, 1, none⟩ (.int .i64 pd)).setCell ⟨w.heap.size, 2, none⟩ (.int .i64 tk)).setCell ⟨w.heap.size, 3, none⟩ (.int .i64 tn)).setCell ⟨w.heap.size, 4, none⟩ (.string ts)).setCell ⟨w.heap.size, 5, none⟩ (.slice tao tlen tcap)) bx t (.agg #[.int .i64 tk, .int .i64 tn, .string ts, .slice tao tlen tcap]) ∧ bx.Nodup) ∧ BnT 46 t ∧ Below w.heap.size w ((((((w3.setCell ⟨w.heap.size, 0, none⟩ (.int .i64 kd)).setCell ⟨w.heap.size, 1, none⟩ (.int .i64 pd)).setCell ⟨w.heap.size, 2, none⟩ (.int .i64 tk)).setCell ⟨w.heap.size, 3, none⟩ (.int .i64 tn)).setCell ⟨w.heap.size, 4, none⟩ (.string ts)).setCell ⟨w.heap.size, 5, none⟩ (.slice tao tlen tcap))) := by
    refine ⟨?_, ⟨bx, hos.keep fun b hb hl => blk6 (by have := hbl b hb; have := H2.out.2.2.2.size; have := HW.out; omega) _ _ _ _ _ _, hbn⟩, hbnt, ?_⟩
    · obtain ⟨e, h1, h2, h3⟩ := (H2.out.1.turn hd3.2 (by have := HW.out; omega)).gl
      exact ⟨e, h1.keep fun b hb hl => blk6 (by have := h3 b hb; have := HW.out; omega) _ _ _ _ _ _, h2⟩
    · have hbw : Below w.heap.size w w3 := Turn.below HR.out.2.1 HR.out.2.1.size htt (by have := HW.out; omega)
      exact (((((hbw.setCell (p := ⟨w.heap.size, 0, none⟩) (Nat.le_refl _) _).setCell (p := ⟨w.heap.size, 1, none⟩) (Nat.le_refl _) _).setCell (p := ⟨w.heap.size, 2, none⟩) (Nat.le_refl _) _).setCell (p := ⟨w.heap.size, 3, none⟩) (Nat.le_refl _) _).setCell (p := ⟨w.heap.size, 4, none⟩) (Nat.le_refl _) _).setCell (p := ⟨w.heap.size, 5, none⟩) (Nat.le_refl _) _
  clear htt hd3 hos hbn hbl hbnt
  have b0 := q3 0
  have b1 := q3 1
  have b2 := q3 2
  have b3 := q3 3
  have b4 := q3 4
  have b5 := q3 5
  have qr : Hid (∀ o, w3.cell? ⟨w.heap.size, o, none⟩ = (#[.int .i64 0, .int .i64 0, .int .i64 0, .int .i64 0, .string ⟨#[]⟩, .slice none 0 0] : Array Value)[o]?) := q3
  clear q3
  go_wp2_with fail
  have qr := qr.out
  exact bodyPost_ret (v := .tuple #[.slice a l.length c, sdV kd pd tk tn ts tao tlen tcap]) (by simp [results, Try.results12, go_sem, qr]) rfl ⟨l, a, c, ⟨kd, pd, t⟩, tk, tn, ts, tao, tlen, tcap, rfl, hl, HF.out.1, HF.out.2.1, HF.out.2.2.1, H2.out.2.1, HF.out.2.2.2⟩
end Go.Proofs.Ytimnnedmpmlmdaa.Tv
namespace Go.Proofs.Ytimnnedmpmlmdaa.Tv
open Go.RowKit Atom
open Go.Proofs.Ytimnnedmpmlmdaa.Tr
set_option linter.unusedVariables false

theorem addB_ordT {l : List Sd} {x : Sd} (h : addB l x = true) : ordB l = true := by
  unfold addB at h
  exact addB_ord (Bool.and_eq_true_iff.1 h).1
theorem cnt_ntL : ∀ l : List Tm, cntL l = ntL l
  | [] => by rw [cntL, ntL]
  | .mk k n s m :: r => by rw [cntL, cntT, ntL, cnt_ntL m, cnt_ntL r]
theorem bnt_cnt {M : Nat} {t : Tm} (h : BnT M t) (hm : M ≤ 1000000) : cntT t ≤ 1000000000 := by
  have h1 := h.2
  rw [← cnt_ntL, cntL, cntL] at h1
  omega

set_option maxRecDepth 100000 in
set_option maxHeartbeats 20000000 in
theorem timers_law (w : World) (ao : Option Addr) (len cap : Nat) (zs : List Int) (hr : IsRow w ao len cap zs) (hlc : len ≤ cap) (hcm : cap ≤ maxLen) :
    Calls Try.prog 4 #[.slice ao len cap] w fun e w' => e = .returned (.bool true) ∧ Below w.heap.size w w' := by
  have HR : Hid (IsRow w ao len cap zs) := hr
  have HBG : Hid (∀ w', Calls Try.prog 5 #[.slice ao len cap] w' fun e w'' => e = .returned (.bool (decide (1048576 < len))) ∧ w'' = w') := fun w' => bigT_any ao len cap w' (Nat.le_trans hlc hcm)
  clear hr hlc hcm
  by_cases hbig : 1048576 < len
  · have hd : decide (1048576 < len) = true := by simpa using hbig
    rw [hd] at HBG
    go_enter Try.func4, Try.ntmps4
    go_wp2_with (go_at_call 5; refine (HBG.out _).mono ?_; rintro e w' ⟨rfl, rfl⟩)
    go_ret
    exact ⟨rfl, Below.refl _ _⟩
  · have hd : decide (1048576 < len) = false := by simpa using hbig
    rw [hd] at HBG
    have HSM : Hid (len ≤ 1048576) := by show _ ≤ _; omega
    clear hd hbig
    go_enter Try.func4, Try.ntmps4
    go_wp2_with (go_at_call 5; refine (HBG.out _).mono ?_; rintro e w' ⟨rfl, hw'⟩; obtain rfl := hw'.symm)
    refine (drawAdd_any w ao len cap zs HR.out HSM.out).mono ?_
    rintro e w1 ⟨l, a, c, ⟨kd, pd, ⟨k, n, s, tl⟩⟩, tk, tn, ts, tao, tlen, tcap, rfl, hl, ⟨bs, hgl, hnd⟩, ⟨bx, hos, hbn⟩, hbnt, hok, hb1⟩
    have hos0 := hos
    rw [OsV] at hos0
    obtain ⟨xo, xcap, ev, _, _, _, _⟩ := hos0
    simp only [Value.agg.injEq, Array.mk.injEq, List.cons.injEq, Value.int.injEq, Value.string.injEq, Value.slice.injEq, true_and, and_true] at ev
    obtain ⟨rfl, rfl, rfl, rfl, rfl, rfl⟩ := ev
    obtain ⟨w2, hw2⟩ : ∃ w2, w2 = w1.alloc (.cells #[.int .i64 kd, .int .i64 pd, .int .i64 tk, .int .i64 tn, .string ts, .slice tao tl.length tcap] 32) := ⟨_, rfl⟩
    have hb2 : Below w1.heap.size w1 w2 := by rw [hw2]; exact (Below.refl _ _).alloc (Nat.le_refl _) _
    have cx : ∀ o, w2.cell? ⟨w1.heap.size, o, none⟩ = (#[.int .i64 kd, .int .i64 pd, .int .i64 tk, .int .i64 tn, .string ts, .slice tao tl.length tcap] : Array Value)[o]? := fun o => by rw [hw2, World.cell?_alloc_new]
    have hos2 : OsV w2 bx (.mk tk tn ts tl) (.agg #[.int .i64 tk, .int .i64 tn, .string ts, .slice tao tl.length tcap]) := OsV.below hb2 hos
    have HX : Hid (∀ wc, Below w2.heap.size w2 wc → Bt wc w1.heap.size 0 ⟨kd, pd, .mk tk tn ts tl⟩ tk tn ts tao tl.length tcap) := fun wc hb =>
      Bt.below (w := w2) ⟨cx 0, cx 1, cx 2, cx 3, cx 4, cx 5, osV_rp hos2⟩ hb
    have HG2 : Hid (GL eltS w2 l bs a ∧ Below w.heap.size w w2 ∧ (∀ x ∈ l, SdOk x) ∧ BnT 46 (.mk tk tn ts tl)) := ⟨hgl.below hb2, hb1.trans (hb2.mono hb1.size), hok, hbnt⟩
    have HCA := hidB (implAdd_any l bs bx a c kd pd tk tn ts tl tao tcap w2 (hgl.below hb2) hnd (by omega) (fun x hx => nt_small (hok x hx)) hos2 hbn (Nat.le_trans hbnt.2 (by decide)))
    have HSA : Hid (∀ wc, Below w2.heap.size w2 wc → Calls Try.prog 14 #[.slice a l.length c, sdV kd pd tk tn ts tao tl.length tcap] wc fun e w' => (∃ a1 n1 c1, e = .returned (.tuple #[.slice a1 n1 c1, .bool (addB l ⟨kd, pd, .mk tk tn ts tl⟩)])) ∧ Below wc.heap.size wc w') := fun wc hb =>
      (specAdd_any l a c kd pd (.mk tk tn ts tl) tk tn ts tao tl.length tcap wc (GL.rowS ((hgl.below hb2).below hb)) (by omega) (fun x hx => wf_sts _ (hok x hx).2.2.1) (OsV.rep (OsV.below hb hos2)) hbnt.1).mono fun e w' ⟨⟨a1, c1, e1, h1, _⟩, h2⟩ => ⟨⟨a1, _, c1, h1⟩, h2⟩
    clear hgl hnd hos hbn hbnt hok hb1 hb2 cx hos2
    go_wp2_with (go_at_call 13; fail)
    rw [← hw2]
    clear hw2
    refine HCA.out.mono ?_
    rintro e w3 ⟨⟨a1, c1, e1', rfl, hg1, hnd1, hlo1⟩, hb3⟩
    have H3 : Hid (GL eltS w3 (addT l ⟨kd, pd, .mk tk tn ts tl⟩) e1' a1 ∧ Below w2.heap.size w2 w3) := ⟨hg1, hb3⟩
    clear hg1 hnd1 hlo1 hb3 HCA
    obtain ⟨M, hM⟩ : ∃ M, M = (addT l ⟨kd, pd, .mk tk tn ts tl⟩).length := ⟨_, rfl⟩
    have HM : Hid (M = (addT l ⟨kd, pd, .mk tk tn ts tl⟩).length) := hM
    rw [← hM]
    clear hM
    have hxc := HX.out w3 H3.out.2
    have b0 : w3.cell? ⟨w1.heap.size, 0, none⟩ = some (.int .i64 kd) := hxc.c0
    have b1 : w3.cell? ⟨w1.heap.size, 1, none⟩ = some (.int .i64 pd) := hxc.c1
    have b2 : w3.cell? ⟨w1.heap.size, 2, none⟩ = some (.int .i64 tk) := hxc.c2
    have b3 : w3.cell? ⟨w1.heap.size, 3, none⟩ = some (.int .i64 tn) := hxc.c3
    have b4 : w3.cell? ⟨w1.heap.size, 4, none⟩ = some (.string ts) := hxc.c4
    have b5 : w3.cell? ⟨w1.heap.size, 5, none⟩ = some (.slice tao tl.length tcap) := hxc.c5
    clear hxc
    cases hA : addB l ⟨kd, pd, .mk tk tn ts tl⟩ with
    | false =>
      rw [hA] at HSA
      have hm : M = l.length := by rw [HM.out, addT_no hA]
      clear HM hA
      subst hm
      go_wp2_with (go_at_call 14; fail)
      refine (HSA.out w3 H3.out.2).mono ?_
      rintro e w4 ⟨⟨a2, n2, c2, rfl⟩, hb4⟩
      clear b0 b1 b2 b3 b4 b5
      have HB4 : Hid (Below w.heap.size w w4) := HG2.out.2.1.trans ((H3.out.2.trans (hb4.mono H3.out.2.size)).mono HG2.out.2.1.size)
      clear hb4
      have e1 : ((l.length : Int) == (l.length : Int)) = true := by simp
      go_wp2_with fail
      go_ret
      exact ⟨rfl, HB4.out⟩
    | true =>
      rw [hA] at HSA
      have HA : Hid (addB l ⟨kd, pd, .mk tk tn ts tl⟩ = true) := hA
      have hm : M = l.length + 1 := by rw [HM.out, addT_yes hA, insT_length]
      clear HM hA
      subst hm
      go_wp2_with (go_at_call 14; fail)
      refine (HSA.out w3 H3.out.2).mono ?_
      rintro e w4 ⟨⟨a2, n2, c2, rfl⟩, hb4⟩
      clear b0 b1 b2 b3 b4 b5
      have HB4 : Hid (Below w2.heap.size w2 w4 ∧ Below w3.heap.size w3 w4) := ⟨H3.out.2.trans (hb4.mono H3.out.2.size), hb4⟩
      clear hb4 HSA
      go_wp2_with fail
      go_loopw [9] (fun i wr => ∃ k : Nat, k ≤ l.length ∧ i = .int .i64 k ∧ (∀ t, t < k → (h2 : t < l.length) → l[t].kind ≤ kd) ∧ Below w4.heap.size w4 wr) (fun i _ => l.length - (intOf i).toNat)
      case atStart => exact ⟨0, Nat.zero_le _, rfl, fun t ht => by omega, Below.refl _ _⟩
      case round =>
        obtain ⟨k, hk, rfl, hlo, hbl⟩ := hrel
        have HB : Hid (Below w4.heap.size w4 wr) := hbl
        have HLO : Hid (∀ t, t < k → (h2 : t < l.length) → l[t].kind ≤ kd) := hlo
        clear hbl hlo
        have HXR : Hid (Bt wr w1.heap.size 0 ⟨kd, pd, .mk tk tn ts tl⟩ tk tn ts tao tl.length tcap) := HX.out wr (HB4.out.1.trans (HB.out.mono HB4.out.1.size))
        by_cases hlt : k < l.length
        · obtain ⟨g, o, rfl, yk, yn, ys, yao, ylen, ycap, hbt0⟩ := gl_bt HG2.out.1 k hlt
          have hbt : Bt wr g (o + k * 6) l[k] yk yn ys yao ylen ycap := hbt0.below (HB4.out.1.trans (HB.out.mono HB4.out.1.size))
          have x0 := Inn.keep hbt.c0
          have y0 : ∀ x : Inn wr, x.val.cell? ⟨w1.heap.size, 0, none⟩ = some (.int .i64 kd) := Inn.keep HXR.out.c0
          clear hbt hbt0
          by_cases hle : l[k].kind ≤ kd
          · have HLE : Hid (l[k].kind ≤ kd) := hle
            have e1 : decide (k < l.length) = true := by simpa using hlt
            have e2 : decide (l[k].kind ≤ kd) = true := by simpa using hle
            obtain ⟨y, hy⟩ : ∃ y, y = l[k].kind := ⟨_, rfl⟩
            rw [← hy] at x0 e2 hle
            clear hy
            haveI := inn_ne wr
            go_wp2_with fail
            refine wp_region_inn ?_ ?_ ?_
            · kernel_rfl
            · kernel_rfl
            repeat (go_big_quiet_step (fail))
            refine wpQuiet_nil ?_
            rintro w5 ⟨x5, h5⟩
            have HB5 : Hid (Below w4.heap.size w4 w5) := HB.out.trans (by rw [h5]; exact x5.bel.mono HB.out.size)
            clear h5 x5 x0 y0
            go_wp2_with fail
            go_roundw
            case rel =>
              exact ⟨k + 1, by omega, by go_num, fun t ht h2 => by
                rcases Nat.lt_or_ge t k with q | q
                · exact HLO.out t q h2
                · obtain rfl : t = k := by omega
                  exact HLE.out, HB5.out⟩
            case measure => simp [intOf]; omega
          · have HP : Hid (Tr.Place l kd k) := place_of (addB_ordT HA.out) hk HLO.out (fun _ => by omega)
            have e1 : decide (k < l.length) = true := by simpa using hlt
            have e2 : decide (l[k].kind ≤ kd) = false := by simpa using hle
            obtain ⟨y, hy⟩ : ∃ y, y = l[k].kind := ⟨_, rfl⟩
            rw [← hy] at x0 e2 hle
            clear hy

            haveI := inn_ne wr
            go_wp2_with fail
            refine wp_region_inn ?_ ?_ ?_
            · kernel_rfl
            · kernel_rfl
            repeat (go_big_quiet_step (fail))
            refine wpQuiet_nil ?_
            rintro w5 ⟨x5, h5⟩
            have HB5 : Hid (Below w4.heap.size w4 w5) := HB.out.trans (by rw [h5]; exact x5.bel.mono HB.out.size)
            clear h5 x5
            clear x0 y0 e1 e2 hle hlt

            clear HB HXR HLO
            have HX5 : Hid (∀ wc, Below w5.heap.size w5 wc → Bt wc w1.heap.size 0 ⟨kd, pd, .mk tk tn ts tl⟩ tk tn ts tao tl.length tcap) := fun wc hb => HX.out wc (HB4.out.1.trans ((HB5.out.trans (hb.mono HB5.out.size)).mono HB4.out.1.size))
            have HMG : Hid (GL eltS w5 (putAt l k ⟨kd, pd, .mk tk tn ts tl⟩) e1' a1) := by
              have h := (H3.out.1.below HB4.out.2).below HB5.out
              rw [addT_yes HA.out] at h
              unfold insT at h
              rw [← HP.out.eq] at h
              exact h
            obtain ⟨q, hq⟩ := put_same (x := ⟨kd, pd, .mk tk tn ts tl⟩) hk
            obtain ⟨g1, o1, rfl, k1, n1, s1, t1o, t1l, t1c, hbt1⟩ := gl_bt HMG.out k q
            rw [hq] at hbt1
            have HBT1 : Hid (Bt w5 g1 (o1 + k * 6) ⟨kd, pd, .mk tk tn ts tl⟩ k1 n1 s1 t1o t1l t1c) := hbt1
            have HTO : Hid (∀ x : Inn w5, Calls Try.prog 10 #[.slice (some ⟨g1, o1, none⟩) (l.length + 1) c1] x.val fun e w' => e = .returned (.bool true) ∧ Below x.val.heap.size x.val w') := fun x => by
              have h := implTimersOk_any (putAt l k ⟨kd, pd, .mk tk tn ts tl⟩) (some ⟨g1, o1, none⟩) c1 x.val (GL.rowS (HMG.out.below x.bel)) (by rw [put_len hk]; unfold maxLen; omega)
              rw [put_len hk, ins_ok HA.out HP.out] at h
              exact h
            have HCN : Hid (cntT (.mk tk tn ts tl) ≤ 1000000000) := bnt_cnt HG2.out.2.2.2 (by omega)
            have HST : Hid (∀ x : Inn w5, Calls Try.prog 8 #[.agg #[.int .i64 k1, .int .i64 n1, .string s1, .slice t1o t1l t1c], .agg #[.int .i64 tk, .int .i64 tn, .string ts, .slice tao tl.length tcap]] x.val fun e w' => e = .returned (.bool true) ∧ Below x.val.heap.size x.val w') := fun x => same_one (t := .mk tk tn ts tl) (HBT1.out.below x.bel).t (HX5.out x.val x.bel).t HCN.out
            have x0 := Inn.keep HBT1.out.c0
            have x1 := Inn.keep HBT1.out.c1
            have x2 := Inn.keep HBT1.out.c2
            have x3 := Inn.keep HBT1.out.c3
            have x4 := Inn.keep HBT1.out.c4
            have x5 := Inn.keep HBT1.out.c5
            have y0 : ∀ x : Inn w5, x.val.cell? ⟨w1.heap.size, 0, none⟩ = some (.int .i64 kd) := Inn.keep (HX5.out w5 (Below.refl _ _)).c0
            have y1 : ∀ x : Inn w5, x.val.cell? ⟨w1.heap.size, 1, none⟩ = some (.int .i64 pd) := Inn.keep (HX5.out w5 (Below.refl _ _)).c1
            have y2 : ∀ x : Inn w5, x.val.cell? ⟨w1.heap.size, 2, none⟩ = some (.int .i64 tk) := Inn.keep (HX5.out w5 (Below.refl _ _)).c2
            have y3 : ∀ x : Inn w5, x.val.cell? ⟨w1.heap.size, 3, none⟩ = some (.int .i64 tn) := Inn.keep (HX5.out w5 (Below.refl _ _)).c3
            have y4 : ∀ x : Inn w5, x.val.cell? ⟨w1.heap.size, 4, none⟩ = some (.string ts) := Inn.keep (HX5.out w5 (Below.refl _ _)).c4
            have y5 : ∀ x : Inn w5, x.val.cell? ⟨w1.heap.size, 5, none⟩ = some (.slice tao tl.length tcap) := Inn.keep (HX5.out w5 (Below.refl _ _)).c5
            clear hbt1 hq q
            dsimp only at x0 x1 x2 x3 x4 x5
            haveI := inn_ne w5
            have hkM : k < l.length + 1 := by omega
            have r2 : (kd != kd) = false := by simp
            have r3 : (pd != pd) = false := by simp
            go_wp2_with fail
            refine wp_region_inn ?_ ?_ ?_
            · kernel_rfl
            · kernel_rfl
            repeat (go_big_quiet_step (first
              | (go_at_call 8; exact calls_inn (HST.out _))
              | (go_at_call 10; exact calls_inn (HTO.out _))))
            refine wpQuiet_nil ?_
            rintro w6 ⟨x6, h6⟩
            have HB6 : Hid (Below w5.heap.size w5 w6) := by rw [h6]; exact x6.bel
            clear h6 x6 x0 x1 x2 x3 x4 x5 y0 y1 y2 y3 y4 y5 r2 r3 HST HTO
            go_wp2_with fail
            go_loopw [10] (fun i wr => ∃ j : Nat, j ≤ l.length ∧ i = .int .i64 j ∧ Below w6.heap.size w6 wr) (fun i _ => l.length - (intOf i).toNat)
            case atStart => exact ⟨0, Nat.zero_le _, rfl, Below.refl _ _⟩
            case round =>
              obtain ⟨j, hj, rfl, hbl⟩ := hrel
              have HB : Hid (Below w5.heap.size w5 wr) := HB6.out.trans (hbl.mono HB6.out.size)
              have HB7 : Hid (Below w6.heap.size w6 wr) := hbl
              clear hbl
              by_cases hjl : j < l.length
              · rcases Nat.lt_or_ge j k with hjk | hjk
                · have hkj : j < k := by omega
                  obtain ⟨q, hq⟩ := put_lo (x := ⟨kd, pd, .mk tk tn ts tl⟩) hk hkj hjl
                  obtain ⟨g8, o8, em, mk, mn, ms, mao, mlen, mcap, hbm0⟩ := gl_bt HMG.out (j) q
                  rw [hq] at hbm0
                  have HBM : Hid (Bt wr g8 (o8 + (j) * 6) l[j] mk mn ms mao mlen mcap) := hbm0.below HB.out
                  obtain ⟨g9, o9, ea, lk, ln, ls, lao, llen, lcap, hbl0⟩ := gl_bt HG2.out.1 j hjl
                  have HBL : Hid (Bt wr g9 (o9 + j * 6) l[j] lk ln ls lao llen lcap) := hbl0.below (HB4.out.1.trans ((HB5.out.trans (HB.out.mono HB5.out.size)).mono HB4.out.1.size))
                  clear hbm0 hbl0 hq q
                  cases em
                  cases ea
                  have HOK : Hid (cntT l[j].t ≤ 1000000000) := cnt_6 (d := 1) (by omega) (HG2.out.2.2.1 _ (List.getElem_mem hjl)).2.2
                  have hI : j < l.length + 1 := by omega
                  generalize l[j] = x at *
                  obtain ⟨xd, xp, t⟩ := x
                  have HSJ : Hid (∀ x : Inn wr, Calls Try.prog 8 #[.agg #[.int .i64 mk, .int .i64 mn, .string ms, .slice mao mlen mcap], .agg #[.int .i64 lk, .int .i64 ln, .string ls, .slice lao llen lcap]] x.val fun e w' => e = .returned (.bool true) ∧ Below x.val.heap.size x.val w') := fun x => same_one (HBM.out.below x.bel).t (HBL.out.below x.bel).t HOK.out
                  have x0 := Inn.keep HBM.out.c0
                  have x1 := Inn.keep HBM.out.c1
                  have x2 := Inn.keep HBM.out.c2
                  have x3 := Inn.keep HBM.out.c3
                  have x4 := Inn.keep HBM.out.c4
                  have x5 := Inn.keep HBM.out.c5
                  have y0 := Inn.keep HBL.out.c0
                  have y1 := Inn.keep HBL.out.c1
                  have y2 := Inn.keep HBL.out.c2
                  have y3 := Inn.keep HBL.out.c3
                  have y4 := Inn.keep HBL.out.c4
                  have y5 := Inn.keep HBL.out.c5
                  dsimp only at x0 x1 y0 y1
                  haveI := inn_ne wr
                  have r2 : (xd != xd) = false := by simp
                  have r3 : (xp != xp) = false := by simp
                  go_wp2_with fail
                  refine wp_region_inn ?_ ?_ ?_
                  · kernel_rfl
                  · kernel_rfl
                  repeat (go_big_quiet_step (first
                    | (go_at_call 8; exact calls_inn (HSJ.out _))))
                  refine wpQuiet_nil ?_
                  rintro w8 ⟨x8, h8⟩
                  have HB8 : Hid (Below w6.heap.size w6 w8) := HB7.out.trans (by rw [h8]; exact x8.bel.mono HB7.out.size)
                  clear h8 x8 x0 x1 x2 x3 x4 x5 y0 y1 y2 y3 y4 y5 r2 r3 HSJ
                  go_wp2_with fail
                  go_roundw
                  case rel => exact ⟨j + 1, by omega, by go_num, HB8.out⟩
                  case measure => simp [intOf]; omega
                · have hkj : k ≤ j := by omega
                  obtain ⟨q, hq⟩ := put_hi (x := ⟨kd, pd, .mk tk tn ts tl⟩) hk hkj hjl
                  obtain ⟨g8, o8, em, mk, mn, ms, mao, mlen, mcap, hbm0⟩ := gl_bt HMG.out (j + 1) q
                  rw [hq] at hbm0
                  have HBM : Hid (Bt wr g8 (o8 + (j + 1) * 6) l[j] mk mn ms mao mlen mcap) := hbm0.below HB.out
                  obtain ⟨g9, o9, ea, lk, ln, ls, lao, llen, lcap, hbl0⟩ := gl_bt HG2.out.1 j hjl
                  have HBL : Hid (Bt wr g9 (o9 + j * 6) l[j] lk ln ls lao llen lcap) := hbl0.below (HB4.out.1.trans ((HB5.out.trans (HB.out.mono HB5.out.size)).mono HB4.out.1.size))
                  clear hbm0 hbl0 hq q
                  cases em
                  cases ea
                  have HOK : Hid (cntT l[j].t ≤ 1000000000) := cnt_6 (d := 1) (by omega) (HG2.out.2.2.1 _ (List.getElem_mem hjl)).2.2
                  have hI : j + 1 < l.length + 1 := by omega
                  generalize l[j] = x at *
                  obtain ⟨xd, xp, t⟩ := x
                  have HSJ : Hid (∀ x : Inn wr, Calls Try.prog 8 #[.agg #[.int .i64 mk, .int .i64 mn, .string ms, .slice mao mlen mcap], .agg #[.int .i64 lk, .int .i64 ln, .string ls, .slice lao llen lcap]] x.val fun e w' => e = .returned (.bool true) ∧ Below x.val.heap.size x.val w') := fun x => same_one (HBM.out.below x.bel).t (HBL.out.below x.bel).t HOK.out
                  have x0 := Inn.keep HBM.out.c0
                  have x1 := Inn.keep HBM.out.c1
                  have x2 := Inn.keep HBM.out.c2
                  have x3 := Inn.keep HBM.out.c3
                  have x4 := Inn.keep HBM.out.c4
                  have x5 := Inn.keep HBM.out.c5
                  have y0 := Inn.keep HBL.out.c0
                  have y1 := Inn.keep HBL.out.c1
                  have y2 := Inn.keep HBL.out.c2
                  have y3 := Inn.keep HBL.out.c3
                  have y4 := Inn.keep HBL.out.c4
                  have y5 := Inn.keep HBL.out.c5
                  dsimp only at x0 x1 y0 y1
                  haveI := inn_ne wr
                  have r2 : (xd != xd) = false := by simp
                  have r3 : (xp != xp) = false := by simp
                  go_wp2_with fail
                  refine wp_region_inn ?_ ?_ ?_
                  · kernel_rfl
                  · kernel_rfl
                  repeat (go_big_quiet_step (first
                    | (go_at_call 8; exact calls_inn (HSJ.out _))))
                  refine wpQuiet_nil ?_
                  rintro w8 ⟨x8, h8⟩
                  have HB8 : Hid (Below w6.heap.size w6 w8) := HB7.out.trans (by rw [h8]; exact x8.bel.mono HB7.out.size)
                  clear h8 x8 x0 x1 x2 x3 x4 x5 y0 y1 y2 y3 y4 y5 r2 r3 HSJ
                  go_wp2_with fail
                  go_roundw
                  case rel => exact ⟨j + 1, by omega, by go_num, HB8.out⟩
                  case measure => simp [intOf]; omega
              · have HBZ : Hid (Below w.heap.size w wr) := HG2.out.2.1.trans ((HB4.out.1.trans ((HB5.out.trans (HB.out.mono HB5.out.size)).mono HB4.out.1.size)).mono HG2.out.2.1.size)
                go_wp2_with fail
                go_ret
                exact ⟨rfl, HBZ.out⟩
        · have HP : Hid (Tr.Place l kd k) := place_of (addB_ordT HA.out) hk HLO.out (fun h => absurd h hlt)
          have e1 : decide (k < l.length) = false := by simpa using hlt

          haveI := inn_ne wr
          go_wp2_with fail
          refine wp_region_inn ?_ ?_ ?_
          · kernel_rfl
          · kernel_rfl
          repeat (go_big_quiet_step (fail))
          refine wpQuiet_nil ?_
          rintro w5 ⟨x5, h5⟩
          have HB5 : Hid (Below w4.heap.size w4 w5) := HB.out.trans (by rw [h5]; exact x5.bel.mono HB.out.size)
          clear h5 x5
          clear e1 hlt

          clear HB HXR HLO
          have HX5 : Hid (∀ wc, Below w5.heap.size w5 wc → Bt wc w1.heap.size 0 ⟨kd, pd, .mk tk tn ts tl⟩ tk tn ts tao tl.length tcap) := fun wc hb => HX.out wc (HB4.out.1.trans ((HB5.out.trans (hb.mono HB5.out.size)).mono HB4.out.1.size))
          have HMG : Hid (GL eltS w5 (putAt l k ⟨kd, pd, .mk tk tn ts tl⟩) e1' a1) := by
            have h := (H3.out.1.below HB4.out.2).below HB5.out
            rw [addT_yes HA.out] at h
            unfold insT at h
            rw [← HP.out.eq] at h
            exact h
          obtain ⟨q, hq⟩ := put_same (x := ⟨kd, pd, .mk tk tn ts tl⟩) hk
          obtain ⟨g1, o1, rfl, k1, n1, s1, t1o, t1l, t1c, hbt1⟩ := gl_bt HMG.out k q
          rw [hq] at hbt1
          have HBT1 : Hid (Bt w5 g1 (o1 + k * 6) ⟨kd, pd, .mk tk tn ts tl⟩ k1 n1 s1 t1o t1l t1c) := hbt1
          have HTO : Hid (∀ x : Inn w5, Calls Try.prog 10 #[.slice (some ⟨g1, o1, none⟩) (l.length + 1) c1] x.val fun e w' => e = .returned (.bool true) ∧ Below x.val.heap.size x.val w') := fun x => by
            have h := implTimersOk_any (putAt l k ⟨kd, pd, .mk tk tn ts tl⟩) (some ⟨g1, o1, none⟩) c1 x.val (GL.rowS (HMG.out.below x.bel)) (by rw [put_len hk]; unfold maxLen; omega)
            rw [put_len hk, ins_ok HA.out HP.out] at h
            exact h
          have HCN : Hid (cntT (.mk tk tn ts tl) ≤ 1000000000) := bnt_cnt HG2.out.2.2.2 (by omega)
          have HST : Hid (∀ x : Inn w5, Calls Try.prog 8 #[.agg #[.int .i64 k1, .int .i64 n1, .string s1, .slice t1o t1l t1c], .agg #[.int .i64 tk, .int .i64 tn, .string ts, .slice tao tl.length tcap]] x.val fun e w' => e = .returned (.bool true) ∧ Below x.val.heap.size x.val w') := fun x => same_one (t := .mk tk tn ts tl) (HBT1.out.below x.bel).t (HX5.out x.val x.bel).t HCN.out
          have x0 := Inn.keep HBT1.out.c0
          have x1 := Inn.keep HBT1.out.c1
          have x2 := Inn.keep HBT1.out.c2
          have x3 := Inn.keep HBT1.out.c3
          have x4 := Inn.keep HBT1.out.c4
          have x5 := Inn.keep HBT1.out.c5
          have y0 : ∀ x : Inn w5, x.val.cell? ⟨w1.heap.size, 0, none⟩ = some (.int .i64 kd) := Inn.keep (HX5.out w5 (Below.refl _ _)).c0
          have y1 : ∀ x : Inn w5, x.val.cell? ⟨w1.heap.size, 1, none⟩ = some (.int .i64 pd) := Inn.keep (HX5.out w5 (Below.refl _ _)).c1
          have y2 : ∀ x : Inn w5, x.val.cell? ⟨w1.heap.size, 2, none⟩ = some (.int .i64 tk) := Inn.keep (HX5.out w5 (Below.refl _ _)).c2
          have y3 : ∀ x : Inn w5, x.val.cell? ⟨w1.heap.size, 3, none⟩ = some (.int .i64 tn) := Inn.keep (HX5.out w5 (Below.refl _ _)).c3
          have y4 : ∀ x : Inn w5, x.val.cell? ⟨w1.heap.size, 4, none⟩ = some (.string ts) := Inn.keep (HX5.out w5 (Below.refl _ _)).c4
          have y5 : ∀ x : Inn w5, x.val.cell? ⟨w1.heap.size, 5, none⟩ = some (.slice tao tl.length tcap) := Inn.keep (HX5.out w5 (Below.refl _ _)).c5
          clear hbt1 hq q
          dsimp only at x0 x1 x2 x3 x4 x5
          haveI := inn_ne w5
          have hkM : k < l.length + 1 := by omega
          have r2 : (kd != kd) = false := by simp
          have r3 : (pd != pd) = false := by simp
          go_wp2_with fail
          refine wp_region_inn ?_ ?_ ?_
          · kernel_rfl
          · kernel_rfl
          repeat (go_big_quiet_step (first
            | (go_at_call 8; exact calls_inn (HST.out _))
            | (go_at_call 10; exact calls_inn (HTO.out _))))
          refine wpQuiet_nil ?_
          rintro w6 ⟨x6, h6⟩
          have HB6 : Hid (Below w5.heap.size w5 w6) := by rw [h6]; exact x6.bel
          clear h6 x6 x0 x1 x2 x3 x4 x5 y0 y1 y2 y3 y4 y5 r2 r3 HST HTO
          go_wp2_with fail
          go_loopw [10] (fun i wr => ∃ j : Nat, j ≤ l.length ∧ i = .int .i64 j ∧ Below w6.heap.size w6 wr) (fun i _ => l.length - (intOf i).toNat)
          case atStart => exact ⟨0, Nat.zero_le _, rfl, Below.refl _ _⟩
          case round =>
            obtain ⟨j, hj, rfl, hbl⟩ := hrel
            have HB : Hid (Below w5.heap.size w5 wr) := HB6.out.trans (hbl.mono HB6.out.size)
            have HB7 : Hid (Below w6.heap.size w6 wr) := hbl
            clear hbl
            by_cases hjl : j < l.length
            · rcases Nat.lt_or_ge j k with hjk | hjk
              · have hkj : j < k := by omega
                obtain ⟨q, hq⟩ := put_lo (x := ⟨kd, pd, .mk tk tn ts tl⟩) hk hkj hjl
                obtain ⟨g8, o8, em, mk, mn, ms, mao, mlen, mcap, hbm0⟩ := gl_bt HMG.out (j) q
                rw [hq] at hbm0
                have HBM : Hid (Bt wr g8 (o8 + (j) * 6) l[j] mk mn ms mao mlen mcap) := hbm0.below HB.out
                obtain ⟨g9, o9, ea, lk, ln, ls, lao, llen, lcap, hbl0⟩ := gl_bt HG2.out.1 j hjl
                have HBL : Hid (Bt wr g9 (o9 + j * 6) l[j] lk ln ls lao llen lcap) := hbl0.below (HB4.out.1.trans ((HB5.out.trans (HB.out.mono HB5.out.size)).mono HB4.out.1.size))
                clear hbm0 hbl0 hq q
                cases em
                cases ea
                have HOK : Hid (cntT l[j].t ≤ 1000000000) := cnt_6 (d := 1) (by omega) (HG2.out.2.2.1 _ (List.getElem_mem hjl)).2.2
                have hI : j < l.length + 1 := by omega
                generalize l[j] = x at *
                obtain ⟨xd, xp, t⟩ := x
                have HSJ : Hid (∀ x : Inn wr, Calls Try.prog 8 #[.agg #[.int .i64 mk, .int .i64 mn, .string ms, .slice mao mlen mcap], .agg #[.int .i64 lk, .int .i64 ln, .string ls, .slice lao llen lcap]] x.val fun e w' => e = .returned (.bool true) ∧ Below x.val.heap.size x.val w') := fun x => same_one (HBM.out.below x.bel).t (HBL.out.below x.bel).t HOK.out
                have x0 := Inn.keep HBM.out.c0
                have x1 := Inn.keep HBM.out.c1
                have x2 := Inn.keep HBM.out.c2
                have x3 := Inn.keep HBM.out.c3
                have x4 := Inn.keep HBM.out.c4
                have x5 := Inn.keep HBM.out.c5
                have y0 := Inn.keep HBL.out.c0
                have y1 := Inn.keep HBL.out.c1
                have y2 := Inn.keep HBL.out.c2
                have y3 := Inn.keep HBL.out.c3
                have y4 := Inn.keep HBL.out.c4
                have y5 := Inn.keep HBL.out.c5
                dsimp only at x0 x1 y0 y1
                haveI := inn_ne wr
                have r2 : (xd != xd) = false := by simp
                have r3 : (xp != xp) = false := by simp
                go_wp2_with fail
                refine wp_region_inn ?_ ?_ ?_
                · kernel_rfl
                · kernel_rfl
                repeat (go_big_quiet_step (first
                  | (go_at_call 8; exact calls_inn (HSJ.out _))))
                refine wpQuiet_nil ?_
                rintro w8 ⟨x8, h8⟩
                have HB8 : Hid (Below w6.heap.size w6 w8) := HB7.out.trans (by rw [h8]; exact x8.bel.mono HB7.out.size)
                clear h8 x8 x0 x1 x2 x3 x4 x5 y0 y1 y2 y3 y4 y5 r2 r3 HSJ
                go_wp2_with fail
                go_roundw
                case rel => exact ⟨j + 1, by omega, by go_num, HB8.out⟩
                case measure => simp [intOf]; omega
              · have hkj : k ≤ j := by omega
                obtain ⟨q, hq⟩ := put_hi (x := ⟨kd, pd, .mk tk tn ts tl⟩) hk hkj hjl
                obtain ⟨g8, o8, em, mk, mn, ms, mao, mlen, mcap, hbm0⟩ := gl_bt HMG.out (j + 1) q
                rw [hq] at hbm0
                have HBM : Hid (Bt wr g8 (o8 + (j + 1) * 6) l[j] mk mn ms mao mlen mcap) := hbm0.below HB.out
                obtain ⟨g9, o9, ea, lk, ln, ls, lao, llen, lcap, hbl0⟩ := gl_bt HG2.out.1 j hjl
                have HBL : Hid (Bt wr g9 (o9 + j * 6) l[j] lk ln ls lao llen lcap) := hbl0.below (HB4.out.1.trans ((HB5.out.trans (HB.out.mono HB5.out.size)).mono HB4.out.1.size))
                clear hbm0 hbl0 hq q
                cases em
                cases ea
                have HOK : Hid (cntT l[j].t ≤ 1000000000) := cnt_6 (d := 1) (by omega) (HG2.out.2.2.1 _ (List.getElem_mem hjl)).2.2
                have hI : j + 1 < l.length + 1 := by omega
                generalize l[j] = x at *
                obtain ⟨xd, xp, t⟩ := x
                have HSJ : Hid (∀ x : Inn wr, Calls Try.prog 8 #[.agg #[.int .i64 mk, .int .i64 mn, .string ms, .slice mao mlen mcap], .agg #[.int .i64 lk, .int .i64 ln, .string ls, .slice lao llen lcap]] x.val fun e w' => e = .returned (.bool true) ∧ Below x.val.heap.size x.val w') := fun x => same_one (HBM.out.below x.bel).t (HBL.out.below x.bel).t HOK.out
                have x0 := Inn.keep HBM.out.c0
                have x1 := Inn.keep HBM.out.c1
                have x2 := Inn.keep HBM.out.c2
                have x3 := Inn.keep HBM.out.c3
                have x4 := Inn.keep HBM.out.c4
                have x5 := Inn.keep HBM.out.c5
                have y0 := Inn.keep HBL.out.c0
                have y1 := Inn.keep HBL.out.c1
                have y2 := Inn.keep HBL.out.c2
                have y3 := Inn.keep HBL.out.c3
                have y4 := Inn.keep HBL.out.c4
                have y5 := Inn.keep HBL.out.c5
                dsimp only at x0 x1 y0 y1
                haveI := inn_ne wr
                have r2 : (xd != xd) = false := by simp
                have r3 : (xp != xp) = false := by simp
                go_wp2_with fail
                refine wp_region_inn ?_ ?_ ?_
                · kernel_rfl
                · kernel_rfl
                repeat (go_big_quiet_step (first
                  | (go_at_call 8; exact calls_inn (HSJ.out _))))
                refine wpQuiet_nil ?_
                rintro w8 ⟨x8, h8⟩
                have HB8 : Hid (Below w6.heap.size w6 w8) := HB7.out.trans (by rw [h8]; exact x8.bel.mono HB7.out.size)
                clear h8 x8 x0 x1 x2 x3 x4 x5 y0 y1 y2 y3 y4 y5 r2 r3 HSJ
                go_wp2_with fail
                go_roundw
                case rel => exact ⟨j + 1, by omega, by go_num, HB8.out⟩
                case measure => simp [intOf]; omega
            · have HBZ : Hid (Below w.heap.size w wr) := HG2.out.2.1.trans ((HB4.out.1.trans ((HB5.out.trans (HB.out.mono HB5.out.size)).mono HB4.out.1.size)).mono HG2.out.2.1.size)
              go_wp2_with fail
              go_ret
              exact ⟨rfl, HBZ.out⟩
end Go.Proofs.Ytimnnedmpmlmdaa.Tv
namespace Go.Proofs.Ytimnnedmpmlmdaa.fnTimers
open Go.ChangeShapes Go.WideShapes Go.ChangeAt Go.RowKit
set_option linter.unusedVariables false

theorem own : ownKnob Try.prog.godebug = none := by kernel_rfl
theorem laidOut : laidOutB Try.prog = true := by kernel_rfl

theorem row_len {w : World} {a : Option Addr} {len cap : Nat} {zs : List Int} (h : IsRow w a len cap zs) : len ≤ cap ∧ cap ≤ maxLen := by
  rcases h with ⟨_, rfl, rfl, _⟩ | ⟨_, _, h1, h2, _⟩
  · exact ⟨Nat.le_refl _, Nat.zero_le _⟩
  · exact ⟨h1, h2⟩

set_option maxRecDepth 100000 in
theorem lifted (os : Os) (started : os.Started) (H : Type) (enc : TypeId × Value → H) :
    ReturnsInHanded {} Try.checked os 4 .any (Rows.fnTimersSpec.pre6 enc Try.prog Try.f4 Rows.fnTimersRow.domain false) (Rows.fnTimersSpec.post enc Try.prog Try.f4 false true false false) := by
  refine returnsInHanded_of_change (C := Try.checked) own started (by kernel_rfl) Try.func4
    (ChangeSpec.witness6 (enc := enc) (C := Try.checked) false ⟨#[], #[.slice none 0 0], []⟩ 8 (by kernel_rfl) (by kernel_rfl) (by kernel_rfl) (by kernel_rfl)) ?_
  intro W base args ds gs before hval0 hW hcnd _
  have hval : ∀ (j : Nat) t v, Try.f4.params[j]? = some t → args[j]? = some v → Value.okWide Try.prog W .any base t v := hval0
  have hW' := hW
  obtain ⟨p, q, hA0, hV, rfl, hfz, hnd⟩ := hW
  have hA : DataW.TrodAll enc Try.prog W 0 (fun _ => true) true Try.f4.params.toList args.toList ds p := hA0
  rw [Try.params4] at hA hval
  obtain ⟨v0, vs0, d0, ds0, p0, q0, hargs, rfl, rfl, h0, r0⟩ := trodAll_cons hA
  obtain ⟨rfl, rfl, rfl⟩ := trodAll_nil r0
  obtain rfl : args = #[v0] := by cases args; simp_all
  obtain ⟨rfl, rfl⟩ := trodVars_none hV
  obtain ⟨a0, len0, cap0, rfl⟩ := okWide_slice Try.underlying22 (hval 0 22 v0 rfl rfl)
  have k0 := h0
  have lt0 : ∀ x ∈ p0, x.block < W.heap.size := by obtain ⟨m, hm⟩ := k0; exact DataW.trod_lt m _ _ _ hm
  obtain ⟨z0, w0⟩ : ∃ zs, IsRow W a0 len0 cap0 zs := by
    obtain ⟨fuel, hf⟩ := h0
    rcases open_ints Try.underlying22 Try.underlying5 (by kernel_rfl) hf with ⟨hcs, _⟩ | ⟨x, l, c, zs, hcs, _, hl, hm, hz, _, hcell, hwz⟩
    · simp [Value.cells] at hcs
      obtain ⟨rfl, rfl, rfl⟩ := hcs
      exact ⟨[], .inl ⟨rfl, rfl, rfl, rfl⟩⟩
    · simp [Value.cells] at hcs
      obtain ⟨rfl, rfl, rfl⟩ := hcs
      exact ⟨zs, .inr ⟨_, rfl, hl, hm, by simpa using hz, hcell, hwz⟩⟩
  clear hA0 hval0
  refine (Tv.timers_law W a0 len0 cap0 z0 w0 (row_len w0).1 (row_len w0).2).mono fun e W' ⟨he, bel⟩ => ?_
  subst he
  exact ⟨_, rfl, _, _, _, [], _, [], hW', trodAll_mk1 (shut_bool Try.underlying4 _), (trodAll_cons_mk (Below.trod laidOut (by kernel_rfl) (of_decide_eq_true (by kernel_rfl)) k0 bel lt0) trodAll_mk0), rfl, bel.frame _, fun h => by cases h⟩

theorem over : Rows.fnTimersRow.holds Try.pinned (OpenSpec.ofChange Rows.fnTimersSpec) :=
  OpenClaim.holds_of_wide 4 Try.f4 rfl rfl rfl rfl rfl rfl rfl ⟨rfl, rfl, rfl, rfl, rfl⟩ rfl rfl rfl rfl rfl (by kernel_rfl) Try.func4 (by kernel_rfl)
    (of_decide_eq_true (by kernel_rfl)) (by unfold Func.isWrapper; first | (rw [if_pos (by decide +kernel)]; kernel_rfl) | (rw [if_neg (by decide +kernel)]; exact ⟨rfl, rfl⟩))
    (fun os started H enc _ => lifted os started H enc)
end Go.Proofs.Ytimnnedmpmlmdaa.fnTimers
namespace Go.Proofs.Ytimnnedmpmlmdaa
theorem fnTimers_holds : Rows.FnTimersSaid := fnTimers.over
#print axioms fnTimers_holds
end Go.Proofs.Ytimnnedmpmlmdaa
