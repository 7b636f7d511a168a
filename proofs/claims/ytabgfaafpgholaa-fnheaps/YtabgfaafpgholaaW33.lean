/-
  What l1Any answers: a term that is drawn, perhaps bent, in blocks of its own.
  (Ahead of it, in this text: What l1Bend and l1Any answer.)
-/
import Derived.Test.YtabgfaafpgholaaW32
namespace Go.Proofs.Ytabgfaafpgholaa
open Go.RowKit
set_option linter.unusedVariables false

set_option maxRecDepth 100000 in
set_option maxHeartbeats 4000000 in
theorem bend_any (cb : Nat) (ao : Option Addr) (len cap : Nat) (zs : List Int) (w : World) (hc : Cur cb ao len cap zs w) (k n : Int) (s : ByteArray) (m : List Tm) (so : Option Addr) (scap : Nat) (hv : RepV 0 w (.mk k n s m) (.agg #[.int .i64 k, .int .i64 n, .string s, .slice so m.length scap])) (M : Nat) (hM : M ≤ 1000000) (hb : BnT M (.mk k n s m)) :
    Calls Try.prog 75 #[.pointer (some ⟨cb, 0, none⟩), .agg #[.int .i64 k, .int .i64 n, .string s, .slice so m.length scap]] w fun e w' => ∃ t v, e = .returned v ∧ OwV w' w.heap.size t v ∧ BnT (M + 6) t ∧ Drawn cb ao len cap zs w w' := by
  have HC : Hid (Cur cb ao len cap zs w) := hc
  have HV : Hid (RepV 0 w (.mk k n s m) (.agg #[.int .i64 k, .int .i64 n, .string s, .slice so m.length scap])) := hv
  have HB : Hid (BnT M (.mk k n s m)) := hb
  have hS := hb.1
  rw [StS] at hS
  have HS : Hid (s.size ≤ 1048576 ∧ m.length ≤ 1048576 ∧ ∀ t, t ∈ m → StS t) := hS
  have hml : m.length ≤ 1048576 := hS.2.1
  have HN : Hid (1 + ntL m ≤ M) := by have := hb.2; rw [ntL_one] at this; exact this
  have hcb := hc.lt
  clear hc hv hb hS
  obtain ⟨i0, hi, hzz⟩ := Option.map_eq_some_iff.1 info26
  simp only [Prod.mk.injEq] at hzz
  obtain ⟨hzz0, hzz1, hzz2⟩ := hzz
  go_enter Try.func75, Try.ntmps75
  go_wp2_with (go_at_call 104; fail)
  obtain ⟨W0, hW0⟩ : ∃ W0, W0 = (w.alloc (.cells #[.int .i64 k, .int .i64 n, .string s, .slice so m.length scap] 39)).alloc (.cells #[.int .i64 0, .int .i64 0, .string ⟨#[]⟩, .slice none 0 0] 39) := ⟨_, rfl⟩
  have hb0 : Below w.heap.size w W0 := by rw [hW0]; exact ((Below.refl _ _).alloc (Nat.le_refl _) _).alloc (by simp) _
  have hs0 : W0.heap.size = w.heap.size + 2 := by rw [hW0]; simp
  have hB0 : B0 cb ao len cap zs w W0 := by
    have q : ∀ o, W0.cell? ⟨w.heap.size, o, none⟩ = (#[.int .i64 k, .int .i64 n, .string s, .slice so m.length scap] : Array Value)[o]? := fun o => by rw [hW0, World.cell?_alloc_lt (h := by simp), World.cell?_alloc_new]
    have qf : ∀ o, W0.frozen? ⟨w.heap.size, o, none⟩ = false := fun o => by
      rw [hW0, World.frozen?_alloc_old (h := by simp)]; exact World.frozen?_alloc_new w _ _ o
    have e1 : (w.alloc (.cells #[.int .i64 k, .int .i64 n, .string s, .slice so m.length scap] 39)).heap.size = w.heap.size + 1 := by simp
    have q' : ∀ o, W0.cell? ⟨w.heap.size + 1, o, none⟩ = (#[.int .i64 0, .int .i64 0, .string ⟨#[]⟩, .slice none 0 0] : Array Value)[o]? := fun o => by rw [hW0, ← e1, World.cell?_alloc_new]
    have qf' : ∀ o, W0.frozen? ⟨w.heap.size + 1, o, none⟩ = false := fun o => by rw [hW0, ← e1]; exact World.frozen?_alloc_new _ _ _ o
    refine ⟨by rw [hW0]; exact ((Drawn.refl HC.out).alloc _).alloc _, hcb, Nat.le_of_eq hs0.symm, fun j hj => ⟨_, (q j).trans (Array.getElem?_eq_getElem (by simpa using hj))⟩, qf, fun j hj => ⟨_, (q' j).trans (Array.getElem?_eq_getElem (by simpa using hj))⟩, qf'⟩
  rw [← hW0]
  clear hW0
  refine (Tm.ind (P := CzP) (fun k n s l ih => czP_of k n s l (fun t _ => czO_all t)) (.mk k n s m) W0 _ ((Keeps.below hb0 0).repV HV.out) HB.out.1 k n s m rfl).mono ?_
  rintro e w1 ⟨ua, uc, rfl, htop, hb1⟩
  rw [hs0] at htop
  have HB1 : Hid (B0 cb ao len cap zs w w1) := hB0.turn ⟨hB0.drawn.1.below hb1, Turn.of_below hb1⟩
  have HT1 : Hid (TopO w1 (w.heap.size + 2) m (.slice ua m.length uc)) := htop
  have HP := hidB (HB1.out.put (k := k) (n := n) (s := s) HT1.out)
  obtain ⟨x0, hx0⟩ := HB1.out.a 0 (by omega)
  obtain ⟨x1, hx1⟩ := HB1.out.a 1 (by omega)
  obtain ⟨x2, hx2⟩ := HB1.out.a 2 (by omega)
  obtain ⟨x3, hx3⟩ := HB1.out.a 3 (by omega)
  have xf := HB1.out.af
  clear hb0 hs0 hB0 htop hb1
  go_wp2_with (go_at_call 55; fail)
  obtain ⟨w2, hw2⟩ : ∃ w2, w2 = (((w1.setCell ⟨w.heap.size, 0, none⟩ (.int .i64 k)).setCell ⟨w.heap.size, 1, none⟩ (.int .i64 n)).setCell ⟨w.heap.size, 2, none⟩ (.string s)).setCell ⟨w.heap.size, 3, none⟩ (.slice ua m.length uc) := ⟨_, rfl⟩
  rw [← hw2] at HP ⊢
  have HP2 : Hid (Bs cb ao len cap zs w w2 k n s m (.slice ua m.length uc)) := HP.out
  clear hw2 HP HB1 HT1 hx0 hx1 hx2 hx3 xf HV HB
  refine (below_any cb ao len cap zs w2 HP2.out.b.drawn.1 6 (by decide) (by decide)).mono ?_
  rintro e w3 ⟨x, rfl, hxx0, hxx1, hd3⟩
  have HP3 : Hid (Bs cb ao len cap zs w w3 k n s m (.slice ua m.length uc)) := HP2.out.turn hd3
  clear hd3 HP2
  have FIN : Hid (∀ (W : World) (k' n' : Int) (s' : ByteArray) (m' : List Tm) (u' : Value), Bs cb ao len cap zs w W k' n' s' m' u' → s'.size ≤ 1048576 → m'.length ≤ 1048576 → (∀ t, t ∈ m' → StS t) → 1 + ntL m' ≤ M + 6 → ∀ v0 v1 v2 v3 : Value, ∃ t v, (Ending.returned (Value.agg #[.int .i64 k', .int .i64 n', .string s', u']) = .returned v) ∧ OwV ((((W.setCell ⟨w.heap.size + 1, 0, none⟩ v0).setCell ⟨w.heap.size + 1, 1, none⟩ v1).setCell ⟨w.heap.size + 1, 2, none⟩ v2).setCell ⟨w.heap.size + 1, 3, none⟩ v3) w.heap.size t v ∧ BnT (M + 6) t ∧ Drawn cb ao len cap zs w ((((W.setCell ⟨w.heap.size + 1, 0, none⟩ v0).setCell ⟨w.heap.size + 1, 1, none⟩ v1).setCell ⟨w.heap.size + 1, 2, none⟩ v2).setCell ⟨w.heap.size + 1, 3, none⟩ v3)) := fun W k' n' s' m' u' hP h1 h2 h3 h4 v0 v1 v2 v3 =>
    ⟨.mk k' n' s' m', _, rfl, (hP.fin h1 v0 v1 v2 v3).1, ⟨by rw [StS]; exact ⟨h1, h2, h3⟩, by rw [ntL_one]; exact h4⟩, (hP.fin h1 v0 v1 v2 v3).2⟩
  have hx : x = 0 ∨ x = 1 ∨ x = 2 ∨ x = 3 ∨ x = 4 ∨ x = 5 := by omega
  rcases hx with rfl | rfl | rfl | rfl | rfl | rfl
  · clear hxx0 hxx1
    go_wp2_with (go_at_call 55; fail)
    refine (below_any cb ao len cap zs w3 HP3.out.b.drawn.1 8 (by decide) (by decide)).mono ?_
    rintro e w4 ⟨y, rfl, _, _, hd4⟩
    have HP4 := hidB (HP3.out.turn hd4)
    have HP5 := hidB (HP4.out.set0 y)
    have xf := HP4.out.b.af
    obtain ⟨y0, hy0⟩ := HP4.out.b.a 0 (by omega)
    have c1 := HP5.out.a1
    have c2 := HP5.out.a2
    have c3 := HP5.out.a3
    obtain ⟨r0, hr0⟩ := HP5.out.b.r 0 (by omega)
    obtain ⟨r1, hr1⟩ := HP5.out.b.r 1 (by omega)
    obtain ⟨r2, hr2⟩ := HP5.out.b.r 2 (by omega)
    obtain ⟨r3, hr3⟩ := HP5.out.b.r 3 (by omega)
    have rf := HP5.out.b.rf
    have HL := hidB (FIN.out _ _ _ _ _ _ HP5.out HS.out.1 HS.out.2.1 HS.out.2.2 (by have := HN.out; omega) (.int .i64 y) (.int .i64 n) (.string s) (.slice ua m.length uc))
    clear hd4
    go_wp2_with fail
    exact bodyPost_ret (v := .agg #[.int .i64 y, .int .i64 n, .string s, .slice ua m.length uc]) (by simp [results, Try.results75, go_sem, hr0, hr1, hr2, hr3]) rfl HL.out
  · clear hxx0 hxx1
    go_wp2_with (go_at_call 102; fail)
    have hne : w3.heap.size ≠ cb := by have := HP3.out.b.sz; have := HP3.out.b.old; omega
    refine (int_any cb ao len cap zs _ (HP3.out.b.drawn.1.alloc _) w3.heap.size bendInts hne (by decide) (by decide) ?_).mono ?_
    · intro j hj
      have hj' : j < 4 := hj
      rw [World.cell?_alloc_new]
      have : j = 0 ∨ j = 1 ∨ j = 2 ∨ j = 3 := by omega
      rcases this with rfl | rfl | rfl | rfl <;> rfl
    rintro e w4 ⟨y, rfl, _, hd4⟩
    have HP4 := hidB (HP3.out.turn (((Drawn.refl HP3.out.b.drawn.1).alloc _).trans hd4))
    have HP5 := hidB (HP4.out.set1 y)
    have xf := HP4.out.b.af
    have y1 := HP4.out.a1
    have c0 := HP5.out.a0
    have c1 := HP5.out.a1
    have c2 := HP5.out.a2
    have c3 := HP5.out.a3
    obtain ⟨r0, hr0⟩ := HP5.out.b.r 0 (by omega)
    obtain ⟨r1, hr1⟩ := HP5.out.b.r 1 (by omega)
    obtain ⟨r2, hr2⟩ := HP5.out.b.r 2 (by omega)
    obtain ⟨r3, hr3⟩ := HP5.out.b.r 3 (by omega)
    have rf := HP5.out.b.rf
    have HL := hidB (FIN.out _ _ _ _ _ _ HP5.out HS.out.1 HS.out.2.1 HS.out.2.2 (by have := HN.out; omega) (.int .i64 k) (.int .i64 y) (.string s) (.slice ua m.length uc))
    clear hd4 hne c1
    go_wp2_with fail
    exact bodyPost_ret (v := .agg #[.int .i64 k, .int .i64 y, .string s, .slice ua m.length uc]) (by simp [results, Try.results75, go_sem, hr0, hr1, hr2, hr3]) rfl HL.out
  · clear hxx0 hxx1
    go_wp2_with (go_at_call 103; fail)
    have hne : w3.heap.size ≠ cb := by have := HP3.out.b.sz; have := HP3.out.b.old; omega
    refine (str_any cb ao len cap zs _ (HP3.out.b.drawn.1.alloc _) w3.heap.size bendStrs hne (by decide) (by decide) ?_).mono ?_
    · intro j hj
      have hj' : j < 4 := hj
      rw [World.cell?_alloc_new]
      have : j = 0 ∨ j = 1 ∨ j = 2 ∨ j = 3 := by omega
      rcases this with rfl | rfl | rfl | rfl <;> rfl
    rintro e w4 ⟨y, rfl, hy, hd4⟩
    have HY : Hid (y.size ≤ 1048576) := by
      show _ ≤ _
      simp only [bendStrs, List.mem_cons, List.not_mem_nil, or_false] at hy
      rcases hy with rfl | rfl | rfl | rfl <;> decide
    have HP4 := hidB (HP3.out.turn (((Drawn.refl HP3.out.b.drawn.1).alloc _).trans hd4))
    have HP5 := hidB (HP4.out.set2 y)
    have xf := HP4.out.b.af
    have y2 := HP4.out.a2
    have c0 := HP5.out.a0
    have c1 := HP5.out.a1
    have c2 := HP5.out.a2
    have c3 := HP5.out.a3
    obtain ⟨r0, hr0⟩ := HP5.out.b.r 0 (by omega)
    obtain ⟨r1, hr1⟩ := HP5.out.b.r 1 (by omega)
    obtain ⟨r2, hr2⟩ := HP5.out.b.r 2 (by omega)
    obtain ⟨r3, hr3⟩ := HP5.out.b.r 3 (by omega)
    have rf := HP5.out.b.rf
    have HL := hidB (FIN.out _ _ _ _ _ _ HP5.out HY.out HS.out.2.1 HS.out.2.2 (by have := HN.out; omega) (.int .i64 k) (.int .i64 n) (.string y) (.slice ua m.length uc))
    clear hd4 hne hy c2
    go_wp2_with fail
    exact bodyPost_ret (v := .agg #[.int .i64 k, .int .i64 n, .string y, .slice ua m.length uc]) (by simp [results, Try.results75, go_sem, hr0, hr1, hr2, hr3]) rfl HL.out
  · clear hxx0 hxx1
    have c30 := HP3.out.a3
    have xf := HP3.out.b.af
    obtain ⟨xs, bs, t1, t2, t3, t4⟩ := HP3.out.top
    have HT := hidB t1
    have HT2 : Hid (VL eltT w3 m xs bs ∧ bs.Nodup ∧ ∀ b ∈ bs, w.heap.size + 2 ≤ b ∧ (Value.slice ua m.length uc).ownBlock ≠ some b) := ⟨t2, t3, t4⟩
    have hz3 := HP3.out.b.sz
    clear t1 t2 t3 t4
    go_wp2_with (at_builtin; refine wpList_append_own_at _ rfl _ _ 37 rfl (w.heap.size + 2) 39 i0 (.agg #[.int .i64 0, .int .i64 0, .string ⟨#[]⟩, .slice none 0 0]) 4 56 underlying24 hi hzz0 hzz1 hzz2 rfl (by decide) (.slice ua m.length uc) m.length xs rfl (World.ownsRow.alloc HT.out _) ⟨w3.heap.size, 0, none⟩ 1 1 [.int .i64 1, .int .i64 4, .string ⟨#[]⟩, .slice none 0 0] rfl rfl four_news fourOneB (by unfold maxLen; omega) (by omega) (by rw [World.size_alloc]; omega) ?_; intro v8 w9 hown8 hgr8 hnn8 hat8; obtain ⟨va, vc, hv8, ⟨k90, k91, k92, k93⟩, f93, hb0, hb5⟩ := bs_more HP3.out HT.out HT2.out.1 HT2.out.2.1 HT2.out.2.2 hown8 hgr8 hat8; subst hv8; have HP5 := hidB hb5; obtain ⟨r0, hr0⟩ := hb0.r 0 (by omega); obtain ⟨r1, hr1⟩ := hb0.r 1 (by omega); obtain ⟨r2, hr2⟩ := hb0.r 2 (by omega); obtain ⟨r3, hr3⟩ := hb0.r 3 (by omega); have rf := hb0.rf; clear hown8 hgr8 hnn8 hat8 hb5 hb0)
    have hll : (m ++ [Tm.mk 1 4 ⟨#[]⟩ []]).length = m.length + 1 := by simp
    have HLN := hidB hll
    clear hll
    have HL := hidB (FIN.out _ _ _ _ _ _ HP5.out HS.out.1 (by rw [HLN.out]; have e1 := HN.out; have e2 := ntL_eq m; omega) (fun t ht => by rcases List.mem_append.1 ht with h | h; exact HS.out.2.2 t h; (have e : t = .mk 1 4 ⟨#[]⟩ [] := by simpa using h); rw [e, StS]; exact ⟨Nat.zero_le _, Nat.zero_le _, fun t ht => by cases ht⟩) (by have := HN.out; rw [ntL_snoc, ntL_one]; (have e : ntL [] = 0 := by rw [ntL]); rw [e]; omega) (.int .i64 k) (.int .i64 n) (.string s) (.slice va (m.length + 1) vc))
    clear HT HT2
    exact bodyPost_ret (v := .agg #[.int .i64 k, .int .i64 n, .string s, .slice va (m.length + 1) vc]) (by simp [results, Try.results75, go_sem, hr0, hr1, hr2, hr3]) rfl HL.out
  · clear hxx0 hxx1
    have HST : Hid (∃ (k' n' : Int) (s' : ByteArray) (m' : List Tm) (uo : Option Addr) (ucp : Nat), Bs cb ao len cap zs w w3 k' n' s' m' (.slice uo m'.length ucp) ∧ s'.size ≤ 1048576 ∧ m'.length ≤ 1048576 ∧ (∀ t, t ∈ m' → StS t) ∧ 1 + ntL m' ≤ M + 0) := ⟨k, n, s, m, ua, uc, HP3.out, HS.out.1, HS.out.2.1, HS.out.2.2, by have := HN.out; omega⟩
    clear HP3
    go_wp2_with fail
    go_loopw [5] (fun i wr => ∃ j : Nat, j ≤ 6 ∧ i = .int .i64 j ∧ ∃ (k' n' : Int) (s' : ByteArray) (m' : List Tm) (uo : Option Addr) (ucp : Nat), Bs cb ao len cap zs w wr k' n' s' m' (.slice uo m'.length ucp) ∧ s'.size ≤ 1048576 ∧ m'.length ≤ 1048576 ∧ (∀ t, t ∈ m' → StS t) ∧ 1 + ntL m' ≤ M + j) (fun i _ => 6 - (intOf i).toNat)
    case atStart => exact ⟨0, by omega, rfl, HST.out⟩
    case round =>
      obtain ⟨j, hj, rfl, k', n', s', m', uo, ucp, hp, h1, h2, h3, h4⟩ := hrel
      have HPR := hidB hp
      have HQ : Hid (s'.size ≤ 1048576 ∧ m'.length ≤ 1048576 ∧ (∀ t, t ∈ m' → StS t) ∧ 1 + ntL m' ≤ M + j) := ⟨h1, h2, h3, h4⟩
      clear hp h1 h2 h3 h4
      by_cases hlt : j < 6
      · have c0 := HPR.out.a0
        have c1 := HPR.out.a1
        have c2 := HPR.out.a2
        have c3 := HPR.out.a3
        have xf := HPR.out.b.af
        obtain ⟨wx, hwx⟩ : ∃ wx, wx = wr.alloc (.cells #[.int .i64 k', .int .i64 n', .string s', .slice uo m'.length ucp] 39) := ⟨_, rfl⟩
        have HPX : Hid (Bs cb ao len cap zs w wx k' n' s' m' (.slice uo m'.length ucp)) := by rw [hwx]; exact HPR.out.turn ((Drawn.refl HPR.out.b.drawn.1).alloc _)
        have HTX : Hid (TopO (wx.alloc (.cells #[.int .i64 k', .int .i64 n', .string s', .slice uo m'.length ucp] 39)) (w.heap.size + 2) [.mk k' n' s' m'] (.slice (some ⟨wx.heap.size, 0, none⟩) 1 1)) := TopO.one (HPX.out.owv HQ.out.1) HPX.out.b.sz
        have HBX : Hid (B0 cb ao len cap zs w (wx.alloc (.cells #[.int .i64 k', .int .i64 n', .string s', .slice uo m'.length ucp] 39))) := HPX.out.b.alloc _
        have HPN := hidB (HBX.out.put (k := 4) (n := 0) (s := ⟨#[]⟩) HTX.out)
        have hzr := HPR.out.b.sz
        have hn1 : ¬ w.heap.size = wr.heap.size := by omega
        have hn2 : ¬ w.heap.size = wr.heap.size + 1 := by omega
        rw [hwx] at HPN HBX
        clear hwx HPX HTX
        have xf2 := HBX.out.af
        obtain ⟨y0, hy0⟩ := HBX.out.a 0 (by omega)
        obtain ⟨y1, hy1⟩ := HBX.out.a 1 (by omega)
        obtain ⟨y2, hy2⟩ := HBX.out.a 2 (by omega)
        obtain ⟨y3, hy3⟩ := HBX.out.a 3 (by omega)
        simp only [World.size_alloc] at xf2 hy0 hy1 hy2 hy3 HPN
        clear HBX
        go_wp2_with fail
        go_roundw
        case rel => exact ⟨j + 1, by omega, by go_num, 4, 0, ⟨#[]⟩, [.mk k' n' s' m'], _, 1, HPN.out, Nat.zero_le _, by show 1 ≤ _; omega, (fun t ht => by obtain rfl := List.mem_singleton.1 ht; rw [StS]; exact ⟨HQ.out.1, HQ.out.2.1, HQ.out.2.2.1⟩), by rw [ntL_one]; have := HQ.out.2.2.2; omega⟩
        case measure => simp [intOf]; omega
      · have HJ : Hid (1 + ntL m' ≤ M + 6) := by have := HQ.out.2.2.2; show _ ≤ _; omega
        have c0 := HPR.out.a0
        have c1 := HPR.out.a1
        have c2 := HPR.out.a2
        have c3 := HPR.out.a3
        obtain ⟨r0, hr0⟩ := HPR.out.b.r 0 (by omega)
        obtain ⟨r1, hr1⟩ := HPR.out.b.r 1 (by omega)
        obtain ⟨r2, hr2⟩ := HPR.out.b.r 2 (by omega)
        obtain ⟨r3, hr3⟩ := HPR.out.b.r 3 (by omega)
        have rf := HPR.out.b.rf
        have HL := hidB (FIN.out _ _ _ _ _ _ HPR.out HQ.out.1 HQ.out.2.1 HQ.out.2.2.1 HJ.out (.int .i64 k') (.int .i64 n') (.string s') (.slice uo m'.length ucp))
        go_wp2_with fail
        exact bodyPost_ret (v := .agg #[.int .i64 k', .int .i64 n', .string s', .slice uo m'.length ucp]) (by simp [results, Try.results75, go_sem, hr0, hr1, hr2, hr3]) rfl HL.out
  · clear hxx0 hxx1
    have c0 := HP3.out.a0
    have c1 := HP3.out.a1
    have c2 := HP3.out.a2
    have c3 := HP3.out.a3
    obtain ⟨r0, hr0⟩ := HP3.out.b.r 0 (by omega)
    obtain ⟨r1, hr1⟩ := HP3.out.b.r 1 (by omega)
    obtain ⟨r2, hr2⟩ := HP3.out.b.r 2 (by omega)
    obtain ⟨r3, hr3⟩ := HP3.out.b.r 3 (by omega)
    have rf := HP3.out.b.rf
    have HL := hidB (FIN.out _ _ _ _ _ _ HP3.out HS.out.1 HS.out.2.1 HS.out.2.2 (by have := HN.out; omega) (.int .i64 k) (.int .i64 n) (.string s) (.slice ua m.length uc))
    go_wp2_with fail
    exact bodyPost_ret (v := .agg #[.int .i64 k, .int .i64 n, .string s, .slice ua m.length uc]) (by simp [results, Try.results75, go_sem, hr0, hr1, hr2, hr3]) rfl HL.out
end Go.Proofs.Ytabgfaafpgholaa
namespace Go.Proofs.Ytabgfaafpgholaa
open Go.RowKit
set_option linter.unusedVariables false

def bndN : Nat → Nat
  | 0 => 1
  | d + 1 => 1 + 3 * bndN d
theorem ntL_le {c : Nat} : ∀ l : List Tm, (∀ t, t ∈ l → ntL [t] ≤ c) → ntL l ≤ l.length * c
  | [], _ => by rw [ntL]; omega
  | t :: r, h => by
    have h1 := h t (List.mem_cons_self ..)
    have h2 := ntL_le r (fun x hx => h x (List.mem_cons_of_mem _ hx))
    obtain ⟨k, n, s, l⟩ := t
    rw [ntL_one] at h1
    rw [ntL, List.length_cons, Nat.add_mul]; omega
theorem nt_bndN : ∀ (d : Nat) (t : Tm), RtT d t → ntL [t] ≤ bndN d
  | 0, .mk k n s l, h => by
    have h2 := h.2
    rw [DpT] at h2
    subst h2
    rw [ntL_one, ntL, bndN]; omega
  | d + 1, .mk k n s l, h => by
    have h1 := h.1
    have h2 := h.2
    rw [DpT] at h2
    rw [WfT] at h1
    have h3 := ntL_le (c := bndN d) l (fun t ht => nt_bndN d t ⟨h1.2.2 t ht, h2 t ht⟩)
    have h4 : l.length * bndN d ≤ 3 * bndN d := Nat.mul_le_mul_right _ h1.2.1
    rw [ntL_one, bndN]; omega
theorem atoms_smallB : ∀ z ∈ drawnAtoms, z.size ≤ 1048576 := fun z hz => by
  simp only [drawnAtoms, List.mem_cons, List.not_mem_nil, or_false] at hz
  rcases hz with rfl | rfl | rfl | rfl <;> decide
theorem wf_stsB : ∀ t : Tm, WfT t → StS t := by
  refine Tm.ind ?_
  intro k n s l ih h
  rw [WfT] at h
  rw [StS]
  refine ⟨?_, by have := h.2.1; omega, fun t ht => ih t ht (h.2.2 t ht)⟩
  rcases h.1 with ⟨_, rfl, _⟩ | ⟨_, _, _, h⟩ | ⟨_, rfl, _⟩ | ⟨_, _, rfl⟩ | ⟨_, _, _, h⟩
  · exact Nat.zero_le _
  · exact atoms_smallB s h
  · exact Nat.zero_le _
  · exact Nat.zero_le _
  · omega
theorem bn_drawn {t : Tm} {d : Nat} (h : RtT d t) (hd : d ≤ 3) : BnT 40 t := ⟨wf_stsB t h.1, by
  have h1 := nt_bndN d t h
  have h2 : bndN d ≤ 40 := by
    have : d = 0 ∨ d = 1 ∨ d = 2 ∨ d = 3 := by omega
    rcases this with rfl | rfl | rfl | rfl <;> decide
  omega⟩
theorem BnT.mono {M N : Nat} {t : Tm} (h : BnT M t) (hm : M ≤ N) : BnT N t := ⟨h.1, Nat.le_trans h.2 hm⟩
theorem OwV.keepB {w w' : World} {lo : Nat} {t : Tm} {v : Value} (h : OwV w lo t v) (hk : ∀ b, lo ≤ b → b < w.heap.size → w'.heap[b]? = w.heap[b]?) : OwV w' lo t v := by
  obtain ⟨bs, h1, h2, h3⟩ := h
  exact ⟨bs, osV_keep h1 (fun b hb hl => hk b (h3 b hb) hl), h2, h3⟩
theorem OwV.lowB {w : World} {lo lo' : Nat} {t : Tm} {v : Value} (h : OwV w lo t v) (hl : lo' ≤ lo) : OwV w lo' t v := by
  obtain ⟨bs, h1, h2, h3⟩ := h
  exact ⟨bs, h1, h2, fun b hb => Nat.le_trans hl (h3 b hb)⟩
theorem OwV.repB {w : World} {lo : Nat} {t : Tm} {v : Value} (h : OwV w lo t v) : RepV 0 w t v := by
  obtain ⟨bs, h1, _, _⟩ := h
  exact h1.rep

set_option maxRecDepth 100000 in
set_option maxHeartbeats 4000000 in
theorem any_any (cb : Nat) (ao : Option Addr) (len cap : Nat) (zs : List Int) (w : World) (hc : Cur cb ao len cap zs w) :
    Calls Try.prog 56 #[.pointer (some ⟨cb, 0, none⟩)] w fun e w' => ∃ t v, e = .returned v ∧ OwV w' w.heap.size t v ∧ BnT 46 t ∧ Drawn cb ao len cap zs w w' := by
  have HC : Hid (Cur cb ao len cap zs w) := hc
  have hcb := hc.lt
  clear hc
  go_enter Try.func56, Try.ntmps56
  go_wp2_with (go_at_call 73; fail)
  refine (drO_all cb ao len cap zs 3 (by decide) _ (HC.out.alloc _)).mono ?_
  rintro e w1 ⟨t, v, rfl, how, hrt, hd1⟩
  obtain ⟨tk, tn, ts, tao, tlen, tcap, rfl⟩ := how.form
  rw [World.size_alloc] at how
  obtain ⟨hz1, q1, f1⟩ := turn_new hcb hd1.2
  have HD1 : Hid (Drawn cb ao len cap zs w w1) := ((Drawn.refl HC.out).alloc _).trans hd1
  have HOW : Hid (OwV w1 (w.heap.size + 1) t (.agg #[.int .i64 tk, .int .i64 tn, .string ts, .slice tao tlen tcap]) ∧ BnT 40 t) := ⟨how, bn_drawn hrt (Nat.le_refl _)⟩
  have HR1 : Hid ((∀ o, w1.cell? ⟨w.heap.size, o, none⟩ = (#[.int .i64 0, .int .i64 0, .string ⟨#[]⟩, .slice none 0 0] : Array Value)[o]?) ∧ ∀ o, w1.frozen? ⟨w.heap.size, o, none⟩ = false) := ⟨q1, f1⟩
  clear how hrt hd1 q1 f1
  go_wp2_with (go_at_call 54; fail)
  obtain ⟨w2, hw2⟩ : ∃ w2, w2 = w1.alloc (.cells #[.int .i64 tk, .int .i64 tn, .string ts, .slice tao tlen tcap] 39) := ⟨_, rfl⟩
  have HB2 : Hid (Below w1.heap.size w1 w2 ∧ w2.heap.size = w1.heap.size + 1 ∧ (∀ o, w2.cell? ⟨w1.heap.size, o, none⟩ = (#[.int .i64 tk, .int .i64 tn, .string ts, .slice tao tlen tcap] : Array Value)[o]?) ∧ ∀ o, w2.frozen? ⟨w1.heap.size, o, none⟩ = false) := by
    rw [hw2]
    exact ⟨(Below.refl _ _).alloc (Nat.le_refl _) _, World.size_alloc _ _, fun o => World.cell?_alloc_new _ _ _ o, fun o => World.frozen?_alloc_new _ _ _ o⟩
  rw [← hw2]
  clear hw2
  have HD2 : Hid (Drawn cb ao len cap zs w w2) := ⟨HD1.out.1.below HB2.out.1, HD1.out.2.trans (Turn.of_below HB2.out.1)⟩
  have HR2 : Hid ((∀ o, w2.cell? ⟨w.heap.size, o, none⟩ = (#[.int .i64 0, .int .i64 0, .string ⟨#[]⟩, .slice none 0 0] : Array Value)[o]?) ∧ ∀ o, w2.frozen? ⟨w.heap.size, o, none⟩ = false) :=
    ⟨fun o => by rw [HB2.out.1.cell (p := ⟨w.heap.size, o, none⟩) (by show w.heap.size < _; omega)]; exact HR1.out.1 o, fun o => by rw [HB2.out.1.frozen (p := ⟨w.heap.size, o, none⟩) (by show w.heap.size < _; omega)]; exact HR1.out.2 o⟩
  refine (once_any cb ao len cap zs w2 HD2.out.1 5 (by decide) (by decide)).mono ?_
  rintro e w3 ⟨x, rfl, hd3⟩
  have hX : w1.heap.size ≠ cb := by omega
  obtain ⟨q3, f3⟩ := hd3.2.kept hX (by have := HB2.out.2.1; omega) HB2.out.2.2.1 HB2.out.2.2.2
  obtain ⟨qr, fr⟩ := hd3.2.kept (W := w.heap.size) (by omega) (by have := HB2.out.2.1; omega) HR2.out.1 HR2.out.2
  have HD3 : Hid (Drawn cb ao len cap zs w w3) := HD2.out.trans hd3
  have HO3 : Hid (OwV w3 (w.heap.size + 1) t (.agg #[.int .i64 tk, .int .i64 tn, .string ts, .slice tao tlen tcap])) := HOW.out.1.keepB (fun b hb hl => by
    have hz := HB2.out.2.1
    rw [hd3.2.block b (by omega) (by omega), HB2.out.1.block b hl])
  have hz3 : w1.heap.size < w3.heap.size := by have := HB2.out.2.1; have := hd3.2.size; omega
  obtain ⟨X, hXX⟩ : ∃ X, X = w1.heap.size := ⟨_, rfl⟩
  rw [← hXX] at q3 f3 hX hz3 hz1 ⊢
  have HXS : Hid (w.heap.size + 1 ≤ X ∧ X < w3.heap.size) := ⟨hz1, hz3⟩
  have HQ3 : Hid ((∀ o, w3.cell? ⟨X, o, none⟩ = (#[.int .i64 tk, .int .i64 tn, .string ts, .slice tao tlen tcap] : Array Value)[o]?) ∧ (∀ o, w3.frozen? ⟨X, o, none⟩ = false) ∧ (∀ o, w3.cell? ⟨w.heap.size, o, none⟩ = (#[.int .i64 0, .int .i64 0, .string ⟨#[]⟩, .slice none 0 0] : Array Value)[o]?) ∧ ∀ o, w3.frozen? ⟨w.heap.size, o, none⟩ = false) := ⟨q3, f3, qr, fr⟩
  have hne : ¬ X = w.heap.size := by omega
  have hne2 : ¬ w.heap.size = X := by omega
  clear hd3 hXX HB2 HD2 HR1 HR2 HD1 hX
  cases x
  · have HF := hidB (And.intro (OwV.keepB (w' := (((w3.setCell ⟨w.heap.size, 0, none⟩ (.int .i64 tk)).setCell ⟨w.heap.size, 1, none⟩ (.int .i64 tn)).setCell ⟨w.heap.size, 2, none⟩ (.string ts)).setCell ⟨w.heap.size, 3, none⟩ (.slice tao tlen tcap)) HO3.out (fun b hb hl => by
      have n0 : b ≠ w.heap.size := by omega
      rw [Below.heap_setCell _ ⟨w.heap.size, 3, none⟩ _ b n0, Below.heap_setCell _ ⟨w.heap.size, 2, none⟩ _ b n0, Below.heap_setCell _ ⟨w.heap.size, 1, none⟩ _ b n0, Below.heap_setCell _ ⟨w.heap.size, 0, none⟩ _ b n0])) (HD3.out.set4 hcb (Nat.le_refl _) (.int .i64 tk) (.int .i64 tn) (.string ts) (.slice tao tlen tcap)))
    go_wp2_with fail
    exact bodyPost_ret (v := .agg #[.int .i64 tk, .int .i64 tn, .string ts, .slice tao tlen tcap]) (by simp [results, Try.results56, go_sem, qr]) rfl ⟨t, _, rfl, HF.out.1.lowB (Nat.le_succ _), HOW.out.2.mono (by omega), HF.out.2⟩
  · obtain ⟨k, n, s, m⟩ := t
    have hrep := HO3.out.repB
    obtain ⟨bs9, ⟨aox, capx, e9, _, _, _, _⟩, _, _⟩ := HO3.out
    simp only [Value.agg.injEq, Array.mk.injEq, List.cons.injEq, Value.int.injEq, Value.string.injEq, Value.slice.injEq, true_and, and_true] at e9
    obtain ⟨rfl, rfl, rfl, rfl, rfl, rfl⟩ := e9
    have HBE : Hid (Calls Try.prog 75 #[.pointer (some ⟨cb, 0, none⟩), .agg #[.int .i64 tk, .int .i64 tn, .string ts, .slice tao m.length tcap]] w3 fun e w' => ∃ t v, e = .returned v ∧ OwV w' w3.heap.size t v ∧ BnT (40 + 6) t ∧ Drawn cb ao len cap zs w3 w') := bend_any cb ao len cap zs w3 HD3.out.1 tk tn ts m tao tcap hrep 40 (by omega) HOW.out.2
    have b0 := q3 0
    have b1 := q3 1
    have b2 := q3 2
    have b3 := q3 3
    clear hrep q3 f3 qr fr
    go_wp2_with (go_at_call 75; fail)
    refine HBE.out.mono ?_
    rintro e w4 ⟨t4, v4, rfl, how4, hbn4, hd4⟩
    obtain ⟨ak, an, as', aao, alen, acap, rfl⟩ := how4.form
    have hX : X ≠ cb := by omega
    obtain ⟨q4, f4⟩ := hd4.2.kept hX hz3 HQ3.out.1 HQ3.out.2.1
    obtain ⟨qr, fr⟩ := hd4.2.kept (W := w.heap.size) (by omega) (by omega) HQ3.out.2.2.1 HQ3.out.2.2.2
    have HD4 := hidB (HD3.out.trans hd4)
    have HO4 := hidB how4
    have HN4 := hidB hbn4
    have hz4 := hd4.2.size
    have HF := hidB (And.intro (OwV.keepB (w' := (((((((w4.setCell ⟨X, 0, none⟩ (.int .i64 ak)).setCell ⟨X, 1, none⟩ (.int .i64 an)).setCell ⟨X, 2, none⟩ (.string as')).setCell ⟨X, 3, none⟩ (.slice aao alen acap)).setCell ⟨w.heap.size, 0, none⟩ (.int .i64 ak)).setCell ⟨w.heap.size, 1, none⟩ (.int .i64 an)).setCell ⟨w.heap.size, 2, none⟩ (.string as')).setCell ⟨w.heap.size, 3, none⟩ (.slice aao alen acap)) how4 (fun b hb hl => by
      have n0 : b ≠ w.heap.size := by omega
      have n1 : b ≠ X := by omega
      rw [Below.heap_setCell _ ⟨w.heap.size, 3, none⟩ _ b n0, Below.heap_setCell _ ⟨w.heap.size, 2, none⟩ _ b n0, Below.heap_setCell _ ⟨w.heap.size, 1, none⟩ _ b n0, Below.heap_setCell _ ⟨w.heap.size, 0, none⟩ _ b n0, Below.heap_setCell _ ⟨X, 3, none⟩ _ b n1, Below.heap_setCell _ ⟨X, 2, none⟩ _ b n1, Below.heap_setCell _ ⟨X, 1, none⟩ _ b n1, Below.heap_setCell _ ⟨X, 0, none⟩ _ b n1])) (((HD3.out.trans hd4).set4 hcb (Nat.le_trans (Nat.le_succ _) hz1) (.int .i64 ak) (.int .i64 an) (.string as') (.slice aao alen acap)).set4 hcb (Nat.le_refl _) (.int .i64 ak) (.int .i64 an) (.string as') (.slice aao alen acap)))
    clear how4 hbn4 hd4 b0 b1 b2 b3
    go_wp2_with fail
    exact bodyPost_ret (v := .agg #[.int .i64 ak, .int .i64 an, .string as', .slice aao alen acap]) (by simp [results, Try.results56, go_sem, qr]) rfl ⟨t4, _, rfl, HF.out.1.lowB (by omega), HN4.out, HF.out.2⟩
end Go.Proofs.Ytabgfaafpgholaa
