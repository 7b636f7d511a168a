/-
  Copies that the laws make of terms: each list in a block of its own.
  (Ahead of it, in this text: A term that is drawn stands in blocks of its own, told as a list.)
-/
import Derived.Test.YtabgfaafpgholaaW30
import Derived.Deep.RegionLaw
import Derived.Test.YtabgfaafpgholaaW28
namespace Go.Proofs.Ytabgfaafpgholaa
open Go.RowKit
set_option linter.unusedVariables false

/-- The term stands in blocks of its own, none of which stood there. -/
def OwV (w : World) (lo : Nat) (t : Tm) (v : Value) : Prop := ∃ bs, OsV w bs t v ∧ bs.Nodup ∧ ∀ b ∈ bs, lo ≤ b
def DrO (cb : Nat) (ao : Option Addr) (len cap : Nat) (zs : List Int) (d : Nat) : Prop := ∀ w, Cur cb ao len cap zs w →
  Calls Try.prog 73 #[.pointer (some ⟨cb, 0, none⟩), .int .i64 d] w fun e w' => ∃ t v, e = .returned v ∧ OwV w' w.heap.size t v ∧ RtT d t ∧ Drawn cb ao len cap zs w w'
theorem ow_leaf {w : World} (lo : Nat) (k n : Int) (s : ByteArray) (hs : s.size ≤ 1048576) : OwV w lo (.mk k n s []) (.agg #[.int .i64 k, .int .i64 n, .string s, .slice none 0 0]) :=
  ⟨[], ⟨none, 0, rfl, hs, Nat.le_refl _, Nat.zero_le _, by rw [OsL]⟩, List.nodup_nil, fun b hb => by cases hb⟩

set_option maxRecDepth 100000 in
set_option maxHeartbeats 2000000 in
theorem drO_of (cb : Nat) (ao : Option Addr) (len cap : Nat) (zs : List Int) (d : Nat) (hd0 : d ≤ 6) (ih : ∀ d', d = d' + 1 → DrO cb ao len cap zs d') : DrO cb ao len cap zs d := by
  intro w hc
  have HC : Hid (Cur cb ao len cap zs w) := hc
  have IH : Hid (∀ d', d = d' + 1 → DrO cb ao len cap zs d') := ih
  have hcb := hc.lt
  clear hc ih
  obtain ⟨D, hD⟩ : ∃ D : Int, D = d := ⟨_, rfl⟩
  rw [← hD]
  have HDD : Hid (D = d) := hD
  have hD0 : 0 ≤ D := by omega
  have hD6 : D ≤ 6 := by omega
  clear hD
  go_enter Try.func73, Try.ntmps73
  go_wp2_with fail
  refine (below_any cb ao len cap zs _ (HC.out.alloc _) 9 (by decide) (by decide)).mono ?_
  rintro e w1 ⟨x, rfl, hx0, hx1, hd1⟩
  obtain ⟨hz1, q1, f1⟩ := turn_new hcb hd1.2
  have HD1 : Hid (Drawn cb ao len cap zs w w1) := ((Drawn.refl HC.out).alloc _).trans hd1
  clear hd1
  have hx : (x = 0 ∨ x = 1 ∨ x = 2) ∨ (x = 3 ∨ x = 4) ∨ x = 5 ∨ x = 6 ∨ (x = 7 ∨ x = 8) := by omega
  rcases hx with hx | hx | hx | hx | hx
  · have h0 : x = 0 ∨ x = 1 ∨ x = 2 := hx
    rcases h0 with rfl | rfl | rfl
    all_goals
      clear hx hx0 hx1
      go_wp2_with fail
      refine (below_any cb ao len cap zs _ HD1.out.1 100 (by decide) (by decide)).mono ?_
      rintro e w2 ⟨y, rfl, hy0, hy1, hd2⟩
      have HD2 : Hid (Drawn cb ao len cap zs w w2) := HD1.out.trans hd2
      have HT2 : Hid (Turn cb w1 w2) := hd2.2
      clear hd2
      go_wp2_with fail
      refine (int_any cb ao len cap zs _ (HD2.out.1.alloc _) w2.heap.size [0, 1, -1, 7, 1000000, -1000000, y] (by have := HD2.out.1.lt; omega) (by simp) (by simp) ?_).mono ?_
      · intro j hj
        rw [World.cell?_alloc_new]
        have : j = 0 ∨ j = 1 ∨ j = 2 ∨ j = 3 ∨ j = 4 ∨ j = 5 ∨ j = 6 := by simp at hj; omega
        rcases this with rfl | rfl | rfl | rfl | rfl | rfl | rfl <;> rfl
      rintro e w3 ⟨z, rfl, hzm, hd3⟩
      have HZB : Hid (-1000000 ≤ z ∧ z ≤ 1000000) := by
        show _ ∧ _
        simp only [List.mem_cons, List.not_mem_nil, or_false] at hzm
        omega
      clear hzm
      have HD3 : Hid (Drawn cb ao len cap zs w w3) := (HD2.out.alloc _).trans hd3
      obtain ⟨q3, f3⟩ := ((HT2.out.alloc _).trans hd3.2).kept (by omega) (by omega) q1 f1
      clear hd3 q1 f1
      go_wp2_with fail
      refine bodyPost_ret (v := .agg #[.int .i64 1, .int .i64 z, .string ⟨#[]⟩, .slice none 0 0]) (by simp [results, Try.results73, go_sem, q3]) rfl ⟨.mk 1 z ByteArray.empty [], _, rfl, ow_leaf _ _ _ _ (Nat.zero_le _), wf_int d z HZB.out.1 HZB.out.2, ?_⟩
      exact HD3.out.set4 hcb (Nat.le_refl _) _ _ _ _
  · rcases hx with rfl | rfl
    all_goals
      clear hx0 hx1
      go_wp2_with fail
      refine (str_any cb ao len cap zs _ (HD1.out.1.alloc _) w1.heap.size [⟨#[111, 107]⟩, ⟨#[97]⟩, ⟨#[115, 116, 111, 112]⟩, ⟨#[104, 105, 50]⟩] (by have := HD1.out.1.lt; omega) (by simp) (by simp) ?_).mono ?_
      · intro j hj
        rw [World.cell?_alloc_new]
        have : j = 0 ∨ j = 1 ∨ j = 2 ∨ j = 3 := by simp at hj; omega
        rcases this with rfl | rfl | rfl | rfl <;> rfl
      rintro e w3 ⟨z, rfl, hz, hd3⟩
      have hzs : z.size ≤ 1048576 := by
        simp only [List.mem_cons, List.not_mem_nil, or_false] at hz
        rcases hz with rfl | rfl | rfl | rfl <;> decide
      have HZ : Hid (z.size ≤ 1048576) := hzs
      have HZA : Hid (z ∈ drawnAtoms) := hz
      have HD3 : Hid (Drawn cb ao len cap zs w w3) := (HD1.out.alloc _).trans hd3
      obtain ⟨q3, f3⟩ := (((Turn.refl _ _).alloc _).trans hd3.2).kept (by omega) (by omega) q1 f1
      clear hd3 q1 f1 hz hzs
      go_wp2_with fail
      refine bodyPost_ret (v := .agg #[.int .i64 2, .int .i64 0, .string z, .slice none 0 0]) (by simp [results, Try.results73, go_sem, q3]) rfl ⟨.mk 2 0 z [], _, rfl, ow_leaf _ _ _ _ HZ.out, wf_atom d z HZA.out, ?_⟩
      exact HD3.out.set4 hcb (Nat.le_refl _) _ _ _ _
  · subst hx
    clear hx0 hx1
    go_wp2_with fail
    refine (below_any cb ao len cap zs _ HD1.out.1 4 (by decide) (by decide)).mono ?_
    rintro e w2 ⟨z, rfl, hy0, hy1, hd2⟩
    have HD3 : Hid (Drawn cb ao len cap zs w w2) := HD1.out.trans hd2
    have HZB : Hid (0 ≤ z ∧ z ≤ 3) := by show _ ∧ _; omega
    obtain ⟨q3, f3⟩ := hd2.2.kept (by omega) (by omega) q1 f1
    clear hd2 q1 f1
    go_wp2_with fail
    refine bodyPost_ret (v := .agg #[.int .i64 3, .int .i64 z, .string ⟨#[]⟩, .slice none 0 0]) (by simp [results, Try.results73, go_sem, q3]) rfl ⟨.mk 3 z ByteArray.empty [], _, rfl, ow_leaf _ _ _ _ (Nat.zero_le _), wf_pid d z HZB.out.1 HZB.out.2, ?_⟩
    exact HD3.out.set4 hcb (Nat.le_refl _) _ _ _ _
  · rcases hx with rfl
    all_goals
      clear hx0 hx1
      go_wp2_with fail
      refine (str_any cb ao len cap zs _ (HD1.out.1.alloc _) w1.heap.size [⟨#[]⟩, ⟨#[120]⟩, ⟨#[0, 255]⟩, ⟨#[104, 101, 108, 108, 111]⟩] (by have := HD1.out.1.lt; omega) (by simp) (by simp) ?_).mono ?_
      · intro j hj
        rw [World.cell?_alloc_new]
        have : j = 0 ∨ j = 1 ∨ j = 2 ∨ j = 3 := by simp at hj; omega
        rcases this with rfl | rfl | rfl | rfl <;> rfl
      rintro e w3 ⟨z, rfl, hz, hd3⟩
      have hzs : z.size ≤ 1048576 := by
        simp only [List.mem_cons, List.not_mem_nil, or_false] at hz
        rcases hz with rfl | rfl | rfl | rfl <;> decide
      have HZ : Hid (z.size ≤ 1048576) := hzs
      have HZA : Hid (z.size ≤ 5) := by
        show _ ≤ _
        simp only [List.mem_cons, List.not_mem_nil, or_false] at hz
        rcases hz with rfl | rfl | rfl | rfl <;> decide
      have HD3 : Hid (Drawn cb ao len cap zs w w3) := (HD1.out.alloc _).trans hd3
      obtain ⟨q3, f3⟩ := (((Turn.refl _ _).alloc _).trans hd3.2).kept (by omega) (by omega) q1 f1
      clear hd3 q1 f1 hz hzs
      go_wp2_with fail
      refine bodyPost_ret (v := .agg #[.int .i64 6, .int .i64 0, .string z, .slice none 0 0]) (by simp [results, Try.results73, go_sem, q3]) rfl ⟨.mk 6 0 z [], _, rfl, ow_leaf _ _ _ _ HZ.out, wf_bin d z HZA.out, ?_⟩
      exact HD3.out.set4 hcb (Nat.le_refl _) _ _ _ _
  · rcases hx with rfl | rfl
    all_goals
      clear hx0 hx1
      go_wp2_with fail
      refine (int_any cb ao len cap zs _ (HD1.out.1.alloc _) w1.heap.size [4, 5] (by have := HD1.out.1.lt; omega) (by simp) (by simp) ?_).mono ?_
      · intro j hj
        rw [World.cell?_alloc_new]
        have : j = 0 ∨ j = 1 := by simp at hj; omega
        rcases this with rfl | rfl <;> rfl
      rintro e w3 ⟨K, rfl, hK, hd3⟩
      have HK : Hid (K = 4 ∨ K = 5) := by show _ ∨ _; simpa using hK
      have HD3 : Hid (Drawn cb ao len cap zs w w3) := (HD1.out.alloc _).trans hd3
      obtain ⟨q3, f3⟩ := (((Turn.refl _ _).alloc _).trans hd3.2).kept (by omega) (by omega) q1 f1
      have hz3 : w.heap.size + 1 ≤ w3.heap.size := by have := (((Turn.refl _ _).alloc _).trans hd3.2).size; omega
      clear hd3 q1 f1 hK
      go_wp2_with fail
      refine (below_any cb ao len cap zs _ (HD3.out.1.alloc _) 4 (by decide) (by decide)).mono ?_
      rintro e w4 ⟨m, rfl, hm0, hm1, hd4⟩
      have HG0 : Hid (Gao cb ao len cap zs w w4 w3.heap.size K 0 ⟨#[]⟩ [] (.slice none 0 0) [] []) := (Gao.start HD3.out hcb hz3 rfl q3 f3 K 0 ⟨#[]⟩).turn hd4
      clear hd4 q3 f3
      obtain ⟨tb, htb⟩ : ∃ tb, tb = w3.heap.size := ⟨_, rfl⟩
      rw [← htb] at HG0
      rw [← htb]
      have htb0 : w.heap.size < tb := by omega
      clear htb HD3 HD1 hz3 hz1
      obtain ⟨i0, hi, hzz⟩ := Option.map_eq_some_iff.1 info26
      simp only [Prod.mk.injEq] at hzz
      obtain ⟨hzz0, hzz1, hzz2⟩ := hzz
      obtain ⟨m, rfl⟩ : ∃ k : Nat, m = k := ⟨m.toNat, by omega⟩
      have hm : m < 4 := by omega
      clear hm0 hm1
      go_wp2_with fail
      go_loopw [6] (fun i w' => ∃ (k : Nat) (l : List Tm) (u : Value) (xs : List Value) (bs : List Nat), i = .int .i64 k ∧ l.length + k ≤ 3 ∧ Gao cb ao len cap zs w w' tb K 0 ⟨#[]⟩ l u xs bs ∧ DpL d l) (fun i _ => (intOf i).toNat)
      case atStart => exact ⟨m, [], _, _, _, rfl, by simp; omega, HG0.out, .inl rfl⟩
      case round =>
        obtain ⟨k, l, u, xs, bs, rfl, hlk, hg, hdp⟩ := hrel
        have HDP : Hid (DpL d l) := hdp
        clear hdp
        obtain ⟨ua, uc, rfl⟩ := hg.form
        have HG : Hid (Gao cb ao len cap zs w wr tb K 0 ⟨#[]⟩ l (.slice ua l.length uc) xs bs) := hg
        have t0 := hg.t0
        have t1 := hg.t1
        have t2 := hg.t2
        have t3 := hg.t3
        have tf := hg.tf
        have htl := hg.lt
        obtain ⟨r0, hr0⟩ := hg.r 0 (by decide)
        obtain ⟨r1, hr1⟩ := hg.r 1 (by decide)
        obtain ⟨r2, hr2⟩ := hg.r 2 (by decide)
        obtain ⟨r3, hr3⟩ := hg.r 3 (by decide)
        have hrf := hg.rf
        clear hg
        by_cases hk : 0 < k
        · by_cases hDp : 0 < D
          case neg =>
            go_wp2_with fail
            obtain ⟨⟨bt, hv, hn, hlo⟩, hdd⟩ := HG.out.done (Nat.zero_le _) (.int .i64 K) (.int .i64 0) (.string ⟨#[]⟩) (.slice ua l.length uc)
            refine bodyPost_ret (v := .agg #[.int .i64 K, .int .i64 0, .string ⟨#[]⟩, .slice ua l.length uc]) (by simp [results, Try.results73, go_sem, hr0, hr1, hr2, hr3]) rfl ⟨_, _, rfl, ⟨bt, hv, hn, hlo⟩, wf_list d K HK.out l (by omega) HG.out.wf HDP.out, hdd⟩
          case pos =>
            obtain ⟨d', hd'⟩ : ∃ d' : Nat, d = d' + 1 := ⟨d - 1, by have := HDD.out; omega⟩
            have HT : Hid (DrO cb ao len cap zs d') := IH.out d' hd'
            have HQ : Hid (D - 1 = d') := by show _ = _; have := HDD.out; omega
            have HW : Hid (IntKind.i64.wrap (D - 1) = d') := by show _ = _; have := HDD.out; rw [IntKind.wrap_i64]; omega
            have HDE : Hid (d = d' + 1) := hd'
            clear hd'
            go_wp2_with fail
            go_region_law (first
              | (refine step_append_lies _ rfl (.tmp 52) (.tmp 57) 37 rfl (tb + 1) 39 i0 (.agg #[.int .i64 0, .int .i64 0, .string ⟨#[]⟩, .slice none 0 0]) 4 56 underlying24 hi hzz0 hzz1 hzz2 rfl (by decide) (.slice ua l.length uc) l.length xs (by simp [Act.eval]) (HG1.out.own.alloc _) ⟨w5.heap.size, 0, none⟩ 1 1 [.int .i64 va, .int .i64 vb, .string vc, .slice vd ve vf] (by simp [Act.eval]) rfl four_news (by intro u' hu'; simp at hu'; rcases hu' with rfl | rfl | rfl | rfl <;> rfl) (by decide) (by unfold maxLen; omega) (by omega) (by simp; omega) _ rfl ?_; intro g cap5 w6 hown6 hgrow6 hat6 hlt6; obtain ⟨t36, tf6⟩ := HG1.out.grown hgrow6)
              | (go_simp; go_wp2_with (go_at_call 73; (first | rw [HW.out] | rw [HQ.out]); refine (HT.out _ ?_).mono ?_; exact HG.out.drawn.1.drew; rintro e w5 ⟨tt, vv, rfl, ⟨bt, hv5, hn5, hl5⟩, hw5, hd5⟩; obtain ⟨va, vb, vc, vd, ve, vf, rfl⟩ := hv5.form; have HG1 : Hid (Gao cb ao len cap zs w w5 tb K 0 ⟨#[]⟩ l (.slice ua l.length uc) xs bs) := HG.out.turn hd5.drew; have htl5 := HG1.out.lt; have t35 := HG1.out.t3; have tf5 := HG1.out.tf)))
            all_goals
              have HDP2 : Hid (DpL d (l ++ [tt])) := HDP.out.snoc HDE.out hw5.2
              have HG2 := HG.out.more hd5.drew hv5 hn5 hl5 hw5.1 hown6 hgrow6 (by rw [World.size_alloc] at hat6; exact hat6) hlt6
              clear t36 tf6 hown6 hgrow6 hat6 hlt6 hv5 hn5 hl5 hw5 hd5 HG1 htl5 t35 tf5
              have HG3 : Hid (Gao cb ao len cap zs w _ tb K 0 ⟨#[]⟩ _ _ _ _) := HG2
              go_wp2_with fail
              go_roundw
              case rel =>
                refine ⟨k - 1, l ++ [tt], _, _, _, ?_, ?_, HG3.out, HDP2.out⟩
                · have e : ((k - 1 : Nat) : Int) = (k : Int) - 1 := by omega
                  rw [e]
                · rw [List.length_append]; simp only [List.length_cons, List.length_nil]; omega
              case measure => simp [intOf]; omega
        · go_wp2_with fail
          obtain ⟨⟨bt, hv, hn, hlo⟩, hdd⟩ := HG.out.done (Nat.zero_le _) (.int .i64 K) (.int .i64 0) (.string ⟨#[]⟩) (.slice ua l.length uc)
          refine bodyPost_ret (v := .agg #[.int .i64 K, .int .i64 0, .string ⟨#[]⟩, .slice ua l.length uc]) (by simp [results, Try.results73, go_sem, hr0, hr1, hr2, hr3]) rfl ⟨_, _, rfl, ⟨bt, hv, hn, hlo⟩, wf_list d K HK.out l (by omega) HG.out.wf HDP.out, hdd⟩

theorem drO_all (cb : Nat) (ao : Option Addr) (len cap : Nat) (zs : List Int) : ∀ d : Nat, d ≤ 6 → DrO cb ao len cap zs d
  | 0, h => drO_of cb ao len cap zs 0 h (fun d' e => by omega)
  | d + 1, h => drO_of cb ao len cap zs (d + 1) h (fun d' e => by
      have : d' = d := by omega
      subst this
      exact drO_all cb ao len cap zs d' (by omega))
end Go.Proofs.Ytabgfaafpgholaa
namespace Go.Proofs.Ytabgfaafpgholaa
open Go.RowKit
set_option linter.unusedVariables false

/-- Texts and lists in it have at most so many. -/
def StS : Tm → Prop
  | .mk _ _ s l => s.size ≤ 1048576 ∧ l.length ≤ 1048576 ∧ ∀ t, t ∈ l → StS t
theorem sz_sts : ∀ (t : Tm) (a : Int), 0 ≤ a → a ≤ 1048576 → 0 ≤ szT t a → StS t := by
  refine Tm.ind ?_
  intro k n s l ih a ha hm h
  rw [szT] at h
  rw [StS]
  split at h
  · omega
  · split at h
    · omega
    · refine ⟨by omega, by omega, ?_⟩
      have go : ∀ (m : List Tm) (c : Int), (∀ t, t ∈ m → t ∈ l) → 0 ≤ c → c ≤ 1048576 → 0 ≤ szGo m c → ∀ t, t ∈ m → StS t := by
        intro m
        induction m with
        | nil => intro c _ _ _ _ t ht; cases ht
        | cons x r ihr =>
          intro c hsub h0 h1 hz t ht
          rw [szGo] at hz
          have hx := szT_le x c h0
          split at hz
          · omega
          · rcases List.mem_cons.1 ht with rfl | ht
            · exact ih t (hsub t (by simp)) c h0 h1 (by omega)
            · exact ihr (szT x c) (fun y hy => hsub y (by simp [hy])) (by omega) (by omega) hz t ht
      exact go l _ (fun t h => h) (by omega) (by omega) h
/-- What is counted. -/
theorem szGo_nt : ∀ (l : List Tm) (a : Int), 0 ≤ a → 0 ≤ szGo l a → szGo l a + (inL l : Int) ≤ a
  | [], a, h0, h => by rw [szGo, inL]; omega
  | .mk k n s l :: r, a, h0, h => by
    rw [szGo] at h ⊢
    have hx := szT_le (.mk k n s l) a h0
    split at h
    · omega
    · rename_i hq
      rw [if_neg hq]
      have h1 := szGo_nt r (szT (.mk k n s l) a) (by omega) h
      have h2 : szT (.mk k n s l) a + (ntL l : Int) ≤ a := by
        rw [szT] at hq ⊢
        split
        · rename_i h3; rw [if_pos h3] at hq; omega
        · rename_i h3
          rw [if_neg h3] at hq
          split
          · rename_i h4; rw [if_pos h4] at hq; omega
          · rename_i h4
            rw [if_neg h4] at hq
            have h5 := szGo_nt l (a - s.size - l.length) (by omega) (by omega)
            have h6 := ntL_eq l
            omega
      rw [inL]
      omega
theorem szT_nt (k n : Int) (s : ByteArray) (l : List Tm) (a : Int) (h0 : 0 ≤ a) (h : 0 ≤ szT (.mk k n s l) a) : (ntL l : Int) ≤ a := by
  rw [szT] at h
  split at h
  · omega
  · split at h
    · omega
    · have h5 := szGo_nt l (a - s.size - l.length) (by omega) h
      have h6 := ntL_eq l
      omega

structure MadeO (w wr : World) (g : Nat) (l : List Tm) (k : Nat) (bs : List Nat) : Prop where
  below : Below w.heap.size w wr
  lt : g < wr.heap.size
  some : ∀ j, j < l.length * 4 → (wr.cell? ⟨g, j, none⟩).isSome = true
  free : ∀ o, wr.frozen? ⟨g, o, none⟩ = false
  row : OsR wr (l.take k) bs g 0
  nd : (g :: bs).Nodup
  lo : ∀ b ∈ bs, w.heap.size ≤ b
theorem MadeO.call {w wr w1 : World} {g : Nat} {l : List Tm} {k : Nat} {bs : List Nat} (h : MadeO w wr g l k bs) (hb : Below wr.heap.size wr w1) : MadeO w w1 g l k bs where
  below := h.below.trans (hb.mono h.below.size)
  lt := Nat.lt_of_lt_of_le h.lt hb.size
  some := fun j hj => by rw [hb.cell (p := ⟨g, j, none⟩) h.lt]; exact h.some j hj
  free := fun o => by rw [hb.frozen (p := ⟨g, o, none⟩) h.lt]; exact h.free o
  row := OsR.keep _ _ _ _ (fun x _ hx => hb.block x hx) (fun o v _ _ hv => by rw [hb.cell (p := ⟨g, o, none⟩) h.lt]; exact hv) h.row
  nd := h.nd
  lo := h.lo
theorem set4_blk {w : World} {g o x : Nat} {a b c d : Value} (h : x ≠ g) : (set4 w g o a b c d).heap[x]? = w.heap[x]? := by
  unfold set4
  rw [Below.heap_setCell _ ⟨g, o + 3, none⟩ _ x h, Below.heap_setCell _ ⟨g, o + 2, none⟩ _ x h, Below.heap_setCell _ ⟨g, o + 1, none⟩ _ x h, Below.heap_setCell _ ⟨g, o, none⟩ _ x h]
theorem MadeO.store {w wr : World} {g : Nat} {l : List Tm} {k B : Nat} {bs bt : List Nat} (h : MadeO w wr g l k bs) (hg : w.heap.size ≤ g) (hk : k < l.length) {a b c d : Value} (hv : OsV wr bt l[k] (.agg #[a, b, c, d])) (hnt : bt.Nodup) (hB : ∀ x ∈ bt, B ≤ x) (hold : ∀ x ∈ bs, x < B) (hgB : g < B) : MadeO w (set4 wr g (k * 4) a b c d) g l (k + 1) (bs ++ (bt ++ [])) := by
  have hin := set4_in (w := wr) (g := g) (o := k * 4) (a := a) (b := b) (c := c) (d := d) (fun j hj => h.some (k * 4 + j) (by omega))
  have hlen : (l.take k).length = k := by simp; omega
  have hwg : ∀ x ∈ bs, x ≠ g := fun x hx e => (List.nodup_cons.1 h.nd).1 (by rw [← e]; exact hx)
  refine ⟨?_, by rw [set4_size]; exact h.lt, ?_, fun o => by rw [set4_frozen]; exact h.free o, ?_, ?_, fun x hx => ?_⟩
  · exact ((((h.below.setCell (p := ⟨g, k * 4, none⟩) hg _).setCell (p := ⟨g, k * 4 + 1, none⟩) hg _).setCell (p := ⟨g, k * 4 + 2, none⟩) hg _).setCell (p := ⟨g, k * 4 + 3, none⟩) hg _)
  · intro j hj
    by_cases hj1 : j < k * 4 ∨ k * 4 + 3 < j
    · rw [set4_far (p := ⟨g, j, none⟩) (Or.inr hj1)]; exact h.some j hj
    · have : j = k * 4 ∨ j = k * 4 + 1 ∨ j = k * 4 + 2 ∨ j = k * 4 + 3 := by omega
      rcases this with rfl | rfl | rfl | rfl
      · rw [hin.1]; rfl
      · rw [hin.2.1]; rfl
      · rw [hin.2.2.1]; rfl
      · rw [hin.2.2.2]; rfl
  · rw [List.take_succ_eq_append_getElem hk]
    revert hv
    generalize l[k] = t
    intro hv
    obtain ⟨k', n', s', l'⟩ := t
    obtain ⟨ao, cap, e, hs, hl, hc, hr⟩ := hv
    simp only [Value.agg.injEq, Array.mk.injEq, List.cons.injEq, and_true] at e
    obtain ⟨rfl, rfl, rfl, rfl⟩ := e
    refine OsR.join (OsR.keep _ _ _ _ (fun x hx _ => set4_blk (hwg x hx)) (fun o v _ ho hv => ?_) h.row) ?_ (by rw [OsR])
    · rw [hlen] at ho
      rw [set4_far (p := ⟨g, o, none⟩) (Or.inr (by show o < k * 4 ∨ _; omega))]; exact hv
    · rw [hlen, Nat.zero_add, OsT]
      exact ⟨hin.1, hin.2.1, hin.2.2.1, hs, ao, cap, hin.2.2.2, hl, hc, OsL.keep _ _ _ (fun x hx _ => set4_blk (by have := hB x hx; omega)) hr⟩
  · rw [List.append_nil, List.nodup_cons]
    obtain ⟨n1, n2⟩ := List.nodup_cons.1 h.nd
    refine ⟨fun hm => ?_, List.nodup_append.2 ⟨n2, hnt, fun x hx y hy e => ?_⟩⟩
    · rcases List.mem_append.1 hm with h1 | h1
      · exact n1 h1
      · have := hB g h1; omega
    · have h1 := hold x hx
      have h2 := hB y hy
      omega
  · rw [List.append_nil] at hx
    rcases List.mem_append.1 hx with h1 | h1
    · exact h.lo x h1
    · have := hB x h1; omega
def ToOT (t : Tm) : Prop := ∀ (B : Nat) (w : World) (v : Value), RepV B w t v →
  Calls Try.prog 12 #[v] w fun e w' => ∃ v' bs, e = .returned v' ∧ Below w.heap.size w w' ∧ OsV w' bs t v' ∧ bs.Nodup ∧ ∀ b ∈ bs, w.heap.size ≤ b
def ToOS (l : List Tm) : Prop := ∀ (B : Nat) (w : World) (ao : Option Addr) (cap : Nat), RepL B w l ao → l.length ≤ cap → cap ≤ maxLen →
  Calls Try.prog 44 #[.slice ao l.length cap] w fun e w' => ∃ ao' bs, e = .returned (.slice ao' l.length l.length) ∧ Below w.heap.size w w' ∧ OsL w' l bs ao' ∧ bs.Nodup ∧ ∀ b ∈ bs, w.heap.size ≤ b

theorem madeO_start (w : World) (l : List Tm) : MadeO w (w.alloc (.cells (zeros l.length) 39)) w.heap.size l 0 [] := by
  have h := made_start w l
  exact ⟨h.below, h.lt, h.some, h.free, by simp [OsR], by simp, fun b hb => by cases hb⟩

set_option maxHeartbeats 400000 in
theorem toOS_of (l : List Tm) (hsm : l.length ≤ 1048576) (ih : ∀ t, t ∈ l → ToOT t) : ToOS l := by
  intro B w ao cap hr hl hc
  have IH : Hid (∀ t, t ∈ l → ToOT t) := ih
  have HR : Hid (RepL B w l ao) := hr
  have HC : Hid (cap ≤ maxLen) := hc
  clear ih hr hc
  have hmk := run_zeros l.length hsm
  go_enter Try.func44, Try.ntmps44
  go_wp2_with fail
  clear hmk
  go_loopw [4] (fun i w' => ∃ (k : Nat) (bs : List Nat), k ≤ l.length ∧ i = .int .i64 k ∧ MadeO w w' w.heap.size l k bs) (fun i _ => l.length - (intOf i).toNat)
  case atStart => exact ⟨0, [], Nat.zero_le _, rfl, madeO_start w l⟩
  case round =>
    obtain ⟨k, bs, hk, rfl, hm⟩ := hrel
    have HM : Hid (MadeO w wr w.heap.size l k bs) := hm
    clear hm
    by_cases hlt : k < l.length
    · obtain ⟨b, off, rfl, hB, ht⟩ := RepL.at l ao ((Keeps.below HM.out.below B).repL _ _ HR.out) k hlt
      obtain ⟨tk, tn, ts, tao, tlen, tcap, c0, c1, c2, c3, hv⟩ := ht.cells
      have HV : Hid (RepV B wr l[k] (.agg #[.int .i64 tk, .int .i64 tn, .string ts, .slice tao tlen tcap])) := hv
      have HT : Hid (ToOT l[k]) := IH.out _ (List.getElem_mem hlt)
      clear hv ht
      go_wp2_with fail
      refine (HT.out B _ _ HV.out).mono ?_
      rintro e w1 ⟨v', bt, rfl, hb1, hv1, hnt, hlo⟩
      have HM1 : Hid (MadeO w w1 w.heap.size l k bs) := HM.out.call hb1
      obtain ⟨va, vb, vc, vd, ve, vf, rfl⟩ := hv1.form
      have HV1 : Hid (OsV w1 bt l[k] (.agg #[.int .i64 va, .int .i64 vb, .string vc, .slice vd ve vf]) ∧ bt.Nodup ∧ ∀ b ∈ bt, wr.heap.size ≤ b) := ⟨hv1, hnt, hlo⟩
      have HOLD : Hid (∀ x ∈ bs, x < wr.heap.size) := OsR.lt _ _ _ _ HM.out.row
      have hf := HM1.out.free
      obtain ⟨x0, hs0⟩ := Option.isSome_iff_exists.1 (HM1.out.some (k * 4) (by omega))
      obtain ⟨x1, hs1⟩ := Option.isSome_iff_exists.1 (HM1.out.some (k * 4 + 1) (by omega))
      obtain ⟨x2, hs2⟩ := Option.isSome_iff_exists.1 (HM1.out.some (k * 4 + 2) (by omega))
      obtain ⟨x3, hs3⟩ := Option.isSome_iff_exists.1 (HM1.out.some (k * 4 + 3) (by omega))
      clear hb1 hv1 hnt hlo c0 c1 c2 c3
      go_wp2_with fail
      have HM2 := HM1.out.store (Nat.le_refl _) hlt HV1.out.1 HV1.out.2.1 HV1.out.2.2 HOLD.out HM.out.lt
      go_roundw
      case rel => exact ⟨k + 1, _, by omega, by go_num, HM2⟩
      case measure => simp [intOf]; omega
    · go_wp2_with fail
      go_ret
      have hkl : k = l.length := by omega
      subst hkl
      have hm := HM.out
      have hrow := hm.row
      rw [List.take_of_length_le (Nat.le_refl _)] at hrow
      by_cases hnil : l = []
      · subst hnil
        exact ⟨_, [], rfl, hm.below, by rw [OsL], by simp, fun b hb => by cases hb⟩
      · exact ⟨_, w.heap.size :: bs, rfl, hm.below, (OsL.iff hnil).2 ⟨w.heap.size, 0, bs, rfl, rfl, hm.free, hrow⟩, hm.nd, fun b hb => by
          rcases List.mem_cons.1 hb with rfl | hb
          · exact Nat.le_refl _
          · exact hm.lo b hb⟩

set_option maxHeartbeats 400000 in
theorem toOT_of (k n : Int) (s : ByteArray) (l : List Tm) (hsz : s.size ≤ 1048576) (h : ToOS l) : ToOT (.mk k n s l) := by
  intro B w v hv
  obtain ⟨ao, cap, rfl, hs, hl, hc, hr⟩ := hv
  have HS : Hid (ToOS l) := h
  have HR : Hid (RepL B w l ao) := hr
  have HC : Hid (s.size ≤ 1048576 ∧ l.length ≤ cap ∧ cap ≤ maxLen) := ⟨hsz, hl, hc⟩
  clear h hr hs hl hc hsz
  go_enter Try.func12, Try.ntmps12
  go_wp2_with fail
  refine (HS.out B _ _ _ ((Keeps.below ?_ B).repL _ _ HR.out) HC.out.2.1 HC.out.2.2).mono ?_
  · exact (((Below.refl _ _).alloc (Nat.le_refl _) _).alloc (by simp) _).alloc (by simp; omega) _
  rintro e w1 ⟨ao', bs, rfl, hb1, hr1, hnd, hlo⟩
  obtain ⟨hz, q2, q3, f2, f3⟩ := three_new hb1
  have HB1 : Hid (Below w.heap.size w w1) := ((((Below.refl _ _).alloc (Nat.le_refl _) _).alloc (by simp) _).alloc (by simp; omega) _).trans (hb1.mono (by simp; omega))
  have HR1 : Hid (OsL w1 l bs ao' ∧ bs.Nodup ∧ ∀ b ∈ bs, w.heap.size + 3 ≤ b) := ⟨hr1, hnd, fun b hb => by have := hlo b hb; simp at this; omega⟩
  clear hb1 hr1 hnd hlo
  go_wp2_with fail
  refine bodyPost_ret (v := .agg #[.int .i64 k, .int .i64 n, .string s, .slice ao' l.length l.length]) (by simp [results, Try.results12, go_sem, q2]) rfl ⟨_, bs, rfl, ?_, ?_, HR1.out.2.1, fun b hb => by have := HR1.out.2.2 b hb; omega⟩
  · exact ((((HB1.out.setCell (by show w.heap.size ≤ w.heap.size + 1 + 1; omega) _).setCell (by show w.heap.size ≤ w.heap.size + 1; omega) _).setCell (by show w.heap.size ≤ w.heap.size + 1; omega) _).setCell (by show w.heap.size ≤ w.heap.size + 1; omega) _).setCell (by show w.heap.size ≤ w.heap.size + 1; omega) _
  · refine ⟨ao', l.length, rfl, HC.out.1, Nat.le_refl _, Nat.le_trans HC.out.2.1 HC.out.2.2, OsL.keep _ _ _ (fun x hx _ => ?_) HR1.out.1⟩
    have hx3 := HR1.out.2.2 x hx
    rw [Below.heap_setCell _ ⟨w.heap.size + 1, 3, none⟩ _ x (by show x ≠ w.heap.size + 1; omega), Below.heap_setCell _ ⟨w.heap.size + 1, 2, none⟩ _ x (by show x ≠ w.heap.size + 1; omega), Below.heap_setCell _ ⟨w.heap.size + 1, 1, none⟩ _ x (by show x ≠ w.heap.size + 1; omega), Below.heap_setCell _ ⟨w.heap.size + 1, 0, none⟩ _ x (by show x ≠ w.heap.size + 1; omega), Below.heap_setCell _ ⟨w.heap.size + 1 + 1, 3, none⟩ _ x (by show x ≠ w.heap.size + 1 + 1; omega)]
theorem toOT_all : ∀ t, StS t → ToOT t := Tm.ind fun k n s l ih h => by
  rw [StS] at h
  exact toOT_of k n s l h.1 (toOS_of l h.2.1 fun t ht => ih t ht (h.2.2 t ht))
end Go.Proofs.Ytabgfaafpgholaa
