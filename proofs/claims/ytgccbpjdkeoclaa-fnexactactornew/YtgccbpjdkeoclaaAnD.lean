/-
  A new actor, the specification's: the walk.
-/
import Derived.Test.YtgccbpjdkeoclaaAnC
namespace Go.Proofs.Ytgccbpjdkeoclaa
open Go.RowKit Atom
set_option linter.unusedVariables false

theorem Sn.start {w w2 : World} {t : Tm} {pid pc : Int} {a b c d : Value} (hb : Below w.heap.size w w2) (hz : w.heap.size + 2 ≤ w2.heap.size) (hr : ∀ j, j < 5 → ∃ v, w2.cell? ⟨w.heap.size + 1, j, none⟩ = some v) (hrf : ∀ o, w2.frozen? ⟨w.heap.size + 1, o, none⟩ = false) (hv : RpV (fun x => w.heap.size + 2 ≤ x) w2 t (.agg #[a, b, c, d])) :
    Sn w ((w2.alloc (.cells #[a, b, c, d] 32)).alloc (.cells #[.int .i64 pid, .int .i64 pc, .slice (some ⟨w2.heap.size, 0, none⟩) 1 1, .slice none 0 0, .slice none 0 0] 29)) (w2.heap.size + 1) (w.heap.size + 1) (w.heap.size + 2) pid pc [t] (.slice (some ⟨w2.heap.size, 0, none⟩) 1 1) [a, b, c, d] := by
  obtain ⟨X, hX⟩ : ∃ X, X = (w2.alloc (.cells #[a, b, c, d] 32)).alloc (.cells #[.int .i64 pid, .int .i64 pc, .slice (some ⟨w2.heap.size, 0, none⟩) 1 1, .slice none 0 0, .slice none 0 0] 29) := ⟨_, rfl⟩
  rw [← hX]
  have e1 : (w2.alloc (.cells #[a, b, c, d] 32)).heap.size = w2.heap.size + 1 := by simp
  have hbX : Below w2.heap.size w2 X := by rw [hX]; exact ((Below.refl _ _).alloc (Nat.le_refl _) _).alloc (by simp) _
  have qA : ∀ o, X.cell? ⟨w2.heap.size + 1, o, none⟩ = (#[.int .i64 pid, .int .i64 pc, .slice (some ⟨w2.heap.size, 0, none⟩) 1 1, .slice none 0 0, .slice none 0 0] : Array Value)[o]? := fun o => by
    rw [hX, ← e1, World.cell?_alloc_new]
  have hg : X.heap[w2.heap.size]? = some (.cells #[a, b, c, d] 32 (0, 0)) := by
    rw [hX]
    show ((w2.heap.push _).push _)[w2.heap.size]? = _
    rw [Array.getElem?_push, if_neg (by simp), Array.getElem?_push, if_pos rfl]
  refine ⟨hb.trans (hbX.mono hb.size), qA 0, qA 1, qA 2, qA 3, qA 4, fun o => ?_, fun j hj => ?_, fun o => ?_, ⟨rfl, Or.inr ⟨w2.heap.size, 1, #[a, b, c, d], rfl, hz, hg, Nat.le_refl _, by unfold maxLen; omega, rfl, rfl⟩⟩, ?_, fun e => by simp only [Value.ownBlock, Option.some.injEq] at e; omega, by omega, by omega, by omega⟩
  · rw [hX, ← e1, World.frozen?_alloc_new]
  · obtain ⟨v, hv'⟩ := hr j hj
    exact ⟨v, keepA hbX hv'⟩
  · rw [hbX.frozen (p := ⟨w.heap.size + 1, o, none⟩) (by show w.heap.size + 1 < _; omega)]; exact hrf o
  · refine Row.snoc (S := fun b => False) (w := X) (l := []) (xs := []) (fun b o v hb _ => hb.elim) (Row.nil _ _) (Moves.repV (S := fun x => w.heap.size + 2 ≤ x) (w := w2) (fun p o v hp hc => ?_) hv)
    have hpl : p < w2.heap.size := World.block_lt_of_cell? w2 _ hc
    exact ⟨⟨hp, by omega, fun e => by simp only [Value.ownBlock, Option.some.injEq] at e; omega⟩, keepA hbX hc⟩
theorem Sn.done {w wr : World} {A R B : Nat} {pid pc : Int} {l : List Tm} {u : Value} {xs : List Value} (h : Sn w wr A R B pid pc l u xs) (r0 r1 r2 r3 r4 : Value) :
    (∃ ao cap, u = .slice ao l.length cap ∧ l.length ≤ cap ∧ cap ≤ maxLen ∧ RpL (fun b => w.heap.size ≤ b) (set5 wr R r0 r1 r2 r3 r4) l ao) ∧ Below w.heap.size w (set5 wr R r0 r1 r2 r3 r4) := by
  have h5 := h.lR
  have h6 := h.lRB
  obtain ⟨ao', cap', rfl, hl, hc, hr⟩ := h.row.repL (S' := fun b => B ≤ b) (fun b hb => hb.1) h.own (fun g hg => (h.own.lt g hg).1)
  refine ⟨⟨ao', cap', rfl, hl, hc, ?_⟩, ((((h.be.setCell h5 _).setCell h5 _).setCell h5 _).setCell h5 _).setCell h5 _⟩
  refine Moves.repL (S := fun b => B ≤ b) (fun b o v hb hv => ⟨by have hb' : B ≤ b := hb; omega, ?_⟩) _ _ hr
  have hb' : B ≤ b := hb
  have hbR : b ≠ R := by omega
  rw [World.cell?_of_block (w := wr) (a := ⟨b, o, none⟩) (set5_blk hbR)]; exact hv

set_option maxHeartbeats 2000000 in
set_option maxRecDepth 100000 in
theorem specNew_any9 (pid pc : Int) (t : Tm) (v : Value) (w : World) (h : RepV 0 w t v) (hst : StS t) :
    Calls Try.prog 5 #[.int .i64 pid, .int .i64 pc, v] w fun e w' => ∃ ra rc, e = .returned (.agg #[.int .i64 (nwI pid pc t pid), .int .i64 (nwI pid pc t pc), .slice ra (nwR pid pc t).length rc, .slice none 0 0, .slice none 0 0]) ∧ (nwR pid pc t).length ≤ rc ∧ rc ≤ maxLen ∧ RpL (fun b => w.heap.size ≤ b) w' (nwR pid pc t) ra ∧ Below w.heap.size w w' := by
  obtain ⟨va, vb, vc, vd, ve, vf, rfl⟩ := h.form
  obtain ⟨W, hW⟩ : ∃ W, W = (w.alloc (.cells #[.int .i64 va, .int .i64 vb, .string vc, .slice vd ve vf] 32)).alloc (.cells #[.int .i64 0, .int .i64 0, .slice none 0 0, .slice none 0 0, .slice none 0 0] 29) := ⟨_, rfl⟩
  have hbW : Below w.heap.size w W := by rw [hW]; exact ((Below.refl _ _).alloc (Nat.le_refl _) _).alloc (by simp) _
  have hzW : W.heap.size = w.heap.size + 2 := by rw [hW]; simp
  have qa : ∀ o, W.cell? ⟨w.heap.size, o, none⟩ = (#[.int .i64 va, .int .i64 vb, .string vc, .slice vd ve vf] : Array Value)[o]? := fun o => by
    rw [hW, World.cell?_alloc_lt (h := by simp), World.cell?_alloc_new]
  have qr : ∀ o, W.cell? ⟨w.heap.size + 1, o, none⟩ = (#[.int .i64 0, .int .i64 0, .slice none 0 0, .slice none 0 0, .slice none 0 0] : Array Value)[o]? := fun o => by
    have e1 : (w.alloc (.cells #[.int .i64 va, .int .i64 vb, .string vc, .slice vd ve vf] 32)).heap.size = w.heap.size + 1 := by simp
    rw [hW, ← e1, World.cell?_alloc_new]
  have fr : ∀ o, W.frozen? ⟨w.heap.size + 1, o, none⟩ = false := fun o => by
    have e1 : (w.alloc (.cells #[.int .i64 va, .int .i64 vb, .string vc, .slice vd ve vf] 32)).heap.size = w.heap.size + 1 := by simp
    rw [hW, ← e1, World.frozen?_alloc_new]
  have HR : Hid (RepV 0 w t (.agg #[.int .i64 va, .int .i64 vb, .string vc, .slice vd ve vf])) := h
  have HST : Hid (StS t) := hst
  have HBW : Hid (Below w.heap.size w W) := hbW
  have HQ : Hid (∀ w1, Below W.heap.size W w1 → (∀ o, w1.cell? ⟨w.heap.size, o, none⟩ = (#[.int .i64 va, .int .i64 vb, .string vc, .slice vd ve vf] : Array Value)[o]?) ∧ (∀ o, w1.cell? ⟨w.heap.size + 1, o, none⟩ = (#[.int .i64 0, .int .i64 0, .slice none 0 0, .slice none 0 0, .slice none 0 0] : Array Value)[o]?) ∧ (∀ o, w1.frozen? ⟨w.heap.size + 1, o, none⟩ = false)) := fun w1 hb =>
    ⟨fun o => by rw [hb.cell (p := ⟨w.heap.size, o, none⟩) (by show w.heap.size < _; omega)]; exact qa o, fun o => by rw [hb.cell (p := ⟨w.heap.size + 1, o, none⟩) (by show w.heap.size + 1 < _; omega)]; exact qr o, fun o => by rw [hb.frozen (p := ⟨w.heap.size + 1, o, none⟩) (by show w.heap.size + 1 < _; omega)]; exact fr o⟩
  have HOK : Hid (∀ w1, Below W.heap.size W w1 → Calls Try.prog 15 #[.agg #[.int .i64 va, .int .i64 vb, .string vc, .slice vd ve vf]] w1 fun e w2 => e = .returned (.bool (okT t)) ∧ Below W.heap.size W w2) := fun w1 hb =>
    (specOk_any t 0 w1 _ ((Keeps.below (hbW.trans (hb.mono hbW.size)) 0).repV h)).mono fun e w2 ⟨h1, h2⟩ => ⟨h1, hb.trans (h2.mono hb.size)⟩
  have HCP : Hid (∀ w1, Below W.heap.size W w1 → Calls Try.prog 16 #[.agg #[.int .i64 va, .int .i64 vb, .string vc, .slice vd ve vf]] w1 fun e w2 => ∃ v', e = .returned v' ∧ RpV (fun b => w1.heap.size ≤ b) w2 t v' ∧ Below w1.heap.size w1 w2) := fun w1 hb =>
    czT_all t w1 _ ((Keeps.below (hbW.trans (hb.mono hbW.size)) 0).repV h) hst
  have HZW : Hid (W.heap.size = w.heap.size + 2) := hzW
  clear h hst hbW hzW qa qr fr
  have HFIN : Hid (∀ w1 a b c, Below W.heap.size W w1 → Below w.heap.size w (((((w1.setCell ⟨w.heap.size + 1, 0, none⟩ a).setCell ⟨w.heap.size + 1, 1, none⟩ b).setCell ⟨w.heap.size + 1, 2, none⟩ c).setCell ⟨w.heap.size + 1, 3, none⟩ (.slice none 0 0)).setCell ⟨w.heap.size + 1, 4, none⟩ (.slice none 0 0))) := fun w1 a b c hb =>
    (((((HBW.out.trans (hb.mono HBW.out.size)).setCell (by show w.heap.size ≤ w.heap.size + 1; omega) _).setCell (by show w.heap.size ≤ w.heap.size + 1; omega) _).setCell (by show w.heap.size ≤ w.heap.size + 1; omega) _).setCell (by show w.heap.size ≤ w.heap.size + 1; omega) _).setCell (by show w.heap.size ≤ w.heap.size + 1; omega) _
  go_enter Try.func5, Try.ntmps5
  go_wp2_with (go_at_call 14; fail)
  rw [← hW]
  clear hW
  refine (Atom.in_any _ _ _ _).mono ?_
  rintro e w' ⟨rfl, hw'⟩
  obtain rfl := hw'.symm
  obtain ⟨qa, qr, fr⟩ := HQ.out W (Below.refl _ _)
  have hpq : Atom.inB pid 1 99999 = pidB pid := rfl
  rw [hpq]
  clear hpq
  cases hp : pidB pid
  · have hno : nwB pid pc t = false := by unfold nwB; rw [hp]; rfl
    obtain ⟨n1, n2⟩ := nw_no hno
    go_wp2_with fail
    refine bodyPost_ret (v := .agg #[.int .i64 0, .int .i64 0, .slice none 0 0, .slice none 0 0, .slice none 0 0]) (by simp [results, Try.results5, go_sem, qr]) rfl ?_
    rw [n1, n2, n2]
    exact ⟨none, 0, rfl, Nat.le_refl _, Nat.zero_le _, by rw [RpL]; trivial, HFIN.out W _ _ _ (Below.refl _ _)⟩
  · by_cases hpc : pc < 0
    · have hno : nwB pid pc t = false := by unfold nwB; rw [decide_eq_false (by omega)]; simp
      obtain ⟨n1, n2⟩ := nw_no hno
      go_wp2_with fail
      refine bodyPost_ret (v := .agg #[.int .i64 0, .int .i64 0, .slice none 0 0, .slice none 0 0, .slice none 0 0]) (by simp [results, Try.results5, go_sem, qr]) rfl ?_
      rw [n1, n2, n2]
      exact ⟨none, 0, rfl, Nat.le_refl _, Nat.zero_le _, by rw [RpL]; trivial, HFIN.out W _ _ _ (Below.refl _ _)⟩
    · go_wp2_with (go_at_call 15; fail)
      refine (HOK.out W (Below.refl _ _)).mono ?_
      rintro e w1 ⟨he, hb1⟩
      have HB1 : Hid (Below W.heap.size W w1) := hb1
      clear qa qr fr
      obtain ⟨qa, qr, fr⟩ := HQ.out w1 hb1
      clear hb1
      cases hok : okT t
      · rw [hok] at he
        subst he
        have hno : nwB pid pc t = false := by unfold nwB; rw [hok]; simp
        obtain ⟨n1, n2⟩ := nw_no hno
        go_wp2_with fail
        refine bodyPost_ret (v := .agg #[.int .i64 0, .int .i64 0, .slice none 0 0, .slice none 0 0, .slice none 0 0]) (by simp [results, Try.results5, go_sem, qr]) rfl ?_
        rw [n1, n2, n2]
        exact ⟨none, 0, rfl, Nat.le_refl _, Nat.zero_le _, by rw [RpL]; trivial, HFIN.out w1 _ _ _ HB1.out⟩
      · rw [hok] at he
        subst he
        have hyes : nwB pid pc t = true := by unfold nwB; rw [hp, hok, decide_eq_true (by omega)]; rfl
        obtain ⟨n1, n2⟩ := nw_yes hyes
        have HN1 : Hid (nwR pid pc t = t :: seven ∧ ∀ x, nwI pid pc t x = x) := ⟨n1, n2⟩
        clear hok hyes n1 n2
        go_wp2_with (go_at_call 16; fail)
        refine (HCP.out w1 HB1.out).mono ?_
        rintro e w2 ⟨v', rfl, hv2, hb2⟩
        obtain ⟨a2, b2, c2, d2, e2, f2, rfl⟩ := hv2.form
        have HB2 : Hid (Below W.heap.size W w2) := HB1.out.trans (hb2.mono HB1.out.size)
        clear qa qr fr
        obtain ⟨qa, qr, fr⟩ := HQ.out w2 HB2.out
        have hz := HZW.out
        have hz2 := HB2.out.size
        have hst0 := Sn.start (pid := pid) (pc := pc) (HBW.out.trans (HB2.out.mono HBW.out.size)) (by omega) (fun j hj => by
          rw [qr]
          match j, hj with
          | 0, _ => exact ⟨_, rfl⟩
          | 1, _ => exact ⟨_, rfl⟩
          | 2, _ => exact ⟨_, rfl⟩
          | 3, _ => exact ⟨_, rfl⟩
          | 4, _ => exact ⟨_, rfl⟩) fr ((Moves.sub (fun b hb => by have := HB1.out.size; omega)).repV hv2)
        have HS0 : Hid (Sn w ((w2.alloc (.cells #[.int .i64 a2, .int .i64 b2, .string c2, .slice d2 e2 f2] 32)).alloc (.cells #[.int .i64 pid, .int .i64 pc, .slice (some ⟨w2.heap.size, 0, none⟩) 1 1, .slice none 0 0, .slice none 0 0] 29)) (w2.heap.size + 1) (w.heap.size + 1) (w.heap.size + 2) pid pc [t] (.slice (some ⟨w2.heap.size, 0, none⟩) 1 1) [.int .i64 a2, .int .i64 b2, .string c2, .slice d2 e2 f2]) := hst0
        clear hst0 hv2 hb2 qa qr fr hz hz2
        obtain ⟨i0, hi, hzz0, hzz1, hzz2⟩ := infoParts9 info26
        go_wp2_with fail
        go_loopw [8] (fun v wr => ∃ (k : Nat) (u : Value) (xs : List Value), k ≤ 7 ∧ v = .int .i64 ((k + 1 : Nat) : Int) ∧ Sn w wr (w2.heap.size + 1) (w.heap.size + 1) (w.heap.size + 2) pid pc (t :: List.replicate k e0T) u xs) (fun v _ => 8 - (intOf v).toNat)
        case atStart => exact ⟨0, _, _, by omega, rfl, HS0.out⟩
        case round =>
          obtain ⟨k, u, xs, hk, rfl, hg⟩ := hrel
          obtain ⟨ua, uc, rfl⟩ := hg.form
          have hlen : (t :: List.replicate k e0T).length = k + 1 := by simp
          rw [hlen] at hg
          have HG : Hid (Sn w wr (w2.heap.size + 1) (w.heap.size + 1) (w.heap.size + 2) pid pc (t :: List.replicate k e0T) (.slice ua (k + 1) uc) xs) := hg
          have a0 := hg.a0
          have a1 := hg.a1
          have a2' := hg.a2
          have a3 := hg.a3
          have a4 := hg.a4
          have af := hg.af
          have hrf := hg.rf
          obtain ⟨r0, hr0⟩ := hg.r 0 (by decide)
          obtain ⟨r1, hr1⟩ := hg.r 1 (by decide)
          obtain ⟨r2, hr2⟩ := hg.r 2 (by decide)
          obtain ⟨r3, hr3⟩ := hg.r 3 (by decide)
          obtain ⟨r4, hr4⟩ := hg.r 4 (by decide)
          have hzr : w.heap.size + 2 ≤ wr.heap.size := by
            have h1 : w2.heap.size + 1 < wr.heap.size := World.block_lt_of_cell? wr _ a0
            have h2 := HB2.out.size
            have h3 := HZW.out
            omega
          have V1 : IntKind.i64.wrap (((k + 1 : Nat) : Int) + 1) = ((k + 1 + 1 : Nat) : Int) := by rw [IntKind.wrap_i64]; omega
          clear hg
          by_cases hlt : k < 7
          · have hlt8 : ((k + 1 : Nat) : Int) < 8 := by omega
            go_wp2_with fail
            go_region_law (first
              | (refine step_append_lies _ rfl (.tmp 33) (.tmp 35) 26 rfl (w.heap.size + 2) 32 i0 (.agg #[.int .i64 0, .int .i64 0, .string ⟨#[]⟩, .slice none 0 0]) 4 56 underlying24 hi hzz0 hzz1 hzz2 rfl (by decide) (.slice ua (k + 1) uc) (k + 1) xs (by simp [Act.eval]) (HO1.out.alloc _) ⟨w5.heap.size, 0, none⟩ 1 1 [.int .i64 1, .int .i64 0, .string ⟨#[]⟩, .slice none 0 0] (by simp [Act.eval]) rfl four_news (by intro u' hu'; simp at hu'; rcases hu' with rfl | rfl | rfl | rfl <;> rfl) (by decide) (by unfold maxLen; omega) (by omega) (by simp; omega) _ rfl ?_; intro g cap5 w6 hown6 hgrow6 hat6 hlt6; obtain ⟨t36, tf6⟩ := HG1.out.grown hgrow6)
              | (go_simp; go_wp2_with (go_at_call 17; refine (l9Int_any 0 _).mono ?_; rintro e w5 ⟨rfl, hd5⟩; have hd5' : Below wr.heap.size wr w5 := bundrewZ hd5; have HG1 : Hid (Sn w w5 (w2.heap.size + 1) (w.heap.size + 1) (w.heap.size + 2) pid pc (t :: List.replicate k e0T) (.slice ua (k + 1) uc) xs) := HG.out.call hd5'; have HO1 : Hid (w5.ownsRow (w.heap.size + 2) 32 4 (.slice ua (k + 1) uc) (k + 1) xs) := own_lenZ HG1.out.own hlen; have hz5 : wr.heap.size ≤ w5.heap.size := hd5'.size; have t35 := HG1.out.a2; have t35a : ∀ o, (w5.alloc o).cell? ⟨w2.heap.size + 1, 2, none⟩ = some (.slice ua (k + 1) uc) := (fun o => (HG1.out.call ((Below.refl _ _).alloc (Nat.le_refl _) o)).a2); have tf5 := HG1.out.af)))
            all_goals
              have HG2 := HG1.out.more (g := g) (cap' := cap5) (by rw [hlen]; exact hown6) hgrow6 (by rw [World.size_alloc] at hat6; exact hat6)
              have hcat : (t :: List.replicate k e0T) ++ [e0T] = t :: List.replicate (k + 1) e0T := by rw [List.cons_append, ← List.replicate_succ']
              rw [hlen, hcat] at HG2
              clear t36 tf6 hown6 hgrow6 hat6 hlt6 hd5 hd5' HG1 HO1 t35 t35a tf5 hlen hcat
              have HG3 : Hid (Sn w _ (w2.heap.size + 1) (w.heap.size + 1) (w.heap.size + 2) pid pc _ _ _) := HG2
              go_wp2_with fail
              go_roundw
              case rel => exact ⟨k + 1, _, _, by omega, by go_num, HG3.out⟩
              case measure => simp [intOf]; omega
          · have hk7 : k = 7 := by omega
            subst hk7
            clear hlt V1
            go_wp2_with fail
            have hd := HG.out.done (.int .i64 pid) (.int .i64 pc) (.slice ua (7 + 1) uc) (.slice none 0 0) (.slice none 0 0)
            refine bodyPost_ret (v := .agg #[.int .i64 pid, .int .i64 pc, .slice ua (7 + 1) uc, .slice none 0 0, .slice none 0 0]) (by simp [results, Try.results5, go_sem, hr0, hr1, hr2, hr3, hr4]) rfl ?_
            rw [HN1.out.1, HN1.out.2, HN1.out.2]
            obtain ⟨⟨ao, cap, e1, h1, h2, h3⟩, h4⟩ := hd
            simp only [Value.slice.injEq] at e1
            obtain ⟨rfl, _, rfl⟩ := e1
            exact ⟨_, _, rfl, h1, h2, h3, h4⟩
end Go.Proofs.Ytgccbpjdkeoclaa
