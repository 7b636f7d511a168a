/-
  The actor that a cell is: the specification.
  (Ahead of it, in this text: The actor that a cell is: the program.)
-/
import Derived.Test.YtjjmikfbongccaaAfB
import Derived.Test.YtjjmikfbongccaaAcC
import Derived.Test.YtjjmikfbongccaaUCr
import Derived.Deep.AppendLies
namespace Go.Proofs.Ytjjmikfbongccaa.Gn
open Go.RowKit
set_option linter.unusedVariables false

/-- Is each word of the cell a term? -/
def okA (H : Hp) (c : Ce) : Bool := allB H (rowL c.R c.r) && allB H (rowL c.B c.b)
/-- The actor that the cell is, or the zero one. -/
def actOf (H : Hp) (c : Ce) : Ac := if okA H c = true then ⟨c.pid, c.pc, tms H (rowL c.R c.r), tms H (rowL c.B c.b), c.N, c.f⟩ else ⟨0, 0, [], [], 0, fun _ => 0⟩
theorem actOf_yes {H : Hp} {c : Ce} (h1 : allB H (rowL c.R c.r) = true) (h2 : allB H (rowL c.B c.b) = true) : actOf H c = ⟨c.pid, c.pc, tms H (rowL c.R c.r), tms H (rowL c.B c.b), c.N, c.f⟩ := by
  unfold actOf okA; rw [h1, h2]; rfl
theorem actOf_no {H : Hp} {c : Ce} (h : okA H c = false) : actOf H c = ⟨0, 0, [], [], 0, fun _ => 0⟩ := by unfold actOf; rw [h]; rfl
theorem okA_yes {H : Hp} {c : Ce} (h1 : allB H (rowL c.R c.r) = true) (h2 : allB H (rowL c.B c.b) = true) : okA H c = true := by unfold okA; rw [h1, h2]; rfl
theorem okA_no1 {H : Hp} {c : Ce} (h1 : allB H (rowL c.R c.r) = false) : okA H c = false := by unfold okA; rw [h1]; rfl
theorem okA_no2 {H : Hp} {c : Ce} (h1 : allB H (rowL c.B c.b) = false) : okA H c = false := by unfold okA; rw [h1]; simp
/-- An actor whose lists and all within them stand apart, between lo and hi. -/
structure AcO (w : World) (lo hi : Nat) (a : Ac) (h : Wh) : Prop where
  own : ∃ m1 m2, lo ≤ m1 ∧ m1 ≤ m2 ∧ m2 ≤ hi ∧ OwL w a.regs lo m1 h.ra ∧ OwL w a.box m1 m2 h.ba ∧ Ls w m2 hi h.la a.N a.f
  r1 : a.regs.length ≤ h.rc
  r2 : h.rc ≤ maxLen
  b1 : a.box.length ≤ h.bc
  b2 : h.bc ≤ maxLen
  l1 : a.N ≤ h.lc
  l2 : h.lc ≤ maxLen
theorem AcO.keep {w w' : World} {lo hi : Nat} {a : Ac} {h : Wh} (x : AcO w lo hi a h) (hk : ∀ b, lo ≤ b → b < hi → w'.heap[b]? = w.heap[b]?) : AcO w' lo hi a h := by
  obtain ⟨m1, m2, h1, h2, h3, h4, h5, h6⟩ := x.own
  exact ⟨⟨m1, m2, h1, h2, h3, OwL.keep _ _ _ _ (fun b hb1 hb2 _ => hk b hb1 (by omega)) h4, OwL.keep _ _ _ _ (fun b hb1 hb2 _ => hk b (by omega) (by omega)) h5, h6.keep fun b hb1 hb2 => hk b (by omega) hb2⟩, x.r1, x.r2, x.b1, x.b2, x.l1, x.l2⟩
theorem AcO.rd {w : World} {lo hi : Nat} {a : Ac} {h : Wh} (x : AcO w lo hi a h) : AcR w a h := by
  obtain ⟨m1, m2, h1, h2, h3, h4, h5, h6⟩ := x.own
  exact ⟨RpL.rep _ _ (OwL.rp a.regs lo m1 h.ra (Nat.zero_le _) h4), RpL.rep _ _ (OwL.rp a.box m1 m2 h.ba (Nat.zero_le _) h5), h6.rd, x.r1, x.r2, x.b1, x.b2, x.l1, x.l2⟩
theorem AcO.zero (w : World) (lo hi : Nat) (h : lo ≤ hi) : AcO w lo hi ⟨0, 0, [], [], 0, fun _ => 0⟩ ⟨none, 0, none, 0, none, 0⟩ :=
  ⟨⟨lo, lo, Nat.le_refl _, Nat.le_refl _, h, by rw [OwL]; trivial, by rw [OwL]; trivial, fun h => absurd rfl h⟩, Nat.le_refl _, Nat.zero_le _, Nat.le_refl _, Nat.zero_le _, Nat.le_refl _, Nat.zero_le _⟩
/-- All three lists of a cell stand somewhere. -/
structure Ca3 (w : World) (c : Ce) (h : Cw) (b1 o1 b2 o2 b3 o3 : Nat) : Prop where
  two : Cat w c h b1 o1 b2 o2
  la : h.la = some ⟨b3, o3, none⟩
  ls : ∀ j, j < c.N → w.cell? ⟨b3, o3 + j, none⟩ = some (.int .i64 (c.f j))
theorem Ca3.below {w w' : World} {c : Ce} {h : Cw} {b1 o1 b2 o2 b3 o3 : Nat} (x : Ca3 w c h b1 o1 b2 o2 b3 o3) (hb : Below w.heap.size w w') : Ca3 w' c h b1 o1 b2 o2 b3 o3 := ⟨x.two.below hb, x.la, fun j hj => keepC hb (x.ls j hj)⟩
theorem CI.ca3 {w : World} {c : Ce} {x y z : Nat} (h : CI w c x y z) : Ca3 w c (cwN c x y z) x 0 y 0 z 0 := ⟨h.cat, rfl, fun j hj => h.l.cell j hj⟩
theorem rowL_get (N : Nat) (f : Nat → Int) (j : Nat) (h : j < (rowL N f).length) : (rowL N f)[j] = f j := by simp [rowL]
theorem roots_row {w : World} {b o N : Nat} {f : Nat → Int} (h : ∀ j, j < N → w.cell? ⟨b, o + j, none⟩ = some (.int .i64 (f j))) : Roots w (some ⟨b, o, none⟩) (rowL N f) := fun _ => ⟨b, o, rfl, fun j hj => by rw [rowL_get]; exact h j (by rw [rowL_len] at hj; exact hj)⟩
/-- No word of the cell is beyond int. -/
def CeB (c : Ce) : Prop := (∀ x ∈ rowL c.R c.r, x ≤ 9223372036854775807) ∧ ∀ x ∈ rowL c.B c.b, x ≤ 9223372036854775807
theorem clone_ints (b o N cap : Nat) (f : Nat → Int) (w : World) (h : ∀ j, j < N → w.cell? ⟨b, o + j, none⟩ = some (.int .i64 (f j))) (hN : N ≤ 1048576) :
    Calls Try.prog 32 #[.slice (some ⟨b, o, none⟩) N cap] w fun e w' => ∃ v, e = .returned v ∧ OwI w' w.heap.size v (rowL N f) ∧ Below w.heap.size w w' := by
  refine (Try.slices_Clone_int b o N cap (rowL N f) w (by rw [rowL_len]; exact Nat.le_refl _) (by omega) (fun j hj => ?_)).mono ?_
  · have hj' : j < N := by rw [rowL_len] at hj; exact hj
    have e : (rowL N f).getD j 0 = f j := by
      rw [List.getD, List.getElem?_eq_getElem hj, rowL_get]; rfl
    rw [e]; exact h j hj'
  · rintro e w' ⟨v, rfl, ho, _, hb⟩
    refine ⟨v, rfl, ?_, hb⟩
    unfold OwI
    rw [rowL_len]
    rw [List.take_of_length_le (by rw [rowL_len]; exact Nat.le_refl _)] at ho
    exact ho
theorem nth_row (N : Nat) (f : Nat → Int) (j : Nat) (h : j < N) : nth (rowL N f) j = f j := by
  unfold nth
  rw [List.getD, List.getElem?_eq_getElem (by rw [rowL_len]; exact h), rowL_get]; rfl
theorem Ls.congr {w : World} {lo hi : Nat} {ao : Option Addr} {n : Nat} {f g : Nat → Int} (h : Ls w lo hi ao n f) (he : ∀ j, j < n → f j = g j) : Ls w lo hi ao n g := fun hn => by
  obtain ⟨x, h1, h2, h3, h4⟩ := h hn
  exact ⟨x, h1, h2, h3, h4.congr he⟩

set_option maxHeartbeats 4000000 in
set_option maxRecDepth 100000 in
theorem implActorOf_any (G : GE) (c : Ce) (h : Cw) (b1 o1 b2 o2 b3 o3 : Nat) (w : World) (hg : GSrc G w) (hc : Ca3 w c h b1 o1 b2 o2 b3 o3) (hs : CeS c) (hb : CeB c) :
    Calls Try.prog 19 #[ceV c h, .agg #[.slice G.wv G.N G.cap, .slice G.yv G.M G.ycap, .int .i64 G.mark], .slice G.av G.A.length G.acap] w fun e w' => ∃ h', e = .returned (.tuple #[acV (actOf G.H c) h', .bool (okA G.H c)]) ∧ AcO w' w.heap.size w'.heap.size (actOf G.H c) h' ∧ Below w.heap.size w w' := by
  obtain ⟨pid, pc, R, r, B, b, N, f, ha⟩ := c
  obtain ⟨ra, rc, ba, bc, la, lc⟩ := h
  have e1 := hc.two.ra
  have e2 := hc.two.ba
  have e3 := hc.la
  dsimp only at e1 e2 e3
  subst e1 e2 e3
  have HS : Hid (R ≤ 1048576 ∧ B ≤ 1048576 ∧ N ≤ 1048576) := by unfold CeS at hs; dsimp only at hs; exact ⟨by omega, by omega, by omega⟩
  have HT1 : Hid (∀ w', Below w.heap.size w w' → Calls Try.prog 31 #[.agg #[.slice G.wv G.N G.cap, .slice G.yv G.M G.ycap, .int .i64 G.mark], .slice G.av G.A.length G.acap, .slice (some ⟨b1, o1, none⟩) R rc] w' (TermsO G (rowL R r) w')) := fun w' hb' => by
    have := termsOf_any G (rowL R r) (some ⟨b1, o1, none⟩) rc w' (hg.below hb') (roots_row (hc.below hb').two.rs) (by rw [rowL_len]; exact HS.out.1) hb.1
    rw [rowL_len] at this
    exact this
  have HT2 : Hid (∀ w', Below w.heap.size w w' → Calls Try.prog 31 #[.agg #[.slice G.wv G.N G.cap, .slice G.yv G.M G.ycap, .int .i64 G.mark], .slice G.av G.A.length G.acap, .slice (some ⟨b2, o2, none⟩) B bc] w' (TermsO G (rowL B b) w')) := fun w' hb' => by
    have := termsOf_any G (rowL B b) (some ⟨b2, o2, none⟩) bc w' (hg.below hb') (roots_row (hc.below hb').two.bs) (by rw [rowL_len]; exact HS.out.2.1) hb.2
    rw [rowL_len] at this
    exact this
  have HCL : Hid (∀ w', Below w.heap.size w w' → Calls Try.prog 32 #[.slice (some ⟨b3, o3, none⟩) N lc] w' fun e w5 => ∃ ao cap, e = .returned (.slice ao N cap) ∧ N ≤ cap ∧ cap ≤ maxLen ∧ Ls w5 w'.heap.size w5.heap.size ao N f ∧ Below w'.heap.size w' w5) := fun w' hb' => by
    refine (clone_ints b3 o3 N lc f w' (hc.below hb').ls HS.out.2.2).mono ?_
    rintro e w5 ⟨v, rfl, ho, hb5⟩
    have ho2 := ho.2
    obtain ⟨ao, cap, rfl, hl⟩ := ho.form
    rw [rowL_len] at hl
    rw [rowL_len] at ho2
    refine ⟨ao, cap, by rw [rowL_len], ?_, ?_, Ls.congr hl (fun j hj => nth_row N f j hj), hb5⟩
    · rcases ho2 with ⟨h0, h1⟩ | ⟨g, cp, cur, h0, _, _, h1, h2, _⟩
      · rw [h1]; exact Nat.zero_le _
      · injection h0 with _ _ h3; rw [h3]; exact h1
    · rcases ho2 with ⟨h0, h1⟩ | ⟨g, cp, cur, h0, _, _, h1, h2, _⟩
      · injection h0 with _ _ h3; rw [h3]; exact Nat.zero_le _
      · injection h0 with _ _ h3; rw [h3]; exact h2
  clear hg hc hs hb
  go_enter Try.func19, Try.ntmps19
  go_wp2_with (go_at_call 31; fail)
  have H0 : Tc3 w _ #[.int .i64 pid, .int .i64 pc, .slice (some ⟨b1, o1, none⟩) R rc, .slice (some ⟨b2, o2, none⟩) B bc, .slice (some ⟨b3, o3, none⟩) N lc, .int .i64 ha] #[.slice G.wv G.N G.cap, .slice G.yv G.M G.ycap, .int .i64 G.mark] #[.int .i64 0, .int .i64 0, .slice none 0 0, .slice none 0 0, .slice none 0 0] := Tc3.new w _ _ _ 27 44 41
  obtain ⟨W0, hW0⟩ : ∃ W0, W0 = ((w.alloc (.cells #[.int .i64 pid, .int .i64 pc, .slice (some ⟨b1, o1, none⟩) R rc, .slice (some ⟨b2, o2, none⟩) B bc, .slice (some ⟨b3, o3, none⟩) N lc, .int .i64 ha] 27)).alloc (.cells #[.slice G.wv G.N G.cap, .slice G.yv G.M G.ycap, .int .i64 G.mark] 44)).alloc (.cells #[.int .i64 0, .int .i64 0, .slice none 0 0, .slice none 0 0, .slice none 0 0] 41) := ⟨_, rfl⟩
  rw [← hW0] at H0 ⊢
  clear hW0
  have HT0 : Hid (Tc3 w W0 #[.int .i64 pid, .int .i64 pc, .slice (some ⟨b1, o1, none⟩) R rc, .slice (some ⟨b2, o2, none⟩) B bc, .slice (some ⟨b3, o3, none⟩) N lc, .int .i64 ha] #[.slice G.wv G.N G.cap, .slice G.yv G.M G.ycap, .int .i64 G.mark] #[.int .i64 0, .int .i64 0, .slice none 0 0, .slice none 0 0, .slice none 0 0]) := H0
  clear H0
  refine (HT1.out W0 HT0.out.be).mono ?_
  rintro e w1 ⟨hbe1, hc1⟩
  have HX1 : Hid (Tc3 w w1 #[.int .i64 pid, .int .i64 pc, .slice (some ⟨b1, o1, none⟩) R rc, .slice (some ⟨b2, o2, none⟩) B bc, .slice (some ⟨b3, o3, none⟩) N lc, .int .i64 ha] #[.slice G.wv G.N G.cap, .slice G.yv G.M G.ycap, .int .i64 G.mark] #[.int .i64 0, .int .i64 0, .slice none 0 0, .slice none 0 0, .slice none 0 0]) := HT0.out.call hbe1
  have HZ1 : Hid (w.heap.size + 3 ≤ W0.heap.size ∧ W0.heap.size ≤ w1.heap.size) := ⟨HT0.out.sz, hbe1.size⟩
  clear hbe1
  obtain ⟨v1, g1, k1, rfl, hd1⟩ : ∃ v1 g1 k1, e = .returned (.tuple #[.slice v1 g1 k1, .bool (allB G.H (rowL R r))]) ∧ (allB G.H (rowL R r) = true → g1 = R ∧ k1 = R ∧ OwL w1 (tms G.H (rowL R r)) W0.heap.size w1.heap.size v1) := by
    rcases hc1 with ⟨h1, g, rfl, _, h4⟩ | ⟨h1, rfl⟩
    · exact ⟨some ⟨g, 0, none⟩, R, R, by rw [h1, rowL_len], fun _ => ⟨rfl, rfl, h4⟩⟩
    · exact ⟨none, 0, 0, by rw [h1], fun h => by rw [h1] at h; cases h⟩
  have HO1 : Hid (allB G.H (rowL R r) = true → g1 = R ∧ k1 = R ∧ OwL w1 (tms G.H (rowL R r)) W0.heap.size w1.heap.size v1) := hd1
  have q1 := HX1.out.q1
  have q2 := HX1.out.q2
  clear hd1 hc1
  go_wp2_with (go_at_call 31; fail)
  clear q1 q2
  refine (HT2.out w1 HX1.out.be).mono ?_
  rintro e w2 ⟨hbe2, hc2⟩
  have HX2 : Hid (Tc3 w w2 #[.int .i64 pid, .int .i64 pc, .slice (some ⟨b1, o1, none⟩) R rc, .slice (some ⟨b2, o2, none⟩) B bc, .slice (some ⟨b3, o3, none⟩) N lc, .int .i64 ha] #[.slice G.wv G.N G.cap, .slice G.yv G.M G.ycap, .int .i64 G.mark] #[.int .i64 0, .int .i64 0, .slice none 0 0, .slice none 0 0, .slice none 0 0]) := HX1.out.call hbe2
  have HZ2 : Hid (w1.heap.size ≤ w2.heap.size) := hbe2.size
  have HO2 : Hid (allB G.H (rowL R r) = true → g1 = R ∧ k1 = R ∧ OwL w2 (tms G.H (rowL R r)) W0.heap.size w1.heap.size v1) := fun h => ⟨(HO1.out h).1, (HO1.out h).2.1, OwL.keep _ _ _ _ (fun x _ _ hx => hbe2.block x hx) (HO1.out h).2.2⟩
  clear hbe2 HO1 HX1
  obtain ⟨v2, g2, k2, rfl, hd2⟩ : ∃ v2 g2 k2, e = .returned (.tuple #[.slice v2 g2 k2, .bool (allB G.H (rowL B b))]) ∧ (allB G.H (rowL B b) = true → g2 = B ∧ k2 = B ∧ OwL w2 (tms G.H (rowL B b)) w1.heap.size w2.heap.size v2) := by
    rcases hc2 with ⟨h1, g, rfl, _, h4⟩ | ⟨h1, rfl⟩
    · exact ⟨some ⟨g, 0, none⟩, B, B, by rw [h1, rowL_len], fun _ => ⟨rfl, rfl, h4⟩⟩
    · exact ⟨none, 0, 0, by rw [h1], fun h => by rw [h1] at h; cases h⟩
  have HO3 : Hid (allB G.H (rowL B b) = true → g2 = B ∧ k2 = B ∧ OwL w2 (tms G.H (rowL B b)) w1.heap.size w2.heap.size v2) := hd2
  clear hd2 hc2
  have q1 := HX2.out.q1
  have q3 := HX2.out.q3
  have f3 := HX2.out.f3
  have hno : ∀ W : World, Below w.heap.size w W → okA G.H ⟨pid, pc, R, r, B, b, N, f, ha⟩ = false → ∃ h', Ending.returned (.tuple #[.agg #[.int .i64 0, .int .i64 0, .slice none 0 0, .slice none 0 0, .slice none 0 0], .bool false]) = Ending.returned (.tuple #[acV (actOf G.H ⟨pid, pc, R, r, B, b, N, f, ha⟩) h', .bool (okA G.H ⟨pid, pc, R, r, B, b, N, f, ha⟩)]) ∧ AcO W w.heap.size W.heap.size (actOf G.H ⟨pid, pc, R, r, B, b, N, f, ha⟩) h' ∧ Below w.heap.size w W := fun W hbW hk => by
    rw [actOf_no hk, hk]
    exact ⟨⟨none, 0, none, 0, none, 0⟩, rfl, AcO.zero W _ _ hbW.size, hbW⟩
  have HNO : Hid (∀ W : World, Below w.heap.size w W → okA G.H ⟨pid, pc, R, r, B, b, N, f, ha⟩ = false → ∃ h', Ending.returned (.tuple #[.agg #[.int .i64 0, .int .i64 0, .slice none 0 0, .slice none 0 0, .slice none 0 0], .bool false]) = Ending.returned (.tuple #[acV (actOf G.H ⟨pid, pc, R, r, B, b, N, f, ha⟩) h', .bool (okA G.H ⟨pid, pc, R, r, B, b, N, f, ha⟩)]) ∧ AcO W w.heap.size W.heap.size (actOf G.H ⟨pid, pc, R, r, B, b, N, f, ha⟩) h' ∧ Below w.heap.size w W) := hno
  clear hno
  have hbb : w.heap.size ≤ w.heap.size + 1 + 1 := by omega
  cases h1 : allB G.H (rowL R r) with
  | false =>
    have HK : Hid (okA G.H ⟨pid, pc, R, r, B, b, N, f, ha⟩ = false) := okA_no1 h1
    clear h1
    go_wp2_with fail
    refine bodyPost_ret (v := .tuple #[.agg #[.int .i64 0, .int .i64 0, .slice none 0 0, .slice none 0 0, .slice none 0 0], .bool false]) (by simp [results, Try.results19, go_sem, q3]) rfl (HNO.out _ ?_ HK.out)
    iterate 5 (refine Below.setCell ?_ hbb _)
    exact HX2.out.be
  | true =>
    cases h2 : allB G.H (rowL B b) with
    | false =>
      have HK : Hid (okA G.H ⟨pid, pc, R, r, B, b, N, f, ha⟩ = false) := okA_no2 h2
      clear h1 h2
      go_wp2_with fail
      refine bodyPost_ret (v := .tuple #[.agg #[.int .i64 0, .int .i64 0, .slice none 0 0, .slice none 0 0, .slice none 0 0], .bool false]) (by simp [results, Try.results19, go_sem, q3]) rfl (HNO.out _ ?_ HK.out)
      iterate 5 (refine Below.setCell ?_ hbb _)
      exact HX2.out.be
    | true =>
      obtain ⟨rfl, rfl, ow1⟩ := HO2.out h1
      obtain ⟨rfl, rfl, ow2⟩ := HO3.out h2
      have HW1 : Hid (OwL w2 (tms G.H (rowL k1 r)) W0.heap.size w1.heap.size v1 ∧ OwL w2 (tms G.H (rowL k2 b)) w1.heap.size w2.heap.size v2) := ⟨ow1, ow2⟩
      have HA : Hid (actOf G.H ⟨pid, pc, k1, r, k2, b, N, f, ha⟩ = ⟨pid, pc, tms G.H (rowL k1 r), tms G.H (rowL k2 b), N, f⟩ ∧ okA G.H ⟨pid, pc, k1, r, k2, b, N, f, ha⟩ = true) := ⟨actOf_yes h1 h2, okA_yes h1 h2⟩
      clear ow1 ow2 h1 h2 HO2 HO3 HNO
      have HRET : Hid (∀ ao cap, Ending.returned (.tuple #[.agg #[.int .i64 pid, .int .i64 pc, .slice v1 k1 k1, .slice v2 k2 k2, .slice ao N cap], .bool true]) = Ending.returned (.tuple #[acV (actOf G.H ⟨pid, pc, k1, r, k2, b, N, f, ha⟩) ⟨v1, k1, v2, k2, ao, cap⟩, .bool (okA G.H ⟨pid, pc, k1, r, k2, b, N, f, ha⟩)])) := fun ao cap => by
        rw [HA.out.1, HA.out.2]
        show _ = Ending.returned (.tuple #[.agg #[.int .i64 pid, .int .i64 pc, .slice v1 (tms G.H (rowL k1 r)).length k1, .slice v2 (tms G.H (rowL k2 b)).length k2, .slice ao N cap], .bool true])
        rw [tms_len, rowL_len, tms_len, rowL_len]
      have HXD : Hid (Below w.heap.size w w2.drew) := HX2.out.be.drew
      have HXC : Hid (∀ w5, Below w2.drew.heap.size w2.drew w5 → Tc3 w w5 #[.int .i64 pid, .int .i64 pc, .slice (some ⟨b1, o1, none⟩) k1 rc, .slice (some ⟨b2, o2, none⟩) k2 bc, .slice (some ⟨b3, o3, none⟩) N lc, .int .i64 ha] #[.slice G.wv G.N G.cap, .slice G.yv G.M G.ycap, .int .i64 G.mark] #[.int .i64 0, .int .i64 0, .slice none 0 0, .slice none 0 0, .slice none 0 0]) := fun w5 hb5 => (HX2.out.call (Below.refl _ _).drew).call hb5
      have HFIN : Hid (∀ w5 ao cap, N ≤ cap → cap ≤ maxLen → Ls w5 w2.drew.heap.size w5.heap.size ao N f → Below w2.drew.heap.size w2.drew w5 → AcO (((((w5.setCell ⟨w.heap.size + 1 + 1, 0, none⟩ (.int .i64 pid)).setCell ⟨w.heap.size + 1 + 1, 1, none⟩ (.int .i64 pc)).setCell ⟨w.heap.size + 1 + 1, 2, none⟩ (.slice v1 k1 k1)).setCell ⟨w.heap.size + 1 + 1, 3, none⟩ (.slice v2 k2 k2)).setCell ⟨w.heap.size + 1 + 1, 4, none⟩ (.slice ao N cap)) w.heap.size (((((w5.setCell ⟨w.heap.size + 1 + 1, 0, none⟩ (.int .i64 pid)).setCell ⟨w.heap.size + 1 + 1, 1, none⟩ (.int .i64 pc)).setCell ⟨w.heap.size + 1 + 1, 2, none⟩ (.slice v1 k1 k1)).setCell ⟨w.heap.size + 1 + 1, 3, none⟩ (.slice v2 k2 k2)).setCell ⟨w.heap.size + 1 + 1, 4, none⟩ (.slice ao N cap)).heap.size (actOf G.H ⟨pid, pc, k1, r, k2, b, N, f, ha⟩) ⟨v1, k1, v2, k2, ao, cap⟩ ∧ Below w.heap.size w (((((w5.setCell ⟨w.heap.size + 1 + 1, 0, none⟩ (.int .i64 pid)).setCell ⟨w.heap.size + 1 + 1, 1, none⟩ (.int .i64 pc)).setCell ⟨w.heap.size + 1 + 1, 2, none⟩ (.slice v1 k1 k1)).setCell ⟨w.heap.size + 1 + 1, 3, none⟩ (.slice v2 k2 k2)).setCell ⟨w.heap.size + 1 + 1, 4, none⟩ (.slice ao N cap))) := fun w5 ao cap hn hm hl hb5 => by
        have hz1 := HZ1.out
        have hz2 := HZ2.out
        have hz5 : w2.heap.size ≤ w5.heap.size := hb5.size
        have hblk : ∀ x, x ≠ w.heap.size + 1 + 1 → (((((w5.setCell ⟨w.heap.size + 1 + 1, 0, none⟩ (.int .i64 pid)).setCell ⟨w.heap.size + 1 + 1, 1, none⟩ (.int .i64 pc)).setCell ⟨w.heap.size + 1 + 1, 2, none⟩ (.slice v1 k1 k1)).setCell ⟨w.heap.size + 1 + 1, 3, none⟩ (.slice v2 k2 k2)).setCell ⟨w.heap.size + 1 + 1, 4, none⟩ (.slice ao N cap)).heap[x]? = w5.heap[x]? := fun x hx => by
          rw [Below.heap_setCell _ ⟨w.heap.size + 1 + 1, 4, none⟩ _ x hx, Below.heap_setCell _ ⟨w.heap.size + 1 + 1, 3, none⟩ _ x hx, Below.heap_setCell _ ⟨w.heap.size + 1 + 1, 2, none⟩ _ x hx, Below.heap_setCell _ ⟨w.heap.size + 1 + 1, 1, none⟩ _ x hx, Below.heap_setCell _ ⟨w.heap.size + 1 + 1, 0, none⟩ _ x hx]
        have hsz : (((((w5.setCell ⟨w.heap.size + 1 + 1, 0, none⟩ (.int .i64 pid)).setCell ⟨w.heap.size + 1 + 1, 1, none⟩ (.int .i64 pc)).setCell ⟨w.heap.size + 1 + 1, 2, none⟩ (.slice v1 k1 k1)).setCell ⟨w.heap.size + 1 + 1, 3, none⟩ (.slice v2 k2 k2)).setCell ⟨w.heap.size + 1 + 1, 4, none⟩ (.slice ao N cap)).heap.size = w5.heap.size := by simp only [World.size_setCell]
        refine ⟨?_, ?_⟩
        · rw [HA.out.1, hsz]
          refine ⟨⟨w1.heap.size, w2.heap.size, by omega, hz2, hz5, ?_, ?_, ?_⟩, ?_, ?_, ?_, ?_, hn, hm⟩
          · exact (OwL.keep (w := w2) _ _ _ _ (fun x h1 h2 h3 => (hblk x (by omega)).trans (show w5.heap[x]? = w2.heap[x]? from hb5.block x h3)) HW1.out.1).mono (by omega) (Nat.le_refl _)
          · exact OwL.keep (w := w2) _ _ _ _ (fun x h1 h2 h3 => (hblk x (by omega)).trans (show w5.heap[x]? = w2.heap[x]? from hb5.block x h3)) HW1.out.2
          · exact hl.keep fun x h1 h2 => hblk x (by have h1' : w2.heap.size ≤ x := h1; omega)
          · show (tms G.H (rowL k1 r)).length ≤ k1
            rw [tms_len, rowL_len]; exact Nat.le_refl _
          · show k1 ≤ maxLen
            have := HS.out.1; unfold maxLen; omega
          · show (tms G.H (rowL k2 b)).length ≤ k2
            rw [tms_len, rowL_len]; exact Nat.le_refl _
          · show k2 ≤ maxLen
            have := HS.out.2.1; unfold maxLen; omega
        · have hb := HXD.out.trans (hb5.mono HXD.out.size)
          iterate 5 (refine Below.setCell ?_ hbb _)
          exact hb
      go_wp2_with fail
      go_region_law (first
        | (go_simp; go_wp2_with (go_at_call 32; refine (HCL.out w2.drew HXD.out).mono ?_; rintro e w5 ⟨ao, cap, rfl, hn5, hm5, hl5, hb5⟩; have q15 := (HXC.out w5 hb5).q1; have q35 := (HXC.out w5 hb5).q3; have f35 := (HXC.out w5 hb5).f3)))
      all_goals
        have HF := HFIN.out w5 ao cap hn5 hm5 hl5 hb5
        have HF' : Hid _ := HF
        clear hn5 hm5 hl5 hb5 HF
        go_wp2_with fail
        exact bodyPost_ret (v := .tuple #[.agg #[.int .i64 pid, .int .i64 pc, .slice v1 k1 k1, .slice v2 k2 k2, .slice ao N cap], .bool true]) (by simp [results, Try.results19, go_sem, q35]) rfl ⟨⟨v1, k1, v2, k2, ao, cap⟩, HRET.out ao cap, HF'.out.1, HF'.out.2⟩
end Go.Proofs.Ytjjmikfbongccaa.Gn
namespace Go.Proofs.Ytjjmikfbongccaa.Gn
open Go.RowKit
set_option linter.unusedVariables false

/-- An actor all of whose blocks are B or beyond. -/
structure AcP (w : World) (B : Nat) (a : Ac) (h : Wh) : Prop where
  rg : RpL (fun b => B ≤ b) w a.regs h.ra
  bx : RpL (fun b => B ≤ b) w a.box h.ba
  lk : Ls w B w.heap.size h.la a.N a.f
  r1 : a.regs.length ≤ h.rc
  r2 : h.rc ≤ maxLen
  b1 : a.box.length ≤ h.bc
  b2 : h.bc ≤ maxLen
  l1 : a.N ≤ h.lc
  l2 : h.lc ≤ maxLen
theorem AcP.rd {w : World} {B : Nat} {a : Ac} {h : Wh} (x : AcP w B a h) : AcR w a h := ⟨RpL.rep _ _ x.rg, RpL.rep _ _ x.bx, x.lk.rd, x.r1, x.r2, x.b1, x.b2, x.l1, x.l2⟩
theorem AcP.zero (w : World) (B : Nat) : AcP w B ⟨0, 0, [], [], 0, fun _ => 0⟩ ⟨none, 0, none, 0, none, 0⟩ :=
  ⟨by rw [RpL]; trivial, by rw [RpL]; trivial, fun h => absurd rfl h, Nat.le_refl _, Nat.zero_le _, Nat.le_refl _, Nat.zero_le _, Nat.le_refl _, Nat.zero_le _⟩
theorem AcP.set {w : World} {B : Nat} {a : Ac} {h : Wh} (x : AcP w B a h) {k : Nat} (hk : k < B) (o : Nat) (v : Value) : AcP (w.setCell ⟨k, o, none⟩ v) B a h := by
  have hb : ∀ y, B ≤ y → (w.setCell ⟨k, o, none⟩ v).heap[y]? = w.heap[y]? := fun y hy => Below.heap_setCell w ⟨k, o, none⟩ v y (by show y ≠ k; omega)
  have mv : Moves (fun b => B ≤ b) (fun b => B ≤ b) w (w.setCell ⟨k, o, none⟩ v) := fun y o' v' hy hc => ⟨hy, by rw [World.cell?_of_block (w := w) (hb y hy)]; exact hc⟩
  exact ⟨mv.repL _ _ x.rg, mv.repL _ _ x.bx, by rw [World.size_setCell]; exact x.lk.keep fun y hy _ => hb y hy, x.r1, x.r2, x.b1, x.b2, x.l1, x.l2⟩
set_option maxHeartbeats 4000000 in
set_option maxRecDepth 100000 in
theorem specActorOf_any (G : GE) (c : Ce) (h : Cw) (b1 o1 b2 o2 b3 o3 : Nat) (w : World) (hg : GSrc G w) (hc : Ca3 w c h b1 o1 b2 o2 b3 o3) (hs : CeS c) (hb : CeB c) :
    Calls Try.prog 16 #[ceV c h, .agg #[.slice G.wv G.N G.cap, .slice G.yv G.M G.ycap, .int .i64 G.mark], .slice G.av G.A.length G.acap] w fun e w' => ∃ h', e = .returned (.tuple #[acV (actOf G.H c) h', .bool (okA G.H c)]) ∧ AcP w' w.heap.size (actOf G.H c) h' ∧ Below w.heap.size w w' := by
  obtain ⟨pid, pc, R, r, B, b, N, f, ha⟩ := c
  obtain ⟨ra, rc, ba, bc, la, lc⟩ := h
  have e1 := hc.two.ra
  have e2 := hc.two.ba
  have e3 := hc.la
  dsimp only at e1 e2 e3
  subst e1 e2 e3
  have HS : Hid (R ≤ 1048576 ∧ B ≤ 1048576 ∧ N ≤ 1048576) := by unfold CeS at hs; dsimp only at hs; exact ⟨by omega, by omega, by omega⟩
  have HT1 : Hid (∀ w', Below w.heap.size w w' → Calls Try.prog 30 #[.slice (some ⟨b1, o1, none⟩) R rc, .agg #[.slice G.wv G.N G.cap, .slice G.yv G.M G.ycap, .int .i64 G.mark], .slice G.av G.A.length G.acap] w' (TermsP G (rowL R r) w')) := fun w' hb' => by
    have := l10Terms_any G (rowL R r) (some ⟨b1, o1, none⟩) rc w' (hg.below hb') (roots_row (hc.below hb').two.rs) (by rw [rowL_len]; exact HS.out.1) hb.1
    rw [rowL_len] at this
    exact this
  have HT2 : Hid (∀ w', Below w.heap.size w w' → Calls Try.prog 30 #[.slice (some ⟨b2, o2, none⟩) B bc, .agg #[.slice G.wv G.N G.cap, .slice G.yv G.M G.ycap, .int .i64 G.mark], .slice G.av G.A.length G.acap] w' (TermsP G (rowL B b) w')) := fun w' hb' => by
    have := l10Terms_any G (rowL B b) (some ⟨b2, o2, none⟩) bc w' (hg.below hb') (roots_row (hc.below hb').two.bs) (by rw [rowL_len]; exact HS.out.2.1) hb.2
    rw [rowL_len] at this
    exact this
  have HLS : Hid (∀ w', Below w.heap.size w w' → ∀ j u, ((rowL N f).map (Value.int .i64))[j]? = some u → w'.cell? ((⟨b3, o3, none⟩ : Addr).add j) = some u) := fun w' hb' => rowL_cells (hc.below hb').ls
  obtain ⟨i0, hi, hz0, hz1, hz2⟩ := infoPartsC infoInt
  have HI : Hid (Try.prog.info? 3 = some i0 ∧ i0.zero = some (.int .i64 0) ∧ i0.size = 1 ∧ i0.bytes = 8) := ⟨hi, hz0, hz1, hz2⟩
  clear hi hz0 hz1 hz2
  clear hg hc hs hb
  go_enter Try.func16, Try.ntmps16
  go_wp2_with (go_at_call 30; fail)
  have H0 : Tc3 w _ #[.int .i64 pid, .int .i64 pc, .slice (some ⟨b1, o1, none⟩) R rc, .slice (some ⟨b2, o2, none⟩) B bc, .slice (some ⟨b3, o3, none⟩) N lc, .int .i64 ha] #[.slice G.wv G.N G.cap, .slice G.yv G.M G.ycap, .int .i64 G.mark] #[.int .i64 0, .int .i64 0, .slice none 0 0, .slice none 0 0, .slice none 0 0] := Tc3.new w _ _ _ 27 44 41
  obtain ⟨W0, hW0⟩ : ∃ W0, W0 = ((w.alloc (.cells #[.int .i64 pid, .int .i64 pc, .slice (some ⟨b1, o1, none⟩) R rc, .slice (some ⟨b2, o2, none⟩) B bc, .slice (some ⟨b3, o3, none⟩) N lc, .int .i64 ha] 27)).alloc (.cells #[.slice G.wv G.N G.cap, .slice G.yv G.M G.ycap, .int .i64 G.mark] 44)).alloc (.cells #[.int .i64 0, .int .i64 0, .slice none 0 0, .slice none 0 0, .slice none 0 0] 41) := ⟨_, rfl⟩
  rw [← hW0] at H0 ⊢
  clear hW0
  have HT0 : Hid (Tc3 w W0 #[.int .i64 pid, .int .i64 pc, .slice (some ⟨b1, o1, none⟩) R rc, .slice (some ⟨b2, o2, none⟩) B bc, .slice (some ⟨b3, o3, none⟩) N lc, .int .i64 ha] #[.slice G.wv G.N G.cap, .slice G.yv G.M G.ycap, .int .i64 G.mark] #[.int .i64 0, .int .i64 0, .slice none 0 0, .slice none 0 0, .slice none 0 0]) := H0
  clear H0
  refine (HT1.out W0 HT0.out.be).mono ?_
  rintro e w1 ⟨hbe1, hc1⟩
  have HX1 : Hid (Tc3 w w1 #[.int .i64 pid, .int .i64 pc, .slice (some ⟨b1, o1, none⟩) R rc, .slice (some ⟨b2, o2, none⟩) B bc, .slice (some ⟨b3, o3, none⟩) N lc, .int .i64 ha] #[.slice G.wv G.N G.cap, .slice G.yv G.M G.ycap, .int .i64 G.mark] #[.int .i64 0, .int .i64 0, .slice none 0 0, .slice none 0 0, .slice none 0 0]) := HT0.out.call hbe1
  have HZ1 : Hid (w.heap.size + 3 ≤ W0.heap.size ∧ W0.heap.size ≤ w1.heap.size) := ⟨HT0.out.sz, hbe1.size⟩
  clear hbe1
  obtain ⟨v1, g1, k1, rfl, hd1⟩ : ∃ v1 g1 k1, e = .returned (.tuple #[.slice v1 g1 k1, .bool (allB G.H (rowL R r))]) ∧ (allB G.H (rowL R r) = true → g1 = R ∧ (R ≤ k1 ∧ k1 ≤ maxLen) ∧ RpL (fun b => w.heap.size + 3 ≤ b) w1 (tms G.H (rowL R r)) v1) := by
    rcases hc1 with ⟨h1, ao, cap, rfl, h2, h3, h4⟩ | ⟨h1, ao, n, cap, rfl⟩
    · rw [rowL_len] at h2
      exact ⟨ao, R, cap, by rw [h1, rowL_len], fun _ => ⟨rfl, ⟨h2, h3⟩, (Moves.sub fun x hx => by have := HZ1.out; have hx' : W0.heap.size ≤ x := hx; show w.heap.size + 3 ≤ x; omega).repL _ _ h4⟩⟩
    · exact ⟨ao, n, cap, by rw [h1], fun h => by rw [h1] at h; cases h⟩
  have HO1 : Hid (allB G.H (rowL R r) = true → g1 = R ∧ (R ≤ k1 ∧ k1 ≤ maxLen) ∧ RpL (fun b => w.heap.size + 3 ≤ b) w1 (tms G.H (rowL R r)) v1) := hd1
  have q1 := HX1.out.q1
  have q2 := HX1.out.q2
  clear hd1 hc1
  go_wp2_with (go_at_call 30; fail)
  clear q1 q2
  refine (HT2.out w1 HX1.out.be).mono ?_
  rintro e w2 ⟨hbe2, hc2⟩
  have HX2 : Hid (Tc3 w w2 #[.int .i64 pid, .int .i64 pc, .slice (some ⟨b1, o1, none⟩) R rc, .slice (some ⟨b2, o2, none⟩) B bc, .slice (some ⟨b3, o3, none⟩) N lc, .int .i64 ha] #[.slice G.wv G.N G.cap, .slice G.yv G.M G.ycap, .int .i64 G.mark] #[.int .i64 0, .int .i64 0, .slice none 0 0, .slice none 0 0, .slice none 0 0]) := HX1.out.call hbe2
  have HZ2 : Hid (w1.heap.size ≤ w2.heap.size) := hbe2.size
  have HO2 : Hid (allB G.H (rowL R r) = true → g1 = R ∧ (R ≤ k1 ∧ k1 ≤ maxLen) ∧ RpL (fun b => w.heap.size + 3 ≤ b) w2 (tms G.H (rowL R r)) v1) := fun h => ⟨(HO1.out h).1, (HO1.out h).2.1, (Moves.below hbe2).repL _ _ (HO1.out h).2.2⟩
  clear hbe2 HO1 HX1
  obtain ⟨v2, g2, k2, rfl, hd2⟩ : ∃ v2 g2 k2, e = .returned (.tuple #[.slice v2 g2 k2, .bool (allB G.H (rowL B b))]) ∧ (allB G.H (rowL B b) = true → g2 = B ∧ (B ≤ k2 ∧ k2 ≤ maxLen) ∧ RpL (fun b => w.heap.size + 3 ≤ b) w2 (tms G.H (rowL B b)) v2) := by
    rcases hc2 with ⟨h1, ao, cap, rfl, h2, h3, h4⟩ | ⟨h1, ao, n, cap, rfl⟩
    · rw [rowL_len] at h2
      exact ⟨ao, B, cap, by rw [h1, rowL_len], fun _ => ⟨rfl, ⟨h2, h3⟩, (Moves.sub fun x hx => by have := HZ1.out; have hx' : w1.heap.size ≤ x := hx; have := HZ1.out; show w.heap.size + 3 ≤ x; omega).repL _ _ h4⟩⟩
    · exact ⟨ao, n, cap, by rw [h1], fun h => by rw [h1] at h; cases h⟩
  have HO3 : Hid (allB G.H (rowL B b) = true → g2 = B ∧ (B ≤ k2 ∧ k2 ≤ maxLen) ∧ RpL (fun b => w.heap.size + 3 ≤ b) w2 (tms G.H (rowL B b)) v2) := hd2
  clear hd2 hc2
  have q1 := HX2.out.q1
  have q3 := HX2.out.q3
  have f3 := HX2.out.f3
  have hno : ∀ W : World, Below w.heap.size w W → okA G.H ⟨pid, pc, R, r, B, b, N, f, ha⟩ = false → ∃ h', Ending.returned (.tuple #[.agg #[.int .i64 0, .int .i64 0, .slice none 0 0, .slice none 0 0, .slice none 0 0], .bool false]) = Ending.returned (.tuple #[acV (actOf G.H ⟨pid, pc, R, r, B, b, N, f, ha⟩) h', .bool (okA G.H ⟨pid, pc, R, r, B, b, N, f, ha⟩)]) ∧ AcP W w.heap.size (actOf G.H ⟨pid, pc, R, r, B, b, N, f, ha⟩) h' ∧ Below w.heap.size w W := fun W hbW hk => by
    rw [actOf_no hk, hk]
    exact ⟨⟨none, 0, none, 0, none, 0⟩, rfl, AcP.zero W _, hbW⟩
  have HNO : Hid (∀ W : World, Below w.heap.size w W → okA G.H ⟨pid, pc, R, r, B, b, N, f, ha⟩ = false → ∃ h', Ending.returned (.tuple #[.agg #[.int .i64 0, .int .i64 0, .slice none 0 0, .slice none 0 0, .slice none 0 0], .bool false]) = Ending.returned (.tuple #[acV (actOf G.H ⟨pid, pc, R, r, B, b, N, f, ha⟩) h', .bool (okA G.H ⟨pid, pc, R, r, B, b, N, f, ha⟩)]) ∧ AcP W w.heap.size (actOf G.H ⟨pid, pc, R, r, B, b, N, f, ha⟩) h' ∧ Below w.heap.size w W) := hno
  clear hno
  have hbb : w.heap.size ≤ w.heap.size + 1 + 1 := by omega
  cases h1 : allB G.H (rowL R r) with
  | false =>
    have HK : Hid (okA G.H ⟨pid, pc, R, r, B, b, N, f, ha⟩ = false) := okA_no1 h1
    clear h1
    go_wp2_with fail
    refine bodyPost_ret (v := .tuple #[.agg #[.int .i64 0, .int .i64 0, .slice none 0 0, .slice none 0 0, .slice none 0 0], .bool false]) (by simp [results, Try.results16, go_sem, q3]) rfl (HNO.out _ ?_ HK.out)
    iterate 5 (refine Below.setCell ?_ hbb _)
    exact HX2.out.be
  | true =>
    cases h2 : allB G.H (rowL B b) with
    | false =>
      have HK : Hid (okA G.H ⟨pid, pc, R, r, B, b, N, f, ha⟩ = false) := okA_no2 h2
      clear h1 h2
      go_wp2_with fail
      refine bodyPost_ret (v := .tuple #[.agg #[.int .i64 0, .int .i64 0, .slice none 0 0, .slice none 0 0, .slice none 0 0], .bool false]) (by simp [results, Try.results16, go_sem, q3]) rfl (HNO.out _ ?_ HK.out)
      iterate 5 (refine Below.setCell ?_ hbb _)
      exact HX2.out.be
    | true =>
      obtain ⟨rfl, ⟨hk1, hk2⟩, ow1⟩ := HO2.out h1
      obtain ⟨rfl, ⟨hk3, hk4⟩, ow2⟩ := HO3.out h2
      have HW1 : Hid ((RpL (fun b => w.heap.size + 3 ≤ b) w2 (tms G.H (rowL g1 r)) v1 ∧ g1 ≤ k1 ∧ k1 ≤ maxLen) ∧ RpL (fun b => w.heap.size + 3 ≤ b) w2 (tms G.H (rowL g2 b)) v2 ∧ g2 ≤ k2 ∧ k2 ≤ maxLen) := ⟨⟨ow1, hk1, hk2⟩, ow2, hk3, hk4⟩
      have HA : Hid (actOf G.H ⟨pid, pc, g1, r, g2, b, N, f, ha⟩ = ⟨pid, pc, tms G.H (rowL g1 r), tms G.H (rowL g2 b), N, f⟩ ∧ okA G.H ⟨pid, pc, g1, r, g2, b, N, f, ha⟩ = true) := ⟨actOf_yes h1 h2, okA_yes h1 h2⟩
      clear ow1 ow2 h1 h2 HO2 HO3 HNO hk1 hk2 hk3 hk4
      have HRET : Hid (∀ ao cap, Ending.returned (.tuple #[.agg #[.int .i64 pid, .int .i64 pc, .slice v1 g1 k1, .slice v2 g2 k2, .slice ao N cap], .bool true]) = Ending.returned (.tuple #[acV (actOf G.H ⟨pid, pc, g1, r, g2, b, N, f, ha⟩) ⟨v1, k1, v2, k2, ao, cap⟩, .bool (okA G.H ⟨pid, pc, g1, r, g2, b, N, f, ha⟩)])) := fun ao cap => by
        rw [HA.out.1, HA.out.2]
        show _ = Ending.returned (.tuple #[.agg #[.int .i64 pid, .int .i64 pc, .slice v1 (tms G.H (rowL g1 r)).length k1, .slice v2 (tms G.H (rowL g2 b)).length k2, .slice ao N cap], .bool true])
        rw [tms_len, rowL_len, tms_len, rowL_len]
      have HXA : Hid (Tc3 w (w2.alloc (.cells #[] 3)).drew #[.int .i64 pid, .int .i64 pc, .slice (some ⟨b1, o1, none⟩) g1 rc, .slice (some ⟨b2, o2, none⟩) g2 bc, .slice (some ⟨b3, o3, none⟩) N lc, .int .i64 ha] #[.slice G.wv G.N G.cap, .slice G.yv G.M G.ycap, .int .i64 G.mark] #[.int .i64 0, .int .i64 0, .slice none 0 0, .slice none 0 0, .slice none 0 0]) := (HX2.out.call ((Below.refl _ _).alloc (Nat.le_refl _) _)).call (Below.refl _ _).drew
      have q1a : ∀ o, (w2.alloc (.cells #[] 3)).cell? ⟨w.heap.size, o, none⟩ = (#[.int .i64 pid, .int .i64 pc, .slice (some ⟨b1, o1, none⟩) g1 rc, .slice (some ⟨b2, o2, none⟩) g2 bc, .slice (some ⟨b3, o3, none⟩) N lc, .int .i64 ha] : Array Value)[o]? := HXA.out.q1
      have q3a : ∀ o, (w2.alloc (.cells #[] 3)).cell? ⟨w.heap.size + 1 + 1, o, none⟩ = (#[.int .i64 0, .int .i64 0, .slice none 0 0, .slice none 0 0, .slice none 0 0] : Array Value)[o]? := HXA.out.q3
      have f3a : ∀ o, (w2.alloc (.cells #[] 3)).frozen? ⟨w.heap.size + 1 + 1, o, none⟩ = false := HXA.out.f3
      have HW0 : Hid ((w2.alloc (.cells #[] 3)).drew.ownsRow w2.heap.size 3 1 (.slice (some ⟨w2.heap.size, 0, none⟩) 0 0) 0 []) := World.ownsRow_made (e := 3) (size := 1) w2 #[] 0 (Nat.le_refl _) (Nat.zero_le _) rfl
      have HZA : Hid (w2.heap.size ≤ (w2.alloc (.cells #[] 3)).drew.heap.size) := by show _ ≤ (w2.alloc (.cells #[] 3)).heap.size; rw [World.size_alloc]; omega
      have HGB : Hid (∀ w5, (w2.alloc (.cells #[] 3)).drew.grownBy w5 (some w2.heap.size) → Tc3 w w5 #[.int .i64 pid, .int .i64 pc, .slice (some ⟨b1, o1, none⟩) g1 rc, .slice (some ⟨b2, o2, none⟩) g2 bc, .slice (some ⟨b3, o3, none⟩) N lc, .int .i64 ha] #[.slice G.wv G.N G.cap, .slice G.yv G.M G.ycap, .int .i64 G.mark] #[.int .i64 0, .int .i64 0, .slice none 0 0, .slice none 0 0, .slice none 0 0] ∧ RpL (fun b => w.heap.size + 3 ≤ b) w5 (tms G.H (rowL g1 r)) v1 ∧ RpL (fun b => w.heap.size + 3 ≤ b) w5 (tms G.H (rowL g2 b)) v2) := fun w5 hg => by
        have hb5 : Below w2.heap.size w2 w5 := (((Below.refl _ _).alloc (Nat.le_refl _) _).drew).grown hg HZA.out (fun k hk => by injection hk with hk; omega)
        exact ⟨HX2.out.call hb5, (Moves.below hb5).repL _ _ HW1.out.1.1, (Moves.below hb5).repL _ _ HW1.out.2.1⟩
      have HL1 : Hid (((rowL N f).map (Value.int .i64)).length = N * 1) := by show _ = _; rw [List.length_map, rowL_len]; omega
      have C3 : Hid (0 + N ≤ maxLen ∧ (0 + N) * 8 ≤ 140737488355328) := by have := HS.out; unfold maxLen; exact ⟨by omega, by omega⟩
      have HFIN : Hid (∀ w5 v5, w5.ownsRow w2.heap.size 3 1 v5 (0 + N) ([] ++ (rowL N f).map (Value.int .i64)) → (w2.alloc (.cells #[] 3)).drew.grownBy w5 (some w2.heap.size) → ∃ ao cap, v5 = .slice ao N cap ∧ AcP (((((w5.setCell ⟨w.heap.size + 1 + 1, 0, none⟩ (.int .i64 pid)).setCell ⟨w.heap.size + 1 + 1, 1, none⟩ (.int .i64 pc)).setCell ⟨w.heap.size + 1 + 1, 2, none⟩ (.slice v1 g1 k1)).setCell ⟨w.heap.size + 1 + 1, 3, none⟩ (.slice v2 g2 k2)).setCell ⟨w.heap.size + 1 + 1, 4, none⟩ v5) w.heap.size (actOf G.H ⟨pid, pc, g1, r, g2, b, N, f, ha⟩) ⟨v1, k1, v2, k2, ao, cap⟩ ∧ Below w.heap.size w (((((w5.setCell ⟨w.heap.size + 1 + 1, 0, none⟩ (.int .i64 pid)).setCell ⟨w.heap.size + 1 + 1, 1, none⟩ (.int .i64 pc)).setCell ⟨w.heap.size + 1 + 1, 2, none⟩ (.slice v1 g1 k1)).setCell ⟨w.heap.size + 1 + 1, 3, none⟩ (.slice v2 g2 k2)).setCell ⟨w.heap.size + 1 + 1, 4, none⟩ v5) ∧ Tc3 w w5 #[.int .i64 pid, .int .i64 pc, .slice (some ⟨b1, o1, none⟩) g1 rc, .slice (some ⟨b2, o2, none⟩) g2 bc, .slice (some ⟨b3, o3, none⟩) N lc, .int .i64 ha] #[.slice G.wv G.N G.cap, .slice G.yv G.M G.ycap, .int .i64 G.mark] #[.int .i64 0, .int .i64 0, .slice none 0 0, .slice none 0 0, .slice none 0 0]) := fun w5 v5 ho hg => by
        obtain ⟨ht, hr1, hr2⟩ := HGB.out w5 hg
        have ho' : OwI w5 w2.heap.size v5 (rowL N f) := by
          unfold OwI
          rw [rowL_len]
          rw [Nat.zero_add, List.nil_append] at ho
          exact ho
        have ho2 := ho'.2
        obtain ⟨ao, cap, rfl, hl⟩ := ho'.form
        rw [rowL_len] at hl ho2 ⊢
        have hcap : N ≤ cap ∧ cap ≤ maxLen := by
          rcases ho2 with ⟨h0, h1⟩ | ⟨g, cp, cur, h0, _, _, h1, h2, _⟩
          · injection h0 with _ _ h3
            rw [h1, h3]; exact ⟨Nat.zero_le _, Nat.zero_le _⟩
          · injection h0 with _ _ h3; rw [h3]; exact ⟨h1, h2⟩
        have hls : Ls w5 w2.heap.size w5.heap.size ao N f := Ls.congr hl (fun j hj => nth_row N f j hj)
        have hz := HX2.out.sz
        obtain ⟨W6, hW6⟩ : ∃ W6, W6 = ((((w5.setCell ⟨w.heap.size + 1 + 1, 0, none⟩ (.int .i64 pid)).setCell ⟨w.heap.size + 1 + 1, 1, none⟩ (.int .i64 pc)).setCell ⟨w.heap.size + 1 + 1, 2, none⟩ (.slice v1 g1 k1)).setCell ⟨w.heap.size + 1 + 1, 3, none⟩ (.slice v2 g2 k2)).setCell ⟨w.heap.size + 1 + 1, 4, none⟩ (.slice ao N cap) := ⟨_, rfl⟩
        have hblk : ∀ x, w.heap.size + 3 ≤ x → W6.heap[x]? = w5.heap[x]? := fun x hx0 => by
          have hx : x ≠ w.heap.size + 1 + 1 := by omega
          rw [hW6, Below.heap_setCell _ ⟨w.heap.size + 1 + 1, 4, none⟩ _ x hx, Below.heap_setCell _ ⟨w.heap.size + 1 + 1, 3, none⟩ _ x hx, Below.heap_setCell _ ⟨w.heap.size + 1 + 1, 2, none⟩ _ x hx, Below.heap_setCell _ ⟨w.heap.size + 1 + 1, 1, none⟩ _ x hx, Below.heap_setCell _ ⟨w.heap.size + 1 + 1, 0, none⟩ _ x hx]
        have hsz6 : W6.heap.size = w5.heap.size := by rw [hW6]; simp only [World.size_setCell]
        have hb6 : Below w.heap.size w W6 := by
          rw [hW6]
          iterate 5 (refine Below.setCell ?_ hbb _)
          exact ht.be
        have mv : Moves (fun b => w.heap.size + 3 ≤ b) (fun b => w.heap.size + 3 ≤ b) w5 W6 := fun x o v hx hc => ⟨hx, by rw [World.cell?_of_block (w := w5) (hblk x hx)]; exact hc⟩
        rw [← hW6]
        clear hW6
        refine ⟨ao, cap, rfl, ?_, hb6, ht⟩
        · rw [HA.out.1]
          refine ⟨(Moves.sub fun x hx => by have hx' : w.heap.size + 3 ≤ x := hx; show w.heap.size ≤ x; omega).repL _ _ (mv.repL _ _ hr1), (Moves.sub fun x hx => by have hx' : w.heap.size + 3 ≤ x := hx; show w.heap.size ≤ x; omega).repL _ _ (mv.repL _ _ hr2), fun hn => by
            obtain ⟨g, e1, e2, e3, e4⟩ := (hls.keep fun x h1 _ => hblk x (by omega)) hn
            exact ⟨g, e1, by omega, by rw [hsz6]; exact e3, e4⟩, ?_, HW1.out.1.2.2, ?_, HW1.out.2.2.2, hcap.1, hcap.2⟩
          · show (tms G.H (rowL g1 r)).length ≤ k1
            rw [tms_len, rowL_len]; exact HW1.out.1.2.1
          · show (tms G.H (rowL g2 b)).length ≤ k2
            rw [tms_len, rowL_len]; exact HW1.out.2.2.1
      go_wp2_with fail
      go_region_law (first
        | (refine step_append_any rfl (.tmp 41) (.tmp 43) 22 rfl w2.heap.size 3 i0 (.int .i64 0) 1 8 undInts HI.out.1 HI.out.2.1 HI.out.2.2.1 HI.out.2.2.2 rfl Nat.zero_lt_one (.slice (some ⟨w2.heap.size, 0, none⟩) 0 0) 0 [] (by simp [Act.eval]) HW0.out ⟨b3, o3, none⟩ N lc ((rowL N f).map (Value.int .i64)) (by simp [Act.eval]) HL1.out (HLS.out _ HXA.out.be) (oneI _) C3.out.1 C3.out.2 HZA.out ?_; intro v5 w5 hown5 hgr5 hat5; obtain ⟨ao, cap, rfl, h1, h2, h3⟩ := HFIN.out w5 v5 hown5 hgr5; have HF1 : Hid _ := h1; have HF2 : Hid _ := h2; have q15 := h3.q1; have q35 := h3.q3; have f35 := h3.f3; clear hown5 hgr5 hat5 h1 h2 h3)
        | go_simp)
      all_goals
        go_wp2_with fail
        exact bodyPost_ret (v := .tuple #[.agg #[.int .i64 pid, .int .i64 pc, .slice v1 g1 k1, .slice v2 g2 k2, .slice ao N cap], .bool true]) (by simp [results, Try.results16, go_sem, q35]) rfl ⟨⟨v1, k1, v2, k2, ao, cap⟩, HRET.out ao cap, HF1.out, HF2.out⟩
end Go.Proofs.Ytjjmikfbongccaa.Gn
