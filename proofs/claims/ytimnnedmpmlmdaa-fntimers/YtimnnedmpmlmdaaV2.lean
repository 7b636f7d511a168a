/-
  Timers drawn, right or not: what l14Any and DrawDueTimers answer.
  (Ahead of it, in this text: A timer put among others: the program's AddTimer. A timer put among others by the specification: the answer stands in blocks of its own. Timers drawn: what l14One and l14Draw answer stands in blocks of its own.)
-/
import Derived.Test.YtimnnedmpmlmdaaV8
import Derived.Test.YtimnnedmpmlmdaaTrG
import Derived.Test.YtimnnedmpmlmdaaV3
namespace Go.Proofs.Ytimnnedmpmlmdaa.Tr
open Go.RowKit Atom
set_option linter.unusedVariables false

/-- Whether a timer is taken. -/
def addB (l : List Sd) (x : Sd) : Bool := tmsB l && (tmB x && decide (l.length < 50))
/-- The timers behind it. -/
def addT (l : List Sd) (x : Sd) : List Sd := if addB l x = true then insT l x else l
theorem addB_le {l : List Sd} {x : Sd} (h : tmsB l = true) : l.length ≤ 50 := by
  unfold tmsB at h
  exact of_decide_eq_true (Bool.and_eq_true_iff.1 h).1
theorem addB_ord {l : List Sd} (h : tmsB l = true) : ordB l = true := by
  unfold tmsB at h
  exact (Bool.and_eq_true_iff.1 (Bool.and_eq_true_iff.1 h).2).1
theorem addT_no {l : List Sd} {x : Sd} (h : addB l x = false) : addT l x = l := by unfold addT; rw [h]; rfl
theorem addT_yes {l : List Sd} {x : Sd} (h : addB l x = true) : addT l x = insT l x := by unfold addT; rw [h]; rfl

set_option maxHeartbeats 2000000 in
set_option maxRecDepth 100000 in
theorem implAdd_any (l : List Sd) (bs0 bx : List Nat) (ao : Option Addr) (cap : Nat) (a p k n : Int) (s : ByteArray) (tl : List Tm) (xo : Option Addr) (xcap : Nat) (w : World)
    (hr : GL eltS w l bs0 ao) (hnd0 : bs0.Nodup) (hl : l.length ≤ 1048576) (hn : ∀ x ∈ l, ntL [x.t] ≤ 4194304)
    (hx : OsV w bx (.mk k n s tl) (.agg #[.int .i64 k, .int .i64 n, .string s, .slice xo tl.length xcap])) (hndx : bx.Nodup) (hnx : ntL [.mk k n s tl] ≤ 4194304) :
    Calls Try.prog 13 #[.slice ao l.length cap, sdV a p k n s xo tl.length xcap] w fun e w' => (∃ a1 c1 e1, e = .returned (.tuple #[.slice a1 (addT l ⟨a, p, .mk k n s tl⟩).length c1, .bool (addB l ⟨a, p, .mk k n s tl⟩)]) ∧ GL eltS w' (addT l ⟨a, p, .mk k n s tl⟩) e1 a1 ∧ e1.Nodup ∧ ∀ b ∈ e1, w.heap.size ≤ b) ∧ Below w.heap.size w w' := by
  obtain ⟨wa, hwa⟩ : ∃ wa, wa = w.alloc (.cells #[.int .i64 a, .int .i64 p, .int .i64 k, .int .i64 n, .string s, .slice xo tl.length xcap] 32) := ⟨_, rfl⟩
  have hba : Below w.heap.size w wa := by rw [hwa]; exact (Below.refl _ _).alloc (Nat.le_refl _) _
  have cx : ∀ j v, #[Value.int .i64 a, .int .i64 p, .int .i64 k, .int .i64 n, .string s, .slice xo tl.length xcap][j]? = some v → wa.cell? ⟨w.heap.size, j, none⟩ = some v := fun j v hj => by
    rw [hwa, World.cell?_alloc_new]; exact hj
  have HBA : Hid (Below w.heap.size w wa) := hba
  have HQX : Hid (∀ wc, Below wa.heap.size wa wc → wc.cell? ⟨w.heap.size, 0, none⟩ = some (.int .i64 a) ∧ wc.cell? ⟨w.heap.size, 1, none⟩ = some (.int .i64 p) ∧ wc.cell? ⟨w.heap.size, 2, none⟩ = some (.int .i64 k) ∧ wc.cell? ⟨w.heap.size, 3, none⟩ = some (.int .i64 n) ∧ wc.cell? ⟨w.heap.size, 4, none⟩ = some (.string s) ∧ wc.cell? ⟨w.heap.size, 5, none⟩ = some (.slice xo tl.length xcap)) := fun wc hb =>
    ⟨keepOt hb (cx 0 _ rfl), keepOt hb (cx 1 _ rfl), keepOt hb (cx 2 _ rfl), keepOt hb (cx 3 _ rfl), keepOt hb (cx 4 _ rfl), keepOt hb (cx 5 _ rfl)⟩
  have HC : Hid (Calls Try.prog 18 #[.slice ao l.length cap] wa fun e w' => (∃ (g : Nat) (bs : List Nat), e = .returned (.slice (some ⟨g, 0, none⟩) l.length l.length) ∧ GL eltS w' l bs (some ⟨g, 0, none⟩) ∧ bs.Nodup ∧ ∀ b ∈ bs, wa.heap.size ≤ b) ∧ Below wa.heap.size wa w') := ownTimers_any l bs0 ao cap wa (hr.below hba) hnd0 hl hn
  have HOK : Hid (∀ wc, Below wa.heap.size wa wc → Calls Try.prog 10 #[.slice ao l.length cap] wc fun e w' => e = .returned (.bool (tmsB l)) ∧ Below wc.heap.size wc w') := fun wc hb => implTimersOk_any l ao cap wc (GL.rowS ((hr.below hba).below hb)) (Nat.le_trans hl (by unfold maxLen; omega))
  have HOX : Hid (∀ wc, Below wa.heap.size wa wc → OsV wc bx (.mk k n s tl) (.agg #[.int .i64 k, .int .i64 n, .string s, .slice xo tl.length xcap])) := fun wc hb => osV_keep (osV_keep hx (fun b _ h => hba.block b h)) (fun b _ h => hb.block b h)
  have HIR : Hid (∀ wc, Below wa.heap.size wa wc → Calls Try.prog 25 #[sdV a p k n s xo tl.length xcap] wc fun e w' => e = .returned (.bool (tmB ⟨a, p, .mk k n s tl⟩)) ∧ Below wc.heap.size wc w') := fun wc hb => isRight_any ⟨a, p, .mk k n s tl⟩ k n s xo tl.length xcap wc (OsV.rep (HOX.out wc hb))
  have HOT : Hid (∀ wc, Below wa.heap.size wa wc → Calls Try.prog 28 #[sdV a p k n s xo tl.length xcap] wc fun e w' => ∃ ao' cap' bs', e = .returned (sdV a p k n s ao' tl.length cap') ∧ OsV w' bs' (.mk k n s tl) (.agg #[.int .i64 k, .int .i64 n, .string s, .slice ao' tl.length cap']) ∧ bs'.Nodup ∧ (∀ b ∈ bs', wc.heap.size ≤ b) ∧ Below wc.heap.size wc w') := fun wc hb => ownTimer_any a p k n s tl xo xcap bx wc (HOX.out wc hb) hndx hnx
  obtain ⟨X, hX⟩ : ∃ X : Sd, X = ⟨a, p, .mk k n s tl⟩ := ⟨_, rfl⟩
  rw [← hX] at HIR ⊢
  have HX : Hid (X = ⟨a, p, .mk k n s tl⟩) := hX
  have HLL : Hid (l.length ≤ 1048576) := hl
  clear hr hnd0 hn hba cx hx hndx hnx hX hl
  go_enter Try.func13, Try.ntmps13
  go_wp2_with (go_at_call 18; fail)
  rw [← hwa]
  clear hwa
  refine HC.out.mono ?_
  rintro e w1 ⟨⟨g, bs, rfl, hg, hnd, hlo⟩, hb1⟩
  have H1 : Hid (GL eltS w1 l bs (some ⟨g, 0, none⟩) ∧ bs.Nodup ∧ (∀ b ∈ bs, wa.heap.size ≤ b) ∧ Below wa.heap.size wa w1) := ⟨hg, hnd, hlo, hb1⟩
  clear hg hnd hlo hb1 HC
  go_wp2_with (go_at_call 10; fail)
  have HOK' := (HOK.out w1 H1.out.2.2.2)
  clear HOK
  cases hA : tmsB l with
  | false =>
    rw [hA] at HOK'
    refine HOK'.mono ?_
    rintro e w2 ⟨rfl, hb2⟩
    have hno : addB l X = false := by unfold addB; rw [hA]; rfl
    have HF : Hid (GL eltS w2 (addT l X) bs (some ⟨g, 0, none⟩) ∧ bs.Nodup ∧ (∀ b ∈ bs, w.heap.size ≤ b) ∧ Below w.heap.size w w2 ∧ addB l X = false ∧ (addT l X).length = l.length) := ⟨by rw [addT_no hno]; exact H1.out.1.below hb2, H1.out.2.1, fun b hb => Nat.le_trans HBA.out.size (H1.out.2.2.1 b hb), HBA.out.trans ((H1.out.2.2.2.trans (hb2.mono H1.out.2.2.2.size)).mono HBA.out.size), hno, by rw [addT_no hno]⟩
    clear hb2 hno hA
    go_wp2_with fail
    rw [HF.out.2.2.2.2.1]
    exact bodyPost_ret (v := .tuple #[.slice (some ⟨g, 0, none⟩) l.length l.length, .bool false]) (by simp [results, Try.results13, go_sem]) rfl ⟨⟨_, l.length, bs, by rw [HF.out.2.2.2.2.2], HF.out.1, HF.out.2.1, HF.out.2.2.1⟩, HF.out.2.2.2.1⟩
  | true =>
    rw [hA] at HOK'
    refine HOK'.mono ?_
    rintro e w2 ⟨rfl, hb2⟩
    have H2 : Hid (GL eltS w2 l bs (some ⟨g, 0, none⟩) ∧ Below wa.heap.size wa w2 ∧ w1.heap.size ≤ w2.heap.size) := ⟨H1.out.1.below hb2, H1.out.2.2.2.trans (hb2.mono H1.out.2.2.2.size), hb2.size⟩
    have HA : Hid (tmsB l = true) := hA
    obtain ⟨d0, d1, d2, d3, d4, d5⟩ := HQX.out w2 H2.out.2.1
    clear hb2 hA
    go_wp2_with (go_at_call 25; fail)
    have HIR' := HIR.out w2 H2.out.2.1
    clear HIR d0 d1 d2 d3 d4 d5
    cases hT : tmB X with
    | false =>
      rw [hT] at HIR'
      refine HIR'.mono ?_
      rintro e w3 ⟨rfl, hb3⟩
      have hno : addB l X = false := by unfold addB; rw [hT]; simp
      have HF : Hid (GL eltS w3 (addT l X) bs (some ⟨g, 0, none⟩) ∧ bs.Nodup ∧ (∀ b ∈ bs, w.heap.size ≤ b) ∧ Below w.heap.size w w3 ∧ addB l X = false ∧ (addT l X).length = l.length) := ⟨by rw [addT_no hno]; exact H2.out.1.below hb3, H1.out.2.1, fun b hb => Nat.le_trans HBA.out.size (H1.out.2.2.1 b hb), HBA.out.trans ((H2.out.2.1.trans (hb3.mono H2.out.2.1.size)).mono HBA.out.size), hno, by rw [addT_no hno]⟩
      clear hb3 hno hT
      go_wp2_with fail
      rw [HF.out.2.2.2.2.1]
      exact bodyPost_ret (v := .tuple #[.slice (some ⟨g, 0, none⟩) l.length l.length, .bool false]) (by simp [results, Try.results13, go_sem]) rfl ⟨⟨_, l.length, bs, by rw [HF.out.2.2.2.2.2], HF.out.1, HF.out.2.1, HF.out.2.2.1⟩, HF.out.2.2.2.1⟩
    | true =>
      rw [hT] at HIR'
      refine HIR'.mono ?_
      rintro e w3 ⟨rfl, hb3⟩
      have H3 : Hid (GL eltS w3 l bs (some ⟨g, 0, none⟩) ∧ Below wa.heap.size wa w3 ∧ w1.heap.size ≤ w3.heap.size) := ⟨H2.out.1.below hb3, H2.out.2.1.trans (hb3.mono H2.out.2.1.size), Nat.le_trans H2.out.2.2 hb3.size⟩
      have HT : Hid (tmB X = true) := hT
      clear hb3 hT
      by_cases h50 : (50 : Int) ≤ (l.length : Int)
      · have hno : addB l X = false := by unfold addB; rw [decide_eq_false (by omega)]; simp
        have HF : Hid (GL eltS w3 (addT l X) bs (some ⟨g, 0, none⟩) ∧ bs.Nodup ∧ (∀ b ∈ bs, w.heap.size ≤ b) ∧ Below w.heap.size w w3 ∧ addB l X = false ∧ (addT l X).length = l.length) := ⟨by rw [addT_no hno]; exact H3.out.1, H1.out.2.1, fun b hb => Nat.le_trans HBA.out.size (H1.out.2.2.1 b hb), HBA.out.trans (H3.out.2.1.mono HBA.out.size), hno, by rw [addT_no hno]⟩
        clear hno
        go_wp2_with fail
        rw [HF.out.2.2.2.2.1]
        exact bodyPost_ret (v := .tuple #[.slice (some ⟨g, 0, none⟩) l.length l.length, .bool false]) (by simp [results, Try.results13, go_sem]) rfl ⟨⟨_, l.length, bs, by rw [HF.out.2.2.2.2.2], HF.out.1, HF.out.2.1, HF.out.2.2.1⟩, HF.out.2.2.2.1⟩
      · have hyes : addB l X = true := by unfold addB; rw [HA.out, HT.out, decide_eq_true (by omega)]; rfl
        have HY : Hid (addB l X = true) := hyes
        clear hyes
        obtain ⟨d0, d1, d2, d3, d4, d5⟩ := HQX.out w3 H3.out.2.1
        go_wp2_with (go_at_call 28; fail)
        refine (HOT.out w3 H3.out.2.1).mono ?_
        rintro e w4 ⟨xo', xc', bx', rfl, hx4, hn4, hl4, hb4⟩
        have HAD : Hid (Calls Try.prog 27 #[.slice (some ⟨g, 0, none⟩) l.length l.length, sdV a p k n s xo' tl.length xc'] w4 fun e w' => (∃ ao c b', e = .returned (.slice ao (insT l ⟨a, p, .mk k n s tl⟩).length c) ∧ GL eltS w' (insT l ⟨a, p, .mk k n s tl⟩) b' ao ∧ b'.Nodup ∧ ∀ b ∈ b', b ∈ bs ∨ b ∈ bx' ∨ w4.heap.size ≤ b) ∧ Below w4.heap.size w4 w') :=
          add_any l bs bx' g a p k n s tl xo' xc' w4 (H3.out.1.below hb4) hx4 (List.nodup_append.2 ⟨hn4, H1.out.2.1, fun x hx y hy q => by
            have q1 := hl4 x hx
            have q2 := H1.out.1.lt y hy
            have q3 := H3.out.2.2
            omega⟩) (addB_ord HA.out) HLL.out
        have H4 : Hid (Below w.heap.size w w4 ∧ ∀ b, (b ∈ bs ∨ b ∈ bx' ∨ w4.heap.size ≤ b) → w.heap.size ≤ b) := by
          have h := HBA.out.trans ((H3.out.2.1.trans (hb4.mono H3.out.2.1.size)).mono HBA.out.size)
          have q0 := HBA.out.size
          have q1 := H3.out.2.1.size
          refine ⟨h, fun b hb => ?_⟩
          rcases hb with hb | hb | hb
          · exact Nat.le_trans q0 (H1.out.2.2.1 b hb)
          · have := hl4 b hb; omega
          · have := h.size; omega
        clear hx4 hn4 hl4 hb4 d0 d1 d2 d3 d4 d5
        go_wp2_with (go_at_call 27; fail)
        refine HAD.out.mono ?_
        rintro e w5 ⟨⟨ao5, c5, b5, rfl, hg5, hn5, hl5⟩, hb5⟩
        rw [← HX.out, ← addT_yes HY.out] at hg5
        rw [← HX.out, ← addT_yes HY.out]
        have HF : Hid (GL eltS w5 (addT l X) b5 ao5 ∧ b5.Nodup ∧ (∀ b ∈ b5, w.heap.size ≤ b) ∧ Below w.heap.size w w5) := ⟨hg5, hn5, fun b hb => H4.out.2 b (hl5 b hb), H4.out.1.trans (hb5.mono H4.out.1.size)⟩
        clear hg5 hn5 hl5 hb5
        go_wp2_with fail
        rw [HY.out]
        exact bodyPost_ret (v := .tuple #[.slice ao5 (addT l X).length c5, .bool true]) (by simp [results, Try.results13, go_sem]) rfl ⟨⟨_, _, _, rfl, HF.out.1, HF.out.2.1, HF.out.2.2.1⟩, HF.out.2.2.2⟩
end Go.Proofs.Ytimnnedmpmlmdaa.Tr
namespace Go.Proofs.Ytimnnedmpmlmdaa.Tv
open Go.RowKit Atom
open Go.Proofs.Ytimnnedmpmlmdaa.Tr
set_option linter.unusedVariables false

theorem ve_s {w : World} {x : Sd} {bs : List Nat} {b off : Nat} (h : eltS.E w x bs b off) (vs : List Value) (hl : vs.length = 6) (hv : ∀ j v, j < 6 → w.cell? ⟨b, off + j, none⟩ = some v → vs[j]? = some v) : VE eltS w x vs bs := by
  obtain ⟨h0, h1, h2⟩ := h
  refine ⟨hl, OsT.lt _ _ _ _ h2, fun w' b' off' hc hk => ⟨hc 0 _ (hv 0 _ (by omega) h0), hc 1 _ (hv 1 _ (by omega) h1), ?_⟩⟩
  obtain ⟨kind, pid, t⟩ := x
  obtain ⟨k, n, s, l⟩ := t
  have h3 := h2
  show OsT w' (.mk k n s l) bs b' (off' + 2)
  have h3' : OsT w (.mk k n s l) bs b (off + 2) := h3
  rw [OsT] at h3' ⊢
  obtain ⟨g0, g1, g2, hs, ao, cap, g3, q1, q2, q3⟩ := h3'
  exact ⟨hc 2 _ (hv 2 _ (by omega) g0), hc 3 _ (hv 3 _ (by omega) g1), hc 4 _ (hv 4 _ (by omega) g2), hs, ao, cap, hc 5 _ (hv 5 _ (by omega) g3), q1, q2, OsL.keep _ _ _ (fun x hx _ => hk x hx) q3⟩
theorem own_setCells {base n c g : Nat} : ∀ (vs : List Value) (o : Nat) (w : World) (xs : List Value), w.ownsRow base 32 6 (.slice (some ⟨g, 0, none⟩) n c) n xs → ∃ xs', (w.setCells g o vs).ownsRow base 32 6 (.slice (some ⟨g, 0, none⟩) n c) n xs'
  | [], _, _, xs, h => ⟨xs, h⟩
  | v :: r, o, w, xs, h => by
    rw [World.setCells]
    exact own_setCells r (o + 1) _ _ (h.stored o v).1
theorem own_low {w : World} {base base' n : Nat} {v : Value} {xs : List Value} (h : w.ownsRow base 32 6 v n xs) (hl : base' ≤ base) : w.ownsRow base' 32 6 v n xs := by
  obtain ⟨h1, h2 | ⟨g, c, cur, e1, e2, e3⟩⟩ := h
  · exact ⟨h1, .inl h2⟩
  · exact ⟨h1, .inr ⟨g, c, cur, e1, Nat.le_trans hl e2, e3⟩⟩
/-- The row at g: l ahead of k in its place, what is behind one place on, and something at k. -/
structure Shf (w wB wr : World) (g : Nat) (l : List Sd) (k : Nat) (b0 : List Nat) : Prop where
  below : Below w.heap.size w wr
  base : w.heap.size ≤ g
  lt : g < wr.heap.size
  free : ∀ o, wr.frozen? ⟨g, o, none⟩ = false
  mid : ∀ j, j < 6 → (wr.cell? ⟨g, k * 6 + j, none⟩).isSome = true
  row : ∃ bl bu, b0 = bl ++ bu ∧ GR eltS wr (l.take k) bl g 0 ∧ GR eltS wr (l.drop k) bu g ((k + 1) * 6)
  nm : g ∉ b0
  blk : ∀ b, b ≠ g → b < wB.heap.size → wr.heap[b]? = wB.heap[b]?
  sz : wB.heap.size ≤ wr.heap.size
  own : ∀ base n c xs0, wB.ownsRow base 32 6 (.slice (some ⟨g, 0, none⟩) n c) n xs0 → ∃ xs, wr.ownsRow base 32 6 (.slice (some ⟨g, 0, none⟩) n c) n xs
theorem Shf.call {w wB wr w1 : World} {g : Nat} {l : List Sd} {k : Nat} {b0 : List Nat} (h : Shf w wB wr g l k b0) (hb : Below wr.heap.size wr w1) : Shf w wB w1 g l k b0 := by
  obtain ⟨bl, bu, e1, h1, h2⟩ := h.row
  have hc : ∀ o, w1.cell? ⟨g, o, none⟩ = wr.cell? ⟨g, o, none⟩ := fun o => hb.cell (p := ⟨g, o, none⟩) h.lt
  exact ⟨h.below.trans (hb.mono h.below.size), h.base, Nat.lt_of_lt_of_le h.lt hb.size, fun o => by rw [hb.frozen (p := ⟨g, o, none⟩) h.lt]; exact h.free o, fun j hj => by rw [hc]; exact h.mid j hj, ⟨bl, bu, e1, GR.keep _ _ _ _ (fun x _ hx => hb.block x hx) (fun o v _ _ hv => by rw [hc]; exact hv) h1, GR.keep _ _ _ _ (fun x _ hx => hb.block x hx) (fun o v _ _ hv => by rw [hc]; exact hv) h2⟩, h.nm, fun b hn hl => (hb.block b (Nat.lt_of_lt_of_le hl h.sz)).trans (h.blk b hn hl), Nat.le_trans h.sz hb.size, fun base n c xs0 h9 => by
    obtain ⟨xs, h8⟩ := h.own base n c xs0 h9
    exact ⟨xs, own_keep h8 (fun q hq => by
      have e : some g = some q := hq
      injection e with e
      rw [← e]; exact hb.block g h.lt)⟩⟩
theorem Shf.elt {w wB wr : World} {g : Nat} {l : List Sd} {k : Nat} {b0 : List Nat} (h : Shf w wB wr g l (k + 1) b0) (hk : k < l.length) : ∃ bt, eltS.E wr l[k] bt g (k * 6) := by
  obtain ⟨bl, bu, e1, h1, h2⟩ := h.row
  rw [List.take_succ_eq_append_getElem hk] at h1
  obtain ⟨ba, bt, bb, e2, h3, h4, h5⟩ := GR.split h1
  have hlen : (l.take k).length = k := by simp; omega
  rw [hlen, Nat.zero_add] at h4
  exact ⟨bt, h4⟩
theorem Shf.step {w wB wr : World} {g : Nat} {l : List Sd} {k : Nat} {b0 : List Nat} (h : Shf w wB wr g l (k + 1) b0) (hk : k < l.length) (vs : List Value) (hvl : vs.length = 6) (hvs : ∀ j v, vs[j]? = some v → wr.cell? ⟨g, k * 6 + j, none⟩ = some v) : Shf w wB (wr.setCells g ((k + 1) * 6) vs) g l k b0 := by
  obtain ⟨bl, bu, e1, h1, h2⟩ := h.row
  rw [List.take_succ_eq_append_getElem hk] at h1
  obtain ⟨ba, bt, bb, e2, h3, h4, h5⟩ := GR.split h1
  have hlen : (l.take k).length = k := by simp; omega
  rw [hlen, Nat.zero_add] at h4
  rw [GR] at h5
  subst h5
  rw [List.append_nil] at e2
  subst e2
  have hin := World.cell?_setCells_in g vs ((k + 1) * 6) wr (fun j hj => h.mid j (by omega))
  have hout : ∀ i, (i < (k + 1) * 6 ∨ (k + 1) * 6 + 6 ≤ i) → (wr.setCells g ((k + 1) * 6) vs).cell? ⟨g, i, none⟩ = wr.cell? ⟨g, i, none⟩ := fun i hi =>
    World.cell?_setCells_out g vs ((k + 1) * 6) wr ⟨g, i, none⟩ (fun _ _ => by rw [hvl]; exact hi)
  have hng : ∀ x ∈ b0, x ≠ g := fun x hx q => h.nm (by rw [← q]; exact hx)
  refine ⟨setCells_bel h.base _ _ _ _ h.below, h.base, by rw [setCells_sz]; exact h.lt, fun o => by rw [World.frozen?_setCells]; exact h.free o, fun j hj => ?_, ⟨ba, bt ++ bu, by rw [e1, List.append_assoc], ?_, ?_⟩, h.nm, fun b hn hl => (setCells_blk hn _ _ _).trans (h.blk b hn hl), by rw [setCells_sz]; exact h.sz, fun base n c xs0 h9 => by
    obtain ⟨xs, h8⟩ := h.own base n c xs0 h9
    exact own_setCells _ _ _ _ h8⟩
  · rw [hout _ (.inl (by omega)), hvs j (vs[j]'(by omega)) (List.getElem?_eq_getElem (by omega))]; rfl
  · refine GR.keep _ _ _ _ (fun x hx _ => setCells_blk (hng x (by rw [e1]; simp [hx])) _ _ _) (fun o v _ ho hv => ?_) h3
    rw [hlen] at ho
    have ho' : o < 0 + 6 * k := ho
    rw [hout o (.inl (by omega))]; exact hv
  · rw [List.drop_eq_getElem_cons hk, GR]
    refine ⟨bt, bu, rfl, ?_, ?_⟩
    · refine (ve_s h4 vs hvl (fun j v hj hc => ?_)).2.2 _ g _ (fun j v hj => ?_) (fun x hx => setCells_blk (hng x (by rw [e1]; simp [hx])) _ _ _)
      · have := hvs j (vs[j]'(by omega)) (List.getElem?_eq_getElem (by omega))
        have hc' : wr.cell? ⟨g, k * 6 + j, none⟩ = some v := hc
        rw [this] at hc'
        rw [List.getElem?_eq_getElem (by omega)]; exact hc'
      · obtain ⟨q1, q2⟩ := List.getElem?_eq_some_iff.1 hj
        rw [hin j q1, q2]
    · refine GR.keep _ _ _ _ (fun x hx _ => setCells_blk (hng x (by rw [e1]; simp [hx])) _ _ _) (fun o v ho _ hv => ?_) (by rw [show (k + 1) * 6 + eltS.s = (k + 1 + 1) * 6 by show (k + 1) * 6 + 6 = _; omega]; exact h2)
      have ho' : (k + 1) * 6 + 6 ≤ o := ho
      rw [hout o (.inr ho')]; exact hv
theorem Shf.fin {w wB wr : World} {g : Nat} {l : List Sd} {k : Nat} {b0 bx : List Nat} {x : Sd} {vs : List Value} (h : Shf w wB wr g l k b0) (hk : k ≤ l.length) (hx : VE eltS wr x vs bx) (hgx : g ∉ bx) (hnd : (b0 ++ bx).Nodup) (hlo : ∀ b ∈ b0 ++ bx, w.heap.size ≤ b) :
    (∃ e1, GL eltS (wr.setCells g (k * 6) vs) (putAt l k x) e1 (some ⟨g, 0, none⟩) ∧ e1.Nodup ∧ ∀ b ∈ e1, w.heap.size ≤ b) ∧ Below w.heap.size w (wr.setCells g (k * 6) vs) := by
  obtain ⟨bl, bu, e1, h1, h2⟩ := h.row
  have hvl : vs.length = 6 := hx.1
  have hlen : (l.take k).length = k := by simp; omega
  have hin := World.cell?_setCells_in g vs (k * 6) wr (fun j hj => h.mid j (by omega))
  have hout : ∀ i, (i < k * 6 ∨ k * 6 + 6 ≤ i) → (wr.setCells g (k * 6) vs).cell? ⟨g, i, none⟩ = wr.cell? ⟨g, i, none⟩ := fun i hi =>
    World.cell?_setCells_out g vs (k * 6) wr ⟨g, i, none⟩ (fun _ _ => by rw [hvl]; exact hi)
  have hng : ∀ x ∈ b0, x ≠ g := fun x hx q => h.nm (by rw [← q]; exact hx)
  have hr : GR eltS (wr.setCells g (k * 6) vs) (putAt l k x) (bl ++ (bx ++ bu)) g 0 := by
    unfold putAt
    refine GR.join (GR.keep _ _ _ _ (fun x hx _ => setCells_blk (hng x (by rw [e1]; simp [hx])) _ _ _) (fun o v _ ho hv => ?_) h1) ?_ ?_
    · rw [hlen] at ho
      have ho' : o < 0 + 6 * k := ho
      rw [hout o (.inl (by omega))]; exact hv
    · rw [hlen, Nat.zero_add]
      refine hx.2.2 _ g _ (fun j v hj => ?_) (fun y hy => setCells_blk (fun q => hgx (by rw [← q]; exact hy)) _ _ _)
      obtain ⟨q1, q2⟩ := List.getElem?_eq_some_iff.1 hj
      have := hin j q1
      rw [q2] at this; exact this
    · rw [hlen, Nat.zero_add]
      refine GR.keep _ _ _ _ (fun x hx _ => setCells_blk (hng x (by rw [e1]; simp [hx])) _ _ _) (fun o v ho _ hv => ?_) (by rw [show k * eltS.s + eltS.s = (k + 1) * 6 by show k * 6 + 6 = _; omega]; exact h2)
      have ho' : k * 6 + 6 ≤ o := ho
      rw [hout o (.inr ho')]; exact hv
  have hp : (bl ++ (bx ++ bu)).Perm (b0 ++ bx) := by
    rw [e1]
    exact (List.Perm.append_left bl (List.perm_append_comm)).trans (by rw [List.append_assoc])
  refine ⟨⟨g :: (bl ++ (bx ++ bu)), .inr ⟨by unfold putAt; simp, g, 0, _, rfl, rfl, fun o => by rw [World.frozen?_setCells]; exact h.free o, hr⟩, List.nodup_cons.2 ⟨fun hm => ?_, hp.nodup_iff.2 hnd⟩, fun b hb => ?_⟩, setCells_bel h.base _ _ _ _ h.below⟩
  · rcases List.mem_append.1 (hp.mem_iff.1 hm) with q | q
    · exact h.nm q
    · exact hgx q
  · rcases List.mem_cons.1 hb with rfl | hb
    · exact h.base
    · exact hlo b (hp.mem_iff.1 hb)
theorem VL.len6 {w : World} : ∀ {l : List Sd} {xs : List Value} {bs : List Nat}, VL eltS w l xs bs → xs.length = l.length * 6
  | [], _, _, ⟨h1, h2⟩ => by subst h1; rfl
  | a :: l, _, _, ⟨vs, ys, b1, b2, h1, h2, h3, h4⟩ => by
    have h5 : vs.length = 6 := h3.1
    have h6 := VL.len6 h4
    rw [h1, List.length_append, List.length_cons]; omega

set_option maxHeartbeats 4000000 in
set_option maxRecDepth 100000 in
theorem specAdd_any (l : List Sd) (ao : Option Addr) (cap : Nat) (a p : Int) (t : Tm) (tk tn : Int) (ts : ByteArray) (tao : Option Addr) (tlen tcap : Nat) (w : World)
    (hr : RowS w ao l) (hl : l.length ≤ 1048576) (hs : ∀ x ∈ l, StS x.t) (hx : RepV 0 w t (.agg #[.int .i64 tk, .int .i64 tn, .string ts, .slice tao tlen tcap])) (hst : StS t) :
    Calls Try.prog 14 #[.slice ao l.length cap, sdV a p tk tn ts tao tlen tcap] w fun e w' => (∃ a1 c1 e1, e = .returned (.tuple #[.slice a1 (addT l ⟨a, p, t⟩).length c1, .bool (addB l ⟨a, p, t⟩)]) ∧ GL eltS w' (addT l ⟨a, p, t⟩) e1 a1 ∧ e1.Nodup ∧ (∀ b ∈ e1, w.heap.size ≤ b) ∧ ∃ ys, w'.ownsRow w.heap.size 32 6 (.slice a1 (addT l ⟨a, p, t⟩).length c1) (addT l ⟨a, p, t⟩).length ys) ∧ Below w.heap.size w w' := by
  obtain ⟨wa, hwa⟩ : ∃ wa, wa = w.alloc (.cells #[.int .i64 a, .int .i64 p, .int .i64 tk, .int .i64 tn, .string ts, .slice tao tlen tcap] 32) := ⟨_, rfl⟩
  have hba : Below w.heap.size w wa := by rw [hwa]; exact (Below.refl _ _).alloc (Nat.le_refl _) _
  have hza : wa.heap.size = w.heap.size + 1 := by rw [hwa]; simp
  have cx : ∀ j v, #[Value.int .i64 a, .int .i64 p, .int .i64 tk, .int .i64 tn, .string ts, .slice tao tlen tcap][j]? = some v → wa.cell? ⟨w.heap.size, j, none⟩ = some v := fun j v hj => by
    rw [hwa, World.cell?_alloc_new]; exact hj
  have fx : ∀ x, wa.frozen? ⟨w.heap.size, x, none⟩ = false := fun x => by rw [hwa, World.frozen?_alloc_new]
  have HBA : Hid (Below w.heap.size w wa ∧ wa.heap.size = w.heap.size + 1) := ⟨hba, hza⟩
  have HQX : Hid (∀ wc, Below wa.heap.size wa wc → (wc.cell? ⟨w.heap.size, 0, none⟩ = some (.int .i64 a) ∧ wc.cell? ⟨w.heap.size, 1, none⟩ = some (.int .i64 p) ∧ wc.cell? ⟨w.heap.size, 2, none⟩ = some (.int .i64 tk) ∧ wc.cell? ⟨w.heap.size, 3, none⟩ = some (.int .i64 tn) ∧ wc.cell? ⟨w.heap.size, 4, none⟩ = some (.string ts) ∧ wc.cell? ⟨w.heap.size, 5, none⟩ = some (.slice tao tlen tcap)) ∧ ∀ x, wc.frozen? ⟨w.heap.size, x, none⟩ = false) := fun wc hb =>
    ⟨⟨keepOt hb (cx 0 _ rfl), keepOt hb (cx 1 _ rfl), keepOt hb (cx 2 _ rfl), keepOt hb (cx 3 _ rfl), keepOt hb (cx 4 _ rfl), keepOt hb (cx 5 _ rfl)⟩, fun x => by rw [hb.frozen (p := ⟨w.heap.size, x, none⟩) (by show w.heap.size < _; omega)]; exact fx x⟩
  have HC : Hid (Calls Try.prog 29 #[.slice ao l.length cap] wa fun e w' => ∃ ua uc xs bs D, e = .returned (.slice ua l.length uc) ∧ Two eltS wa.heap.size D w' (.slice ua l.length uc) (.slice none 0 0) l [] xs [] bs [] ∧ (∀ b ∈ D, wa.heap.size ≤ b) ∧ Below wa.heap.size wa w') :=
    (l14Copy_any l ao cap wa (hr.below hba) hl hs).mono fun e w' ⟨u, xs, bs, D, h1, h2, h3, h4⟩ => by
      obtain ⟨ua, uc, rfl⟩ := h2.form1
      exact ⟨ua, uc, xs, bs, D, h1, h2, h3, h4⟩
  have HOK : Hid (∀ wc, Below wa.heap.size wa wc → Calls Try.prog 11 #[.slice ao l.length cap] wc fun e w' => e = .returned (.bool (tmsB l)) ∧ Below wc.heap.size wc w') := fun wc hb => specTimersOk_any l ao cap wc ((hr.below hba).below hb) (Nat.le_trans hl (by unfold maxLen; omega))
  have HIR : Hid (∀ wc, Below wa.heap.size wa wc → Calls Try.prog 26 #[sdV a p tk tn ts tao tlen tcap] wc fun e w' => e = .returned (.bool (tmB ⟨a, p, t⟩)) ∧ Below wc.heap.size wc w') := fun wc hb => l14Timer_any ⟨a, p, t⟩ tk tn ts tao tlen tcap wc (Below.repV hb (Below.repV hba hx))
  have HCP : Hid (∀ wc, Below wa.heap.size wa wc → Calls Try.prog 30 #[.agg #[.int .i64 tk, .int .i64 tn, .string ts, .slice tao tlen tcap]] wc fun e w' => ∃ va vb vc vd ve vf, e = .returned (.agg #[.int .i64 va, .int .i64 vb, .string vc, .slice vd ve vf]) ∧ OwV w' wc.heap.size t (.agg #[.int .i64 va, .int .i64 vb, .string vc, .slice vd ve vf]) ∧ Below wc.heap.size wc w') := fun wc hb =>
    (czO_all t wc _ (Below.repV hb (Below.repV hba hx)) hst).mono fun e w' ⟨v', h1, h2, h3⟩ => by
      obtain ⟨va, vb, vc, vd, ve, vf, rfl⟩ := h2.form
      exact ⟨va, vb, vc, vd, ve, vf, h1, h2, h3⟩
  obtain ⟨X, hX⟩ : ∃ X : Sd, X = ⟨a, p, t⟩ := ⟨_, rfl⟩
  rw [← hX] at HIR ⊢
  have HX : Hid (X = ⟨a, p, t⟩) := hX
  have HLL : Hid (l.length ≤ 1048576) := hl
  have HI : Hid (∃ i0, Try.prog.info? 32 = some i0 ∧ i0.zero = some (.agg #[.int .i64 0, .int .i64 0, .int .i64 0, .int .i64 0, .string ⟨#[]⟩, .slice none 0 0]) ∧ i0.size = 6 ∧ i0.bytes = 72) := by
    obtain ⟨i0, hi, hzz⟩ := Option.map_eq_some_iff.1 infoTimer
    simp only [Prod.mk.injEq] at hzz
    exact ⟨i0, hi, hzz⟩
  clear hr hs hba hza cx fx hx hst hX hl
  go_enter Try.func14, Try.ntmps14
  go_wp2_with (go_at_call 29; fail)
  rw [← hwa]
  clear hwa
  refine HC.out.mono ?_
  rintro e w1 ⟨ua, uc, xs, bs, D, rfl, htw, hD, hb1⟩
  have H1 : Hid (Two eltS wa.heap.size D w1 (.slice ua l.length uc) (.slice none 0 0) l [] xs [] bs [] ∧ (∀ b ∈ D, wa.heap.size ≤ b) ∧ Below wa.heap.size wa w1) := ⟨htw, hD, hb1⟩
  have HNO : Hid (∀ wc, Below w1.heap.size w1 wc → addB l X = false → ∃ e1, GL eltS wc (addT l X) e1 ua ∧ e1.Nodup ∧ (∀ b ∈ e1, w.heap.size ≤ b) ∧ Below w.heap.size w wc ∧ (addT l X).length = l.length ∧ ∃ ys, wc.ownsRow w.heap.size 32 6 (.slice ua l.length uc) l.length ys) := fun wc hb hno => by
    obtain ⟨a1, c1, a2, c2, e1, e2, f1, f2, g1, g2, n, i1, i2⟩ := (htw.call hb).done
    injection f1 with f1 _ _
    subst f1
    have hbb := hb1.trans (hb.mono hb1.size)
    refine ⟨e1, by rw [addT_no hno]; exact g1, (List.nodup_append.1 n).1, fun b hq => ?_, HBA.out.1.trans (hbb.mono HBA.out.1.size), by rw [addT_no hno], xs, own_low (htw.call hb).r1 (by have := HBA.out.2; omega)⟩
    have hz := HBA.out.2
    rcases i1 b hq with q | q
    · have := hD b (htw.i1 b q); omega
    · omega
  clear htw hD hb1 HC
  go_wp2_with (go_at_call 11; fail)
  have HOK' := (HOK.out w1 H1.out.2.2)
  clear HOK
  cases hA : tmsB l with
  | false =>
    rw [hA] at HOK'
    refine HOK'.mono ?_
    rintro e w2 ⟨rfl, hb2⟩
    have hno : addB l X = false := by unfold addB; rw [hA]; rfl
    have HF : Hid ((∃ e1, GL eltS w2 (addT l X) e1 ua ∧ e1.Nodup ∧ (∀ b ∈ e1, w.heap.size ≤ b) ∧ Below w.heap.size w w2 ∧ (addT l X).length = l.length ∧ ∃ ys, w2.ownsRow w.heap.size 32 6 (.slice ua l.length uc) l.length ys) ∧ addB l X = false) := ⟨HNO.out w2 hb2 hno, hno⟩
    clear hb2 hno hA
    go_wp2_with fail
    rw [HF.out.2]
    obtain ⟨e1, q1, q2, q3, q4, q5, q6⟩ := HF.out.1
    exact bodyPost_ret (v := .tuple #[.slice ua l.length uc, .bool false]) (by simp [results, Try.results14, go_sem]) rfl ⟨⟨_, uc, e1, by rw [q5], q1, q2, q3, by rw [q5]; exact q6⟩, q4⟩
  | true =>
    rw [hA] at HOK'
    refine HOK'.mono ?_
    rintro e w2 ⟨rfl, hb2⟩
    have H2 : Hid (Below wa.heap.size wa w2 ∧ Below w1.heap.size w1 w2) := ⟨H1.out.2.2.trans (hb2.mono H1.out.2.2.size), hb2⟩
    have HA : Hid (tmsB l = true) := hA
    obtain ⟨⟨d0, d1, d2, d3, d4, d5⟩, _⟩ := HQX.out w2 H2.out.1
    clear hb2 hA
    go_wp2_with (go_at_call 26; fail)
    have HIR' := HIR.out w2 H2.out.1
    clear HIR d0 d1 d2 d3 d4 d5
    cases hT : tmB X with
    | false =>
      rw [hT] at HIR'
      refine HIR'.mono ?_
      rintro e w3 ⟨rfl, hb3⟩
      have hno : addB l X = false := by unfold addB; rw [hT]; simp
      have HF : Hid ((∃ e1, GL eltS w3 (addT l X) e1 ua ∧ e1.Nodup ∧ (∀ b ∈ e1, w.heap.size ≤ b) ∧ Below w.heap.size w w3 ∧ (addT l X).length = l.length ∧ ∃ ys, w3.ownsRow w.heap.size 32 6 (.slice ua l.length uc) l.length ys) ∧ addB l X = false) := ⟨HNO.out w3 (H2.out.2.trans (hb3.mono H2.out.2.size)) hno, hno⟩
      clear hb3 hno hT
      go_wp2_with fail
      rw [HF.out.2]
      obtain ⟨e1, q1, q2, q3, q4, q5, q6⟩ := HF.out.1
      exact bodyPost_ret (v := .tuple #[.slice ua l.length uc, .bool false]) (by simp [results, Try.results14, go_sem]) rfl ⟨⟨_, uc, e1, by rw [q5], q1, q2, q3, by rw [q5]; exact q6⟩, q4⟩
    | true =>
      rw [hT] at HIR'
      refine HIR'.mono ?_
      rintro e w3 ⟨rfl, hb3⟩
      have H3 : Hid (Below wa.heap.size wa w3 ∧ Below w1.heap.size w1 w3) := ⟨H2.out.1.trans (hb3.mono H2.out.1.size), H2.out.2.trans (hb3.mono H2.out.2.size)⟩
      have HT : Hid (tmB X = true) := hT
      clear hb3 hT
      by_cases h50 : l.length = 50
      · have hno : addB l X = false := by unfold addB; rw [decide_eq_false (by omega)]; simp
        have HF : Hid ((∃ e1, GL eltS w3 (addT l X) e1 ua ∧ e1.Nodup ∧ (∀ b ∈ e1, w.heap.size ≤ b) ∧ Below w.heap.size w w3 ∧ (addT l X).length = l.length ∧ ∃ ys, w3.ownsRow w.heap.size 32 6 (.slice ua l.length uc) l.length ys) ∧ addB l X = false) := ⟨HNO.out w3 H3.out.2 hno, hno⟩
        have e50 : decide ((l.length : Int) = 50) = true := decide_eq_true (by omega)
        have e50' : ((l.length : Int) == 50) = true := by simp; omega
        have H50 : Hid (l.length = 50) := h50
        clear hno h50
        go_wp2_with fail
        rw [HF.out.2]
        obtain ⟨e1, q1, q2, q3, q4, q5, q6⟩ := HF.out.1
        exact bodyPost_ret (v := .tuple #[.slice ua l.length uc, .bool false]) (by simp [results, Try.results14, go_sem]) rfl ⟨⟨_, uc, e1, by rw [q5], q1, q2, q3, by rw [q5]; exact q6⟩, q4⟩
      · have hle := addB_le (x := X) HA.out
        have hyes : addB l X = true := by unfold addB; rw [HA.out, HT.out, decide_eq_true (by omega)]; rfl
        have HY : Hid (addB l X = true) := hyes
        have e50 : decide ((l.length : Int) = 50) = false := decide_eq_false (by omega)
        have e50' : ((l.length : Int) == 50) = false := by simp; omega
        have H50 : Hid (l.length < 50) := by show _ < _; omega
        clear hyes h50 hle
        obtain ⟨⟨d0, d1, d2, d3, d4, d5⟩, _⟩ := HQX.out w3 H3.out.1
        go_wp2_with (go_at_call 30; fail)
        refine (HCP.out w3 H3.out.1).mono ?_
        rintro e w4 ⟨va, vb, vc, vd, ve, vf, rfl, ⟨bt4, hr4, hbn4, hbl4⟩, hb4⟩
        have HBT : Hid ((∀ b ∈ bt4, w3.heap.size ≤ b ∧ b < w4.heap.size) ∧ bt4.Nodup) := ⟨fun b hb => ⟨hbl4 b hb, osV_lt hr4 b hb⟩, hbn4⟩
        obtain ⟨⟨c0, c1, c2, c3, c4, c5⟩, cf⟩ := HQX.out w4 (H3.out.1.trans (hb4.mono H3.out.1.size))
        have HB4 : Hid (Below w.heap.size w w4 ∧ Below w1.heap.size w1 w4 ∧ w.heap.size < w3.heap.size ∧ w3.heap.size ≤ w4.heap.size ∧ w1.heap.size ≤ w3.heap.size ∧ w.heap.size < w1.heap.size) := by
          have h := H3.out.1.trans (hb4.mono H3.out.1.size)
          have q1 := HBA.out.2
          have q2 := H3.out.1.size
          have q3 := H1.out.2.2.size
          exact ⟨HBA.out.1.trans (h.mono HBA.out.1.size), H3.out.2.trans (hb4.mono H3.out.2.size), by omega, hb4.size, H3.out.2.size, by omega⟩
        have HVE4 : Hid (VE eltS w4 ⟨a, p, t⟩ [.int .i64 a, .int .i64 p, .int .i64 va, .int .i64 vb, .string vc, .slice vd ve vf] (bt4)) := ve_timer (x := ⟨a, p, t⟩) hr4
        obtain ⟨w5, hw5⟩ : ∃ w5, w5 = (((w4.setCell ⟨w.heap.size, 2, none⟩ (.int .i64 va)).setCell ⟨w.heap.size, 3, none⟩ (.int .i64 vb)).setCell ⟨w.heap.size, 4, none⟩ (.string vc)).setCell ⟨w.heap.size, 5, none⟩ (.slice vd ve vf) := ⟨_, rfl⟩
        have ho5 : OutB [w.heap.size] w4 w5 := by rw [hw5]; exact ((((OutB.refl [w.heap.size] w4).set (by simp) 2 _).set (by simp) 3 _).set (by simp) 4 _).set (by simp) 5 _
        have HBX : Hid (∀ j v, ([.int .i64 a, .int .i64 p, .int .i64 va, .int .i64 vb, .string vc, .slice vd ve vf] : List Value)[j]? = some v → w5.cell? ⟨w.heap.size, j, none⟩ = some v) := by
          intro j v hj
          have hw5' : w5 = w4.setCells w.heap.size 2 [.int .i64 va, .int .i64 vb, .string vc, .slice vd ve vf] := hw5
          have hin := World.cell?_setCells_in w.heap.size [.int .i64 va, .int .i64 vb, .string vc, .slice vd ve vf] 2 w4 (fun j hj => by
            have hj' : j < 4 := hj
            match j, hj' with
            | 0, _ => rw [c2]; rfl
            | 1, _ => rw [c3]; rfl
            | 2, _ => rw [c4]; rfl
            | 3, _ => rw [c5]; rfl)
          have hout : ∀ i, i < 2 → w5.cell? ⟨w.heap.size, i, none⟩ = w4.cell? ⟨w.heap.size, i, none⟩ := fun i hi => by
            rw [hw5']; exact World.cell?_setCells_out w.heap.size _ 2 w4 ⟨w.heap.size, i, none⟩ (fun _ _ => .inl hi)
          obtain ⟨q1, q2⟩ := List.getElem?_eq_some_iff.1 hj
          have q1' : j < 6 := q1
          match j, q1' with
          | 0, _ => rw [hout 0 (by omega), c0]; exact hj
          | 1, _ => rw [hout 1 (by omega), c1]; exact hj
          | 2, _ => rw [hw5']; exact (hin 0 (by show 0 < 4; omega)).trans hj
          | 3, _ => rw [hw5']; exact (hin 1 (by show 1 < 4; omega)).trans hj
          | 4, _ => rw [hw5']; exact (hin 2 (by show 2 < 4; omega)).trans hj
          | 5, _ => rw [hw5']; exact (hin 3 (by show 3 < 4; omega)).trans hj
        have H5 : Hid (Below w.heap.size w w5 ∧ w4.heap.size ≤ w5.heap.size ∧ VE eltS w5 ⟨a, p, t⟩ [.int .i64 a, .int .i64 p, .int .i64 va, .int .i64 vb, .string vc, .slice vd ve vf] (bt4) ∧ Two eltS wa.heap.size (D ++ bt4) w5 (.slice ua l.length uc) (.slice none 0 0) l [] xs [] bs []) := by
          obtain ⟨z1, z2, z3, z4, z5, z6⟩ := HB4.out
          have zD := H1.out.2.1
          refine ⟨⟨ho5.os.trans z1.os, ho5.tape.trans z1.tape, ho5.output.trans z1.output, Nat.le_trans z1.size ho5.size, fun x hx => by rw [ho5.block x (Nat.lt_of_lt_of_le hx z1.size) (by simp; omega)]; exact z1.block x hx⟩, ho5.size, HVE4.out.keep ho5.size (fun x hx => ho5.block x (HBT.out.1 _ hx).2 (by have := (HBT.out.1 _ hx).1; simp; omega)), ?_⟩
          refine Two.keep (wr := w4) (Two.wide (H1.out.1.call z2) (fun b hb => (HBT.out.1 _ hb).2) (fun b hb => ⟨fun q => ?_, fun q => by cases q⟩)) ho5.size (fun b hb hm => ho5.block b hb ?_)
          · have := (own_base H1.out.1.r1 q).2
            have := (HBT.out.1 _ hb).1
            omega
          · have z7 := HBA.out.2
            rcases hm with hm | hm | hm
            · rcases List.mem_append.1 hm with hm | hm
              · have := zD b hm; simp; omega
              · have := (HBT.out.1 _ hm).1; simp; omega
            · have := (own_base H1.out.1.r1 hm).1; simp; omega
            · cases hm
        have HFIN : Hid (∀ v' w8, w8.ownsRow wa.heap.size 32 6 v' (l.length + 1) (xs ++ [.int .i64 a, .int .i64 p, .int .i64 va, .int .i64 vb, .string vc, .slice vd ve vf]) → (w5.alloc (.cells #[.int .i64 a, .int .i64 p, .int .i64 va, .int .i64 vb, .string vc, .slice vd ve vf] 32)).grownBy w8 (Value.slice ua l.length uc).ownBlock → (v'.ownBlock = (Value.slice ua l.length uc).ownBlock ∨ v'.ownBlock = some (w5.alloc (.cells #[.int .i64 a, .int .i64 p, .int .i64 va, .int .i64 vb, .string vc, .slice vd ve vf] 32)).heap.size) →
            ∃ g c b0 bx, v' = .slice (some ⟨g, 0, none⟩) (l.length + 1) c ∧ Shf w w8 w8 g l l.length b0 ∧ VE eltS w8 ⟨a, p, t⟩ [.int .i64 a, .int .i64 p, .int .i64 va, .int .i64 vb, .string vc, .slice vd ve vf] bx ∧ g ∉ bx ∧ (b0 ++ bx).Nodup ∧ (∀ b ∈ b0 ++ bx, w.heap.size ≤ b) ∧ (∀ j v, ([.int .i64 a, .int .i64 p, .int .i64 va, .int .i64 vb, .string vc, .slice vd ve vf] : List Value)[j]? = some v → w8.cell? ⟨w.heap.size, j, none⟩ = some v) ∧ w.heap.size ≠ g ∧ w.heap.size < w8.heap.size ∧ w8.ownsRow wa.heap.size 32 6 (.slice (some ⟨g, 0, none⟩) (l.length + 1) c) (l.length + 1) (xs ++ [.int .i64 a, .int .i64 p, .int .i64 va, .int .i64 vb, .string vc, .slice vd ve vf])) := fun v' w8 h1 h2 h3 => by
          have hal : Below w5.heap.size w5 (w5.alloc (.cells #[.int .i64 a, .int .i64 p, .int .i64 va, .int .i64 vb, .string vc, .slice vd ve vf] 32)) := (Below.refl _ _).alloc (Nat.le_refl _) _
          have hB7 := H5.out.1.trans (hal.mono H5.out.1.size)
          have hT7 := H5.out.2.2.2.call hal
          obtain ⟨z1, z2, z3, z4, z5, z6⟩ := HB4.out
          have z7 := HBA.out.2
          have z8 := hB7.size
          have z9 := h2.size
          have z10 := H5.out.2.1
          have z11 := hal.size
          have hnd : (bt4 ++ (bs ++ [])).Nodup := by
            rw [List.append_nil]
            refine List.nodup_append.2 ⟨HBT.out.2, by have := H1.out.1.nd; rw [List.append_nil] at this; exact this, fun x hx y hy q => ?_⟩
            have h9 := H1.out.1.dl y (H1.out.1.i1 y hy)
            have h8 := (HBT.out.1 _ hx).1
            omega
          have hT8 := hT7.more (H5.out.2.2.1.keep hal.size (fun x hx => hal.block x (Nat.lt_of_lt_of_le (HBT.out.1 _ hx).2 H5.out.2.1))) (fun b hb => List.mem_append_right _ hb) hnd h1 h2 h3
          obtain ⟨g, c, hv, hbg, hnc, hcm, hcl, hfr, hgl⟩ := owns_cells h1 (by omega)
          have hbe8 : Below w.heap.size w w8 := ⟨h2.os.trans hB7.os, h2.tape.trans hB7.tape, h2.output.trans hB7.output, Nat.le_trans hB7.size h2.size, fun b hb => (h2.block b (Nat.lt_of_lt_of_le hb hB7.size) (fun q => by have := (own_base hT7.r1 q.symm).1; omega)).trans (hB7.block b hb)⟩
          have hob : v'.ownBlock = some g := by rw [hv]; rfl
          have hgD := hT8.n1 g hob
          have hrow := VL.row 0 hT8.v1 (g := g) (fun j v hj => by rw [Nat.zero_add]; exact hcl j v hj)
          obtain ⟨ba, bt, bb, eb, r1, r2, r3⟩ := GR.split hrow
          rw [GR] at r3
          subst r3
          rw [List.append_nil] at eb
          rw [Nat.zero_add] at r2
          have hxl : xs.length = l.length * 6 := VL.len6 hT7.v1
          have hmem : ∀ b, b ∈ ba ++ bt → b ∈ D ++ bt4 := fun b hb => hT8.i1 b (by rw [eb]; exact hb)
          have hDl : ∀ b ∈ D ++ bt4, w.heap.size ≤ b := fun b hb => by
            rcases List.mem_append.1 hb with hb | hb
            · have := H1.out.2.1 b hb; omega
            · have := (HBT.out.1 _ hb).1; omega
          have hv6 : ∀ j v, ([.int .i64 a, .int .i64 p, .int .i64 va, .int .i64 vb, .string vc, .slice vd ve vf] : List Value)[j]? = some v → w8.cell? ⟨g, l.length * 6 + j, none⟩ = some v := fun j v hj => hcl _ v (by rw [List.getElem?_append_right (by omega), hxl, show l.length * 6 + j - l.length * 6 = j by omega]; exact hj)
          have hbox : w8.heap[w.heap.size]? = w5.heap[w.heap.size]? := (h2.block _ (by omega) (fun q => by have := (own_base hT7.r1 q.symm).1; omega)).trans (hal.block _ (by omega))
          refine ⟨g, c, ba, bt, hv, ⟨hbe8, by omega, hgl, hfr, fun j hj => ?_, ⟨ba, [], by simp, by rw [List.take_of_length_le (Nat.le_refl _)]; exact r1, by rw [List.drop_of_length_le (Nat.le_refl _), GR]⟩, fun hm => hgD (hmem g (List.mem_append_left _ hm)), fun b _ _ => rfl, Nat.le_refl _, fun _ _ _ xs0 h9 => ⟨xs0, h9⟩⟩, ve_s r2 _ rfl (fun j v hj hc => ?_), fun hm => hgD (hmem g (List.mem_append_right _ hm)), ?_, fun b hb => hDl b (hmem b hb), fun j v hj => by rw [World.cell?_of_block (w := w5) hbox]; exact HBX.out j v hj, by omega, by omega, by rw [← hv]; exact h1⟩
          · rw [hv6 j _ (List.getElem?_eq_getElem (by show j < 6; omega))]; rfl
          · have hj' : j < ([.int .i64 a, .int .i64 p, .int .i64 va, .int .i64 vb, .string vc, .slice vd ve vf] : List Value).length := hj
            have h9 := hv6 j _ (List.getElem?_eq_getElem hj')
            have hc' : w8.cell? ⟨g, l.length * 6 + j, none⟩ = some v := hc
            rw [h9] at hc'
            rw [List.getElem?_eq_getElem hj']; exact hc'
          · have := hT8.nd
            rw [List.append_nil, eb] at this
            exact this
        have HO7 : Hid ((w5.alloc (.cells #[.int .i64 a, .int .i64 p, .int .i64 va, .int .i64 vb, .string vc, .slice vd ve vf] 32)).ownsRow wa.heap.size 32 6 (.slice ua l.length uc) l.length xs ∧ wa.heap.size ≤ (w5.alloc (.cells #[.int .i64 a, .int .i64 p, .int .i64 va, .int .i64 vb, .string vc, .slice vd ve vf] 32)).heap.size) := by
          have z7 := HBA.out.2
          refine ⟨H5.out.2.2.2.r1.alloc _, ?_⟩
          have z1 := HB4.out.2.2.1
          have z2 := HB4.out.2.2.2.1
          have z3 := H5.out.2.1
          rw [World.size_alloc]; omega
        have HNW : Hid (∀ j u, ([.int .i64 a, .int .i64 p, .int .i64 va, .int .i64 vb, .string vc, .slice vd ve vf] : List Value)[j]? = some u → (w5.alloc (.cells #[.int .i64 a, .int .i64 p, .int .i64 va, .int .i64 vb, .string vc, .slice vd ve vf] 32)).cell? ((⟨w4.heap.size, 0, none⟩ : Addr).add j) = some u) := by
          have hz6 : w5.heap.size = w4.heap.size := by rw [hw5]; simp only [World.size_setCell]
          rw [← hz6]; exact sixCells
        have HOR : Hid (ordB l = true) := addB_ord HA.out
        have HTY : Hid (addT l X = insT l ⟨a, p, t⟩) := by show _ = _; rw [addT_yes HY.out, HX.out]
        have C3 : Hid (l.length + 1 ≤ maxLen) := by have := H50.out; show _ ≤ _; unfold maxLen; omega
        have C4 : Hid ((l.length + 1) * 72 ≤ 140737488355328) := by have := H50.out; show _ ≤ _; omega
        obtain ⟨i0, hi0⟩ := HI.out
        have HI0 : Hid (Try.prog.info? 32 = some i0 ∧ i0.zero = some (.agg #[.int .i64 0, .int .i64 0, .int .i64 0, .int .i64 0, .string ⟨#[]⟩, .slice none 0 0]) ∧ i0.size = 6 ∧ i0.bytes = 72) := hi0
        clear HI hi0 H5 HBX HVE4 HQX HCP H1 H2 H3 HNO HOK' HIR' HLL
        subst hw5
        clear hb4 hr4 hbn4 hbl4 ho5 d0 d1 d2 d3 d4 d5
        go_wp2_with (at_builtin; refine wpList_append_own_at _ rfl _ _ 24 rfl wa.heap.size 32 i0 (.agg #[.int .i64 0, .int .i64 0, .int .i64 0, .int .i64 0, .string ⟨#[]⟩, .slice none 0 0]) 6 72 undTimerS HI0.out.1 HI0.out.2.1 HI0.out.2.2.1 HI0.out.2.2.2 rfl (by decide) (.slice ua l.length uc) l.length xs rfl HO7.out.1 ⟨w4.heap.size, 0, none⟩ 1 1 [.int .i64 a, .int .i64 p, .int .i64 va, .int .i64 vb, .string vc, .slice vd ve vf] rfl rfl HNW.out sixOne C3.out C4.out HO7.out.2 ?_; intro v8 w8 hown8 hgr8 hnn8 hat8; have HG8 := hid (HFIN.out v8 w8 hown8 hgr8 hat8); clear hown8 hgr8 hnn8 hat8)
        obtain ⟨g, c, b0, bx, rfl, hsh, hvx, hgx, hnd, hlo, hbox, hng, hwz, hrw8⟩ := HG8.out
        have HRW : Hid (w8.ownsRow wa.heap.size 32 6 (.slice (some ⟨g, 0, none⟩) (l.length + 1) c) (l.length + 1) (xs ++ [.int .i64 a, .int .i64 p, .int .i64 va, .int .i64 vb, .string vc, .slice vd ve vf]) ∧ wa.heap.size = w.heap.size + 1) := ⟨hrw8, HBA.out.2⟩
        have HEX : Hid (∀ wr k, k ≤ l.length → Shf w w8 wr g l k b0 → Tr.Place l a k → ((∃ e1, GL eltS (wr.setCells g (k * 6) [.int .i64 a, .int .i64 p, .int .i64 va, .int .i64 vb, .string vc, .slice vd ve vf]) (addT l X) e1 (some ⟨g, 0, none⟩) ∧ e1.Nodup ∧ ∀ b ∈ e1, w.heap.size ≤ b) ∧ Below w.heap.size w (wr.setCells g (k * 6) [.int .i64 a, .int .i64 p, .int .i64 va, .int .i64 vb, .string vc, .slice vd ve vf])) ∧ (addT l X).length = l.length + 1 ∧ ∃ ys, (wr.setCells g (k * 6) [.int .i64 a, .int .i64 p, .int .i64 va, .int .i64 vb, .string vc, .slice vd ve vf]).ownsRow w.heap.size 32 6 (.slice (some ⟨g, 0, none⟩) (l.length + 1) c) (l.length + 1) ys) := fun wr k hk h hp => by
          rw [HTY.out]
          have hpe := hp.eq
          refine ⟨?_, insT_length _ _, ?_⟩
          rotate_left
          · obtain ⟨ys, h8⟩ := h.own _ _ _ _ HRW.out.1
            obtain ⟨zs, h7⟩ := own_setCells [.int .i64 a, .int .i64 p, .int .i64 va, .int .i64 vb, .string vc, .slice vd ve vf] (k * 6) wr ys h8
            exact ⟨zs, own_low h7 (by have := HRW.out.2; omega)⟩
          have := h.fin hk (hvx.keep h.sz (fun b hb => h.blk b (fun q => hgx (by rw [← q]; exact hb)) (hvx.2.1 b hb))) hgx hnd hlo
          unfold insT
          show (∃ e1, GL eltS _ (putAt l (plc l a) ⟨a, p, t⟩) e1 _ ∧ _) ∧ _
          rw [← hpe]; exact this
        have HBC : Hid (∀ wr k, Shf w w8 wr g l k b0 → ∀ j v, ([.int .i64 a, .int .i64 p, .int .i64 va, .int .i64 vb, .string vc, .slice vd ve vf] : List Value)[j]? = some v → wr.cell? ⟨w.heap.size, j, none⟩ = some v) := fun wr k h j v hj => by
          rw [World.cell?_of_block (w := w8) (h.blk _ hng hwz)]; exact hbox j v hj
        have HSH : Hid (Shf w w8 w8 g l l.length b0) := hsh
        clear HG8 hsh hvx hgx hnd hlo hbox hng hwz hrw8 HFIN HO7 HNW C3 C4 HI0 HTY
        go_loopw [7] (fun i wr => ∃ k : Nat, k ≤ l.length ∧ i = .int .i64 k ∧ Shf w w8 wr g l k b0 ∧ ∀ t, k ≤ t → (h : t < l.length) → a < l[t].kind) (fun i _ => (intOf i).toNat)
        case atStart => exact ⟨l.length, Nat.le_refl _, rfl, HSH.out, fun t h1 h2 => by omega⟩
        case round =>
          obtain ⟨K, hK, rfl, hS, hlate⟩ := hrel
          have HS : Hid (Shf w w8 wr g l K b0) := hS
          have HLT : Hid (∀ t, K ≤ t → (h : t < l.length) → a < l[t].kind) := hlate
          clear hS hlate
          have HBI : Hid (∀ w7, (∃ x : Inn wr, w7 = x.val) → Shf w w8 w7 g l K b0) := fun w7 ⟨x7, h7⟩ => by
            have : Below wr.heap.size wr w7 := by rw [h7]; exact x7.bel
            exact HS.out.call this
          haveI := inn_ne wr
          clear c0 c1 c2 c3 c4 c5 cf e50 e50'
          have c0 := Inn.keep (HBC.out wr K HS.out 0 _ rfl)
          rcases Nat.eq_zero_or_pos K with hk0 | hk0
          · have HPL : Hid (Tr.Place l a K) := ⟨hK, fun t ht _ => by omega, HLT.out⟩
            have e9 : decide ((K : Int) > 0) = false := decide_eq_false (by omega)
            have e9' : decide ((0 : Int) < (K : Int)) = false := decide_eq_false (by omega)
            have e9'' : decide (0 < K) = false := decide_eq_false (by omega)
            clear hk0
            go_wp2_with fail
            refine wp_region_inn ?_ ?_ ?_
            · kernel_rfl
            · kernel_rfl
            repeat (go_big_quiet_step (fail))
            refine wpQuiet_nil ?_
            intro w7 h7
            have H7 : Hid (Shf w w8 w7 g l K b0) := HBI.out w7 h7
            clear h7 c0
            obtain ⟨hd0, hd1, hd2, hd3, hd4, hd5⟩ : w7.cell? ⟨w.heap.size, 0, none⟩ = some (.int .i64 a) ∧ w7.cell? ⟨w.heap.size, 1, none⟩ = some (.int .i64 p) ∧ w7.cell? ⟨w.heap.size, 2, none⟩ = some (.int .i64 va) ∧ w7.cell? ⟨w.heap.size, 3, none⟩ = some (.int .i64 vb) ∧ w7.cell? ⟨w.heap.size, 4, none⟩ = some (.string vc) ∧ w7.cell? ⟨w.heap.size, 5, none⟩ = some (.slice vd ve vf) := ⟨HBC.out w7 K H7.out 0 _ rfl, HBC.out w7 K H7.out 1 _ rfl, HBC.out w7 K H7.out 2 _ rfl, HBC.out w7 K H7.out 3 _ rfl, HBC.out w7 K H7.out 4 _ rfl, HBC.out w7 K H7.out 5 _ rfl⟩
            obtain ⟨x0, hs0⟩ : ∃ x, w7.cell? ⟨g, K * 6, none⟩ = some x := Option.isSome_iff_exists.1 (H7.out.mid 0 (by omega))
            obtain ⟨x1, hs1⟩ := Option.isSome_iff_exists.1 (H7.out.mid 1 (by omega))
            obtain ⟨x2, hs2⟩ := Option.isSome_iff_exists.1 (H7.out.mid 2 (by omega))
            obtain ⟨x3, hs3⟩ := Option.isSome_iff_exists.1 (H7.out.mid 3 (by omega))
            obtain ⟨x4, hs4⟩ := Option.isSome_iff_exists.1 (H7.out.mid 4 (by omega))
            obtain ⟨x5, hs5⟩ := Option.isSome_iff_exists.1 (H7.out.mid 5 (by omega))
            have hf := H7.out.free
            have HF := hid (HEX.out w7 K hK H7.out HPL.out)
            go_wp2_with fail
            rw [HY.out]
            obtain ⟨⟨⟨e1, q1, q2, q3⟩, q4⟩, q5, q6⟩ := HF.out
            exact bodyPost_ret (v := .tuple #[.slice (some ⟨g, 0, none⟩) (l.length + 1) c, .bool true]) (by simp [results, Try.results14, go_sem]) rfl ⟨⟨_, c, e1, by rw [q5], q1, q2, q3, by rw [q5]; exact q6⟩, q4⟩
          · obtain ⟨m, hm⟩ : ∃ m, K = m + 1 := ⟨K - 1, by omega⟩
            have hml : m < l.length := by omega
            have HE : Hid (∀ wc, Shf w w8 wc g l K b0 → ∃ bt, eltS.E wc l[m] bt g (m * 6)) := fun wc h => by
              rw [hm] at h; exact h.elt hml
            have HSTEP : Hid (∀ wc vs, Shf w w8 wc g l K b0 → vs.length = 6 → (∀ j v, vs[j]? = some v → wc.cell? ⟨g, m * 6 + j, none⟩ = some v) → Shf w w8 (wc.setCells g (K * 6) vs) g l m b0) := fun wc vs h h1 h2 => by
              rw [hm] at h ⊢; exact h.step hml vs h1 h2
            have HP : Hid (l[m].kind ≤ a → Tr.Place l a K) := fun hq => ⟨hK, fun t ht h2 => by
              have h3 := ord_le HOR.out t (m - t) (by omega)
              simp only [show t + (m - t) = m by omega] at h3
              omega, HLT.out⟩
            have HLM : Hid (a < l[m].kind → ∀ t, m ≤ t → (h : t < l.length) → a < l[t].kind) := fun hq t h1 h2 => by
              rcases Nat.eq_or_lt_of_le h1 with h3 | h3
              · subst h3; exact hq
              · exact HLT.out t (by omega) h2
            obtain ⟨bt, hE0, _⟩ := HE.out wr HS.out
            have c6 := Inn.keep hE0
            have em : IntKind.i64.wrap ((K : Int) - 1) = (m : Int) := by have := H50.out; rw [IntKind.wrap_i64]; omega
            have HMK : Hid (m ≤ l.length ∧ K = m + 1) := ⟨by omega, hm⟩
            have hm1 : m < l.length + 1 := by omega
            have hK1 : K < l.length + 1 := by omega
            have e9 : decide ((K : Int) > 0) = true := decide_eq_true (by omega)
            have e9' : decide ((0 : Int) < (K : Int)) = true := decide_eq_true (by omega)
            have e9'' : decide (0 < K) = true := decide_eq_true (by omega)
            clear hE0 hm hk0
            generalize hy : l[m].kind = y at *
            by_cases hay : a < y
            · have HLM' := hid (HLM.out hay)
              have e8 : decide (y > a) = true := decide_eq_true hay
              have e8' : decide (a < y) = true := decide_eq_true hay
              go_wp2_with fail
              refine wp_region_inn ?_ ?_ ?_
              · kernel_rfl
              · kernel_rfl
              repeat (go_big_quiet_step (fail))
              refine wpQuiet_nil ?_
              intro w7 h7
              have H7 : Hid (Shf w w8 w7 g l K b0) := HBI.out w7 h7
              clear h7 c0 c6
              obtain ⟨bt7, h0, h1, h3⟩ := HE.out w7 H7.out
              obtain ⟨yk, yn, ys, yao, ylen, ycap, r0, r1, r2, r3, _⟩ := (OsT.rep _ _ _ _ h3).cells
              have HN : Hid (Shf w w8 (w7.setCells g (K * 6) [.int .i64 l[m].kind, .int .i64 l[m].pid, .int .i64 yk, .int .i64 yn, .string ys, .slice yao ylen ycap]) g l m b0) := HSTEP.out w7 _ H7.out rfl (fun j v hj => by
                obtain ⟨q1, q2⟩ := List.getElem?_eq_some_iff.1 hj
                have q1' : j < 6 := q1
                match j, q1' with
                | 0, _ => exact h0.trans hj
                | 1, _ => exact h1.trans hj
                | 2, _ => exact r0.trans hj
                | 3, _ => exact r1.trans hj
                | 4, _ => exact r2.trans hj
                | 5, _ => exact r3.trans hj)
              obtain ⟨x0, hs0⟩ : ∃ x, w7.cell? ⟨g, K * 6, none⟩ = some x := Option.isSome_iff_exists.1 (H7.out.mid 0 (by omega))
              obtain ⟨x1, hs1⟩ := Option.isSome_iff_exists.1 (H7.out.mid 1 (by omega))
              obtain ⟨x2, hs2⟩ := Option.isSome_iff_exists.1 (H7.out.mid 2 (by omega))
              obtain ⟨x3, hs3⟩ := Option.isSome_iff_exists.1 (H7.out.mid 3 (by omega))
              obtain ⟨x4, hs4⟩ := Option.isSome_iff_exists.1 (H7.out.mid 4 (by omega))
              obtain ⟨x5, hs5⟩ := Option.isSome_iff_exists.1 (H7.out.mid 5 (by omega))
              have hf := H7.out.free
              generalize l[m].kind = yy at *
              generalize l[m].pid = yp at *
              clear h3 hay hy
              go_wp2_with fail
              go_roundw
              case rel => exact ⟨m, HMK.out.1, by go_num, HN.out, HLM'.out⟩
              case measure => have := HMK.out.2; simp [intOf]; omega
            · have HPL := hid (HP.out (by omega))
              have e8 : decide (y > a) = false := decide_eq_false hay
              have e8' : decide (a < y) = false := decide_eq_false hay
              go_wp2_with fail
              refine wp_region_inn ?_ ?_ ?_
              · kernel_rfl
              · kernel_rfl
              repeat (go_big_quiet_step (fail))
              refine wpQuiet_nil ?_
              intro w7 h7
              have H7 : Hid (Shf w w8 w7 g l K b0) := HBI.out w7 h7
              clear h7 c0 c6
              obtain ⟨hd0, hd1, hd2, hd3, hd4, hd5⟩ : w7.cell? ⟨w.heap.size, 0, none⟩ = some (.int .i64 a) ∧ w7.cell? ⟨w.heap.size, 1, none⟩ = some (.int .i64 p) ∧ w7.cell? ⟨w.heap.size, 2, none⟩ = some (.int .i64 va) ∧ w7.cell? ⟨w.heap.size, 3, none⟩ = some (.int .i64 vb) ∧ w7.cell? ⟨w.heap.size, 4, none⟩ = some (.string vc) ∧ w7.cell? ⟨w.heap.size, 5, none⟩ = some (.slice vd ve vf) := ⟨HBC.out w7 K H7.out 0 _ rfl, HBC.out w7 K H7.out 1 _ rfl, HBC.out w7 K H7.out 2 _ rfl, HBC.out w7 K H7.out 3 _ rfl, HBC.out w7 K H7.out 4 _ rfl, HBC.out w7 K H7.out 5 _ rfl⟩
              obtain ⟨x0, hs0⟩ : ∃ x, w7.cell? ⟨g, K * 6, none⟩ = some x := Option.isSome_iff_exists.1 (H7.out.mid 0 (by omega))
              obtain ⟨x1, hs1⟩ := Option.isSome_iff_exists.1 (H7.out.mid 1 (by omega))
              obtain ⟨x2, hs2⟩ := Option.isSome_iff_exists.1 (H7.out.mid 2 (by omega))
              obtain ⟨x3, hs3⟩ := Option.isSome_iff_exists.1 (H7.out.mid 3 (by omega))
              obtain ⟨x4, hs4⟩ := Option.isSome_iff_exists.1 (H7.out.mid 4 (by omega))
              obtain ⟨x5, hs5⟩ := Option.isSome_iff_exists.1 (H7.out.mid 5 (by omega))
              have hf := H7.out.free
              have HF := hid (HEX.out w7 K hK H7.out HPL.out)
              go_wp2_with fail
              rw [HY.out]
              obtain ⟨⟨⟨e1, q1, q2, q3⟩, q4⟩, q5, q6⟩ := HF.out
              exact bodyPost_ret (v := .tuple #[.slice (some ⟨g, 0, none⟩) (l.length + 1) c, .bool true]) (by simp [results, Try.results14, go_sem]) rfl ⟨⟨_, c, e1, by rw [q5], q1, q2, q3, by rw [q5]; exact q6⟩, q4⟩
end Go.Proofs.Ytimnnedmpmlmdaa.Tv
namespace Go.Proofs.Ytimnnedmpmlmdaa.Tv
open Go.RowKit Atom
open Go.Proofs.Ytimnnedmpmlmdaa.Tr
set_option linter.unusedVariables false

def SdOk (x : Sd) : Prop := (0 ≤ x.kind ∧ x.kind ≤ 1000000000) ∧ (1 ≤ x.pid ∧ x.pid ≤ 3) ∧ RtT 1 x.t
theorem atoms_small : ∀ z ∈ drawnAtoms, z.size ≤ 1048576 := fun z hz => by
  simp only [drawnAtoms, List.mem_cons, List.not_mem_nil, or_false] at hz
  rcases hz with rfl | rfl | rfl | rfl <;> decide
theorem wf_sts : ∀ t : Tm, WfT t → StS t := by
  refine Tm.ind ?_
  intro k n s l ih h
  rw [WfT] at h
  rw [StS]
  refine ⟨?_, by have := h.2.1; omega, fun t ht => ih t ht (h.2.2 t ht)⟩
  rcases h.1 with ⟨_, rfl, _⟩ | ⟨_, _, _, h⟩ | ⟨_, rfl, _⟩ | ⟨_, _, rfl⟩ | ⟨_, _, _, h⟩
  · exact Nat.zero_le _
  · exact atoms_small s h
  · exact Nat.zero_le _
  · exact Nat.zero_le _
  · omega

def sixB : List Int := [0, 1, 2, 3, 9, 1000000000]
set_option maxRecDepth 100000 in
set_option maxHeartbeats 2000000 in
theorem one_any (cb : Nat) (ao : Option Addr) (len cap : Nat) (zs : List Int) (w : World) (hc : Cur cb ao len cap zs w) :
    Calls Try.prog 32 #[.pointer (some ⟨cb, 0, none⟩)] w fun e w' => ∃ (x : Sd) (tk tn : Int) (ts : ByteArray) (tao : Option Addr) (tlen tcap : Nat), e = .returned (sdV x.kind x.pid tk tn ts tao tlen tcap) ∧ OwV w' w.heap.size x.t (.agg #[.int .i64 tk, .int .i64 tn, .string ts, .slice tao tlen tcap]) ∧ SdOk x ∧ Drawn cb ao len cap zs w w' := by
  have HC : Hid (Cur cb ao len cap zs w) := hc
  have hcb := hc.lt
  clear hc
  go_enter Try.func32, Try.ntmps32
  go_wp2_with fail
  refine (int_any cb ao len cap zs _ ((HC.out.alloc _).alloc _) (w.heap.size + 1) sixB (by omega) (by decide) (by decide) ?_).mono ?_
  · intro j hj
    have hj' : j < 6 := hj
    have hz : (w.alloc (.cells #[.int .i64 0, .int .i64 0, .int .i64 0, .int .i64 0, .string ⟨#[]⟩, .slice none 0 0] 32)).heap.size = w.heap.size + 1 := World.size_alloc _ _
    rw [← hz, World.cell?_alloc_new]
    have : j = 0 ∨ j = 1 ∨ j = 2 ∨ j = 3 ∨ j = 4 ∨ j = 5 := by omega
    rcases this with rfl | rfl | rfl | rfl | rfl | rfl <;> rfl
  rintro e w3 ⟨a, rfl, ha, hd3⟩
  have ha2 : 0 ≤ a ∧ a ≤ 1000000000 := by
    simp only [sixB, List.mem_cons, List.not_mem_nil, or_false] at ha
    omega
  have ht3 : Turn cb (w.alloc (.cells #[.int .i64 0, .int .i64 0, .int .i64 0, .int .i64 0, .string ⟨#[]⟩, .slice none 0 0] 32)) w3 := ((Turn.refl _ _).alloc _).trans hd3.2
  obtain ⟨hz3, q3, f3⟩ := turn_new hcb ht3
  have HD3 : Hid (Drawn cb ao len cap zs w w3) := (((Drawn.refl HC.out).alloc _).alloc _).trans hd3
  have HA : Hid (0 ≤ a ∧ a ≤ 1000000000) := ha2
  clear ha hd3 ht3 ha2
  go_wp2_with fail
  refine (below_any cb ao len cap zs w3 HD3.out.1 3 (by decide) (by decide)).mono ?_
  rintro e w4 ⟨y, rfl, hy0, hy1, hd4⟩
  obtain ⟨q4, f4⟩ := hd4.2.kept (by omega) (by omega) q3 f3
  have HD4 : Hid (Drawn cb ao len cap zs w w4 ∧ w.heap.size + 1 ≤ w4.heap.size) := ⟨HD3.out.trans hd4, Nat.le_trans hz3 hd4.2.size⟩
  clear hd4 q3 f3
  go_wp2_with fail
  refine (drO_all cb ao len cap zs 1 (by decide) w4 HD4.out.1.1).mono ?_
  rintro e w5 ⟨t, v, rfl, ⟨bs, hos, hnd, hlo⟩, hrt, hd5⟩
  obtain ⟨tk, tn, ts, tao, tlen, tcap, rfl⟩ := hos.form
  obtain ⟨q5, f5⟩ := hd5.2.kept (by omega) (by have := HD4.out.2; omega) q4 f4
  have hz4 := HD4.out.2
  have HFIN : Hid (OwV ((((((w5.setCell ⟨w.heap.size, 0, none⟩ (.int .i64 a)).setCell ⟨w.heap.size, 1, none⟩ (.int .i64 (1 + y))).setCell ⟨w.heap.size, 2, none⟩ (.int .i64 tk)).setCell ⟨w.heap.size, 3, none⟩ (.int .i64 tn)).setCell ⟨w.heap.size, 4, none⟩ (.string ts)).setCell ⟨w.heap.size, 5, none⟩ (.slice tao tlen tcap)) w.heap.size t (.agg #[.int .i64 tk, .int .i64 tn, .string ts, .slice tao tlen tcap]) ∧ SdOk ⟨a, 1 + y, t⟩ ∧ Drawn cb ao len cap zs w ((((((w5.setCell ⟨w.heap.size, 0, none⟩ (.int .i64 a)).setCell ⟨w.heap.size, 1, none⟩ (.int .i64 (1 + y))).setCell ⟨w.heap.size, 2, none⟩ (.int .i64 tk)).setCell ⟨w.heap.size, 3, none⟩ (.int .i64 tn)).setCell ⟨w.heap.size, 4, none⟩ (.string ts)).setCell ⟨w.heap.size, 5, none⟩ (.slice tao tlen tcap))) := by
    refine ⟨⟨bs, OsV.keep (fun x hx _ => ?_) hos, hnd, fun b hb => by have := hlo b hb; omega⟩, ⟨HA.out, ⟨by show 1 ≤ 1 + y; omega, by show 1 + y ≤ 3; omega⟩, hrt⟩, ?_⟩
    · have hne : x ≠ w.heap.size := by have := hlo x hx; omega
      rw [Below.heap_setCell _ ⟨w.heap.size, 5, none⟩ _ x hne, Below.heap_setCell _ ⟨w.heap.size, 4, none⟩ _ x hne, Below.heap_setCell _ ⟨w.heap.size, 3, none⟩ _ x hne, Below.heap_setCell _ ⟨w.heap.size, 2, none⟩ _ x hne, Below.heap_setCell _ ⟨w.heap.size, 1, none⟩ _ x hne, Below.heap_setCell _ ⟨w.heap.size, 0, none⟩ _ x hne]
    · exact ((((((HD4.out.1.trans hd5).set hcb (Nat.le_refl _) 0 _).set hcb (Nat.le_refl _) 1 _).set hcb (Nat.le_refl _) 2 _).set hcb (Nat.le_refl _) 3 _).set hcb (Nat.le_refl _) 4 _).set hcb (Nat.le_refl _) 5 _
  clear hos hnd hlo hrt hd5 q4 f4
  go_wp2_with fail
  refine bodyPost_ret (v := sdV a (1 + y) tk tn ts tao tlen tcap) (by simp [results, Try.results32, go_sem, q5]) rfl ⟨⟨a, 1 + y, t⟩, tk, tn, ts, tao, tlen, tcap, rfl, HFIN.out.1, HFIN.out.2.1, HFIN.out.2.2⟩

theorem addT_ok {l : List Sd} {x : Sd} (h : ∀ y ∈ l, SdOk y) (hx : SdOk x) : ∀ y ∈ addT l x, SdOk y := fun y hy => by
  unfold addT at hy
  split at hy
  · unfold insT putAt at hy
    rcases List.mem_append.1 hy with hy | hy
    · exact h y (List.mem_of_mem_take hy)
    · rcases List.mem_cons.1 hy with rfl | hy
      · exact hx
      · exact h y (List.mem_of_mem_drop hy)
  · exact h y hy
theorem addT_len (l : List Sd) (x : Sd) : (addT l x).length ≤ l.length + 1 := by
  unfold addT
  split
  · rw [insT_length]; exact Nat.le_refl _
  · omega
/-- Timers in a row of its own, each in blocks of its own, all of them from lo on. -/
structure AR (w : World) (lo : Nat) (u : Value) (l : List Sd) (xs : List Value) (bs : List Nat) : Prop where
  own : w.ownsRow lo 32 6 u l.length xs
  row : VL eltS w l xs bs
  nd : bs.Nodup
  lob : ∀ b ∈ bs, lo ≤ b ∧ u.ownBlock ≠ some b
theorem vl_of {w : World} {g : Nat} : ∀ (l : List Sd) (bs : List Nat) (off : Nat) (xs : List Value), GR eltS w l bs g off → xs.length = l.length * 6 → (∀ j v, xs[j]? = some v → w.cell? ⟨g, off + j, none⟩ = some v) → VL eltS w l xs bs
  | [], bs, off, xs, h, hl, _ => by
    rw [GR] at h
    exact ⟨List.length_eq_zero_iff.1 (by simpa using hl), h⟩
  | x :: r, bs, off, xs, h, hl, hc => by
    rw [GR] at h
    obtain ⟨b1, b2, e, h1, h2⟩ := h
    rw [List.length_cons] at hl
    refine ⟨xs.take 6, xs.drop 6, b1, b2, (List.take_append_drop 6 xs).symm, e, ve_s h1 (xs.take 6) (by rw [List.length_take]; omega) (fun j v hj hv => ?_), vl_of r b2 (off + 6) (xs.drop 6) h2 (by rw [List.length_drop]; omega) (fun j v hj => ?_)⟩
    · have h3 : j < xs.length := by omega
      have h4 := hc j _ (List.getElem?_eq_getElem h3)
      have hv' : w.cell? ⟨g, off + j, none⟩ = some v := hv
      rw [h4] at hv'
      rw [List.getElem?_take, if_pos hj, List.getElem?_eq_getElem h3]; exact hv'
    · rw [List.getElem?_drop] at hj
      rw [Nat.add_assoc]; exact hc (6 + j) v hj
theorem AR.of_gl {w : World} {lo c : Nat} {l : List Sd} {a : Option Addr} {e : List Nat} {ys : List Value} (h : GL eltS w l e a) (hn : e.Nodup) (hlo : ∀ b ∈ e, lo ≤ b) (ho : w.ownsRow lo 32 6 (.slice a l.length c) l.length ys) : ∃ bs, AR w lo (.slice a l.length c) l ys bs := by
  rcases h with ⟨rfl, rfl⟩ | ⟨hl, g, o, b, rfl, rfl, hf, hr⟩
  · exact ⟨[], ho, ⟨List.length_eq_zero_iff.1 (by simpa using ho.1), rfl⟩, List.nodup_nil, fun b hb => by cases hb⟩
  · obtain ⟨g', c', hv, hg', _, _, hcell, _, _⟩ := owns_cells ho (fun h => hl (List.length_eq_zero_iff.1 h))
    injection hv with hv1 _ _
    injection hv1 with hv2
    injection hv2 with hv3 hv4 _
    subst hv3
    subst hv4
    rw [List.nodup_cons] at hn
    refine ⟨b, ho, vl_of l b 0 ys hr ho.1 (fun j v hj => by rw [Nat.zero_add]; exact hcell j v hj), hn.2, fun x hx => ⟨hlo x (List.mem_cons_of_mem _ hx), fun q => ?_⟩⟩
    have q1 : some g = some x := q
    injection q1 with q1
    rw [q1] at hn
    exact hn.1 hx
theorem AR.form {w : World} {lo : Nat} {u : Value} {l : List Sd} {xs : List Value} {bs : List Nat} (h : AR w lo u l xs bs) : ∃ a c, u = .slice a l.length c := by
  rcases h.own.2 with ⟨rfl, h0⟩ | ⟨g, cap, cur, rfl, _⟩
  · exact ⟨none, 0, by rw [h0]⟩
  · exact ⟨_, _, rfl⟩
theorem AR.gl {w : World} {lo c : Nat} {l : List Sd} {a : Option Addr} {xs : List Value} {bs : List Nat} (h : AR w lo (.slice a l.length c) l xs bs) : ∃ e, GL eltS w l e a ∧ e.Nodup ∧ ∀ b ∈ e, lo ≤ b := by
  obtain ⟨a', c', e1, _, _, bs', hg, hb, hn⟩ := VL.gl h.row h.own
  cases e1
  refine ⟨bs', hg, hn h.nd (fun b hb => (h.lob b hb).2), fun b hbm => ?_⟩
  rcases hb b hbm with q | q
  · exact (h.lob b q).1
  · exact (own_base h.own q).1
theorem AR.turn {w w1 : World} {cb lo : Nat} {u : Value} {l : List Sd} {xs : List Value} {bs : List Nat} (h : AR w lo u l xs bs) (t : Turn cb w w1) (hcb : cb < lo) : AR w1 lo u l xs bs :=
  ⟨own_keep h.own (fun g hg => t.block g (own_base h.own hg).2 (by have := (own_base h.own hg).1; omega)), h.row.keep t.size (fun x hx => t.block x (VL.lt h.row x hx) (by have := (h.lob x hx).1; omega)), h.nd, h.lob⟩
theorem AR.more {w w1 w2 : World} {lo : Nat} {u v' : Value} {l : List Sd} {xs : List Value} {bs bx : List Nat} {x : Sd} {tk tn : Int} {ts : ByteArray} {tao : Option Addr} {tlen tcap : Nat} (h : AR w1 lo u l xs bs) (hx : OsV w1 bx x.t (.agg #[.int .i64 tk, .int .i64 tn, .string ts, .slice tao tlen tcap])) (hbn : bx.Nodup) (hb0 : ∀ b ∈ bx, w.heap.size ≤ b) (hw : lo ≤ w.heap.size) (hbs : ∀ b ∈ bs, b < w.heap.size) (hbu : ∀ g, u.ownBlock = some g → g < w.heap.size) {o : Obj}
    (hown : w2.ownsRow lo 32 6 v' (l.length + 1) (xs ++ [.int .i64 x.kind, .int .i64 x.pid, .int .i64 tk, .int .i64 tn, .string ts, .slice tao tlen tcap])) (hgr : (w1.alloc o).grownBy w2 u.ownBlock) (hat : v'.ownBlock = u.ownBlock ∨ v'.ownBlock = some (w1.alloc o).heap.size) :
    AR w2 lo v' (l ++ [x]) (xs ++ [.int .i64 x.kind, .int .i64 x.pid, .int .i64 tk, .int .i64 tn, .string ts, .slice tao tlen tcap]) (bs ++ bx) := by
  have hs1 : (w1.alloc o).heap.size = w1.heap.size + 1 := World.size_alloc _ _
  have hxl := osV_lt hx
  have hk : ∀ b, b < w1.heap.size → u.ownBlock ≠ some b → w2.heap[b]? = w1.heap[b]? := fun b hb hu => by
    rw [hgr.block b (by rw [hs1]; omega) (fun q => hu q.symm)]
    show (w1.heap.push o)[b]? = _
    rw [Array.getElem?_push, if_neg (by omega)]
  have hne : ∀ b ∈ bs ++ bx, u.ownBlock ≠ some b ∧ b < w1.heap.size := fun b hb => by
    rcases List.mem_append.1 hb with hb | hb
    · exact ⟨(h.lob b hb).2, VL.lt h.row b hb⟩
    · exact ⟨fun q => by have := hbu b q; have := hb0 b hb; omega, hxl b hb⟩
  refine ⟨by rw [List.length_append]; exact hown, ?_, ?_, fun b hb => ⟨?_, fun q => ?_⟩⟩
  · exact (VL.snoc (ve_timer hx) h.row).keep (by have := hgr.size; omega) (fun b hb => hk b (hne b hb).2 (hne b hb).1)
  · exact List.nodup_append.2 ⟨h.nd, hbn, fun y hy z hz q => by have := hbs y hy; have := hb0 z hz; omega⟩
  · rcases List.mem_append.1 hb with hb | hb
    · exact (h.lob b hb).1
    · have := hb0 b hb; omega
  · rcases hat with ha | ha
    · exact (hne b hb).1 (by rw [← ha]; exact q)
    · rw [ha] at q
      injection q with q
      have := (hne b hb).2
      omega
set_option maxRecDepth 100000 in
set_option maxHeartbeats 2000000 in
theorem draw_any (cb : Nat) (ao : Option Addr) (len cap : Nat) (zs : List Int) (w : World) (hc : Cur cb ao len cap zs w) :
    Calls Try.prog 31 #[.pointer (some ⟨cb, 0, none⟩)] w fun e w' => ∃ (l : List Sd) (a : Option Addr) (c : Nat) (xs : List Value) (bs : List Nat), e = .returned (.slice a l.length c) ∧ l.length ≤ 6 ∧ AR w' w.heap.size (.slice a l.length c) l xs bs ∧ (∀ x ∈ l, SdOk x) ∧ Drawn cb ao len cap zs w w' := by
  have HC : Hid (Cur cb ao len cap zs w) := hc
  have hcb := hc.lt
  clear hc
  go_enter Try.func31, Try.ntmps31
  go_wp2_with fail
  refine (below_any cb ao len cap zs _ (HC.out.alloc _) 7 (by decide) (by decide)).mono ?_
  rintro e w1 ⟨m, rfl, hm0, hm1, hd1⟩
  have HD1 : Hid (Drawn cb ao len cap zs w w1) := ((Drawn.refl HC.out).alloc _).trans hd1
  have HAR : Hid (∃ xs bs, AR w1 w.heap.size (.slice (some ⟨w.heap.size, 0, none⟩) 0 0) [] xs bs) := ⟨[], [], AR.turn ⟨World.ownsRow_made w #[] 0 (Nat.le_refl _) (Nat.zero_le _) rfl, ⟨rfl, rfl⟩, List.nodup_nil, fun b hb => by cases hb⟩ hd1.2 hcb⟩
  clear hd1
  obtain ⟨m, rfl⟩ : ∃ k : Nat, m = k := ⟨m.toNat, by omega⟩
  have hm : m < 7 := by omega
  clear hm0 hm1
  go_wp2_with fail
  go_loopw [3, 4] (fun u i wr => ∃ (k : Nat) (l : List Sd) (a : Option Addr) (c : Nat), i = .int .i64 k ∧ u = .slice a l.length c ∧ l.length + k ≤ 6 ∧ (∃ xs bs, AR wr w.heap.size (.slice a l.length c) l xs bs) ∧ (∀ x ∈ l, SdOk x) ∧ Drawn cb ao len cap zs w wr) (fun _ i _ => (intOf i).toNat)
  case atStart => exact ⟨m, [], _, 0, rfl, rfl, by simp; omega, HAR.out, (fun x hx => by simp at hx), HD1.out⟩
  case round =>
    obtain ⟨k, l, a, c, rfl, rfl, hlk, ⟨xs, bs, har⟩, hok, hd⟩ := hrel
    have HG : Hid (AR wr w.heap.size (.slice a l.length c) l xs bs ∧ (∀ x ∈ l, SdOk x) ∧ Drawn cb ao len cap zs w wr) := ⟨har, hok, hd⟩
    clear har hok hd
    by_cases hk : 0 < k
    · go_wp2_with fail
      refine (one_any cb ao len cap zs wr HG.out.2.2.1).mono ?_
      rintro e w2 ⟨x, tk, tn, ts, tao, tlen, tcap, rfl, how, hx, hd2⟩
      obtain ⟨bx, hos, _, _⟩ := how
      have HG2 : Hid (∃ e, GL eltS w2 l e a ∧ e.Nodup ∧ ∀ b ∈ e, w.heap.size ≤ b) := (HG.out.1.turn hd2.2 hcb).gl
      have HX : Hid (SdOk x) := hx
      have HD2 : Hid (Drawn cb ao len cap zs w w2) := HG.out.2.2.trans hd2
      have HAD : Hid (Calls Try.prog 14 #[.slice a l.length c, sdV x.kind x.pid tk tn ts tao tlen tcap] w2 fun e w' => (∃ a1 c1 e1, e = .returned (.tuple #[.slice a1 (addT l x).length c1, .bool (addB l x)]) ∧ GL eltS w' (addT l x) e1 a1 ∧ e1.Nodup ∧ (∀ b ∈ e1, w2.heap.size ≤ b) ∧ ∃ ys, w'.ownsRow w2.heap.size 32 6 (.slice a1 (addT l x).length c1) (addT l x).length ys) ∧ Below w2.heap.size w2 w') :=
        specAdd_any l a c x.kind x.pid x.t tk tn ts tao tlen tcap w2 (by obtain ⟨e, h1, _⟩ := HG2.out; exact GL.rowS h1) (by omega) (fun y hy => wf_sts _ (HG.out.2.1 y hy).2.2.1) hos.rep (wf_sts _ hx.2.2.1)
      have hz2 : w.heap.size ≤ w2.heap.size := HD2.out.2.size
      clear hos hx hd2
      go_wp2_with fail
      refine HAD.out.mono ?_
      rintro e w3 ⟨⟨a1, c1, e1, rfl, hg3, hn3, hl3, ys, hy3⟩, hb3⟩
      have HF : Hid ((∃ xs bs, AR w3 w.heap.size (.slice a1 (addT l x).length c1) (addT l x) xs bs) ∧ (∀ y ∈ addT l x, SdOk y) ∧ Drawn cb ao len cap zs w w3 ∧ (addT l x).length + (k - 1) ≤ 6) := ⟨⟨ys, AR.of_gl hg3 hn3 (fun b hb => Nat.le_trans hz2 (hl3 b hb)) (own_low hy3 hz2)⟩, addT_ok HG.out.2.1 HX.out, ⟨HD2.out.1.below hb3, HD2.out.2.trans (Turn.of_below hb3)⟩, by have := addT_len l x; omega⟩
      clear hg3 hn3 hl3 hb3 hy3
      obtain ⟨L, hL⟩ : ∃ L, L = addT l x := ⟨_, rfl⟩
      rw [← hL] at HF ⊢
      clear hL
      go_wp2_with fail
      go_roundw
      case rel =>
        refine ⟨k - 1, L, a1, c1, ?_, rfl, HF.out.2.2.2, HF.out.1, HF.out.2.1, HF.out.2.2.1⟩
        have e : ((k - 1 : Nat) : Int) = (k : Int) - 1 := by omega
        rw [e]
      case measure => simp [intOf]; omega
    · go_wp2_with fail
      go_ret
      exact ⟨l, a, c, xs, bs, rfl, by omega, HG.out.1, HG.out.2.1, HG.out.2.2⟩
end Go.Proofs.Ytimnnedmpmlmdaa.Tv
namespace Go.Proofs.Ytimnnedmpmlmdaa.Tv
open Go.RowKit Atom
open Go.Proofs.Ytimnnedmpmlmdaa.Tr
set_option linter.unusedVariables false

def vLn : Value → Nat
  | .slice _ n _ => n
  | _ => 0
theorem l9Int_any (n : Int) (w : World) : Calls Try.prog 33 #[.int .i64 n] w fun e w' => e = .returned (.agg #[.int .i64 1, .int .i64 n, .string ⟨#[]⟩, .slice none 0 0]) ∧ Below w.heap.size w w' := by
  go_enter Try.func33, Try.ntmps33
  go_wp2_with fail
  refine bodyPost_ret (v := .agg #[.int .i64 1, .int .i64 n, .string ⟨#[]⟩, .slice none 0 0]) (by simp [results, Try.results33, go_sem]) rfl ⟨rfl, ?_⟩
  first | exact (Below.refl _ _).alloc (Nat.le_refl _) _ | exact ((((((Below.refl _ _).alloc (Nat.le_refl _) _).setCell (Nat.le_refl _) _).setCell (Nat.le_refl _) _).setCell (Nat.le_refl _) _).setCell (Nat.le_refl _) _)
theorem ok_more {l : List Sd} (h : ∀ x ∈ l, SdOk x) {y : Sd} (hy : SdOk y) : ∀ x ∈ l ++ [y], SdOk x := fun x hx => by
  rcases List.mem_append.1 hx with hx | hx
  · exact h x hx
  · have : x = y := by simpa using hx
    rw [this]; exact hy
theorem drawn_grown {cb : Nat} {ao : Option Addr} {len cap : Nat} {zs : List Int} {w w1 w2 : World} {o : Obj} {r : Option Nat} (h : Drawn cb ao len cap zs w w1) (hg : (w1.alloc o).grownBy w2 r) (hr : ∀ g, r = some g → w.heap.size ≤ g) (hcb : cb < w.heap.size) : Drawn cb ao len cap zs w w2 := by
  have hs1 : (w1.alloc o).heap.size = w1.heap.size + 1 := World.size_alloc _ _
  have hz := h.2.size
  have hk : ∀ k, k < w.heap.size → w2.heap[k]? = w1.heap[k]? := fun k hk => by
    rw [hg.block k (by rw [hs1]; omega) (fun q => by have := hr k q.symm; omega)]
    show (w1.heap.push o)[k]? = _
    rw [Array.getElem?_push, if_neg (by omega)]
  refine ⟨h.1.same (fun b hb => hk b (by omega)), hg.os.trans h.2.os, hg.tape.trans h.2.tape, hg.output.trans h.2.output, by have := hg.size; omega, fun k hkl hkn => (hk k hkl).trans (h.2.block k hkl hkn)⟩

set_option maxRecDepth 100000 in
set_option maxHeartbeats 4000000 in
theorem tmsAny_any (cb : Nat) (ao : Option Addr) (len cap : Nat) (zs : List Int) (w : World) (hc : Cur cb ao len cap zs w) :
    Calls Try.prog 16 #[.pointer (some ⟨cb, 0, none⟩)] w fun e w' => ∃ (l : List Sd) (a : Option Addr) (c : Nat) (xs : List Value) (bs : List Nat), e = .returned (.slice a l.length c) ∧ l.length ≤ 52 ∧ AR w' w.heap.size (.slice a l.length c) l xs bs ∧ (∀ x ∈ l, SdOk x) ∧ Drawn cb ao len cap zs w w' := by
  have HC : Hid (Cur cb ao len cap zs w) := hc
  have hcb := hc.lt
  clear hc
  obtain ⟨i0, hi, hzz⟩ := Option.map_eq_some_iff.1 infoTimer
  simp only [Prod.mk.injEq] at hzz
  obtain ⟨hzz0, hzz1, hzz2⟩ := hzz
  go_enter Try.func16, Try.ntmps16
  go_wp2_with fail
  refine (draw_any cb ao len cap zs w HC.out).mono ?_
  rintro e w1 ⟨l, a, c, xs, bs, rfl, hl6, har, hok, hd1⟩
  have H1 : Hid (AR w1 w.heap.size (.slice a l.length c) l xs bs ∧ (∀ x ∈ l, SdOk x) ∧ Drawn cb ao len cap zs w w1) := ⟨har, hok, hd1⟩
  clear har hok hd1
  go_wp2_with fail
  refine (once_any cb ao len cap zs w1 H1.out.2.2.1 4 (by decide) (by decide)).mono ?_
  rintro e w2 ⟨x, rfl, hd2⟩
  have H2 : Hid (AR w2 w.heap.size (.slice a l.length c) l xs bs ∧ (∀ x ∈ l, SdOk x) ∧ Drawn cb ao len cap zs w w2) := ⟨H1.out.1.turn hd2.2 hcb, H1.out.2.1, H1.out.2.2.trans hd2⟩
  clear hd2
  cases x
  · obtain ⟨W, hW⟩ : ∃ W, W = w2 := ⟨_, rfl⟩
    obtain ⟨L, hL⟩ : ∃ L, L = l := ⟨_, rfl⟩
    obtain ⟨A, hA⟩ : ∃ A, A = a := ⟨_, rfl⟩
    obtain ⟨C, hC⟩ : ∃ C, C = c := ⟨_, rfl⟩
    obtain ⟨XS, hXS⟩ : ∃ XS, XS = xs := ⟨_, rfl⟩
    obtain ⟨BS, hBS⟩ : ∃ BS, BS = bs := ⟨_, rfl⟩
    rw [← hW, ← hL, ← hA, ← hC, ← hXS, ← hBS] at H2
    rw [← hL] at hl6
    rw [← hW, ← hL, ← hA, ← hC]
    clear H1 hW hL hA hC hXS hBS
    have HAR : Hid (AR W w.heap.size (.slice A L.length C) L XS BS) := H2.out.1
    have HOK : Hid (∀ x ∈ L, SdOk x) := H2.out.2.1
    have HD : Hid (Drawn cb ao len cap zs w W) := H2.out.2.2
    have hL7 : L.length ≤ 7 := by omega
    clear H2 hl6
    have hWz : w.heap.size ≤ W.heap.size := HD.out.2.size
    go_wp2_with fail
    refine (once_any cb ao len cap zs W HD.out.1 30 (by decide) (by decide)).mono ?_
    rintro e w3 ⟨y, rfl, hd3⟩
    have HD3 : Hid (Drawn cb ao len cap zs w w3) := HD.out.trans hd3
    have HA3 : Hid (AR w3 w.heap.size (.slice A L.length C) L XS BS) := HAR.out.turn hd3.2 hcb
    clear hd3 hWz
    cases y
    · go_wp2_with fail
      go_ret
      exact ⟨L, A, C, XS, BS, rfl, by omega, HA3.out, HOK.out, HD3.out⟩
    · go_wp2_with fail
      go_loopw [3] (fun u wr => ∃ (l : List Sd) (a : Option Addr) (c : Nat) (xs : List Value) (bs : List Nat), u = .slice a l.length c ∧ l.length ≤ 52 ∧ AR wr w.heap.size (.slice a l.length c) l xs bs ∧ (∀ x ∈ l, SdOk x) ∧ Drawn cb ao len cap zs w wr) (fun u _ => 60 - vLn u)
      case atStart => exact ⟨L, A, C, XS, BS, rfl, by omega, HA3.out, HOK.out, HD3.out⟩
      case round =>
        obtain ⟨l, a, c, xs, bs, rfl, hl52, har, hok, hd⟩ := hrel
        have HG : Hid (AR wr w.heap.size (.slice a l.length c) l xs bs ∧ (∀ x ∈ l, SdOk x) ∧ Drawn cb ao len cap zs w wr) := ⟨har, hok, hd⟩
        clear har hok hd
        go_wp2_with fail
        refine (below_any cb ao len cap zs wr HG.out.2.2.1 3 (by decide) (by decide)).mono ?_
        rintro e w4 ⟨z, rfl, hz0, hz1, hd4⟩
        have HD4 : Hid (Drawn cb ao len cap zs w w4) := HG.out.2.2.trans hd4
        have HA4 : Hid (AR w4 w.heap.size (.slice a l.length c) l xs bs) := HG.out.1.turn hd4.2 hcb
        have hw4 : w.heap.size ≤ w4.heap.size := HD4.out.2.size
        clear hd4
        obtain ⟨zz, hzz9⟩ : ∃ zz : Int, IntKind.i64.wrap (49 + z) = zz := ⟨_, rfl⟩
        have hzb : 49 ≤ zz ∧ zz ≤ 51 := by rw [← hzz9, IntKind.wrap_i64]; omega
        have hzq : 49 + z = zz := by rw [← hzz9, IntKind.wrap_i64]; omega
        by_cases hlt : (l.length : Int) < 49 + z
        · have hl51 : l.length ≤ 51 := by omega
          have HNZ : Hid (vLn (.slice a l.length c) = l.length) := rfl
          clear hzz9 hzb hzq
          go_wp2_with fail
          refine (l9Int_any 1 w4).mono ?_
          rintro e w5 ⟨rfl, hb5⟩
          have HA5 : Hid (AR w5 w.heap.size (.slice a l.length c) l xs bs) := HA4.out.turn (Turn.of_below hb5) hcb
          have HD5 : Hid (Drawn cb ao len cap zs w w5) := ⟨HD4.out.1.below hb5, HD4.out.2.trans (Turn.of_below hb5)⟩
          have hw5 : w.heap.size ≤ w5.heap.size := HD5.out.2.size
          clear hb5
          go_wp2_with (at_builtin; refine wpList_append_own_at _ rfl _ _ 24 rfl w.heap.size 32 i0 (.agg #[.int .i64 0, .int .i64 0, .int .i64 0, .int .i64 0, .string ⟨#[]⟩, .slice none 0 0]) 6 72 undTimerS hi hzz0 hzz1 hzz2 rfl (by decide) (.slice a l.length c) l.length xs rfl (HA5.out.own.alloc _) ⟨w5.heap.size, 0, none⟩ 1 1 [.int .i64 1000000000, .int .i64 1, .int .i64 1, .int .i64 1, .string ⟨#[]⟩, .slice none 0 0] rfl rfl sixCells sixOne (by unfold maxLen; omega) (by omega) (by rw [World.size_alloc]; omega) ?_; intro v8 w9 hown8 hgr8 hnn8 hat8; have HO9 := hid hown8; have HG9 := hid hgr8; have HT9 := hid hat8; clear hown8 hgr8 hnn8 hat8)
          have HA9 : Hid (∃ xs bs, AR w9 w.heap.size v8 (l ++ [⟨1000000000, 1, .mk 1 1 ByteArray.empty []⟩]) xs bs) := ⟨_, _, AR.more (w := w5) (x := ⟨1000000000, 1, .mk 1 1 ByteArray.empty []⟩) (bx := []) HA5.out ⟨none, 0, rfl, Nat.zero_le _, Nat.le_refl _, Nat.zero_le _, by rw [OsL]⟩ List.nodup_nil (fun b hb => by cases hb) hw5 (VL.lt HA5.out.row) (fun g hg => (own_base HA5.out.own hg).2) HO9.out HG9.out HT9.out⟩
          have HD9 : Hid (Drawn cb ao len cap zs w w9) := drawn_grown HD5.out HG9.out (fun g hg => (own_base HA5.out.own hg).1) hcb
          have HOK9 : Hid (∀ x ∈ l ++ [(⟨1000000000, 1, .mk 1 1 ByteArray.empty []⟩ : Sd)], SdOk x) := ok_more HG.out.2.1 ⟨⟨by show (0 : Int) ≤ 1000000000; omega, by show (1000000000 : Int) ≤ 1000000000; omega⟩, ⟨by show (1 : Int) ≤ 1; omega, by show (1 : Int) ≤ 3; omega⟩, wf_int 1 1 (by omega) (by omega)⟩
          obtain ⟨M, hM⟩ : ∃ M : List Sd, M = l ++ [⟨1000000000, 1, .mk 1 1 ByteArray.empty []⟩] := ⟨_, rfl⟩
          have HML : Hid (M.length = l.length + 1) := by show _ = _; rw [hM, List.length_append]; rfl
          rw [← hM] at HA9 HOK9
          clear hM HO9 HG9 HT9
          obtain ⟨ys, es, har9⟩ := HA9.out
          obtain ⟨a9, c9, hv8⟩ := har9.form
          subst hv8
          have HA10 : Hid (AR w9 w.heap.size (.slice a9 M.length c9) M ys es) := har9
          clear har9 HA9
          go_wp2_with fail
          go_roundw
          case rel => exact ⟨M, a9, c9, ys, es, rfl, by have := HML.out; omega, HA10.out, HOK9.out, HD9.out⟩
          case measure =>
            have e1 : vLn (.slice a9 M.length c9) = M.length := rfl
            have e2 : vLn (.slice a l.length c) = l.length := rfl
            have e3 := HML.out
            first
              | (rw [e1, e2]; omega)
              | (simp [vLn]; omega)
        · clear hzz9 hzb hzq
          go_wp2_with fail
          go_ret
          exact ⟨l, a, c, xs, bs, rfl, hl52, HA4.out, HG.out.2.1, HD4.out⟩
  · go_wp2_with fail
    refine (one_any cb ao len cap zs w2 H2.out.2.2.1).mono ?_
    rintro e w5 ⟨x, tk, tn, ts, tao, tlen, tcap, rfl, ⟨bx, hos, hbn, hbl⟩, hx, hd5⟩
    have HA5 : Hid (AR w5 w.heap.size (.slice a l.length c) l xs bs) := H2.out.1.turn hd5.2 hcb
    have HD5 : Hid (Drawn cb ao len cap zs w w5) := H2.out.2.2.trans hd5
    have HOS : Hid (OsV w5 bx x.t (.agg #[.int .i64 tk, .int .i64 tn, .string ts, .slice tao tlen tcap]) ∧ bx.Nodup ∧ (∀ b ∈ bx, w2.heap.size ≤ b) ∧ SdOk x) := ⟨hos, hbn, hbl, hx⟩
    have hw5 : w.heap.size ≤ w5.heap.size := HD5.out.2.size
    clear hos hbn hbl hx hd5
    obtain ⟨kd, pd, t⟩ := x
    go_wp2_with (at_builtin; refine wpList_append_own_at _ rfl _ _ 24 rfl w.heap.size 32 i0 (.agg #[.int .i64 0, .int .i64 0, .int .i64 0, .int .i64 0, .string ⟨#[]⟩, .slice none 0 0]) 6 72 undTimerS hi hzz0 hzz1 hzz2 rfl (by decide) (.slice a l.length c) l.length xs rfl (HA5.out.own.alloc _) ⟨w5.heap.size, 0, none⟩ 1 1 [.int .i64 kd, .int .i64 pd, .int .i64 tk, .int .i64 tn, .string ts, .slice tao tlen tcap] rfl rfl sixCells sixOne (by unfold maxLen; omega) (by omega) (by rw [World.size_alloc]; omega) ?_; intro v8 w9 hown8 hgr8 hnn8 hat8; have HO9 := hid hown8; have HG9 := hid hgr8; have HT9 := hid hat8; clear hown8 hgr8 hnn8 hat8)
    have HA9 : Hid (∃ xs bs, AR w9 w.heap.size v8 (l ++ [⟨kd, pd, t⟩]) xs bs) := ⟨_, _, AR.more (w := w2) (x := ⟨kd, pd, t⟩) (bx := bx) HA5.out HOS.out.1 HOS.out.2.1 HOS.out.2.2.1 H2.out.2.2.2.size (VL.lt H2.out.1.row) (fun g hg => (own_base H2.out.1.own hg).2) HO9.out HG9.out HT9.out⟩
    have HD : Hid (Drawn cb ao len cap zs w w9) := drawn_grown HD5.out HG9.out (fun g hg => (own_base HA5.out.own hg).1) hcb
    have HOK : Hid (∀ x ∈ l ++ [(⟨kd, pd, t⟩ : Sd)], SdOk x) := ok_more H2.out.2.1 HOS.out.2.2.2
    obtain ⟨L, hL⟩ : ∃ L : List Sd, L = l ++ [⟨kd, pd, t⟩] := ⟨_, rfl⟩
    have hL7 : L.length ≤ 7 := by rw [hL, List.length_append]; simp; omega
    rw [← hL] at HA9 HOK
    clear hL HO9 HG9 HT9 HOS HA5 HD5 H2 H1
    obtain ⟨XS, BS, har9⟩ := HA9.out
    obtain ⟨A, C, hv8⟩ := har9.form
    subst hv8
    have HAR : Hid (AR w9 w.heap.size (.slice A L.length C) L XS BS) := har9
    clear har9 HA9
    obtain ⟨W, hW⟩ : ∃ W, W = w9 := ⟨_, rfl⟩
    rw [← hW] at HAR HD
    rw [← hW]
    clear hW
    have hWz : w.heap.size ≤ W.heap.size := HD.out.2.size
    go_wp2_with fail
    refine (once_any cb ao len cap zs W HD.out.1 30 (by decide) (by decide)).mono ?_
    rintro e w3 ⟨y, rfl, hd3⟩
    have HD3 : Hid (Drawn cb ao len cap zs w w3) := HD.out.trans hd3
    have HA3 : Hid (AR w3 w.heap.size (.slice A L.length C) L XS BS) := HAR.out.turn hd3.2 hcb
    clear hd3 hWz
    cases y
    · go_wp2_with fail
      go_ret
      exact ⟨L, A, C, XS, BS, rfl, by omega, HA3.out, HOK.out, HD3.out⟩
    · go_wp2_with fail
      go_loopw [3] (fun u wr => ∃ (l : List Sd) (a : Option Addr) (c : Nat) (xs : List Value) (bs : List Nat), u = .slice a l.length c ∧ l.length ≤ 52 ∧ AR wr w.heap.size (.slice a l.length c) l xs bs ∧ (∀ x ∈ l, SdOk x) ∧ Drawn cb ao len cap zs w wr) (fun u _ => 60 - vLn u)
      case atStart => exact ⟨L, A, C, XS, BS, rfl, by omega, HA3.out, HOK.out, HD3.out⟩
      case round =>
        obtain ⟨l, a, c, xs, bs, rfl, hl52, har, hok, hd⟩ := hrel
        have HG : Hid (AR wr w.heap.size (.slice a l.length c) l xs bs ∧ (∀ x ∈ l, SdOk x) ∧ Drawn cb ao len cap zs w wr) := ⟨har, hok, hd⟩
        clear har hok hd
        go_wp2_with fail
        refine (below_any cb ao len cap zs wr HG.out.2.2.1 3 (by decide) (by decide)).mono ?_
        rintro e w4 ⟨z, rfl, hz0, hz1, hd4⟩
        have HD4 : Hid (Drawn cb ao len cap zs w w4) := HG.out.2.2.trans hd4
        have HA4 : Hid (AR w4 w.heap.size (.slice a l.length c) l xs bs) := HG.out.1.turn hd4.2 hcb
        have hw4 : w.heap.size ≤ w4.heap.size := HD4.out.2.size
        clear hd4
        obtain ⟨zz, hzz9⟩ : ∃ zz : Int, IntKind.i64.wrap (49 + z) = zz := ⟨_, rfl⟩
        have hzb : 49 ≤ zz ∧ zz ≤ 51 := by rw [← hzz9, IntKind.wrap_i64]; omega
        have hzq : 49 + z = zz := by rw [← hzz9, IntKind.wrap_i64]; omega
        by_cases hlt : (l.length : Int) < 49 + z
        · have hl51 : l.length ≤ 51 := by omega
          have HNZ : Hid (vLn (.slice a l.length c) = l.length) := rfl
          clear hzz9 hzb hzq
          go_wp2_with fail
          refine (l9Int_any 1 w4).mono ?_
          rintro e w5 ⟨rfl, hb5⟩
          have HA5 : Hid (AR w5 w.heap.size (.slice a l.length c) l xs bs) := HA4.out.turn (Turn.of_below hb5) hcb
          have HD5 : Hid (Drawn cb ao len cap zs w w5) := ⟨HD4.out.1.below hb5, HD4.out.2.trans (Turn.of_below hb5)⟩
          have hw5 : w.heap.size ≤ w5.heap.size := HD5.out.2.size
          clear hb5
          go_wp2_with (at_builtin; refine wpList_append_own_at _ rfl _ _ 24 rfl w.heap.size 32 i0 (.agg #[.int .i64 0, .int .i64 0, .int .i64 0, .int .i64 0, .string ⟨#[]⟩, .slice none 0 0]) 6 72 undTimerS hi hzz0 hzz1 hzz2 rfl (by decide) (.slice a l.length c) l.length xs rfl (HA5.out.own.alloc _) ⟨w5.heap.size, 0, none⟩ 1 1 [.int .i64 1000000000, .int .i64 1, .int .i64 1, .int .i64 1, .string ⟨#[]⟩, .slice none 0 0] rfl rfl sixCells sixOne (by unfold maxLen; omega) (by omega) (by rw [World.size_alloc]; omega) ?_; intro v8 w9 hown8 hgr8 hnn8 hat8; have HO9 := hid hown8; have HG9 := hid hgr8; have HT9 := hid hat8; clear hown8 hgr8 hnn8 hat8)
          have HA9 : Hid (∃ xs bs, AR w9 w.heap.size v8 (l ++ [⟨1000000000, 1, .mk 1 1 ByteArray.empty []⟩]) xs bs) := ⟨_, _, AR.more (w := w5) (x := ⟨1000000000, 1, .mk 1 1 ByteArray.empty []⟩) (bx := []) HA5.out ⟨none, 0, rfl, Nat.zero_le _, Nat.le_refl _, Nat.zero_le _, by rw [OsL]⟩ List.nodup_nil (fun b hb => by cases hb) hw5 (VL.lt HA5.out.row) (fun g hg => (own_base HA5.out.own hg).2) HO9.out HG9.out HT9.out⟩
          have HD9 : Hid (Drawn cb ao len cap zs w w9) := drawn_grown HD5.out HG9.out (fun g hg => (own_base HA5.out.own hg).1) hcb
          have HOK9 : Hid (∀ x ∈ l ++ [(⟨1000000000, 1, .mk 1 1 ByteArray.empty []⟩ : Sd)], SdOk x) := ok_more HG.out.2.1 ⟨⟨by show (0 : Int) ≤ 1000000000; omega, by show (1000000000 : Int) ≤ 1000000000; omega⟩, ⟨by show (1 : Int) ≤ 1; omega, by show (1 : Int) ≤ 3; omega⟩, wf_int 1 1 (by omega) (by omega)⟩
          obtain ⟨M, hM⟩ : ∃ M : List Sd, M = l ++ [⟨1000000000, 1, .mk 1 1 ByteArray.empty []⟩] := ⟨_, rfl⟩
          have HML : Hid (M.length = l.length + 1) := by show _ = _; rw [hM, List.length_append]; rfl
          rw [← hM] at HA9 HOK9
          clear hM HO9 HG9 HT9
          obtain ⟨ys, es, har9⟩ := HA9.out
          obtain ⟨a9, c9, hv8⟩ := har9.form
          subst hv8
          have HA10 : Hid (AR w9 w.heap.size (.slice a9 M.length c9) M ys es) := har9
          clear har9 HA9
          go_wp2_with fail
          go_roundw
          case rel => exact ⟨M, a9, c9, ys, es, rfl, by have := HML.out; omega, HA10.out, HOK9.out, HD9.out⟩
          case measure =>
            have e1 : vLn (.slice a9 M.length c9) = M.length := rfl
            have e2 : vLn (.slice a l.length c) = l.length := rfl
            have e3 := HML.out
            first
              | (rw [e1, e2]; omega)
              | (simp [vLn]; omega)
        · clear hzz9 hzb hzq
          go_wp2_with fail
          go_ret
          exact ⟨l, a, c, xs, bs, rfl, hl52, HA4.out, HG.out.2.1, HD4.out⟩

def sevB : List Int := [0, 1, 2, 3, 9, -1, 1000000000]
end Go.Proofs.Ytimnnedmpmlmdaa.Tv
