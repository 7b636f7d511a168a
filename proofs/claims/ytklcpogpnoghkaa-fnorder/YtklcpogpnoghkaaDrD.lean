/-
  A copy of a term: what l1Copy answers.
-/
import Derived.Test.YtklcpogpnoghkaaDrC
namespace Go.Proofs.Ytklcpogpnoghkaa
open Go.RowKit
set_option linter.unusedVariables false

/-- The value v is the term t; its list stands in a block of its own. -/
def TopV (S : Nat → Prop) (w : World) : Tm → Value → Prop
  | .mk k n s l, v => ∃ ao cap, v = .agg #[.int .i64 k, .int .i64 n, .string s, .slice ao l.length cap] ∧ s.size ≤ maxLen ∧ l.length ≤ cap ∧ cap ≤ maxLen ∧
      (l = [] ∨ ∃ g xs, ao = some ⟨g, 0, none⟩ ∧ S g ∧ (∀ j v, xs[j]? = some v → w.cell? ⟨g, j, none⟩ = some v) ∧ (∀ o, w.frozen? ⟨g, o, none⟩ = false) ∧ Row (fun b => S b ∧ b ≠ g) w l xs)

theorem RowT.rp {S : Nat → Prop} {w : World} {xs : List Value} {o g : Nat} (he : ∀ j v, xs[j]? = some v → w.cell? ⟨g, j, none⟩ = some v) {t : Tm} (h : RowT S w xs o t) : RpT S w t g o := by
  obtain ⟨k, n, s, m⟩ := t
  obtain ⟨h0, h1, h2, hs, ao, cap', h3, hl', hc', hr⟩ := h
  rw [RpT]
  exact ⟨he _ _ h0, he _ _ h1, he _ _ h2, hs, ao, cap', he _ _ h3, hl', hc', hr⟩
theorem TopV.rp {S : Nat → Prop} {w : World} {t : Tm} {v : Value} (h : TopV S w t v) : RpV S w t v := by
  obtain ⟨k, n, s, l⟩ := t
  obtain ⟨ao, cap, e, h1, h2, h3, h4⟩ := h
  refine ⟨ao, cap, e, h1, h2, h3, ?_⟩
  rcases h4 with rfl | ⟨g, xs, rfl, hg, he, _, hrow⟩
  · rw [RpL]; trivial
  · exact RpL.mk hg l 0 (fun i hi => by rw [Nat.zero_add]; exact ((hrow.2 i hi).move (Moves.sub (fun b hb => hb.1))).rp he)
theorem TopV.sub {S S' : Nat → Prop} {w : World} (hS : ∀ b, S b → S' b) {t : Tm} {v : Value} (h : TopV S w t v) : TopV S' w t v := by
  obtain ⟨k, n, s, l⟩ := t
  obtain ⟨ao, cap, e, h1, h2, h3, h4⟩ := h
  refine ⟨ao, cap, e, h1, h2, h3, ?_⟩
  rcases h4 with rfl | ⟨g, xs, e2, hg, he, hf, hrow⟩
  · exact Or.inl rfl
  · exact Or.inr ⟨g, xs, e2, hS g hg, he, hf, hrow.1, fun i hi => (hrow.2 i hi).move (Moves.sub (fun b hb => ⟨hS b hb.1, hb.2⟩))⟩
theorem TopV.turn {S : Nat → Prop} {cb : Nat} {w w' : World} (hn : ∀ b, S b → b ≠ cb) (ht : Turn cb w w') {t : Tm} {v : Value} (h : TopV S w t v) : TopV S w' t v := by
  obtain ⟨k, n, s, l⟩ := t
  obtain ⟨ao, cap, e, h1, h2, h3, h4⟩ := h
  refine ⟨ao, cap, e, h1, h2, h3, ?_⟩
  rcases h4 with rfl | ⟨g, xs, e2, hg, he, hf, hrow⟩
  · exact Or.inl rfl
  · cases l with
    | nil => exact Or.inl rfl
    | cons x r =>
      obtain ⟨v0, hv0⟩ := ((hrow.2 0 (Nat.zero_lt_succ _)).rp he).head
      have hlt : g < w.heap.size := World.block_lt_of_cell? w _ hv0
      exact Or.inr ⟨g, xs, e2, hg, fun j v hj => ht.cell (hn g hg) (he j v hj), fun o => by rw [ht.frozen (hn g hg) hlt]; exact hf o, hrow.1, fun i hi => (hrow.2 i hi).move (Moves.turn (fun b hb => hn b hb.1) ht)⟩
/-- Another term is stored into the list. -/
theorem TopV.store {S S' T : Nat → Prop} (hT : ∀ b, S b → T b) (hT' : ∀ b, S' b → T b) {w : World} {k n : Int} {s : ByteArray} {l : List Tm} {g m cap : Nat} (h : TopV S w (.mk k n s l) (.agg #[.int .i64 k, .int .i64 n, .string s, .slice (some ⟨g, 0, none⟩) m cap])) (i : Nat) (hi : i < l.length)
    {t : Tm} {a b c d : Value} (hv : RpV S' w t (.agg #[a, b, c, d])) (hS' : ∀ b, S' b → b ≠ g) :
    m = l.length ∧ RpV T (set4 w g (i * 4) a b c d) (.mk k n s (l.set i t)) (.agg #[.int .i64 k, .int .i64 n, .string s, .slice (some ⟨g, 0, none⟩) m cap]) := by
  obtain ⟨ao, cap', e, h1, h2, h3, h4⟩ := h
  simp only [Value.agg.injEq, Array.mk.injEq, List.cons.injEq, and_true, true_and, Value.slice.injEq] at e
  obtain ⟨rfl, rfl, rfl⟩ := e
  refine ⟨rfl, some ⟨g, 0, none⟩, cap, by rw [List.length_set], h1, by rw [List.length_set]; exact h2, h3, ?_⟩
  rcases h4 with rfl | ⟨g', xs, e2, hg, he, hf, hrow⟩
  · exact absurd hi (Nat.not_lt_zero _)
  · simp only [Option.some.injEq, Addr.mk.injEq, and_true] at e2
    subst e2
    have hin := set4_in (w := w) (g := g) (o := i * 4) (a := a) (b := b) (c := c) (d := d) (fun j hj => by
      have hlen : i * 4 + j < xs.length := by rw [hrow.1]; omega
      rw [he (i * 4 + j) _ (List.getElem?_eq_getElem hlen)]; rfl)
    have hmv : ∀ P : Nat → Prop, (∀ b, P b → b ≠ g ∧ T b) → Moves P T w (set4 w g (i * 4) a b c d) := fun P hP b' o v hb hc => ⟨(hP b' hb).2, by
      rw [set4_far (p := ⟨b', o, none⟩) (Or.inl (hP b' hb).1)]; exact hc⟩
    refine RpL.mk (hT g hg) _ 0 (fun i' hi' => ?_)
    rw [Nat.zero_add]
    by_cases hii : i' = i
    · subst hii
      rw [List.getElem_set_self]
      obtain ⟨k', n', s', l'⟩ := t
      obtain ⟨ao, cap'', e, hs, hl, hc, hr⟩ := hv
      simp only [Value.agg.injEq, Array.mk.injEq, List.cons.injEq, and_true] at e
      obtain ⟨rfl, rfl, rfl, rfl⟩ := e
      rw [RpT]
      exact ⟨hin.1, hin.2.1, hin.2.2.1, hs, ao, cap'', hin.2.2.2, hl, hc, (hmv S' (fun b hb => ⟨hS' b hb, hT' b hb⟩)).repL _ _ hr⟩
    · have hi'' : i' < l.length := by rw [List.length_set] at hi'; exact hi'
      rw [List.getElem_set_ne (by omega)]
      have hx := (hrow.2 i' hi'')
      generalize l[i'] = x at hx
      obtain ⟨k', n', s', l'⟩ := x
      obtain ⟨g0, g1, g2, hs, ao, cap'', g3, hl, hc, hr⟩ := hx
      have hfar : ∀ j, j < 4 → (set4 w g (i * 4) a b c d).cell? ⟨g, i' * 4 + j, none⟩ = w.cell? ⟨g, i' * 4 + j, none⟩ := fun j hj => set4_far (p := ⟨g, i' * 4 + j, none⟩) (Or.inr (by show i' * 4 + j < _ ∨ _ < i' * 4 + j; omega))
      rw [RpT]
      exact ⟨by rw [show i' * 4 = i' * 4 + 0 from rfl, hfar 0 (by omega)]; exact he _ _ g0, by rw [hfar 1 (by omega)]; exact he _ _ g1, by rw [hfar 2 (by omega)]; exact he _ _ g2, hs, ao, cap'', by rw [hfar 3 (by omega)]; exact he _ _ g3, hl, hc, (hmv _ (fun b hb => ⟨hb.2, hT b hb.1⟩)).repL _ _ hr⟩

theorem Gath.top {cb : Nat} {ao : Option Addr} {len cap : Nat} {zs : List Int} {w wr : World} {tb : Nat} {K N : Int} {s : ByteArray} {l : List Tm} {u : Value} {xs : List Value}
    (h : Gath cb ao len cap zs w wr tb K N s l u xs) (hs : s.size ≤ maxLen) (v0 v1 v2 v3 : Value) :
    TopV (fun b => w.heap.size ≤ b ∧ Nf ((((wr.setCell ⟨w.heap.size, 0, none⟩ v0).setCell ⟨w.heap.size, 1, none⟩ v1).setCell ⟨w.heap.size, 2, none⟩ v2).setCell ⟨w.heap.size, 3, none⟩ v3) b) ((((wr.setCell ⟨w.heap.size, 0, none⟩ v0).setCell ⟨w.heap.size, 1, none⟩ v1).setCell ⟨w.heap.size, 2, none⟩ v2).setCell ⟨w.heap.size, 3, none⟩ v3) (.mk K N s l) (.agg #[.int .i64 K, .int .i64 N, .string s, u]) := by
  have hup := h.up
  have hmv : ∀ b o v, tb + 1 ≤ b → wr.cell? ⟨b, o, none⟩ = some v → ((((wr.setCell ⟨w.heap.size, 0, none⟩ v0).setCell ⟨w.heap.size, 1, none⟩ v1).setCell ⟨w.heap.size, 2, none⟩ v2).setCell ⟨w.heap.size, 3, none⟩ v3).cell? ⟨b, o, none⟩ = some v := fun b o v hb hv => by
    have hne : ∀ j, (⟨w.heap.size, j, none⟩ : Addr) ≠ ⟨b, o, none⟩ := fun j e => by
      simp only [Addr.mk.injEq] at e
      omega
    rw [World.cell?_setCell_other (h := hne 3), World.cell?_setCell_other (h := hne 2), World.cell?_setCell_other (h := hne 1), World.cell?_setCell_other (h := hne 0)]
    exact hv
  obtain ⟨ho1, ho2⟩ := id h.own
  rcases ho2 with ⟨rfl, h0⟩ | ⟨g, cap, cur, rfl, hb, hg, hn, hc, hsz, htake⟩
  · have : l = [] := List.eq_nil_of_length_eq_zero h0
    subst this
    exact ⟨none, 0, rfl, hs, Nat.le_refl _, Nat.zero_le _, Or.inl rfl⟩
  · refine ⟨some ⟨g, 0, none⟩, cap, rfl, hs, hn, hc, Or.inr ⟨g, xs, rfl, ⟨by omega, ((((nf_own h.own rfl).setCell _ _).setCell _ _).setCell _ _).setCell _ _⟩, fun j v hj => hmv g j v hb ?_, fun o => ?_, h.row.1, fun i hi => (h.row.2 i hi).move (fun b o v hb' hv => ⟨⟨⟨by have := hb'.1.1; omega, (((hb'.2.setCell _ _).setCell _ _).setCell _ _).setCell _ _⟩, fun e => hb'.1.2 (by rw [e]; rfl)⟩, hmv b o v hb'.1.1 hv⟩)⟩⟩
    · rw [h.own.cellAt j (by have := (List.getElem?_eq_some_iff.1 hj).1; omega)]; exact hj
    · rw [World.frozen?_setCell, World.frozen?_setCell, World.frozen?_setCell, World.frozen?_setCell]
      exact h.own.frozenAt o

def CpT (t : Tm) : Prop := ∀ (cb : Nat) (ao : Option Addr) (len cap : Nat) (zs : List Int) (S : Nat → Prop) (w : World) (v : Value), (∀ b, S b → b ≠ cb) → Cur cb ao len cap zs w → RpV S w t v → WfT t →
  Calls Try.prog 15 #[v] w fun e w' => ∃ v', e = .returned v' ∧ TopV (fun b => w.heap.size ≤ b ∧ Nf w' b) w' t v' ∧ Drawn cb ao len cap zs w w'

/-- The i-th of a list. -/
theorem RpL.at {S : Nat → Prop} {w : World} : ∀ (l : List Tm) (ao : Option Addr), RpL S w l ao → ∀ i (hi : i < l.length), ∃ b off, ao = some ⟨b, off, none⟩ ∧ S b ∧ RpT S w l[i] b (off + i * 4)
  | [], _, _, i, hi => absurd hi (Nat.not_lt_zero _)
  | t :: r, ao, h, i, hi => by
    rw [RpL] at h
    obtain ⟨b, off, e, hb, ht, hr⟩ := h
    refine ⟨b, off, e, hb, ?_⟩
    cases i with
    | zero => simpa using ht
    | succ j =>
      obtain ⟨b', off', e', _, h'⟩ := RpL.at r _ hr j (by simpa using hi)
      simp only [Option.some.injEq, Addr.mk.injEq] at e'
      obtain ⟨rfl, rfl, _⟩ := e'
      have : off + (j + 1) * 4 = off + 4 + j * 4 := by omega
      rw [this]
      exact h'
theorem RpT.cells {S : Nat → Prop} {w : World} {t : Tm} {b off : Nat} (h : RpT S w t b off) :
    ∃ k n s ao len cap, w.cell? ⟨b, off, none⟩ = some (.int .i64 k) ∧ w.cell? ⟨b, off + 1, none⟩ = some (.int .i64 n) ∧ w.cell? ⟨b, off + 2, none⟩ = some (.string s) ∧ w.cell? ⟨b, off + 3, none⟩ = some (.slice ao len cap) ∧
      RpV S w t (.agg #[.int .i64 k, .int .i64 n, .string s, .slice ao len cap]) := by
  obtain ⟨k, n, s, l⟩ := t
  rw [RpT] at h
  obtain ⟨h0, h1, h2, hs, ao, cap, h3, hl, hc, hr⟩ := h
  exact ⟨k, n, s, ao, l.length, cap, h0, h1, h2, h3, ao, cap, rfl, hs, hl, hc, hr⟩

theorem own_len {w : World} {B e z : Nat} {v : Value} {n k : Nat} {xs : List Value} (h : w.ownsRow B e z v n xs) (hn : n = k) : w.ownsRow B e z v k xs := by subst hn; exact h

/-- The start of a copy: the variable has an empty list of its own. -/
theorem Gath.begin {cb : Nat} {ao : Option Addr} {len cap : Nat} {zs : List Int} {w : World} (h : Cur cb ao len cap zs w) (c : Array Value) (hc : c.size = 4) (K N : Int) (s : ByteArray) :
    Gath cb ao len cap zs w (((w.alloc (.cells c 26)).alloc (.cells #[.int .i64 K, .int .i64 N, .string s, .slice (some ⟨w.heap.size + 1 + 1, 0, none⟩) 0 0] 26)).alloc (.cells #[] 26)) (w.heap.size + 1) K N s [] (.slice (some ⟨w.heap.size + 1 + 1, 0, none⟩) 0 0) [] := by
  obtain ⟨w1, hw1⟩ : ∃ w1, w1 = w.alloc (.cells c 26) := ⟨_, rfl⟩
  have hs1 : w1.heap.size = w.heap.size + 1 := by rw [hw1, World.size_alloc]
  have hg : Gath cb ao len cap zs w (w1.alloc (.cells #[.int .i64 K, .int .i64 N, .string s, .slice none 0 0] 26)) w1.heap.size K N s [] (.slice none 0 0) [] := by
    refine Gath.start (c := c) ?_ h.lt (by omega) hc (fun o => ?_) (fun o => ?_) K N s
    · rw [hw1]; exact (Drawn.refl h).alloc _
    · rw [hw1, World.cell?_alloc_new]
    · rw [hw1, World.frozen?_alloc_new]
  rw [← hw1, ← hs1]
  obtain ⟨x, hx⟩ : ∃ x : Value, x = .slice (some ⟨w1.heap.size + 1, 0, none⟩) 0 0 := ⟨_, rfl⟩
  rw [← hx]
  have hcb := h.lt
  have e0 : ∀ o, ((w1.alloc (.cells #[.int .i64 K, .int .i64 N, .string s, x] 26)).alloc (.cells #[] 26)).cell? ⟨w1.heap.size, o, none⟩ = (#[.int .i64 K, .int .i64 N, .string s, x] : Array Value)[o]? := fun o => by
    rw [World.cell?_alloc_lt (h := by rw [World.size_alloc]; exact Nat.lt_succ_self _), World.cell?_alloc_new]
  refine ⟨((by rw [hw1]; exact (Drawn.refl h).alloc _ : Drawn cb ao len cap zs w w1).alloc _).alloc _, hcb, by omega, by rw [World.size_alloc, World.size_alloc]; omega, by rw [e0]; rfl, by rw [e0]; rfl, by rw [e0]; rfl, by rw [e0]; rfl, fun o => ?_, fun j hj => ?_, fun o => ?_, ?_, Row.nil _ _, by simp⟩
  · rw [World.frozen?_alloc_old (h := by rw [World.size_alloc]; show w1.heap.size ≠ _; omega), World.frozen?_alloc_new]
  · obtain ⟨v, hv⟩ := hg.r j hj
    rw [World.cell?_alloc_lt (h := by show w.heap.size < _; omega)] at hv
    refine ⟨v, ?_⟩
    rw [World.cell?_alloc_lt (h := by rw [World.size_alloc]; show w.heap.size < _; omega), World.cell?_alloc_lt (h := by show w.heap.size < _; omega)]
    exact hv
  · have := hg.rf o
    rw [World.frozen?_alloc_old (h := by show w.heap.size ≠ _; omega)] at this
    rw [World.frozen?_alloc_old (h := by rw [World.size_alloc]; show w.heap.size ≠ _; omega), World.frozen?_alloc_old (h := by show w.heap.size ≠ _; omega)]
    exact this
  · refine ⟨rfl, Or.inr ⟨w1.heap.size + 1, 0, #[], hx, Nat.le_refl _, ?_, Nat.le_refl _, Nat.zero_le _, rfl, rfl⟩⟩
    show ((w1.heap.push _).push _)[w1.heap.size + 1]? = _
    rw [Array.getElem?_push, if_pos (by simp)]

set_option maxRecDepth 100000 in
set_option maxHeartbeats 4000000 in
theorem cpT_of (K N : Int) (s : ByteArray) (m : List Tm) (ih : ∀ t, t ∈ m → CpT t) : CpT (.mk K N s m) := by
  intro cb ao len cap zs S w v hS hc hv hw
  obtain ⟨so, scap, rfl, hss, hl, hcap, hr⟩ := hv
  have HC : Hid (Cur cb ao len cap zs w) := hc
  have IH : Hid (∀ t, t ∈ m → CpT t) := ih
  have HR : Hid (RpL S w m so) := hr
  have HS : Hid (∀ b, S b → b ≠ cb) := hS
  have HW : Hid (∀ t, t ∈ m → WfT t) := by rw [WfT] at hw; exact hw.2.2
  have hm : m.length ≤ 3 := by rw [WfT] at hw; exact hw.2.1
  have HM : Hid (s.size ≤ maxLen) := hss
  have hcb := hc.lt
  clear hc ih hr hS hw hss
  unfold maxLen at hcap
  go_enter Try.func15, Try.ntmps15
  go_wp2_with fail
  have hg0 := Gath.begin (HC.out.alloc (.cells #[.int .i64 K, .int .i64 N, .string s, .slice so m.length scap] 26)) #[.int .i64 0, .int .i64 0, .string ⟨#[]⟩, .slice none 0 0] rfl K N s
  have hdw : Drawn cb ao len cap zs w (w.alloc (.cells #[.int .i64 K, .int .i64 N, .string s, .slice so m.length scap] 26)) := (Drawn.refl HC.out).alloc _
  have hq0 : ∀ o, (w.alloc (.cells #[.int .i64 K, .int .i64 N, .string s, .slice so m.length scap] 26)).cell? ⟨w.heap.size, o, none⟩ = (#[.int .i64 K, .int .i64 N, .string s, .slice so m.length scap] : Array Value)[o]? := fun o => by rw [World.cell?_alloc_new]
  have hs0 : (w.alloc (.cells #[.int .i64 K, .int .i64 N, .string s, .slice so m.length scap] 26)).heap.size = w.heap.size + 1 := World.size_alloc _ _
  rw [hs0] at hg0
  generalize hW : w.alloc (.cells #[.int .i64 K, .int .i64 N, .string s, .slice so m.length scap] 26) = W0 at hg0 hdw hq0 hs0 ⊢
  have HG0 : Hid (Gath cb ao len cap zs W0 _ (w.heap.size + 1 + 1) K N s [] _ []) := hg0
  have HDW : Hid (Drawn cb ao len cap zs w W0) := hdw
  have HQ0 : Hid (W0.cell? ⟨w.heap.size, 3, none⟩ = some (.slice so m.length scap)) := by show _ = _; rw [hq0]; rfl
  have HS0 : Hid (W0.heap.size = w.heap.size + 1) := hs0
  clear hg0 hdw hq0 hs0 hW
  obtain ⟨i0, hi, hzz⟩ := Option.map_eq_some_iff.1 info26
  simp only [Prod.mk.injEq] at hzz
  obtain ⟨hzz0, hzz1, hzz2⟩ := hzz
  go_loopw [4] (fun i w' => ∃ (k : Nat) (u : Value) (xs : List Value), i = .int .i64 k ∧ k ≤ m.length ∧ Gath cb ao len cap zs W0 w' (w.heap.size + 1 + 1) K N s (m.take k) u xs) (fun i _ => m.length - (intOf i).toNat)
  case atStart => exact ⟨0, _, _, rfl, Nat.zero_le _, HG0.out⟩
  case round =>
    obtain ⟨k, u, xs, rfl, hk, hg⟩ := hrel
    obtain ⟨ua, uc, rfl⟩ := hg.form
    have hlen : (m.take k).length = k := by rw [List.length_take]; omega
    rw [hlen] at hg
    have HG : Hid (Gath cb ao len cap zs W0 wr (w.heap.size + 1 + 1) K N s (m.take k) (.slice ua k uc) xs) := hg
    have t0 := hg.t0
    have t1 := hg.t1
    have t2 := hg.t2
    have t3 := hg.t3
    have tf := hg.tf
    have htl := hg.lt
    have hqr := hg.drawn.2.cell (by omega) HQ0.out
    have hrr := hg.r
    have hrf := hg.rf
    rw [HS0.out] at hrr hrf
    obtain ⟨r0, hr0⟩ := hrr 0 (by decide)
    obtain ⟨r1, hr1⟩ := hrr 1 (by decide)
    obtain ⟨r2, hr2⟩ := hrr 2 (by decide)
    obtain ⟨r3, hr3⟩ := hrr 3 (by decide)
    have HDR : Hid (Drawn cb ao len cap zs w wr) := HDW.out.trans hg.drawn
    clear hg hrr
    by_cases hlt : k < m.length
    · have HRr : Hid (RpL S wr m so) := (Moves.turn HS.out HDR.out.2).repL _ _ HR.out
      obtain ⟨b, off, rfl, hSb, ht⟩ := RpL.at m so HRr.out k hlt
      obtain ⟨tk, tn, ts, tao, tlen, tcap, c0, c1, c2, c3, hv⟩ := ht.cells
      have HV : Hid (RpV S wr m[k] (.agg #[.int .i64 tk, .int .i64 tn, .string ts, .slice tao tlen tcap])) := hv
      have HT : Hid (CpT m[k]) := IH.out _ (List.getElem_mem hlt)
      clear hv ht hSb
      go_wp2_with fail
      go_region_law (first
        | (refine step_append_lies _ rfl (.tmp 16) (.tmp 23) 24 rfl (w.heap.size + 1 + 1 + 1) 26 i0 (.agg #[.int .i64 0, .int .i64 0, .string ⟨#[]⟩, .slice none 0 0]) 4 56 underlying24 hi hzz0 hzz1 hzz2 rfl (by decide) (.slice ua k uc) k xs (by simp [Act.eval]) (HO1.out.alloc _) ⟨w5.heap.size, 0, none⟩ 1 1 [.int .i64 va, .int .i64 vb, .string vc, .slice vd ve vf] (by simp [Act.eval]) rfl four_news (by intro u' hu'; simp at hu'; rcases hu' with rfl | rfl | rfl | rfl <;> rfl) (by decide) (by unfold maxLen; omega) (by omega) (by simp; omega) _ rfl ?_; intro g cap5 w6 hown6 hgrow6 hat6 hlt6; obtain ⟨t36, tf6⟩ := HG1.out.grown hgrow6)
        | (go_simp; go_wp2_with (go_at_call 15; refine (HT.out cb ao len cap zs S _ _ HS.out ?_ ?_ ?_).mono ?_; exact HDR.out.1.drew; exact (Moves.below ((Below.refl _ _).drew)).repV HV.out; exact HW.out _ (List.getElem_mem hlt); rintro e w5 ⟨vv, rfl, hv5t, hd5⟩; have hv5 := hv5t.rp; clear hv5t; obtain ⟨va, vb, vc, vd, ve, vf, rfl⟩ := hv5.form; have HG1 : Hid (Gath cb ao len cap zs W0 w5 (w.heap.size + 1 + 1) K N s (m.take k) (.slice ua k uc) xs) := HG.out.turn hd5.drew; have HO1 : Hid (w5.ownsRow (w.heap.size + 1 + 1 + 1) 26 4 (.slice ua k uc) k xs) := own_len HG1.out.own hlen; have htl5 := HG1.out.lt; have t35 := HG1.out.t3; have tf5 := HG1.out.tf)))
      all_goals
        have HG2 := HG.out.more (g := g) (cap' := cap5) hd5.drew hv5 (HW.out _ (List.getElem_mem hlt)) (by rw [hlen]; exact hown6) hgrow6 (by rw [World.size_alloc] at hat6; exact hat6) hlt6
        rw [hlen, ← List.take_succ_eq_append_getElem hlt] at HG2
        clear t36 tf6 hown6 hgrow6 hat6 hlt6 hv5 hd5 HG1 HO1 htl5 t35 tf5 c0 c1 c2 c3 hlen
        have HG3 : Hid (Gath cb ao len cap zs W0 _ (w.heap.size + 1 + 1) K N s _ _ _) := HG2
        go_wp2_with fail
        go_roundw
        case rel =>
          refine ⟨k + 1, _, _, ?_, by omega, HG3.out⟩
          go_num
        case measure => simp [intOf]; omega
    · go_wp2_with fail
      have hkm : m.take k = m := List.take_of_length_le (by omega)
      have hd := HG.out.done HM.out (.int .i64 K) (.int .i64 N) (.string s) (.slice ua k uc)
      have htop := HG.out.top HM.out (.int .i64 K) (.int .i64 N) (.string s) (.slice ua k uc)
      rw [HS0.out, hkm] at hd htop
      refine bodyPost_ret (v := .agg #[.int .i64 K, .int .i64 N, .string s, .slice ua k uc]) (by simp [results, Try.results15, go_sem, hr0, hr1, hr2, hr3]) rfl ⟨_, rfl, TopV.sub (fun b hb => ⟨by have := hb.1; omega, hb.2⟩) htop, HDW.out.trans hd.2⟩

theorem cpT_all : ∀ t, CpT t := Tm.ind fun k n s l ih => cpT_of k n s l ih
end Go.Proofs.Ytklcpogpnoghkaa
