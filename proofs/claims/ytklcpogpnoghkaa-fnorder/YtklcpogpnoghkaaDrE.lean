/-
  Two terms that are drawn: what DrawLessTerm answers.
-/
import Derived.Test.YtklcpogpnoghkaaDrD
namespace Go.Proofs.Ytklcpogpnoghkaa
open Go.RowKit
set_option linter.unusedVariables false

theorem Drawn.below {cb : Nat} {ao : Option Addr} {len cap : Nat} {zs : List Int} {B : Nat} {W w w' : World} (h : Below B W w) (hB : B ≤ w.heap.size) (d : Drawn cb ao len cap zs w w') (hcb : B ≤ cb) : Below B W w' := Turn.below h hB d.2 hcb

mutual
theorem RpT.repB {S : Nat → Prop} {B : Nat} (hS : ∀ b, S b → B ≤ b) {w : World} : ∀ (t : Tm) (b off : Nat), RpT S w t b off → RepT B w t b off
  | .mk k n s l, b, off, h => by
    rw [RpT] at h
    rw [RepT]
    obtain ⟨h0, h1, h2, hs, ao, cap, h3, hl, hc, hr⟩ := h
    exact ⟨h0, h1, h2, hs, ao, cap, h3, hl, hc, RpL.repB hS l ao hr⟩
theorem RpL.repB {S : Nat → Prop} {B : Nat} (hS : ∀ b, S b → B ≤ b) {w : World} : ∀ (l : List Tm) (ao : Option Addr), RpL S w l ao → RepL B w l ao
  | [], _, _ => by rw [RepL]; trivial
  | t :: r, ao, h => by
    rw [RpL] at h
    rw [RepL]
    obtain ⟨b, off, e, hb, ht, hr⟩ := h
    exact ⟨b, off, e, hS b hb, RpT.repB hS t b off ht, RpL.repB hS r _ hr⟩
end
theorem RpV.repB {S : Nat → Prop} {B : Nat} (hS : ∀ b, S b → B ≤ b) {w : World} {t : Tm} {v : Value} (h : RpV S w t v) : RepV B w t v := by
  obtain ⟨k, n, s, l⟩ := t
  obtain ⟨ao, cap, e, h1, h2, h3, h4⟩ := h
  exact ⟨ao, cap, e, h1, h2, h3, RpL.repB hS _ _ h4⟩

theorem Keeps.drew {B : Nat} {w w' : World} (h : Keeps B w w') : Keeps B w w'.drew := h
theorem set4_keeps {B : Nat} (w : World) {g : Nat} (hg : g < B) (o : Nat) (a b c d : Value) : Keeps B w (set4 w g o a b c d) := fun x o' v hx hc => by
  rw [set4_far (p := ⟨x, o', none⟩) (Or.inl (by show x ≠ g; omega))]; exact hc
theorem set4_below {B : Nat} {W w : World} (h : Below B W w) {g : Nat} (hg : B ≤ g) (o : Nat) (a b c d : Value) : Below B W (set4 w g o a b c d) :=
  (((h.setCell (p := ⟨g, o, none⟩) hg a).setCell (p := ⟨g, o + 1, none⟩) hg b).setCell (p := ⟨g, o + 2, none⟩) hg c).setCell (p := ⟨g, o + 3, none⟩) hg d
theorem TopV.keep {S S' : Nat → Prop} {w w' : World} (hk : Moves S S' w w') (hf : ∀ b o, S b → b < w.heap.size → w'.frozen? ⟨b, o, none⟩ = w.frozen? ⟨b, o, none⟩) {t : Tm} {v : Value} (h : TopV S w t v) : TopV S' w' t v := by
  obtain ⟨k, n, s, l⟩ := t
  obtain ⟨ao, cap, e, h1, h2, h3, h4⟩ := h
  refine ⟨ao, cap, e, h1, h2, h3, ?_⟩
  rcases h4 with rfl | ⟨g, xs, e2, hg, he, hf', hrow⟩
  · exact Or.inl rfl
  · cases l with
    | nil => exact Or.inl rfl
    | cons x r =>
      obtain ⟨v0, hv0⟩ := ((hrow.2 0 (Nat.zero_lt_succ _)).rp he).head
      have hlt : g < w.heap.size := World.block_lt_of_cell? w _ hv0
      exact Or.inr ⟨g, xs, e2, (hk g _ v0 hg hv0).1, fun j v hj => (hk g j v hg (he j v hj)).2, fun o => by rw [hf g o hg hlt]; exact hf' o, hrow.1, fun i hi => (hrow.2 i hi).move (fun b o v hb hc => ⟨⟨(hk b o v hb.1 hc).1, hb.2⟩, (hk b o v hb.1 hc).2⟩)⟩
theorem arm31 {cb : Nat} {ao : Option Addr} {len cap : Nat} {zs : List Int} {w6 w7 : World} {Bv ce : Nat} {v : Value} {y : Int} (hd : Drawn cb ao len cap zs w6.drew w7) (hBc : Bv ≠ cb) (hq : w6.cell? ⟨Bv, 3, none⟩ = some v) (h0 : 0 ≤ y) (h1 : y < ce) :
    Drawn cb ao len cap zs w6 w7 ∧ w7.cell? ⟨Bv, 3, none⟩ = some v ∧ ∃ jj : Nat, y = jj ∧ jj < ce :=
  ⟨hd.drew, hd.drew.2.cell hBc hq, y.toNat, by omega, by omega⟩
theorem arm20 {cb : Nat} {ao : Option Addr} {len cap : Nat} {zs : List Int} {w6 w7 w8 : World} {Bv ce g jj : Nat} {v : Value} (hd : Drawn cb ao len cap zs w6 w7) (hd8 : Drawn cb ao len cap zs w7 w8) (hBc : Bv ≠ cb) (hgc : g ≠ cb) (hq : w7.cell? ⟨Bv, 3, none⟩ = some v)
    (hg : ∀ j, j < ce * 4 → ∃ v, w6.cell? ⟨g, j, none⟩ = some v) (hf : ∀ o, w6.frozen? ⟨g, o, none⟩ = false) (hj : jj < ce) :
    w8.cell? ⟨Bv, 3, none⟩ = some v ∧ (∃ x, w8.cell? ⟨g, jj * 4, none⟩ = some x) ∧ (∃ x, w8.cell? ⟨g, jj * 4 + 1, none⟩ = some x) ∧ (∃ x, w8.cell? ⟨g, jj * 4 + 2, none⟩ = some x) ∧ (∃ x, w8.cell? ⟨g, jj * 4 + 3, none⟩ = some x) ∧ ∀ o, w8.frozen? ⟨g, o, none⟩ = false := by
  have t := hd.2.trans hd8.2
  have e : ∀ j, j < 4 → ∃ x, w8.cell? ⟨g, jj * 4 + j, none⟩ = some x := fun j hj4 => by
    obtain ⟨x, hx⟩ := hg (jj * 4 + j) (by omega)
    exact ⟨x, t.cell hgc hx⟩
  obtain ⟨x0, hx0⟩ := hg (jj * 4) (by omega)
  exact ⟨hd8.2.cell hBc hq, e 0 (by omega), e 1 (by omega), e 2 (by omega), e 3 (by omega), fun o => by rw [t.frozen hgc (World.block_lt_of_cell? w6 _ hx0)]; exact hf o⟩
theorem wf_set {k n : Int} {s : ByteArray} {l : List Tm} (h : WfT (.mk k n s l)) (i : Nat) (hi : i < l.length) {t : Tm} (ht : WfT t) : WfT (.mk k n s (l.set i t)) := by
  rw [WfT] at h ⊢
  refine ⟨?_, by rw [List.length_set]; exact h.2.1, fun x hx => ?_⟩
  · have hne : l ≠ [] := fun e => by subst e; exact absurd hi (Nat.not_lt_zero _)
    rcases h.1 with h | h | h | h | h
    · exact absurd h.2.2.1 hne
    · exact absurd h.2.2.1 hne
    · exact absurd h.2.2.1 hne
    · exact Or.inr (Or.inr (Or.inr (Or.inl h)))
    · exact absurd h.2.2.1 hne
  · rcases List.mem_or_eq_of_mem_set hx with hx | rfl
    · exact h.2.2 x hx
    · exact ht

theorem rt_set {k n : Int} {s : ByteArray} {l : List Tm} {d : Nat} (h : RtT (d + 1) (.mk k n s l)) (i : Nat) (hi : i < l.length) {t : Tm} (ht : RtT d t) : RtT (d + 1) (.mk k n s (l.set i t)) := by
  refine ⟨wf_set h.1 i hi ht.1, ?_⟩
  have h2 := h.2
  rw [DpT] at h2 ⊢
  intro x hx
  rcases List.mem_or_eq_of_mem_set hx with hx | rfl
  · exact h2 x hx
  · exact ht.2
/-- Two results are laid down. -/
def two4 (w4 : World) (R : Nat) (a0 a1 a2 a3 b0 b1 b2 b3 : Value) : World := (set4 (set4 w4 R 0 a0 a1 a2 a3) (R + 1) 0 b0 b1 b2 b3).drew
theorem fin8 {w w4 : World} (h : Below w.heap.size w w4) (a0 a1 a2 a3 b0 b1 b2 b3 : Value) :
    Below w.heap.size w (two4 w4 w.heap.size a0 a1 a2 a3 b0 b1 b2 b3) ∧ Keeps (w.heap.size + 2) w4 (two4 w4 w.heap.size a0 a1 a2 a3 b0 b1 b2 b3) := by
  refine ⟨(set4_below (set4_below h (Nat.le_refl _) 0 a0 a1 a2 a3) (Nat.le_succ _) 0 b0 b1 b2 b3).drew, ?_⟩
  exact ((set4_keeps w4 (by omega) 0 a0 a1 a2 a3).trans (set4_keeps _ (by omega) 0 b0 b1 b2 b3)).drew

theorem two4_frozen (w4 : World) (R : Nat) (a0 a1 a2 a3 b0 b1 b2 b3 : Value) (p : Addr) : (two4 w4 R a0 a1 a2 a3 b0 b1 b2 b3).frozen? p = w4.frozen? p := by
  have h : ∀ w : World, w.drew.frozen? p = w.frozen? p := fun _ => rfl
  rw [two4, h, set4_frozen, set4_frozen]
theorem fin8N {w w4 : World} (h : Below w.heap.size w w4) {S : Nat → Prop} (hS : ∀ b, S b → w.heap.size + 2 ≤ b) (a0 a1 a2 a3 b0 b1 b2 b3 : Value) :
    Moves (fun b => S b ∧ Nf w4 b) (fun b => w.heap.size ≤ b ∧ Nf (two4 w4 w.heap.size a0 a1 a2 a3 b0 b1 b2 b3) b) w4 (two4 w4 w.heap.size a0 a1 a2 a3 b0 b1 b2 b3) := by
  intro b o v hb hc
  have h2 := (fin8 h a0 a1 a2 a3 b0 b1 b2 b3).2 b o v (hS b hb.1) hc
  have h3 : Nf (two4 w4 w.heap.size a0 a1 a2 a3 b0 b1 b2 b3) b := fun y => by rw [two4_frozen]; exact hb.2 y
  have h4 := hS b hb.1
  exact ⟨⟨by omega, h3⟩, h2⟩

set_option maxRecDepth 100000 in
set_option maxHeartbeats 4000000 in
theorem less_draw (w : World) (ao : Option Addr) (len cap : Nat) (zs : List Int) (hr : IsRow w ao len cap zs) (hsm : len ≤ 1048576) :
    Calls Try.prog 10 #[.slice ao len cap] w fun e w' => ∃ ta tb va vb, e = .returned (.tuple #[va, vb]) ∧ RpV (fun b => w.heap.size ≤ b ∧ Nf w' b) w' ta va ∧ RpV (fun b => w.heap.size ≤ b ∧ Nf w' b) w' tb vb ∧ RtT 2 ta ∧ RtT 2 tb ∧ Below w.heap.size w w' := by
  have HR : Hid (IsRow w ao len cap zs) := hr
  clear hr
  have DR : Hid (∀ (cb d : Nat), d ≤ 6 → DrU cb ao len cap zs d) := fun cb => drU_all cb ao len cap zs
  go_enter Try.func10, Try.ntmps10
  go_wp2_with fail
  have hb0 := ((Below.refl w.heap.size w).alloc (Nat.le_refl _) (.cells #[.int .i64 0, .int .i64 0, .string ⟨#[]⟩, .slice none 0 0] 26)).alloc (by simp) (.cells #[.int .i64 0, .int .i64 0, .string ⟨#[]⟩, .slice none 0 0] 26)
  have q0 : ∀ o, ((w.alloc (.cells #[.int .i64 0, .int .i64 0, .string ⟨#[]⟩, .slice none 0 0] 26)).alloc (.cells #[.int .i64 0, .int .i64 0, .string ⟨#[]⟩, .slice none 0 0] 26)).cell? ⟨w.heap.size, o, none⟩ = (#[.int .i64 0, .int .i64 0, .string ⟨#[]⟩, .slice none 0 0] : Array Value)[o]? := fun o => by simp
  have q1 : ∀ o, ((w.alloc (.cells #[.int .i64 0, .int .i64 0, .string ⟨#[]⟩, .slice none 0 0] 26)).alloc (.cells #[.int .i64 0, .int .i64 0, .string ⟨#[]⟩, .slice none 0 0] 26)).cell? ⟨w.heap.size + 1, o, none⟩ = (#[.int .i64 0, .int .i64 0, .string ⟨#[]⟩, .slice none 0 0] : Array Value)[o]? := fun o => by
    have := World.cell?_alloc_new (w.alloc (.cells #[.int .i64 0, .int .i64 0, .string ⟨#[]⟩, .slice none 0 0] 26)) #[.int .i64 0, .int .i64 0, .string ⟨#[]⟩, .slice none 0 0] 26 o
    rw [World.size_alloc] at this; exact this
  have f0 : ∀ o, ((w.alloc (.cells #[.int .i64 0, .int .i64 0, .string ⟨#[]⟩, .slice none 0 0] 26)).alloc (.cells #[.int .i64 0, .int .i64 0, .string ⟨#[]⟩, .slice none 0 0] 26)).frozen? ⟨w.heap.size, o, none⟩ = false := fun o => by simp
  have f1 : ∀ o, ((w.alloc (.cells #[.int .i64 0, .int .i64 0, .string ⟨#[]⟩, .slice none 0 0] 26)).alloc (.cells #[.int .i64 0, .int .i64 0, .string ⟨#[]⟩, .slice none 0 0] 26)).frozen? ⟨w.heap.size + 1, o, none⟩ = false := fun o => by
    have := World.frozen?_alloc_new (w.alloc (.cells #[.int .i64 0, .int .i64 0, .string ⟨#[]⟩, .slice none 0 0] 26)) #[.int .i64 0, .int .i64 0, .string ⟨#[]⟩, .slice none 0 0] 26 o
    rw [World.size_alloc] at this; exact this
  have hs0 : ((w.alloc (.cells #[.int .i64 0, .int .i64 0, .string ⟨#[]⟩, .slice none 0 0] 26)).alloc (.cells #[.int .i64 0, .int .i64 0, .string ⟨#[]⟩, .slice none 0 0] 26)).heap.size = w.heap.size + 2 := by simp
  generalize ((w.alloc (.cells #[.int .i64 0, .int .i64 0, .string ⟨#[]⟩, .slice none 0 0] 26)).alloc (.cells #[.int .i64 0, .int .i64 0, .string ⟨#[]⟩, .slice none 0 0] 26)) = W at hb0 q0 q1 f0 f1 hs0 ⊢
  have HB0 : Hid (Below w.heap.size w W) := hb0
  clear hb0
  refine (new_any _ ao len cap zs (HR.out.below HB0.out) hsm).mono ?_
  rintro e w1 ⟨rfl, hc1, hb1, hz1⟩
  obtain ⟨cb, hcb⟩ : ∃ cb, cb = W.heap.size := ⟨_, rfl⟩
  rw [← hcb] at hc1 ⊢
  have HB1 : Hid (Below w.heap.size w w1) := HB0.out.trans (hb1.mono (by omega))
  have q01 : (∀ o, w1.cell? ⟨w.heap.size, o, none⟩ = (#[.int .i64 0, .int .i64 0, .string ⟨#[]⟩, .slice none 0 0] : Array Value)[o]?) ∧ (∀ o, w1.frozen? ⟨w.heap.size, o, none⟩ = false) :=
    ⟨fun o => by rw [hb1.cell (p := ⟨w.heap.size, o, none⟩) (by show w.heap.size < _; omega)]; exact q0 o, fun o => by rw [hb1.frozen (p := ⟨w.heap.size, o, none⟩) (by show w.heap.size < _; omega)]; exact f0 o⟩
  have q11 : (∀ o, w1.cell? ⟨w.heap.size + 1, o, none⟩ = (#[.int .i64 0, .int .i64 0, .string ⟨#[]⟩, .slice none 0 0] : Array Value)[o]?) ∧ (∀ o, w1.frozen? ⟨w.heap.size + 1, o, none⟩ = false) :=
    ⟨fun o => by rw [hb1.cell (p := ⟨w.heap.size + 1, o, none⟩) (by show w.heap.size + 1 < _; omega)]; exact q1 o, fun o => by rw [hb1.frozen (p := ⟨w.heap.size + 1, o, none⟩) (by show w.heap.size + 1 < _; omega)]; exact f1 o⟩
  have HQ0 : Hid _ := q01
  have HQ1 : Hid _ := q11
  have HC1 : Hid (Cur cb ao len cap zs w1) := hc1
  have hw1 : w1.heap.size = w.heap.size + 3 := by omega
  have hcbw : cb = w.heap.size + 2 := by omega
  have HZ1 : Hid (w1.heap.size = w.heap.size + 3 ∧ cb = w.heap.size + 2) := ⟨hw1, hcbw⟩
  clear q0 q1 f0 f1 hb1 hc1 q01 q11 HB0 hz1 hcb hs0 hw1 hcbw W
  go_wp2_with fail
  refine (DR.out cb 2 (by decide) _ HC1.out).mono ?_
  rintro e w2 ⟨ta, va, rfl, hva, hwa, hd2⟩
  obtain ⟨ak, an, as', ad, ae, af, rfl⟩ := hva.form
  have HVA : Hid (RpV (fun b => (w1.heap.size ≤ b ∧ b < w2.heap.size) ∧ Nf w2 b) w2 ta (.agg #[.int .i64 ak, .int .i64 an, .string as', .slice ad ae af])) := Moves.repV (fun b o v hb hc => ⟨⟨⟨hb.1, World.block_lt_of_cell? w2 _ hc⟩, hb.2⟩, hc⟩) hva
  have HWA : Hid (RtT 2 ta) := hwa
  have HD2 : Hid (Drawn cb ao len cap zs w1 w2) := hd2
  clear hva hwa hd2
  go_wp2_with fail
  refine (DR.out cb 2 (by decide) _ (HD2.out.1.alloc _)).mono ?_
  rintro e w3 ⟨tb, vb, rfl, hvb, hwb, hd3⟩
  obtain ⟨bk, bn, bs, bd, be, bf, rfl⟩ := hvb.form
  have HVB : Hid (RpV (fun b => w1.heap.size ≤ b ∧ Nf w3 b) w3 tb (.agg #[.int .i64 bk, .int .i64 bn, .string bs, .slice bd be bf])) := (Moves.sub (fun b hb => ⟨by have := HD2.out.2.size; have hb1 := hb.1; rw [World.size_alloc] at hb1; omega, hb.2⟩)).repV hvb
  have HWB : Hid (RtT 2 tb) := hwb
  have HD3 : Hid (Drawn cb ao len cap zs (w2.alloc (.cells #[.int .i64 ak, .int .i64 an, .string as', .slice ad ae af] 26)) w3) := hd3
  clear hvb hwb hd3
  go_wp2_with fail
  refine (once_any cb ao len cap zs _ (HD3.out.1.alloc _) 3 (by decide) (by decide)).mono ?_
  rintro e w4 ⟨x, rfl, hd4⟩
  have hw1 := HZ1.out.1
  have hcbw := HZ1.out.2
  have hz2 := HD2.out.2.size
  have hz3 := HD3.out.2.size
  have hz4 := hd4.2.size
  rw [World.size_alloc] at hz3 hz4
  obtain ⟨A, hA⟩ : ∃ A, A = w2.heap.size := ⟨_, rfl⟩
  obtain ⟨Bv, hBv⟩ : ∃ Bv, Bv = w3.heap.size := ⟨_, rfl⟩
  have t34 : Turn cb w3 w4 := ((Turn.refl _ _).alloc _).trans hd4.2
  have t23 : Turn cb w2 w3 := ((Turn.refl _ _).alloc _).trans HD3.out.2
  have t14 : Turn cb w1 w4 := HD2.out.2.trans (t23.trans t34)
  have qA : (∀ o, w4.cell? ⟨A, o, none⟩ = (#[.int .i64 ak, .int .i64 an, .string as', .slice ad ae af] : Array Value)[o]?) ∧ (∀ o, w4.frozen? ⟨A, o, none⟩ = false) := by
    have h := turn_new (by omega) HD3.out.2
    rw [hA]
    exact t34.kept (by omega) (by omega) h.2.1 h.2.2
  have qB : (∀ o, w4.cell? ⟨Bv, o, none⟩ = (#[.int .i64 bk, .int .i64 bn, .string bs, .slice bd be bf] : Array Value)[o]?) ∧ (∀ o, w4.frozen? ⟨Bv, o, none⟩ = false) := by
    have h := turn_new (by omega) hd4.2
    rw [hBv]
    exact ⟨h.2.1, h.2.2⟩
  have qR0 := t14.kept (by omega) (by omega) HQ0.out.1 HQ0.out.2
  have qR1 := t14.kept (by omega) (by omega) HQ1.out.1 HQ1.out.2
  have HVA4 : Hid (RpV (fun b => (w1.heap.size ≤ b ∧ b < A) ∧ Nf w4 b) w4 ta (.agg #[.int .i64 ak, .int .i64 an, .string as', .slice ad ae af])) := by rw [hA]; exact (Moves.turnN (fun b hb => by omega) (t23.trans t34)).repV HVA.out
  have HVB4 : Hid (RpV (fun b => w1.heap.size ≤ b ∧ Nf w4 b) w4 tb (.agg #[.int .i64 bk, .int .i64 bn, .string bs, .slice bd be bf])) := (Moves.turnN (fun b hb => by omega) t34).repV HVB.out
  have HC4 : Hid (Cur cb ao len cap zs w4) := hd4.1
  have HB4 : Hid (Below w.heap.size w w4) := Turn.below HB1.out (by omega) t14 (by omega)
  rw [← hA, ← hBv]
  have hAB : w.heap.size + 3 ≤ A ∧ A < Bv ∧ Bv < w4.heap.size := by omega
  have hcl : w.heap.size + 2 ≤ cb := by omega
  have hch : cb < w.heap.size + 3 := by omega
  clear hA hBv t34 t23 t14 hd4 hz2 hz3 hz4 HVA HVB HD2 HD3 HQ0 HQ1 HC1 HB1 hw1 hcbw
  obtain ⟨qA, fA⟩ := qA
  obtain ⟨qB, fB⟩ := qB
  obtain ⟨qR0, fR0⟩ := qR0
  obtain ⟨qR1, fR1⟩ := qR1
  obtain ⟨hA3, hAB, hB4⟩ := hAB
  cases x with
  | false =>
    go_wp2_with fail
    go_region
    all_goals
      go_wp2_with fail
      obtain ⟨hb8, hk8⟩ := fin8 HB4.out (.int .i64 ak) (.int .i64 an) (.string as') (.slice ad ae af) (.int .i64 bk) (.int .i64 bn) (.string bs) (.slice bd be bf)
      have hw1 := HZ1.out.1
      refine bodyPost_ret (v := .tuple #[.agg #[.int .i64 ak, .int .i64 an, .string as', .slice ad ae af], .agg #[.int .i64 bk, .int .i64 bn, .string bs, .slice bd be bf]]) (by simp [results, Try.results10, go_sem, qR0, qR1]) rfl ⟨ta, tb, _, _, rfl, (fin8N HB4.out (S := fun b => w1.heap.size ≤ b ∧ b < A) (fun b hb => by omega) (.int .i64 ak) (.int .i64 an) (.string as') (.slice ad ae af) (.int .i64 bk) (.int .i64 bn) (.string bs) (.slice bd be bf)).repV HVA4.out, (fin8N HB4.out (S := fun b => w1.heap.size ≤ b) (fun b hb => by omega) (.int .i64 ak) (.int .i64 an) (.string as') (.slice ad ae af) (.int .i64 bk) (.int .i64 bn) (.string bs) (.slice bd be bf)).repV HVB4.out, HWA.out, HWB.out, hb8⟩
  | true =>
    go_wp2_with fail
    refine (cpT_all ta cb ao len cap zs (fun b => (w1.heap.size ≤ b ∧ b < A) ∧ Nf w4 b) _ _ (fun b hb => by have := HZ1.out; have := hb.1; omega) HC4.out HVA4.out HWA.out.1).mono ?_
    rintro e w5 ⟨v5, rfl, hv5, hd5⟩
    obtain ⟨ck, cn, cs, cd, ce, cf, rfl⟩ := hv5.rp.form
    have HV5 : Hid (TopV (fun b => w4.heap.size ≤ b ∧ Nf w5 b) w5 ta (.agg #[.int .i64 ck, .int .i64 cn, .string cs, .slice cd ce cf])) := hv5
    have HD5 : Hid (Drawn cb ao len cap zs w4 w5) := hd5
    have hz5 := hd5.2.size
    obtain ⟨qA, fA⟩ := hd5.2.kept (by omega) (by omega) qA fA
    obtain ⟨qB, fB⟩ := hd5.2.kept (by omega) (by omega) qB fB
    obtain ⟨qR0, fR0⟩ := hd5.2.kept (by omega) (by omega) qR0 fR0
    obtain ⟨qR1, fR1⟩ := hd5.2.kept (by omega) (by omega) qR1 fR1
    clear hv5 hd5
    have hw1 := HZ1.out.1
    have HB5 : Hid (Below w.heap.size w w5) := Turn.below HB4.out (by omega) HD5.out.2 (by omega)
    have HVA5 : Hid (RpV (fun b => (w1.heap.size ≤ b ∧ b < A) ∧ Nf w5 b) w5 ta (.agg #[.int .i64 ak, .int .i64 an, .string as', .slice ad ae af])) := (Moves.turnN (fun b hb => by omega) HD5.out.2).repV HVA4.out
    clear hw1
    by_cases hce : 0 < ce
    · obtain ⟨tk, tn, ts, tl, rfl⟩ : ∃ tk tn ts tl, ta = .mk tk tn ts tl := by
        obtain ⟨tk, tn, ts, tl⟩ := ta
        exact ⟨_, _, _, _, rfl⟩
      obtain ⟨g, rfl, hgl, hgf, hgc⟩ : ∃ g, cd = some ⟨g, 0, none⟩ ∧ w4.heap.size ≤ g ∧ (∀ o, w5.frozen? ⟨g, o, none⟩ = false) ∧ ∀ j, j < tl.length * 4 → (w5.cell? ⟨g, j, none⟩).isSome = true := by
        obtain ⟨ao', cap', e', h1, h2, h3, h4⟩ := HV5.out
        simp only [Value.agg.injEq, Array.mk.injEq, List.cons.injEq, and_true, Value.slice.injEq] at e'
        rcases h4 with rfl | ⟨g, xs, rfl, hg, he, hf, hrow⟩
        · exfalso
          have := e'.2.2.2.2.1
          simp at this
          omega
        · refine ⟨g, e'.2.2.2.1, hg.1, hf, fun j hj => ?_⟩
          have hjx : j < xs.length := by rw [hrow.1]; exact hj
          rw [he j xs[j] (List.getElem?_eq_getElem hjx)]; rfl
      obtain ⟨ek, en, es, el⟩ : ck = tk ∧ cn = tn ∧ cs = ts ∧ ce = tl.length := by
        obtain ⟨ao', cap', e', _⟩ := HV5.out
        simp only [Value.agg.injEq, Array.mk.injEq, List.cons.injEq, and_true, Value.int.injEq, Value.string.injEq, true_and, Value.slice.injEq] at e'
        exact ⟨e'.1, e'.2.1, e'.2.2.1, e'.2.2.2.2.1⟩
      subst ek
      subst en
      subst es
      have HGC : Hid (∀ j, j < ce * 4 → (w5.cell? ⟨g, j, none⟩).isSome = true) := by rw [el]; exact hgc
      have HL : Hid (ce = tl.length ∧ tl.length ≤ 3) := ⟨el, by have h := HWA.out.1; rw [WfT] at h; exact h.2.1⟩
      have hce3 : ce ≤ 3 := by have := HL.out; omega
      clear el hgc
      go_wp2_with fail
      have hW6e : set4 w5 Bv 0 (.int .i64 ck) (.int .i64 cn) (.string cs) (.slice (some ⟨g, 0, none⟩) ce cf) = ((((w5.setCell ⟨Bv, 0, none⟩ (.int .i64 ck)).setCell ⟨Bv, 1, none⟩ (.int .i64 cn)).setCell ⟨Bv, 2, none⟩ (.string cs)).setCell ⟨Bv, 3, none⟩ (.slice (some ⟨g, 0, none⟩) ce cf)) := rfl
      rw [← hW6e]
      have hqB := set4_in (w := w5) (g := Bv) (o := 0) (a := .int .i64 ck) (b := .int .i64 cn) (c := .string cs) (d := .slice (some ⟨g, 0, none⟩) ce cf) (fun j hj => by
        have h4 : j = 0 ∨ j = 1 ∨ j = 2 ∨ j = 3 := by omega
        rw [qB]; rcases h4 with rfl | rfl | rfl | rfl <;> rfl)
      have hfar : ∀ p o, p ≠ Bv → (set4 w5 Bv 0 (.int .i64 ck) (.int .i64 cn) (.string cs) (.slice (some ⟨g, 0, none⟩) ce cf)).cell? ⟨p, o, none⟩ = w5.cell? ⟨p, o, none⟩ := fun p o hp => set4_far (p := ⟨p, o, none⟩) (Or.inl hp)
      have hfz : ∀ p o, (set4 w5 Bv 0 (.int .i64 ck) (.int .i64 cn) (.string cs) (.slice (some ⟨g, 0, none⟩) ce cf)).frozen? ⟨p, o, none⟩ = w5.frozen? ⟨p, o, none⟩ := fun p o => set4_frozen _
      have hsz : (set4 w5 Bv 0 (.int .i64 ck) (.int .i64 cn) (.string cs) (.slice (some ⟨g, 0, none⟩) ce cf)).heap.size = w5.heap.size := set4_size
      generalize hW6 : set4 w5 Bv 0 (.int .i64 ck) (.int .i64 cn) (.string cs) (.slice (some ⟨g, 0, none⟩) ce cf) = w6 at hqB hfar hfz hsz ⊢
      have hgB : g ≠ Bv := by omega
      have HTV : Hid (TopV (fun b => w4.heap.size ≤ b ∧ Nf w6 b) w6 (.mk ck cn cs tl) (.agg #[.int .i64 ck, .int .i64 cn, .string cs, .slice (some ⟨g, 0, none⟩) ce cf])) :=
        TopV.keep (fun b o v hb hc => ⟨⟨hb.1, fun y => by rw [hfz]; exact hb.2 y⟩, by rw [hfar b o (by have := hb.1; omega)]; exact hc⟩) (fun b o _ _ => hfz b o) HV5.out
      have HVA6 : Hid (RpV (fun b => (w1.heap.size ≤ b ∧ b < A) ∧ Nf w6 b) w6 (.mk ck cn cs tl) (.agg #[.int .i64 ak, .int .i64 an, .string as', .slice ad ae af])) :=
        Moves.repV (fun b o v hb hc => ⟨⟨hb.1, fun y => by rw [hfz]; exact hb.2 y⟩, by rw [hfar b o (by have := hb.1; omega)]; exact hc⟩) HVA5.out
      have HC6 : Hid (Cur cb ao len cap zs w6) := by
        rw [← hW6]
        exact (((HD5.out.1.same (fun b hb => Below.heap_setCell w5 ⟨Bv, 0, none⟩ _ b (by show b ≠ Bv; omega))).same (fun b hb => Below.heap_setCell _ ⟨Bv, 1, none⟩ _ b (by show b ≠ Bv; omega))).same (fun b hb => Below.heap_setCell _ ⟨Bv, 2, none⟩ _ b (by show b ≠ Bv; omega))).same (fun b hb => Below.heap_setCell _ ⟨Bv, 3, none⟩ _ b (by show b ≠ Bv; omega))
      have HB6 : Hid (Below w.heap.size w w6) := by rw [← hW6]; exact set4_below HB5.out (by omega) _ _ _ _ _
      have HGC6 : Hid (∀ j, j < ce * 4 → ∃ v, w6.cell? ⟨g, j, none⟩ = some v) := fun j hj => by
        rw [hfar g j hgB]; exact Option.isSome_iff_exists.1 (HGC.out j hj)
      have hgf6 : ∀ o, w6.frozen? ⟨g, o, none⟩ = false := fun o => by rw [hfz]; exact hgf o
      have HQA : Hid ((∀ o, w6.cell? ⟨A, o, none⟩ = (#[.int .i64 ak, .int .i64 an, .string as', .slice ad ae af] : Array Value)[o]?) ∧ (∀ o, w6.cell? ⟨w.heap.size, o, none⟩ = (#[.int .i64 0, .int .i64 0, .string ⟨#[]⟩, .slice none 0 0] : Array Value)[o]?) ∧ (∀ o, w6.cell? ⟨w.heap.size + 1, o, none⟩ = (#[.int .i64 0, .int .i64 0, .string ⟨#[]⟩, .slice none 0 0] : Array Value)[o]?)) :=
        ⟨fun o => by rw [hfar A o (by omega)]; exact qA o, fun o => by rw [hfar _ o (by omega)]; exact qR0 o, fun o => by rw [hfar _ o (by omega)]; exact qR1 o⟩
      have HFZ : Hid (∀ o, w6.frozen? ⟨w.heap.size, o, none⟩ = false ∧ w6.frozen? ⟨w.heap.size + 1, o, none⟩ = false) := fun o => ⟨by rw [hfz]; exact fR0 o, by rw [hfz]; exact fR1 o⟩
      have HQB : Hid (w6.cell? ⟨Bv, 0, none⟩ = some (.int .i64 ck) ∧ w6.cell? ⟨Bv, 0 + 1, none⟩ = some (.int .i64 cn) ∧ w6.cell? ⟨Bv, 0 + 2, none⟩ = some (.string cs) ∧ w6.cell? ⟨Bv, 0 + 3, none⟩ = some (.slice (some ⟨g, 0, none⟩) ce cf)) := hqB
      have hqB3 : w6.cell? ⟨Bv, 3, none⟩ = some (.slice (some ⟨g, 0, none⟩) ce cf) := hqB.2.2.2
      clear hW6 hW6e hfar hfz hqB qA qB qR0 qR1 fA fB fR0 fR1 HGC hgf HVA5 HVA4 HVB4 HB4 HC4
      have hBc : Bv ≠ cb := by omega
      have hgc : g ≠ cb := by omega
      have hce1 : (1 : Int) ≤ ce := by omega
      have hce2 : (ce : Int) ≤ 256 := by omega
      have h16 : 1 ≤ 6 := by decide
      go_region_with (first
        | (go_at_call 16; refine (below_any cb ao len cap zs _ ?_ ce ?_ ?_).mono ?_; exact HC6.out.drew; exact hce1; exact hce2; rintro e w7 ⟨y, rfl, hy0, hy1, hd7⟩; obtain ⟨hd7', hqB7, jj, rfl, hjj⟩ := arm31 hd7 hBc hqB3 hy0 hy1; have HD7 : Hid (Drawn cb ao len cap zs w6 w7) := hd7'; clear hy0 hy1 hd7 hd7')
        | (go_at_call 11; refine (DR.out cb 1 h16 _ ?_).mono ?_; exact HD7.out.1; rintro e w8 ⟨tt, vv, rfl, hv8, hw8, hd8⟩; obtain ⟨va, vb, vc, vd, ve, vf, rfl⟩ := hv8.form; have HV8 : Hid (RpV (fun b => w7.heap.size ≤ b ∧ Nf w8 b) w8 tt (.agg #[.int .i64 va, .int .i64 vb, .string vc, .slice vd ve vf])) := hv8; have HW8 : Hid (RtT 1 tt) := hw8; have HD8 : Hid (Drawn cb ao len cap zs w7 w8) := hd8; clear hv8 hw8 hd8; obtain ⟨hqB8, ⟨x0, y0⟩, ⟨x1, y1⟩, ⟨x2, y2⟩, ⟨x3, y3⟩, hgf8⟩ := arm20 HD7.out HD8.out hBc hgc hqB7 HGC6.out hgf6 hjj))
      all_goals
        have e9 : ((((w8.setCell ⟨g, jj * 4, none⟩ (.int .i64 va)).setCell ⟨g, jj * 4 + 1, none⟩ (.int .i64 vb)).setCell ⟨g, jj * 4 + 2, none⟩ (.string vc)).setCell ⟨g, jj * 4 + 3, none⟩ (.slice vd ve vf)) = set4 w8 g (jj * 4) (.int .i64 va) (.int .i64 vb) (.string vc) (.slice vd ve vf) := rfl
        rw [e9]
        have hw1 := HZ1.out.1
        have t68 : Turn cb w6 w8 := HD7.out.2.trans HD8.out.2
        have hz6 := HD5.out.2.size
        have hz7 := HD7.out.2.size
        have hz8 := HD8.out.2.size
        have hg6 : g < w6.heap.size := by
          obtain ⟨x, hx⟩ := HGC6.out 0 (by omega)
          exact World.block_lt_of_cell? w6 _ hx
        have hTV8 := TopV.keep (Moves.turnN (S := fun b => w4.heap.size ≤ b) (fun b hb => by omega) t68) (fun b o hb hl => t68.frozen (by have := hb.1; omega) hl) HTV.out
        have hst := TopV.store (T := fun b => w.heap.size + 2 ≤ b ∧ Nf (set4 w8 g (jj * 4) (.int .i64 va) (.int .i64 vb) (.string vc) (.slice vd ve vf)) b) (fun b hb => ⟨by have := hb.1; omega, fun y => by rw [set4_frozen]; exact hb.2 y⟩) (fun b hb => ⟨by have := hb.1; omega, fun y => by rw [set4_frozen]; exact hb.2 y⟩) hTV8 jj (by have := HL.out; omega) HV8.out (fun b hb => by have := hb.1; omega)
        have HRB : Hid (RpV (fun b => w.heap.size + 2 ≤ b ∧ Nf (set4 w8 g (jj * 4) (.int .i64 va) (.int .i64 vb) (.string vc) (.slice vd ve vf)) b) (set4 w8 g (jj * 4) (.int .i64 va) (.int .i64 vb) (.string vc) (.slice vd ve vf)) (.mk ck cn cs (tl.set jj tt)) (.agg #[.int .i64 ck, .int .i64 cn, .string cs, .slice (some ⟨g, 0, none⟩) ce cf])) := hst.2
        have HRA : Hid (RpV (fun b => w.heap.size + 2 ≤ b ∧ Nf (set4 w8 g (jj * 4) (.int .i64 va) (.int .i64 vb) (.string vc) (.slice vd ve vf)) b) (set4 w8 g (jj * 4) (.int .i64 va) (.int .i64 vb) (.string vc) (.slice vd ve vf)) (.mk ck cn cs tl) (.agg #[.int .i64 ak, .int .i64 an, .string as', .slice ad ae af])) :=
          Moves.repV (fun b o v hb hc => ⟨⟨by have := hb.1; omega, fun y => by rw [set4_frozen, t68.frozen (b := b) (by have := hb.1; omega) (World.block_lt_of_cell? w6 _ hc)]; exact hb.2 y⟩, by rw [set4_far (p := ⟨b, o, none⟩) (Or.inl (by show b ≠ g; have := hb.1; omega))]; exact t68.cell (by have := hb.1; omega) hc⟩) HVA6.out
        have HWB9 : Hid (RtT 2 (.mk ck cn cs (tl.set jj tt))) := rt_set HWA.out jj (by have := HL.out; omega) HW8.out
        have HB9 : Hid (Below w.heap.size w (set4 w8 g (jj * 4) (.int .i64 va) (.int .i64 vb) (.string vc) (.slice vd ve vf))) := set4_below (Turn.below HB6.out (by omega) t68 (by omega)) (by omega) _ _ _ _ _
        have hfar : ∀ p o v, p ≠ g → p ≠ cb → w6.cell? ⟨p, o, none⟩ = some v → (set4 w8 g (jj * 4) (.int .i64 va) (.int .i64 vb) (.string vc) (.slice vd ve vf)).cell? ⟨p, o, none⟩ = some v := fun p o v hp hpc hv => by
          rw [set4_far (p := ⟨p, o, none⟩) (Or.inl hp)]; exact t68.cell hpc hv
        have hfz : ∀ p o, p ≠ cb → p < w6.heap.size → (set4 w8 g (jj * 4) (.int .i64 va) (.int .i64 vb) (.string vc) (.slice vd ve vf)).frozen? ⟨p, o, none⟩ = w6.frozen? ⟨p, o, none⟩ := fun p o hpc hp => by
          rw [set4_frozen]; exact t68.frozen hpc hp
        have a0 := hfar A 0 _ (by omega) (by omega) (HQA.out.1 0)
        have a1 := hfar A 1 _ (by omega) (by omega) (HQA.out.1 1)
        have a2 := hfar A 2 _ (by omega) (by omega) (HQA.out.1 2)
        have a3 := hfar A 3 _ (by omega) (by omega) (HQA.out.1 3)
        have b0 := hfar Bv 0 _ (by omega) (by omega) HQB.out.1
        have b1 := hfar Bv 1 _ (by omega) (by omega) HQB.out.2.1
        have b2 := hfar Bv 2 _ (by omega) (by omega) HQB.out.2.2.1
        have b3 := hfar Bv 3 _ (by omega) (by omega) HQB.out.2.2.2
        have c0 := hfar _ 0 _ (by omega) (by omega) (HQA.out.2.1 0)
        have c1 := hfar _ 1 _ (by omega) (by omega) (HQA.out.2.1 1)
        have c2 := hfar _ 2 _ (by omega) (by omega) (HQA.out.2.1 2)
        have c3 := hfar _ 3 _ (by omega) (by omega) (HQA.out.2.1 3)
        have d0 := hfar _ 0 _ (by omega) (by omega) (HQA.out.2.2 0)
        have d1 := hfar _ 1 _ (by omega) (by omega) (HQA.out.2.2 1)
        have d2 := hfar _ 2 _ (by omega) (by omega) (HQA.out.2.2 2)
        have d3 := hfar _ 3 _ (by omega) (by omega) (HQA.out.2.2 3)
        have z0 : ∀ o, (set4 w8 g (jj * 4) (.int .i64 va) (.int .i64 vb) (.string vc) (.slice vd ve vf)).frozen? ⟨w.heap.size, o, none⟩ = false := fun o => by rw [hfz _ o (by omega) (by omega)]; exact (HFZ.out o).1
        have z1 : ∀ o, (set4 w8 g (jj * 4) (.int .i64 va) (.int .i64 vb) (.string vc) (.slice vd ve vf)).frozen? ⟨w.heap.size + 1, o, none⟩ = false := fun o => by rw [hfz _ o (by omega) (by omega)]; exact (HFZ.out o).2
        clear hfar hfz e9 t68 hTV8 hst y0 y1 y2 y3 hgf8 hqB8 hqB7 hqB3 hgf6 hw1 hz6 hz7 hz8 hg6
        generalize set4 w8 g (jj * 4) (.int .i64 va) (.int .i64 vb) (.string vc) (.slice vd ve vf) = w9 at *
        go_wp2_with fail
        go_region
        all_goals
          go_wp2_with fail
          obtain ⟨hb8, hk8⟩ := fin8 HB9.out (.int .i64 ak) (.int .i64 an) (.string as') (.slice ad ae af) (.int .i64 ck) (.int .i64 cn) (.string cs) (.slice (some ⟨g, 0, none⟩) ce cf)
          refine bodyPost_ret (v := .tuple #[.agg #[.int .i64 ak, .int .i64 an, .string as', .slice ad ae af], .agg #[.int .i64 ck, .int .i64 cn, .string cs, .slice (some ⟨g, 0, none⟩) ce cf]]) (by simp [results, Try.results10, go_sem, c0, c1, c2, c3, d0, d1, d2, d3]) rfl ⟨_, _, _, _, rfl, (fin8N HB9.out (S := fun b => w.heap.size + 2 ≤ b) (fun b hb => hb) (.int .i64 ak) (.int .i64 an) (.string as') (.slice ad ae af) (.int .i64 ck) (.int .i64 cn) (.string cs) (.slice (some ⟨g, 0, none⟩) ce cf)).repV HRA.out, (fin8N HB9.out (S := fun b => w.heap.size + 2 ≤ b) (fun b hb => hb) (.int .i64 ak) (.int .i64 an) (.string as') (.slice ad ae af) (.int .i64 ck) (.int .i64 cn) (.string cs) (.slice (some ⟨g, 0, none⟩) ce cf)).repV HRB.out, HWA.out, HWB9.out, hb8⟩
    · go_wp2_with fail
      go_region
      all_goals
        go_wp2_with fail
        have hw1 := HZ1.out.1
        have hb6 := set4_below HB5.out (by omega : w.heap.size ≤ Bv) 0 (.int .i64 ck) (.int .i64 cn) (.string cs) (.slice cd ce cf)
        have hfar : ∀ b o v, b ≠ Bv → w5.cell? ⟨b, o, none⟩ = some v → (set4 w5 Bv 0 (.int .i64 ck) (.int .i64 cn) (.string cs) (.slice cd ce cf)).cell? ⟨b, o, none⟩ = some v := fun b o v hb hc => by
          rw [set4_far (p := ⟨b, o, none⟩) (Or.inl hb)]; exact hc
        have hra : RpV (fun b => w.heap.size + 2 ≤ b ∧ Nf (set4 w5 Bv 0 (.int .i64 ck) (.int .i64 cn) (.string cs) (.slice cd ce cf)) b) (set4 w5 Bv 0 (.int .i64 ck) (.int .i64 cn) (.string cs) (.slice cd ce cf)) ta (.agg #[.int .i64 ak, .int .i64 an, .string as', .slice ad ae af]) :=
          Moves.repV (fun b o v hb hc => ⟨⟨by have := hb.1; omega, fun y => by rw [set4_frozen]; exact hb.2 y⟩, hfar b o v (by have := hb.1; omega) hc⟩) HVA5.out
        have hrb : RpV (fun b => w.heap.size + 2 ≤ b ∧ Nf (set4 w5 Bv 0 (.int .i64 ck) (.int .i64 cn) (.string cs) (.slice cd ce cf)) b) (set4 w5 Bv 0 (.int .i64 ck) (.int .i64 cn) (.string cs) (.slice cd ce cf)) ta (.agg #[.int .i64 ck, .int .i64 cn, .string cs, .slice cd ce cf]) :=
          Moves.repV (fun b o v hb hc => ⟨⟨by have := hb.1; omega, fun y => by rw [set4_frozen]; exact hb.2 y⟩, hfar b o v (by have := hb.1; omega) hc⟩) HV5.out.rp
        obtain ⟨hb8, hk8⟩ := fin8 hb6 (.int .i64 ak) (.int .i64 an) (.string as') (.slice ad ae af) (.int .i64 ck) (.int .i64 cn) (.string cs) (.slice cd ce cf)
        refine bodyPost_ret (v := .tuple #[.agg #[.int .i64 ak, .int .i64 an, .string as', .slice ad ae af], .agg #[.int .i64 ck, .int .i64 cn, .string cs, .slice cd ce cf]]) ?_ rfl ⟨ta, ta, _, _, rfl, (fin8N hb6 (S := fun b => w.heap.size + 2 ≤ b) (fun b hb => hb) (.int .i64 ak) (.int .i64 an) (.string as') (.slice ad ae af) (.int .i64 ck) (.int .i64 cn) (.string cs) (.slice cd ce cf)).repV hra, (fin8N hb6 (S := fun b => w.heap.size + 2 ≤ b) (fun b hb => hb) (.int .i64 ak) (.int .i64 an) (.string as') (.slice ad ae af) (.int .i64 ck) (.int .i64 cn) (.string cs) (.slice cd ce cf)).repV hrb, HWA.out, HWA.out, hb8⟩
        simp [results, Try.results10, go_sem, qR0, qR1]
end Go.Proofs.Ytklcpogpnoghkaa
