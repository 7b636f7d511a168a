/-
  How the specification reads off both lists: one term whole, at every depth.
-/
import Derived.Test.YtjjmikfbongccaaSlF
namespace Go.Proofs.Ytjjmikfbongccaa.Gn
open Go.RowKit
set_option linter.unusedVariables false

/-- What l6Read answers at one word. -/
def RdAt (E : SE) (D : Int) (w : World) (x : Int) (R : Option (Tm × Nat)) : Prop :=
  Calls Try.prog 41 #[.pointer (some ⟨E.rb, 0, none⟩), .int .i64 x, .int .i64 D] w fun e w' => Ans E w w' R e
theorem boxG {E : SE} {left : Int} {bad : Bool} {w w1 : World} (h : Sr E left bad w) (c : Array Value) (t : TypeId) (k : Int) (e : w1 = (w.alloc (.cells c t)).setCell ⟨E.rb, 4, none⟩ (.int .i64 k)) :
    w1.heap.size = w.heap.size + 1 ∧ (∀ o, w1.cell? ⟨w.heap.size, o, none⟩ = c[o]?) ∧ (∀ o, w1.frozen? ⟨w.heap.size, o, none⟩ = false) ∧ Turn E.rb w w1 ∧ Sr E k bad w1 ∧ E.rb ≠ w.heap.size := by
  have hlt := h.lt
  subst e
  have hb : Below w.heap.size w (w.alloc (.cells c t)) := (Below.refl _ _).alloc (Nat.le_refl _) _
  refine ⟨by rw [World.size_setCell, World.size_alloc], fun o => ?_, fun o => ?_, ((Turn.of_below hb).set 4 _), (h.below hb).setL k, by omega⟩
  · rw [World.cell?_setCell_other (h := fun e => by simp only [Addr.mk.injEq] at e; omega)]
    exact World.cell?_alloc_new w c t o
  · rw [World.frozen?_setCell]
    exact World.frozen?_alloc_new w _ _ o
set_option maxHeartbeats 2000000 in
set_option maxRecDepth 100000 in
theorem read_refuse {E : SE} {left : Nat} (hl : left ≤ 100) {w : World} (h : Sr E left false w) (x : Int) (hx : x ≤ 9223372036854775807) (D : Int) (hD : 0 ≤ D ∧ D ≤ 7) (hr : x < 0 ∨ (0 ≤ x ∧ D < 1) ∨ (0 ≤ x ∧ 1 ≤ D ∧ left = 0)) : RdAt E D w x none := by
  have hD0 := hD.1
  have hD7 := hD.2
  have hl1 : (left : Int) ≤ 100 := by omega
  have hb : Below w.heap.size w (w.alloc (.cells #[.int .i64 0, .int .i64 0, .string ⟨#[]⟩, .slice none 0 0] 64)) := (Below.refl _ _).alloc (Nat.le_refl _) _
  have hs1 := h.below hb
  have c4 := hs1.c4
  have c5 := hs1.c5
  have cf := hs1.fr
  have q1 : ∀ o, (w.alloc (.cells #[.int .i64 0, .int .i64 0, .string ⟨#[]⟩, .slice none 0 0] 64)).cell? ⟨w.heap.size, o, none⟩ = (#[.int .i64 0, .int .i64 0, .string ⟨#[]⟩, .slice none 0 0] : Array Value)[o]? := fun o => World.cell?_alloc_new w _ _ o
  have hne : E.rb ≠ w.heap.size := by have := h.lt; omega
  have HSB0 : Hid (∀ k : Int, Sr E k true (((w.alloc (.cells #[.int .i64 0, .int .i64 0, .string ⟨#[]⟩, .slice none 0 0] 64)).setCell ⟨E.rb, 4, none⟩ (.int .i64 k)).setCell ⟨E.rb, 5, none⟩ (.bool true))) := fun k => (hs1.setL k).setB true
  have HTB0 : Hid (∀ k : Int, Turn E.rb w (((w.alloc (.cells #[.int .i64 0, .int .i64 0, .string ⟨#[]⟩, .slice none 0 0] 64)).setCell ⟨E.rb, 4, none⟩ (.int .i64 k)).setCell ⟨E.rb, 5, none⟩ (.bool true))) := fun k => ((Turn.of_below hb).set 4 _).set 5 _
  have HFB : Hid (∀ k : Int, Sr E k true (((w.alloc (.cells #[.int .i64 0, .int .i64 0, .string ⟨#[]⟩, .slice none 0 0] 64)).setCell ⟨E.rb, 4, none⟩ (.int .i64 k)).setCell ⟨E.rb, 5, none⟩ (.bool true)) ∧ Turn E.rb w (((w.alloc (.cells #[.int .i64 0, .int .i64 0, .string ⟨#[]⟩, .slice none 0 0] 64)).setCell ⟨E.rb, 4, none⟩ (.int .i64 k)).setCell ⟨E.rb, 5, none⟩ (.bool true)) ∧ (∀ o, (((w.alloc (.cells #[.int .i64 0, .int .i64 0, .string ⟨#[]⟩, .slice none 0 0] 64)).setCell ⟨E.rb, 4, none⟩ (.int .i64 k)).setCell ⟨E.rb, 5, none⟩ (.bool true)).cell? ⟨w.heap.size, o, none⟩ = (#[.int .i64 0, .int .i64 0, .string ⟨#[]⟩, .slice none 0 0] : Array Value)[o]?)) := fun k =>
    ⟨HSB0.out k, HTB0.out k, fun o => by
      rw [World.cell?_setCell_other (h := fun e => by simp only [Addr.mk.injEq] at e; omega), World.cell?_setCell_other (h := fun e => by simp only [Addr.mk.injEq] at e; omega)]
      exact q1 o⟩
  have HS : Hid (Sr E left false w) := h
  clear hD h hx hs1 hb HSB0 HTB0
  rcases hr with hr | ⟨hr, hr2⟩ | ⟨hr, hr2, hr3⟩
  · unfold RdAt
    go_enter Try.func41, Try.ntmps41
    go_wp2_with fail
    obtain ⟨hs2, ht2, hq2⟩ := HFB.out ((left : Int) - 1)
    generalize (((w.alloc (.cells #[.int .i64 0, .int .i64 0, .string ⟨#[]⟩, .slice none 0 0] 64)).setCell ⟨E.rb, 4, none⟩ (.int .i64 ((left : Int) - 1))).setCell ⟨E.rb, 5, none⟩ (.bool true)) = W2 at hs2 ht2 hq2 ⊢
    obtain ⟨a1, a2, a3⟩ := sbox_out (E := E.e) ht2 (Ytjjmikfbongccaa.rp_leaf 0 0 ByteArray.empty (Nat.zero_le _)) (.int .i64 0) (.int .i64 0) (.string ⟨#[]⟩) (.slice none 0 0)
    have hfin : Ans E w (lay4 W2 w.heap.size (.int .i64 0) (.int .i64 0) (.string ⟨#[]⟩) (.slice none 0 0)) none (.returned (.agg #[.int .i64 0, .int .i64 0, .string ⟨#[]⟩, .slice none 0 0])) := ⟨_, _, rfl, a2, a1, .inr ⟨rfl, _, HS.out.same hs2 a3⟩⟩
    exact bodyPost_ret (v := .agg #[.int .i64 0, .int .i64 0, .string ⟨#[]⟩, .slice none 0 0]) (by simp [results, Try.results41, go_sem, hq2]) rfl hfin
  · unfold RdAt
    go_enter Try.func41, Try.ntmps41
    go_wp2_with fail
    obtain ⟨hs2, ht2, hq2⟩ := HFB.out ((left : Int) - 1)
    generalize (((w.alloc (.cells #[.int .i64 0, .int .i64 0, .string ⟨#[]⟩, .slice none 0 0] 64)).setCell ⟨E.rb, 4, none⟩ (.int .i64 ((left : Int) - 1))).setCell ⟨E.rb, 5, none⟩ (.bool true)) = W2 at hs2 ht2 hq2 ⊢
    obtain ⟨a1, a2, a3⟩ := sbox_out (E := E.e) ht2 (Ytjjmikfbongccaa.rp_leaf 0 0 ByteArray.empty (Nat.zero_le _)) (.int .i64 0) (.int .i64 0) (.string ⟨#[]⟩) (.slice none 0 0)
    have hfin : Ans E w (lay4 W2 w.heap.size (.int .i64 0) (.int .i64 0) (.string ⟨#[]⟩) (.slice none 0 0)) none (.returned (.agg #[.int .i64 0, .int .i64 0, .string ⟨#[]⟩, .slice none 0 0])) := ⟨_, _, rfl, a2, a1, .inr ⟨rfl, _, HS.out.same hs2 a3⟩⟩
    exact bodyPost_ret (v := .agg #[.int .i64 0, .int .i64 0, .string ⟨#[]⟩, .slice none 0 0]) (by simp [results, Try.results41, go_sem, hq2]) rfl hfin
  · subst hr3
    unfold RdAt
    go_enter Try.func41, Try.ntmps41
    go_wp2_with fail
    obtain ⟨hs2, ht2, hq2⟩ := HFB.out (-1)
    generalize (((w.alloc (.cells #[.int .i64 0, .int .i64 0, .string ⟨#[]⟩, .slice none 0 0] 64)).setCell ⟨E.rb, 4, none⟩ (.int .i64 (-1))).setCell ⟨E.rb, 5, none⟩ (.bool true)) = W2 at hs2 ht2 hq2 ⊢
    obtain ⟨a1, a2, a3⟩ := sbox_out (E := E.e) ht2 (Ytjjmikfbongccaa.rp_leaf 0 0 ByteArray.empty (Nat.zero_le _)) (.int .i64 0) (.int .i64 0) (.string ⟨#[]⟩) (.slice none 0 0)
    have hfin : Ans E w (lay4 W2 w.heap.size (.int .i64 0) (.int .i64 0) (.string ⟨#[]⟩) (.slice none 0 0)) none (.returned (.agg #[.int .i64 0, .int .i64 0, .string ⟨#[]⟩, .slice none 0 0])) := ⟨_, _, rfl, a2, a1, .inr ⟨rfl, _, HS.out.same hs2 a3⟩⟩
    exact bodyPost_ret (v := .agg #[.int .i64 0, .int .i64 0, .string ⟨#[]⟩, .slice none 0 0]) (by simp [results, Try.results41, go_sem, hq2]) rfl hfin
set_option maxHeartbeats 2000000 in
set_option maxRecDepth 100000 in
theorem read_6 {E : SE} {k : Nat} (hk : k ≤ 100) {w : World} (h : Sr E ((k + 1 : Nat) : Int) false w) (x : Int) (hx : x ≤ 9223372036854775807) (h0 : 0 ≤ x) (D : Int) (hD : 1 ≤ D ∧ D ≤ 7) (ht : tagW x = 6) (R : Option (Tm × Nat)) (hR : rBin E.H (valW x) k = R) : RdAt E D w x R := by
  have HS : Hid (Sr E ((k + 1 : Nat) : Int) false w) := h
  have hD1 := hD.1
  have hD7 := hD.2
  have HX : Hid (x ≤ 9223372036854775807) := hx
  obtain ⟨p, hp⟩ : ∃ p : Nat, valW x = p := ⟨(valW x).toNat, by have := valW_ge x; omega⟩
  have HPV : Hid (valW x = p) := hp
  have HTG : Hid (tagW x = 6) := ht
  have HPB : Hid (p ≤ 9223372036854774000) := by
    show _ ≤ _
    rw [valW_of h0] at hp; omega
  have hk1 : (k : Int) ≤ 100 := by omega
  have HKL : Hid (k ≤ 100) := hk
  have hb0 : Below w.heap.size w (w.alloc (.cells #[.int .i64 0, .int .i64 0, .string ⟨#[]⟩, .slice none 0 0] 64)) := (Below.refl _ _).alloc (Nat.le_refl _) _
  have c4 := (h.below hb0).c4
  have cf := (h.below hb0).fr
  have hne0 : E.rb ≠ w.heap.size := by have := h.lt; omega
  have HRR : Hid (rBin E.H (p : Int) k = R) := by show _ = _; rw [← hp]; exact hR
  clear h hx ht hD hb0 hp
  unfold RdAt
  go_enter Try.func41, Try.ntmps41
  go_wp2_with fail
  refine (specTag_any x _).mono ?_
  rintro e w1 ⟨rfl, hw1⟩
  rw [HTG.out]
  obtain ⟨hz1, q1, f1, ht1, hs1, hne⟩ := boxG HS.out _ _ _ hw1
  have HT1 : Hid (Turn E.rb w w1) := ht1
  have HS1 : Hid (Sr E k false w1) := hs1
  have HB1 : Hid (∀ o, w1.cell? ⟨w.heap.size, o, none⟩ = (#[.int .i64 0, .int .i64 0, .string ⟨#[]⟩, .slice none 0 0] : Array Value)[o]?) := q1
  clear hw1 ht1 hs1 c4 cf
  go_wp2_with fail
  refine (specVal_any x HX.out _).mono ?_
  rintro e w' ⟨rfl, hw'⟩
  obtain rfl := hw'.symm
  rw [HPV.out]
  go_wp2_with fail
  refine (l6Bin_any HS1.out p HPB.out).mono ?_
  rw [HRR.out]
  rintro e w5 ⟨tt, vv, rfl, hv5, ht5, hd5⟩
  obtain ⟨va, vb, vc, vd, ve, vf, rfl⟩ := hv5.form
  obtain ⟨q5, f5⟩ := ht5.keep hne (by omega) q1 f1
  have HV5 : Hid (RpV (fun b => w.heap.size + 1 ≤ b) w5 tt (.agg #[.int .i64 va, .int .i64 vb, .string vc, .slice vd ve vf])) := (by rw [← hz1]; exact hv5)
  have HT5 : Hid (Turn E.rb w w5) := HT1.out.trans ht5
  have HD5 : Hid ((∃ y : Nat, R = some (tt, y) ∧ Sr E y false w5) ∨ (R = none ∧ ∃ z : Int, Sr E z true w5)) := hd5
  clear hv5 ht5 hd5 hz1 q1 f1
  go_wp2_with fail
  obtain ⟨a1, a2, a3⟩ := sbox_out (E := E.e) HT5.out HV5.out (.int .i64 va) (.int .i64 vb) (.string vc) (.slice vd ve vf)
  have hfin : Ans E w (lay4 w5 w.heap.size (.int .i64 va) (.int .i64 vb) (.string vc) (.slice vd ve vf)) R (.returned (.agg #[.int .i64 va, .int .i64 vb, .string vc, .slice vd ve vf])) := by
    refine ⟨_, _, rfl, a2, a1, ?_⟩
    rcases HD5.out with ⟨y, h1, h2⟩ | ⟨h1, z, h2⟩
    · exact .inl ⟨y, h1, HS.out.same h2 a3⟩
    · exact .inr ⟨h1, z, HS.out.same h2 a3⟩
  exact bodyPost_ret (v := .agg #[.int .i64 va, .int .i64 vb, .string vc, .slice vd ve vf]) (by simp [results, Try.results41, go_sem, q5]) rfl hfin
set_option maxHeartbeats 2000000 in
set_option maxRecDepth 100000 in
theorem read_4 {E : SE} {d' : Nat} (ih : ReadC E d') (hd' : d' ≤ 6) {k : Nat} (hk : k ≤ 100) {w : World} (h : Sr E ((k + 1 : Nat) : Int) false w) (x : Int) (hx : x ≤ 9223372036854775807) (h0 : 0 ≤ x) (D : Int) (hD : 1 ≤ D ∧ D ≤ 7) (ht : tagW x = 4) (hDD : D = ((d' + 1 : Nat) : Int)) (R : Option (Tm × Nat)) (hR : rCnt E.H (rT false E.H d') (valW x) k = R) : RdAt E D w x R := by
  have HS : Hid (Sr E ((k + 1 : Nat) : Int) false w) := h
  have hD1 := hD.1
  have hD7 := hD.2
  have HX : Hid (x ≤ 9223372036854775807) := hx
  obtain ⟨p, hp⟩ : ∃ p : Nat, valW x = p := ⟨(valW x).toNat, by have := valW_ge x; omega⟩
  have HPV : Hid (valW x = p) := hp
  have HTG : Hid (tagW x = 4) := ht
  have HPB : Hid (p ≤ 9223372036854774000) := by
    show _ ≤ _
    rw [valW_of h0] at hp; omega
  have hk1 : (k : Int) ≤ 100 := by omega
  have HKL : Hid (k ≤ 100) := hk
  have hb0 : Below w.heap.size w (w.alloc (.cells #[.int .i64 0, .int .i64 0, .string ⟨#[]⟩, .slice none 0 0] 64)) := (Below.refl _ _).alloc (Nat.le_refl _) _
  have c4 := (h.below hb0).c4
  have cf := (h.below hb0).fr
  have hne0 : E.rb ≠ w.heap.size := by have := h.lt; omega
  have HRR : Hid (rCnt E.H (rT false E.H d') (p : Int) k = R) := by show _ = _; rw [← hp]; exact hR
  have HT : Hid (ReadC E d') := ih
  have HDD : Hid (D = ((d' + 1 : Nat) : Int)) := hDD
  clear hDD ih
  clear h hx ht hD hb0 hp
  unfold RdAt
  go_enter Try.func41, Try.ntmps41
  go_wp2_with fail
  refine (specTag_any x _).mono ?_
  rintro e w1 ⟨rfl, hw1⟩
  rw [HTG.out]
  obtain ⟨hz1, q1, f1, ht1, hs1, hne⟩ := boxG HS.out _ _ _ hw1
  have HT1 : Hid (Turn E.rb w w1) := ht1
  have HS1 : Hid (Sr E k false w1) := hs1
  have HB1 : Hid (∀ o, w1.cell? ⟨w.heap.size, o, none⟩ = (#[.int .i64 0, .int .i64 0, .string ⟨#[]⟩, .slice none 0 0] : Array Value)[o]?) := q1
  clear hw1 ht1 hs1 c4 cf
  go_wp2_with fail
  refine (specVal_any x HX.out _).mono ?_
  rintro e w' ⟨rfl, hw'⟩
  obtain rfl := hw'.symm
  rw [HPV.out]
  go_wp2_with fail
  rw [HDD.out]
  refine (l6Tuple_any HT.out hd' HS1.out HKL.out p HPB.out).mono ?_
  rw [HRR.out]
  rintro e w5 ⟨tt, vv, rfl, hv5, ht5, hd5⟩
  obtain ⟨va, vb, vc, vd, ve, vf, rfl⟩ := hv5.form
  obtain ⟨q5, f5⟩ := ht5.keep hne (by omega) q1 f1
  have HV5 : Hid (RpV (fun b => w.heap.size + 1 ≤ b) w5 tt (.agg #[.int .i64 va, .int .i64 vb, .string vc, .slice vd ve vf])) := (by rw [← hz1]; exact hv5)
  have HT5 : Hid (Turn E.rb w w5) := HT1.out.trans ht5
  have HD5 : Hid ((∃ y : Nat, R = some (tt, y) ∧ Sr E y false w5) ∨ (R = none ∧ ∃ z : Int, Sr E z true w5)) := hd5
  clear hv5 ht5 hd5 hz1 q1 f1
  go_wp2_with fail
  obtain ⟨a1, a2, a3⟩ := sbox_out (E := E.e) HT5.out HV5.out (.int .i64 va) (.int .i64 vb) (.string vc) (.slice vd ve vf)
  have hfin : Ans E w (lay4 w5 w.heap.size (.int .i64 va) (.int .i64 vb) (.string vc) (.slice vd ve vf)) R (.returned (.agg #[.int .i64 va, .int .i64 vb, .string vc, .slice vd ve vf])) := by
    refine ⟨_, _, rfl, a2, a1, ?_⟩
    rcases HD5.out with ⟨y, h1, h2⟩ | ⟨h1, z, h2⟩
    · exact .inl ⟨y, h1, HS.out.same h2 a3⟩
    · exact .inr ⟨h1, z, HS.out.same h2 a3⟩
  exact bodyPost_ret (v := .agg #[.int .i64 va, .int .i64 vb, .string vc, .slice vd ve vf]) (by simp [results, Try.results41, go_sem, q5]) rfl hfin
set_option maxHeartbeats 2000000 in
set_option maxRecDepth 100000 in
theorem read_3 {E : SE} {d' : Nat} (ih : ReadC E d') (hd' : d' ≤ 6) {k : Nat} (hk : k ≤ 100) {w : World} (h : Sr E ((k + 1 : Nat) : Int) false w) (x : Int) (hx : x ≤ 9223372036854775807) (h0 : 0 ≤ x) (D : Int) (hD : 1 ≤ D ∧ D ≤ 7) (ht : tagW x = 3) (hDD : D = ((d' + 1 : Nat) : Int)) (R : Option (Tm × Nat)) (hR : tup 5 (rL E.H (rT false E.H d') 20 x k) = R) : RdAt E D w x R := by
  have HS : Hid (Sr E ((k + 1 : Nat) : Int) false w) := h
  have hD1 := hD.1
  have hD7 := hD.2
  have HX : Hid (x ≤ 9223372036854775807) := hx
  obtain ⟨p, hp⟩ : ∃ p : Nat, valW x = p := ⟨(valW x).toNat, by have := valW_ge x; omega⟩
  have HPV : Hid (valW x = p) := hp
  have HTG : Hid (tagW x = 3) := ht
  have HPB : Hid (p ≤ 9223372036854774000) := by
    show _ ≤ _
    rw [valW_of h0] at hp; omega
  have hk1 : (k : Int) ≤ 100 := by omega
  have HKL : Hid (k ≤ 100) := hk
  have hb0 : Below w.heap.size w (w.alloc (.cells #[.int .i64 0, .int .i64 0, .string ⟨#[]⟩, .slice none 0 0] 64)) := (Below.refl _ _).alloc (Nat.le_refl _) _
  have c4 := (h.below hb0).c4
  have cf := (h.below hb0).fr
  have hne0 : E.rb ≠ w.heap.size := by have := h.lt; omega
  have HRR : Hid (tup 5 (rL E.H (rT false E.H d') 20 x k) = R) := hR
  have HT : Hid (ReadC E d') := ih
  have HDD : Hid (D = ((d' + 1 : Nat) : Int)) := hDD
  clear hDD ih
  clear h hx ht hD hb0 hp
  unfold RdAt
  go_enter Try.func41, Try.ntmps41
  go_wp2_with fail
  refine (specTag_any x _).mono ?_
  rintro e w1 ⟨rfl, hw1⟩
  rw [HTG.out]
  obtain ⟨hz1, q1, f1, ht1, hs1, hne⟩ := boxG HS.out _ _ _ hw1
  have HT1 : Hid (Turn E.rb w w1) := ht1
  have HS1 : Hid (Sr E k false w1) := hs1
  have HB1 : Hid (∀ o, w1.cell? ⟨w.heap.size, o, none⟩ = (#[.int .i64 0, .int .i64 0, .string ⟨#[]⟩, .slice none 0 0] : Array Value)[o]?) := q1
  clear hw1 ht1 hs1 c4 cf
  go_wp2_with fail
  rw [HDD.out]
  refine (l6Cons_any HT.out hd' HS1.out HKL.out x HX.out).mono ?_
  rw [HRR.out]
  rintro e w5 ⟨tt, vv, rfl, hv5, ht5, hd5⟩
  obtain ⟨va, vb, vc, vd, ve, vf, rfl⟩ := hv5.form
  obtain ⟨q5, f5⟩ := ht5.keep hne (by omega) q1 f1
  have HV5 : Hid (RpV (fun b => w.heap.size + 1 ≤ b) w5 tt (.agg #[.int .i64 va, .int .i64 vb, .string vc, .slice vd ve vf])) := (by rw [← hz1]; exact hv5)
  have HT5 : Hid (Turn E.rb w w5) := HT1.out.trans ht5
  have HD5 : Hid ((∃ y : Nat, R = some (tt, y) ∧ Sr E y false w5) ∨ (R = none ∧ ∃ z : Int, Sr E z true w5)) := hd5
  clear hv5 ht5 hd5 hz1 q1 f1
  go_wp2_with fail
  obtain ⟨a1, a2, a3⟩ := sbox_out (E := E.e) HT5.out HV5.out (.int .i64 va) (.int .i64 vb) (.string vc) (.slice vd ve vf)
  have hfin : Ans E w (lay4 w5 w.heap.size (.int .i64 va) (.int .i64 vb) (.string vc) (.slice vd ve vf)) R (.returned (.agg #[.int .i64 va, .int .i64 vb, .string vc, .slice vd ve vf])) := by
    refine ⟨_, _, rfl, a2, a1, ?_⟩
    rcases HD5.out with ⟨y, h1, h2⟩ | ⟨h1, z, h2⟩
    · exact .inl ⟨y, h1, HS.out.same h2 a3⟩
    · exact .inr ⟨h1, z, HS.out.same h2 a3⟩
  exact bodyPost_ret (v := .agg #[.int .i64 va, .int .i64 vb, .string vc, .slice vd ve vf]) (by simp [results, Try.results41, go_sem, q5]) rfl hfin
set_option maxHeartbeats 2000000 in
set_option maxRecDepth 100000 in
theorem read_5 {E : SE} {d' : Nat} (ih : ReadC E d') (hd' : d' ≤ 6) {k : Nat} (hk : k ≤ 100) {w : World} (h : Sr E ((k + 1 : Nat) : Int) false w) (x : Int) (hx : x ≤ 9223372036854775807) (h0 : 0 ≤ x) (D : Int) (hD : 1 ≤ D ∧ D ≤ 7) (ht : tagW x = 5) (hDD : D = ((d' + 1 : Nat) : Int)) (R : Option (Tm × Nat)) (hR : tup 5 (rL E.H (rT false E.H d') 20 x k) = R) : RdAt E D w x R := by
  have HS : Hid (Sr E ((k + 1 : Nat) : Int) false w) := h
  have hD1 := hD.1
  have hD7 := hD.2
  have HX : Hid (x ≤ 9223372036854775807) := hx
  obtain ⟨p, hp⟩ : ∃ p : Nat, valW x = p := ⟨(valW x).toNat, by have := valW_ge x; omega⟩
  have HPV : Hid (valW x = p) := hp
  have HTG : Hid (tagW x = 5) := ht
  have HPB : Hid (p ≤ 9223372036854774000) := by
    show _ ≤ _
    rw [valW_of h0] at hp; omega
  have hk1 : (k : Int) ≤ 100 := by omega
  have HKL : Hid (k ≤ 100) := hk
  have hb0 : Below w.heap.size w (w.alloc (.cells #[.int .i64 0, .int .i64 0, .string ⟨#[]⟩, .slice none 0 0] 64)) := (Below.refl _ _).alloc (Nat.le_refl _) _
  have c4 := (h.below hb0).c4
  have cf := (h.below hb0).fr
  have hne0 : E.rb ≠ w.heap.size := by have := h.lt; omega
  have HRR : Hid (tup 5 (rL E.H (rT false E.H d') 20 x k) = R) := hR
  have HT : Hid (ReadC E d') := ih
  have HDD : Hid (D = ((d' + 1 : Nat) : Int)) := hDD
  clear hDD ih
  clear h hx ht hD hb0 hp
  unfold RdAt
  go_enter Try.func41, Try.ntmps41
  go_wp2_with fail
  refine (specTag_any x _).mono ?_
  rintro e w1 ⟨rfl, hw1⟩
  rw [HTG.out]
  obtain ⟨hz1, q1, f1, ht1, hs1, hne⟩ := boxG HS.out _ _ _ hw1
  have HT1 : Hid (Turn E.rb w w1) := ht1
  have HS1 : Hid (Sr E k false w1) := hs1
  have HB1 : Hid (∀ o, w1.cell? ⟨w.heap.size, o, none⟩ = (#[.int .i64 0, .int .i64 0, .string ⟨#[]⟩, .slice none 0 0] : Array Value)[o]?) := q1
  clear hw1 ht1 hs1 c4 cf
  go_wp2_with fail
  rw [HDD.out]
  refine (l6Cons_any HT.out hd' HS1.out HKL.out x HX.out).mono ?_
  rw [HRR.out]
  rintro e w5 ⟨tt, vv, rfl, hv5, ht5, hd5⟩
  obtain ⟨va, vb, vc, vd, ve, vf, rfl⟩ := hv5.form
  obtain ⟨q5, f5⟩ := ht5.keep hne (by omega) q1 f1
  have HV5 : Hid (RpV (fun b => w.heap.size + 1 ≤ b) w5 tt (.agg #[.int .i64 va, .int .i64 vb, .string vc, .slice vd ve vf])) := (by rw [← hz1]; exact hv5)
  have HT5 : Hid (Turn E.rb w w5) := HT1.out.trans ht5
  have HD5 : Hid ((∃ y : Nat, R = some (tt, y) ∧ Sr E y false w5) ∨ (R = none ∧ ∃ z : Int, Sr E z true w5)) := hd5
  clear hv5 ht5 hd5 hz1 q1 f1
  go_wp2_with fail
  obtain ⟨a1, a2, a3⟩ := sbox_out (E := E.e) HT5.out HV5.out (.int .i64 va) (.int .i64 vb) (.string vc) (.slice vd ve vf)
  have hfin : Ans E w (lay4 w5 w.heap.size (.int .i64 va) (.int .i64 vb) (.string vc) (.slice vd ve vf)) R (.returned (.agg #[.int .i64 va, .int .i64 vb, .string vc, .slice vd ve vf])) := by
    refine ⟨_, _, rfl, a2, a1, ?_⟩
    rcases HD5.out with ⟨y, h1, h2⟩ | ⟨h1, z, h2⟩
    · exact .inl ⟨y, h1, HS.out.same h2 a3⟩
    · exact .inr ⟨h1, z, HS.out.same h2 a3⟩
  exact bodyPost_ret (v := .agg #[.int .i64 va, .int .i64 vb, .string vc, .slice vd ve vf]) (by simp [results, Try.results41, go_sem, q5]) rfl hfin
end Go.Proofs.Ytjjmikfbongccaa.Gn
