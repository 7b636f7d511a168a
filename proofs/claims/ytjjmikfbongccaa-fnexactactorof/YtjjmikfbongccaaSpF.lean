/-
  How the specification reads words: one term whole.
-/
import Derived.Test.YtjjmikfbongccaaSpE
import Derived.Test.YtjjmikfbongccaaTmI
namespace Go.Proofs.Ytjjmikfbongccaa
open Go.RowKit
set_option linter.unusedVariables false

theorem rp_leaf {S : Nat → Prop} {w : World} (k n : Int) (s : ByteArray) (hs : s.size ≤ maxLen) : RpV S w (.mk k n s []) (.agg #[.int .i64 k, .int .i64 n, .string s, .slice none 0 0]) :=
  ⟨none, 0, rfl, hs, Nat.le_refl _, Nat.zero_le _, by rw [RpL]; trivial⟩

theorem sbox_in {E : Env} {left : Int} {bad : Bool} {w w1 : World} (h : Sr E left bad w) (c : Array Value) (t : TypeId) (e : w1 = w.alloc (.cells c t)) :
    w1.heap.size = w.heap.size + 1 ∧ (∀ o, w1.cell? ⟨w.heap.size, o, none⟩ = c[o]?) ∧ (∀ o, w1.frozen? ⟨w.heap.size, o, none⟩ = false) ∧ Turn E.rb w w1 ∧ Sr E left bad w1 ∧ E.rb ≠ w.heap.size := by
  subst e
  have hb : Below w.heap.size w (w.alloc (.cells c t)) := (Below.refl _ _).alloc (Nat.le_refl _) _
  have := h.lt
  exact ⟨World.size_alloc _ _, fun o => World.cell?_alloc_new w c t o, fun o => World.frozen?_alloc_new w _ _ o, Turn.of_below hb, h.below hb, by omega⟩
theorem sbox_out {E : Env} {w w5 : World} (ht : Turn E.rb w w5) {t : Tm} {v : Value} (hv : RpV (fun b => w.heap.size + 1 ≤ b) w5 t v) (a b c d : Value) :
    Turn E.rb w (lay4 w5 w.heap.size a b c d) ∧ RpV (fun b => w.heap.size ≤ b) (lay4 w5 w.heap.size a b c d) t v ∧ (∀ k, k < w.heap.size → (lay4 w5 w.heap.size a b c d).heap[k]? = w5.heap[k]?) := by
  have hk : ∀ k, k < w.heap.size → (lay4 w5 w.heap.size a b c d).heap[k]? = w5.heap[k]? := fun k hk => lay4_heap (by omega)
  refine ⟨⟨ht.os, ht.tape, ht.output, by rw [lay4_size]; exact ht.size, fun k hkl hkn => (hk k hkl).trans (ht.block k hkl hkn)⟩, Moves.repV (S := fun b => w.heap.size + 1 ≤ b) (fun b' o' v' hb' hc' => ⟨by omega, ?_⟩) hv, hk⟩
  have hb'' : w.heap.size + 1 ≤ b' := hb'
  rw [lay4_cell (by omega)]
  exact hc'
/-- What l5Read answers at one word. -/
def RdAt (E : Env) (D : Int) (w : World) (x : Int) (R : Option (Tm × Nat)) : Prop :=
  Calls Try.prog 50 #[.pointer (some ⟨E.rb, 0, none⟩), .int .i64 x, .int .i64 D] w fun e w' => ∃ t v, e = .returned v ∧ RpV (fun b => w.heap.size ≤ b) w' t v ∧ Turn E.rb w w' ∧
    ((∃ y : Nat, R = some (t, y) ∧ Sr E y false w') ∨ (R = none ∧ ∃ z : Int, Sr E z true w'))

set_option maxHeartbeats 2000000 in
set_option maxRecDepth 100000 in
theorem read_refuse {E : Env} {left : Nat} (hl : left ≤ 100) {w : World} (h : Sr E left false w) (x : Int) (hx : x ≤ 9223372036854775807) (D : Int) (hD : 0 ≤ D ∧ D ≤ 7) (hr : x < 0 ∨ (0 ≤ x ∧ D < 1) ∨ (0 ≤ x ∧ 1 ≤ D ∧ left = 0)) : RdAt E D w x none := by
  have HS : Hid (Sr E left false w) := h
  have HX : Hid (x ≤ 9223372036854775807) := hx
  obtain ⟨p, hp⟩ : ∃ p : Nat, valW x = p := ⟨(valW x).toNat, by have := valW_ge x; omega⟩
  have HPV : Hid (valW x = p) := hp
  have hD0 := hD.1
  have hD7 := hD.2
  have hl1 : (left : Int) ≤ 100 := by omega
  clear hp hD h hx
  have key : ∀ w1 : World, Sr E left false w1 → w1.heap.size = w.heap.size + 1 → Turn E.rb w w1 → True := fun _ _ _ _ => trivial
  clear key
  rcases hr with hr | ⟨hr, hr2⟩ | ⟨hr, hr2, hr3⟩
  · unfold RdAt
    go_enter Try.func50, Try.ntmps50
    go_wp2_with fail
    refine (specVal_any x HX.out _).mono ?_
    rintro e w1 ⟨rfl, hw1⟩
    rw [HPV.out]
    obtain ⟨hz1, q1, f1, ht1, hs1, hne⟩ := sbox_in HS.out _ _ hw1
    have HT1 : Hid (Turn E.rb w w1) := ht1
    have c2 := hs1.c2
    have c3 := hs1.c3
    have cf := hs1.fr
    have HSB : Hid (Sr E ((left : Int) - 1) true ((w1.setCell ⟨E.rb, 2, none⟩ (.int .i64 ((left : Int) - 1))).setCell ⟨E.rb, 3, none⟩ (.bool true))) := (hs1.setL _).setB true
    have HTB : Hid (Turn E.rb w ((w1.setCell ⟨E.rb, 2, none⟩ (.int .i64 ((left : Int) - 1))).setCell ⟨E.rb, 3, none⟩ (.bool true))) := (ht1.set 2 _).set 3 _
    clear hw1 ht1 hs1
    go_wp2_with fail
    obtain ⟨a1, a2, a3⟩ := sbox_out HTB.out (rp_leaf 0 0 ByteArray.empty (Nat.zero_le _)) (.int .i64 0) (.int .i64 0) (.string ⟨#[]⟩) (.slice none 0 0)
    exact bodyPost_ret (v := .agg #[.int .i64 0, .int .i64 0, .string ⟨#[]⟩, .slice none 0 0]) (by simp [results, Try.results50, go_sem, q1]) rfl ⟨_, _, rfl, a2, a1, .inr ⟨trivial, _, HS.out.same HSB.out a3⟩⟩
  · unfold RdAt
    go_enter Try.func50, Try.ntmps50
    go_wp2_with fail
    refine (specVal_any x HX.out _).mono ?_
    rintro e w1 ⟨rfl, hw1⟩
    rw [HPV.out]
    obtain ⟨hz1, q1, f1, ht1, hs1, hne⟩ := sbox_in HS.out _ _ hw1
    have HT1 : Hid (Turn E.rb w w1) := ht1
    have c2 := hs1.c2
    have c3 := hs1.c3
    have cf := hs1.fr
    have HSB : Hid (Sr E ((left : Int) - 1) true ((w1.setCell ⟨E.rb, 2, none⟩ (.int .i64 ((left : Int) - 1))).setCell ⟨E.rb, 3, none⟩ (.bool true))) := (hs1.setL _).setB true
    have HTB : Hid (Turn E.rb w ((w1.setCell ⟨E.rb, 2, none⟩ (.int .i64 ((left : Int) - 1))).setCell ⟨E.rb, 3, none⟩ (.bool true))) := (ht1.set 2 _).set 3 _
    clear hw1 ht1 hs1
    go_wp2_with fail
    obtain ⟨a1, a2, a3⟩ := sbox_out HTB.out (rp_leaf 0 0 ByteArray.empty (Nat.zero_le _)) (.int .i64 0) (.int .i64 0) (.string ⟨#[]⟩) (.slice none 0 0)
    exact bodyPost_ret (v := .agg #[.int .i64 0, .int .i64 0, .string ⟨#[]⟩, .slice none 0 0]) (by simp [results, Try.results50, go_sem, q1]) rfl ⟨_, _, rfl, a2, a1, .inr ⟨trivial, _, HS.out.same HSB.out a3⟩⟩
  · subst hr3
    unfold RdAt
    go_enter Try.func50, Try.ntmps50
    go_wp2_with fail
    refine (specVal_any x HX.out _).mono ?_
    rintro e w1 ⟨rfl, hw1⟩
    rw [HPV.out]
    obtain ⟨hz1, q1, f1, ht1, hs1, hne⟩ := sbox_in HS.out _ _ hw1
    have HT1 : Hid (Turn E.rb w w1) := ht1
    have c2 := hs1.c2
    have c3 := hs1.c3
    have cf := hs1.fr
    have HSB : Hid (Sr E (-1) true ((w1.setCell ⟨E.rb, 2, none⟩ (.int .i64 (-1))).setCell ⟨E.rb, 3, none⟩ (.bool true))) := (hs1.setL (-1)).setB true
    have HTB : Hid (Turn E.rb w ((w1.setCell ⟨E.rb, 2, none⟩ (.int .i64 (-1))).setCell ⟨E.rb, 3, none⟩ (.bool true))) := (ht1.set 2 _).set 3 _
    clear hw1 ht1 hs1
    go_wp2_with fail
    obtain ⟨a1, a2, a3⟩ := sbox_out HTB.out (rp_leaf 0 0 ByteArray.empty (Nat.zero_le _)) (.int .i64 0) (.int .i64 0) (.string ⟨#[]⟩) (.slice none 0 0)
    exact bodyPost_ret (v := .agg #[.int .i64 0, .int .i64 0, .string ⟨#[]⟩, .slice none 0 0]) (by simp [results, Try.results50, go_sem, q1]) rfl ⟨_, _, rfl, a2, a1, .inr ⟨trivial, _, HS.out.same HSB.out a3⟩⟩
set_option maxHeartbeats 2000000 in
set_option maxRecDepth 100000 in
theorem read_0y {E : Env} {d' : Nat} {k : Nat} (hk : k ≤ 100) {w : World} (h : Sr E ((k + 1 : Nat) : Int) false w) (x : Int) (hx : x ≤ 9223372036854775807) (h0 : 0 ≤ x) (D : Int) (hD : 1 ≤ D ∧ D ≤ 7) (ht : tagW x = 0) (hv : ¬ 2000000 < valW x) : RdAt E D w x (raw false E.H (rT false E.H d') x k) := by
  have HS : Hid (Sr E ((k + 1 : Nat) : Int) false w) := h
  have hD1 := hD.1
  have hD7 := hD.2
  have HX : Hid (x ≤ 9223372036854775807) := hx
  obtain ⟨p, hp⟩ : ∃ p : Nat, valW x = p := ⟨(valW x).toNat, by have := valW_ge x; omega⟩
  have HPV : Hid (valW x = p) := hp
  have HTG : Hid (tagW x = 0) := ht
  have HPB : Hid (p ≤ 9223372036854774000) := by
    show _ ≤ _
    rw [valW_of h0] at hp; omega
  have hpb : (p : Int) ≤ 9223372036854774000 := by have := HPB.out; omega
  have hk1 : (k : Int) ≤ 100 := by omega
  rw [show raw false E.H (rT false E.H d') x k = some (.mk 1 ((p : Int) - 1000000) ByteArray.empty [], k) by unfold raw; rw [if_pos ht, if_neg (by simp; omega), hp]]
  have hvb : decide ((2000000 : Int) < (p : Int)) = false := by simp; omega
  clear hp h hx ht hD hv
  unfold RdAt
  go_enter Try.func50, Try.ntmps50
  go_wp2_with fail
  refine (specVal_any x HX.out _).mono ?_
  rintro e w1 ⟨rfl, hw1⟩
  rw [HPV.out]
  obtain ⟨hz1, q1, f1, ht1, hs1, hne⟩ := sbox_in HS.out _ _ hw1
  have HT1 : Hid (Turn E.rb w w1) := ht1
  have c2 := hs1.c2
  have c3 := hs1.c3
  have cf := hs1.fr
  have HS2 : Hid (Sr E k false (w1.setCell ⟨E.rb, 2, none⟩ (.int .i64 k))) := hs1.setL k
  have HT2 : Hid (Turn E.rb w (w1.setCell ⟨E.rb, 2, none⟩ (.int .i64 k))) := ht1.set 2 _
  have HZ2 : Hid ((w1.setCell ⟨E.rb, 2, none⟩ (.int .i64 k)).heap.size = w.heap.size + 1) := by show _ = _; rw [World.size_setCell]; exact hz1
  have c12 : (w1.setCell ⟨E.rb, 2, none⟩ (.int .i64 k)).cell? ⟨E.rb, 1, none⟩ = _ := HS2.out.c1
  have c32 : (w1.setCell ⟨E.rb, 2, none⟩ (.int .i64 k)).cell? ⟨E.rb, 3, none⟩ = _ := HS2.out.c3
  have q2 : ∀ o, (w1.setCell ⟨E.rb, 2, none⟩ (.int .i64 k)).cell? ⟨w.heap.size, o, none⟩ = (#[.int .i64 0, .int .i64 0, .string ⟨#[]⟩, .slice none 0 0] : Array Value)[o]? := fun o => by
    rw [World.cell?_setCell_other (h := fun e => by simp only [Addr.mk.injEq] at e; exact hne e.1)]; exact q1 o
  have f2 : ∀ o, (w1.setCell ⟨E.rb, 2, none⟩ (.int .i64 k)).frozen? ⟨w.heap.size, o, none⟩ = false := fun o => by rw [World.frozen?_setCell]; exact f1 o
  have g2 : ∀ o, (w1.setCell ⟨E.rb, 2, none⟩ (.int .i64 k)).frozen? ⟨E.rb, o, none⟩ = false := HS2.out.fr
  clear hw1 ht1 hs1
  have HS3 : Hid (Sr E k false ((w1.setCell ⟨E.rb, 2, none⟩ (.int .i64 k)).setCell ⟨E.rb, 3, none⟩ (.bool false))) := HS2.out.setB false
  have HT3 : Hid (Turn E.rb w ((w1.setCell ⟨E.rb, 2, none⟩ (.int .i64 k)).setCell ⟨E.rb, 3, none⟩ (.bool false))) := HT2.out.set 3 _
  go_wp2_with (first | (go_at_call 45; refine (specTag_any x _).mono ?_; rintro e w' ⟨rfl, hw'⟩; (first | (rw [HTG.out]; rw [hw']) | rw [HTG.out])))
  obtain ⟨a1, a2, a3⟩ := sbox_out HT3.out (rp_leaf 1 ((p : Int) - 1000000) ByteArray.empty (Nat.zero_le _)) (.int .i64 1) (.int .i64 ((p : Int) - 1000000)) (.string ⟨#[]⟩) (.slice none 0 0)
  exact bodyPost_ret (v := .agg #[.int .i64 1, .int .i64 ((p : Int) - 1000000), .string ⟨#[]⟩, .slice none 0 0]) (by simp [results, Try.results50, go_sem, q1]) rfl ⟨_, _, rfl, a2, a1, .inl ⟨k, rfl, HS.out.same HS3.out a3⟩⟩
set_option maxHeartbeats 2000000 in
set_option maxRecDepth 100000 in
theorem read_0n {E : Env} {d' : Nat} {k : Nat} (hk : k ≤ 100) {w : World} (h : Sr E ((k + 1 : Nat) : Int) false w) (x : Int) (hx : x ≤ 9223372036854775807) (h0 : 0 ≤ x) (D : Int) (hD : 1 ≤ D ∧ D ≤ 7) (ht : tagW x = 0) (hv : 2000000 < valW x) : RdAt E D w x (raw false E.H (rT false E.H d') x k) := by
  have HS : Hid (Sr E ((k + 1 : Nat) : Int) false w) := h
  have hD1 := hD.1
  have hD7 := hD.2
  have HX : Hid (x ≤ 9223372036854775807) := hx
  obtain ⟨p, hp⟩ : ∃ p : Nat, valW x = p := ⟨(valW x).toNat, by have := valW_ge x; omega⟩
  have HPV : Hid (valW x = p) := hp
  have HTG : Hid (tagW x = 0) := ht
  have HPB : Hid (p ≤ 9223372036854774000) := by
    show _ ≤ _
    rw [valW_of h0] at hp; omega
  have hpb : (p : Int) ≤ 9223372036854774000 := by have := HPB.out; omega
  have hk1 : (k : Int) ≤ 100 := by omega
  rw [show raw false E.H (rT false E.H d') x k = none by unfold raw; rw [if_pos ht, if_pos ⟨rfl, hv⟩]]
  have hvb : decide ((2000000 : Int) < (p : Int)) = true := by simp; omega
  clear hp h hx ht hD hv
  unfold RdAt
  go_enter Try.func50, Try.ntmps50
  go_wp2_with fail
  refine (specVal_any x HX.out _).mono ?_
  rintro e w1 ⟨rfl, hw1⟩
  rw [HPV.out]
  obtain ⟨hz1, q1, f1, ht1, hs1, hne⟩ := sbox_in HS.out _ _ hw1
  have HT1 : Hid (Turn E.rb w w1) := ht1
  have c2 := hs1.c2
  have c3 := hs1.c3
  have cf := hs1.fr
  have HS2 : Hid (Sr E k false (w1.setCell ⟨E.rb, 2, none⟩ (.int .i64 k))) := hs1.setL k
  have HT2 : Hid (Turn E.rb w (w1.setCell ⟨E.rb, 2, none⟩ (.int .i64 k))) := ht1.set 2 _
  have HZ2 : Hid ((w1.setCell ⟨E.rb, 2, none⟩ (.int .i64 k)).heap.size = w.heap.size + 1) := by show _ = _; rw [World.size_setCell]; exact hz1
  have c12 : (w1.setCell ⟨E.rb, 2, none⟩ (.int .i64 k)).cell? ⟨E.rb, 1, none⟩ = _ := HS2.out.c1
  have c32 : (w1.setCell ⟨E.rb, 2, none⟩ (.int .i64 k)).cell? ⟨E.rb, 3, none⟩ = _ := HS2.out.c3
  have q2 : ∀ o, (w1.setCell ⟨E.rb, 2, none⟩ (.int .i64 k)).cell? ⟨w.heap.size, o, none⟩ = (#[.int .i64 0, .int .i64 0, .string ⟨#[]⟩, .slice none 0 0] : Array Value)[o]? := fun o => by
    rw [World.cell?_setCell_other (h := fun e => by simp only [Addr.mk.injEq] at e; exact hne e.1)]; exact q1 o
  have f2 : ∀ o, (w1.setCell ⟨E.rb, 2, none⟩ (.int .i64 k)).frozen? ⟨w.heap.size, o, none⟩ = false := fun o => by rw [World.frozen?_setCell]; exact f1 o
  have g2 : ∀ o, (w1.setCell ⟨E.rb, 2, none⟩ (.int .i64 k)).frozen? ⟨E.rb, o, none⟩ = false := HS2.out.fr
  clear hw1 ht1 hs1
  have HS3 : Hid (Sr E k true ((w1.setCell ⟨E.rb, 2, none⟩ (.int .i64 k)).setCell ⟨E.rb, 3, none⟩ (.bool true))) := HS2.out.setB true
  have HT3 : Hid (Turn E.rb w ((w1.setCell ⟨E.rb, 2, none⟩ (.int .i64 k)).setCell ⟨E.rb, 3, none⟩ (.bool true))) := HT2.out.set 3 _
  go_wp2_with (first | (go_at_call 45; refine (specTag_any x _).mono ?_; rintro e w' ⟨rfl, hw'⟩; (first | (rw [HTG.out]; rw [hw']) | rw [HTG.out])))
  obtain ⟨a1, a2, a3⟩ := sbox_out HT3.out (rp_leaf 1 ((p : Int) - 1000000) ByteArray.empty (Nat.zero_le _)) (.int .i64 1) (.int .i64 ((p : Int) - 1000000)) (.string ⟨#[]⟩) (.slice none 0 0)
  exact bodyPost_ret (v := .agg #[.int .i64 1, .int .i64 ((p : Int) - 1000000), .string ⟨#[]⟩, .slice none 0 0]) (by simp [results, Try.results50, go_sem, q1]) rfl ⟨_, _, rfl, a2, a1, .inr ⟨trivial, _, HS.out.same HS3.out a3⟩⟩
set_option maxHeartbeats 2000000 in
set_option maxRecDepth 100000 in
theorem read_1y {E : Env} {d' : Nat} {k : Nat} (hk : k ≤ 100) {w : World} (h : Sr E ((k + 1 : Nat) : Int) false w) (x : Int) (hx : x ≤ 9223372036854775807) (h0 : 0 ≤ x) (D : Int) (hD : 1 ≤ D ∧ D ≤ 7) (ht : tagW x = 1) (hv : valW x < E.H.A.length) : RdAt E D w x (raw false E.H (rT false E.H d') x k) := by
  have HS : Hid (Sr E ((k + 1 : Nat) : Int) false w) := h
  have hD1 := hD.1
  have hD7 := hD.2
  have HX : Hid (x ≤ 9223372036854775807) := hx
  obtain ⟨p, hp⟩ : ∃ p : Nat, valW x = p := ⟨(valW x).toNat, by have := valW_ge x; omega⟩
  have HPV : Hid (valW x = p) := hp
  have HTG : Hid (tagW x = 1) := ht
  have HPB : Hid (p ≤ 9223372036854774000) := by
    show _ ≤ _
    rw [valW_of h0] at hp; omega
  have hpb : (p : Int) ≤ 9223372036854774000 := by have := HPB.out; omega
  have hk1 : (k : Int) ≤ 100 := by omega
  have hpl : p < E.H.A.length := by omega
  obtain ⟨s, hs⟩ : ∃ s, E.H.A[p] = s := ⟨_, rfl⟩
  have HSM : Hid (s.size ≤ maxLen) := big_txt h.src.txt s (by rw [← hs]; exact List.getElem_mem _)
  have HAL : Hid (E.av = some ⟨E.ab, E.ao, none⟩) := h.src.al (by omega)
  have HSA : Hid (E.H.A[p] = s) := hs
  rw [show raw false E.H (rT false E.H d') x k = some (.mk 2 0 s [], k) by unfold raw; rw [if_neg (by omega), if_pos ht]; unfold rAtom; rw [if_pos hv, hp, Int.toNat_natCast]; simp [hs, hpl]]
  clear hp h hx ht hD hv
  unfold RdAt
  go_enter Try.func50, Try.ntmps50
  go_wp2_with fail
  refine (specVal_any x HX.out _).mono ?_
  rintro e w1 ⟨rfl, hw1⟩
  rw [HPV.out]
  obtain ⟨hz1, q1, f1, ht1, hs1, hne⟩ := sbox_in HS.out _ _ hw1
  have HT1 : Hid (Turn E.rb w w1) := ht1
  have c2 := hs1.c2
  have c3 := hs1.c3
  have cf := hs1.fr
  have HS2 : Hid (Sr E k false (w1.setCell ⟨E.rb, 2, none⟩ (.int .i64 k))) := hs1.setL k
  have HT2 : Hid (Turn E.rb w (w1.setCell ⟨E.rb, 2, none⟩ (.int .i64 k))) := ht1.set 2 _
  have HZ2 : Hid ((w1.setCell ⟨E.rb, 2, none⟩ (.int .i64 k)).heap.size = w.heap.size + 1) := by show _ = _; rw [World.size_setCell]; exact hz1
  have c12 : (w1.setCell ⟨E.rb, 2, none⟩ (.int .i64 k)).cell? ⟨E.rb, 1, none⟩ = _ := HS2.out.c1
  have c32 : (w1.setCell ⟨E.rb, 2, none⟩ (.int .i64 k)).cell? ⟨E.rb, 3, none⟩ = _ := HS2.out.c3
  have q2 : ∀ o, (w1.setCell ⟨E.rb, 2, none⟩ (.int .i64 k)).cell? ⟨w.heap.size, o, none⟩ = (#[.int .i64 0, .int .i64 0, .string ⟨#[]⟩, .slice none 0 0] : Array Value)[o]? := fun o => by
    rw [World.cell?_setCell_other (h := fun e => by simp only [Addr.mk.injEq] at e; exact hne e.1)]; exact q1 o
  have f2 : ∀ o, (w1.setCell ⟨E.rb, 2, none⟩ (.int .i64 k)).frozen? ⟨w.heap.size, o, none⟩ = false := fun o => by rw [World.frozen?_setCell]; exact f1 o
  have g2 : ∀ o, (w1.setCell ⟨E.rb, 2, none⟩ (.int .i64 k)).frozen? ⟨E.rb, o, none⟩ = false := HS2.out.fr
  clear hw1 ht1 hs1
  rw [HAL.out] at c12
  have ca : (w1.setCell ⟨E.rb, 2, none⟩ (.int .i64 k)).cell? ⟨E.ab, E.ao + p, none⟩ = some (.string s) := by rw [HS2.out.src.ats p hpl, HSA.out]
  have hAb := HS2.out.src.ok.a
  clear HSA hs
  generalize E.H.A.length = AL at *
  have hd : decide ((p : Int) < (AL : Int)) = true := by simp; omega
  go_wp2_with (first | (go_at_call 45; refine (specTag_any x _).mono ?_; rintro e w' ⟨rfl, hw'⟩; (first | (rw [HTG.out]; rw [hw']) | rw [HTG.out])))
  obtain ⟨a1, a2, a3⟩ := sbox_out HT2.out (rp_leaf 2 0 s HSM.out) (.int .i64 2) (.int .i64 0) (.string s) (.slice none 0 0)
  exact bodyPost_ret (v := .agg #[.int .i64 2, .int .i64 0, .string s, .slice none 0 0]) (by simp [results, Try.results50, go_sem, q1]) rfl ⟨_, _, rfl, a2, a1, .inl ⟨k, rfl, HS.out.same HS2.out a3⟩⟩
set_option maxHeartbeats 2000000 in
set_option maxRecDepth 100000 in
theorem read_1n {E : Env} {d' : Nat} {k : Nat} (hk : k ≤ 100) {w : World} (h : Sr E ((k + 1 : Nat) : Int) false w) (x : Int) (hx : x ≤ 9223372036854775807) (h0 : 0 ≤ x) (D : Int) (hD : 1 ≤ D ∧ D ≤ 7) (ht : tagW x = 1) (hv : ¬ valW x < E.H.A.length) : RdAt E D w x (raw false E.H (rT false E.H d') x k) := by
  have HS : Hid (Sr E ((k + 1 : Nat) : Int) false w) := h
  have hD1 := hD.1
  have hD7 := hD.2
  have HX : Hid (x ≤ 9223372036854775807) := hx
  obtain ⟨p, hp⟩ : ∃ p : Nat, valW x = p := ⟨(valW x).toNat, by have := valW_ge x; omega⟩
  have HPV : Hid (valW x = p) := hp
  have HTG : Hid (tagW x = 1) := ht
  have HPB : Hid (p ≤ 9223372036854774000) := by
    show _ ≤ _
    rw [valW_of h0] at hp; omega
  have hpb : (p : Int) ≤ 9223372036854774000 := by have := HPB.out; omega
  have hk1 : (k : Int) ≤ 100 := by omega
  have hpl : ¬ p < E.H.A.length := by omega
  rw [show raw false E.H (rT false E.H d') x k = none by unfold raw; rw [if_neg (by omega), if_pos ht]; unfold rAtom; rw [if_neg hv]]
  clear hp h hx ht hD hv
  unfold RdAt
  go_enter Try.func50, Try.ntmps50
  go_wp2_with fail
  refine (specVal_any x HX.out _).mono ?_
  rintro e w1 ⟨rfl, hw1⟩
  rw [HPV.out]
  obtain ⟨hz1, q1, f1, ht1, hs1, hne⟩ := sbox_in HS.out _ _ hw1
  have HT1 : Hid (Turn E.rb w w1) := ht1
  have c2 := hs1.c2
  have c3 := hs1.c3
  have cf := hs1.fr
  have HS2 : Hid (Sr E k false (w1.setCell ⟨E.rb, 2, none⟩ (.int .i64 k))) := hs1.setL k
  have HT2 : Hid (Turn E.rb w (w1.setCell ⟨E.rb, 2, none⟩ (.int .i64 k))) := ht1.set 2 _
  have HZ2 : Hid ((w1.setCell ⟨E.rb, 2, none⟩ (.int .i64 k)).heap.size = w.heap.size + 1) := by show _ = _; rw [World.size_setCell]; exact hz1
  have c12 : (w1.setCell ⟨E.rb, 2, none⟩ (.int .i64 k)).cell? ⟨E.rb, 1, none⟩ = _ := HS2.out.c1
  have c32 : (w1.setCell ⟨E.rb, 2, none⟩ (.int .i64 k)).cell? ⟨E.rb, 3, none⟩ = _ := HS2.out.c3
  have q2 : ∀ o, (w1.setCell ⟨E.rb, 2, none⟩ (.int .i64 k)).cell? ⟨w.heap.size, o, none⟩ = (#[.int .i64 0, .int .i64 0, .string ⟨#[]⟩, .slice none 0 0] : Array Value)[o]? := fun o => by
    rw [World.cell?_setCell_other (h := fun e => by simp only [Addr.mk.injEq] at e; exact hne e.1)]; exact q1 o
  have f2 : ∀ o, (w1.setCell ⟨E.rb, 2, none⟩ (.int .i64 k)).frozen? ⟨w.heap.size, o, none⟩ = false := fun o => by rw [World.frozen?_setCell]; exact f1 o
  have g2 : ∀ o, (w1.setCell ⟨E.rb, 2, none⟩ (.int .i64 k)).frozen? ⟨E.rb, o, none⟩ = false := HS2.out.fr
  clear hw1 ht1 hs1
  have hAb := HS2.out.src.ok.a
  generalize E.H.A.length = AL at *
  have hd : decide ((p : Int) < (AL : Int)) = false := by simp; omega
  have HS3 : Hid (Sr E k true ((w1.setCell ⟨E.rb, 2, none⟩ (.int .i64 k)).setCell ⟨E.rb, 3, none⟩ (.bool true))) := HS2.out.setB true
  have HT3 : Hid (Turn E.rb w ((w1.setCell ⟨E.rb, 2, none⟩ (.int .i64 k)).setCell ⟨E.rb, 3, none⟩ (.bool true))) := HT2.out.set 3 _
  go_wp2_with (first | (go_at_call 45; refine (specTag_any x _).mono ?_; rintro e w' ⟨rfl, hw'⟩; (first | (rw [HTG.out]; rw [hw']) | rw [HTG.out])))
  obtain ⟨a1, a2, a3⟩ := sbox_out HT3.out (rp_leaf 0 0 ByteArray.empty (Nat.zero_le _)) (.int .i64 0) (.int .i64 0) (.string ⟨#[]⟩) (.slice none 0 0)
  exact bodyPost_ret (v := .agg #[.int .i64 0, .int .i64 0, .string ⟨#[]⟩, .slice none 0 0]) (by simp [results, Try.results50, go_sem, q1]) rfl ⟨_, _, rfl, a2, a1, .inr ⟨trivial, _, HS.out.same HS3.out a3⟩⟩
set_option maxHeartbeats 2000000 in
set_option maxRecDepth 100000 in
theorem read_2 {E : Env} {d' : Nat} {k : Nat} (hk : k ≤ 100) {w : World} (h : Sr E ((k + 1 : Nat) : Int) false w) (x : Int) (hx : x ≤ 9223372036854775807) (h0 : 0 ≤ x) (D : Int) (hD : 1 ≤ D ∧ D ≤ 7) (ht : tagW x = 2) : RdAt E D w x (raw false E.H (rT false E.H d') x k) := by
  have HS : Hid (Sr E ((k + 1 : Nat) : Int) false w) := h
  have hD1 := hD.1
  have hD7 := hD.2
  have HX : Hid (x ≤ 9223372036854775807) := hx
  obtain ⟨p, hp⟩ : ∃ p : Nat, valW x = p := ⟨(valW x).toNat, by have := valW_ge x; omega⟩
  have HPV : Hid (valW x = p) := hp
  have HTG : Hid (tagW x = 2) := ht
  have HPB : Hid (p ≤ 9223372036854774000) := by
    show _ ≤ _
    rw [valW_of h0] at hp; omega
  have hpb : (p : Int) ≤ 9223372036854774000 := by have := HPB.out; omega
  have hk1 : (k : Int) ≤ 100 := by omega
  rw [show raw false E.H (rT false E.H d') x k = some (.mk 3 (p : Int) ByteArray.empty [], k) by unfold raw; rw [if_neg (by omega), if_neg (by omega), if_pos ht, hp]]
  clear hp h hx ht hD
  unfold RdAt
  go_enter Try.func50, Try.ntmps50
  go_wp2_with fail
  refine (specVal_any x HX.out _).mono ?_
  rintro e w1 ⟨rfl, hw1⟩
  rw [HPV.out]
  obtain ⟨hz1, q1, f1, ht1, hs1, hne⟩ := sbox_in HS.out _ _ hw1
  have HT1 : Hid (Turn E.rb w w1) := ht1
  have c2 := hs1.c2
  have c3 := hs1.c3
  have cf := hs1.fr
  have HS2 : Hid (Sr E k false (w1.setCell ⟨E.rb, 2, none⟩ (.int .i64 k))) := hs1.setL k
  have HT2 : Hid (Turn E.rb w (w1.setCell ⟨E.rb, 2, none⟩ (.int .i64 k))) := ht1.set 2 _
  have HZ2 : Hid ((w1.setCell ⟨E.rb, 2, none⟩ (.int .i64 k)).heap.size = w.heap.size + 1) := by show _ = _; rw [World.size_setCell]; exact hz1
  have c12 : (w1.setCell ⟨E.rb, 2, none⟩ (.int .i64 k)).cell? ⟨E.rb, 1, none⟩ = _ := HS2.out.c1
  have c32 : (w1.setCell ⟨E.rb, 2, none⟩ (.int .i64 k)).cell? ⟨E.rb, 3, none⟩ = _ := HS2.out.c3
  have q2 : ∀ o, (w1.setCell ⟨E.rb, 2, none⟩ (.int .i64 k)).cell? ⟨w.heap.size, o, none⟩ = (#[.int .i64 0, .int .i64 0, .string ⟨#[]⟩, .slice none 0 0] : Array Value)[o]? := fun o => by
    rw [World.cell?_setCell_other (h := fun e => by simp only [Addr.mk.injEq] at e; exact hne e.1)]; exact q1 o
  have f2 : ∀ o, (w1.setCell ⟨E.rb, 2, none⟩ (.int .i64 k)).frozen? ⟨w.heap.size, o, none⟩ = false := fun o => by rw [World.frozen?_setCell]; exact f1 o
  have g2 : ∀ o, (w1.setCell ⟨E.rb, 2, none⟩ (.int .i64 k)).frozen? ⟨E.rb, o, none⟩ = false := HS2.out.fr
  clear hw1 ht1 hs1
  go_wp2_with (first | (go_at_call 45; refine (specTag_any x _).mono ?_; rintro e w' ⟨rfl, hw'⟩; (first | (rw [HTG.out]; rw [hw']) | rw [HTG.out])))
  obtain ⟨a1, a2, a3⟩ := sbox_out HT2.out (rp_leaf 3 (p : Int) ByteArray.empty (Nat.zero_le _)) (.int .i64 3) (.int .i64 (p : Int)) (.string ⟨#[]⟩) (.slice none 0 0)
  exact bodyPost_ret (v := .agg #[.int .i64 3, .int .i64 (p : Int), .string ⟨#[]⟩, .slice none 0 0]) (by simp [results, Try.results50, go_sem, q1]) rfl ⟨_, _, rfl, a2, a1, .inl ⟨k, rfl, HS.out.same HS2.out a3⟩⟩
set_option maxHeartbeats 2000000 in
set_option maxRecDepth 100000 in
theorem read_7 {E : Env} {d' : Nat} {k : Nat} (hk : k ≤ 100) {w : World} (h : Sr E ((k + 1 : Nat) : Int) false w) (x : Int) (hx : x ≤ 9223372036854775807) (h0 : 0 ≤ x) (D : Int) (hD : 1 ≤ D ∧ D ≤ 7) (ht : tagW x = 7) : RdAt E D w x (raw false E.H (rT false E.H d') x k) := by
  have HS : Hid (Sr E ((k + 1 : Nat) : Int) false w) := h
  have hD1 := hD.1
  have hD7 := hD.2
  have HX : Hid (x ≤ 9223372036854775807) := hx
  obtain ⟨p, hp⟩ : ∃ p : Nat, valW x = p := ⟨(valW x).toNat, by have := valW_ge x; omega⟩
  have HPV : Hid (valW x = p) := hp
  have HTG : Hid (tagW x = 7) := ht
  have HPB : Hid (p ≤ 9223372036854774000) := by
    show _ ≤ _
    rw [valW_of h0] at hp; omega
  have hpb : (p : Int) ≤ 9223372036854774000 := by have := HPB.out; omega
  have hk1 : (k : Int) ≤ 100 := by omega
  rw [show raw false E.H (rT false E.H d') x k = none by unfold raw; rw [if_neg (by omega), if_neg (by omega), if_neg (by omega), if_neg (by omega), if_neg (by omega), if_pos ht]]
  clear hp h hx ht hD
  unfold RdAt
  go_enter Try.func50, Try.ntmps50
  go_wp2_with fail
  refine (specVal_any x HX.out _).mono ?_
  rintro e w1 ⟨rfl, hw1⟩
  rw [HPV.out]
  obtain ⟨hz1, q1, f1, ht1, hs1, hne⟩ := sbox_in HS.out _ _ hw1
  have HT1 : Hid (Turn E.rb w w1) := ht1
  have c2 := hs1.c2
  have c3 := hs1.c3
  have cf := hs1.fr
  have HS2 : Hid (Sr E k false (w1.setCell ⟨E.rb, 2, none⟩ (.int .i64 k))) := hs1.setL k
  have HT2 : Hid (Turn E.rb w (w1.setCell ⟨E.rb, 2, none⟩ (.int .i64 k))) := ht1.set 2 _
  have HZ2 : Hid ((w1.setCell ⟨E.rb, 2, none⟩ (.int .i64 k)).heap.size = w.heap.size + 1) := by show _ = _; rw [World.size_setCell]; exact hz1
  have c12 : (w1.setCell ⟨E.rb, 2, none⟩ (.int .i64 k)).cell? ⟨E.rb, 1, none⟩ = _ := HS2.out.c1
  have c32 : (w1.setCell ⟨E.rb, 2, none⟩ (.int .i64 k)).cell? ⟨E.rb, 3, none⟩ = _ := HS2.out.c3
  have q2 : ∀ o, (w1.setCell ⟨E.rb, 2, none⟩ (.int .i64 k)).cell? ⟨w.heap.size, o, none⟩ = (#[.int .i64 0, .int .i64 0, .string ⟨#[]⟩, .slice none 0 0] : Array Value)[o]? := fun o => by
    rw [World.cell?_setCell_other (h := fun e => by simp only [Addr.mk.injEq] at e; exact hne e.1)]; exact q1 o
  have f2 : ∀ o, (w1.setCell ⟨E.rb, 2, none⟩ (.int .i64 k)).frozen? ⟨w.heap.size, o, none⟩ = false := fun o => by rw [World.frozen?_setCell]; exact f1 o
  have g2 : ∀ o, (w1.setCell ⟨E.rb, 2, none⟩ (.int .i64 k)).frozen? ⟨E.rb, o, none⟩ = false := HS2.out.fr
  clear hw1 ht1 hs1
  have HS3 : Hid (Sr E k true ((w1.setCell ⟨E.rb, 2, none⟩ (.int .i64 k)).setCell ⟨E.rb, 3, none⟩ (.bool true))) := HS2.out.setB true
  have HT3 : Hid (Turn E.rb w ((w1.setCell ⟨E.rb, 2, none⟩ (.int .i64 k)).setCell ⟨E.rb, 3, none⟩ (.bool true))) := HT2.out.set 3 _
  go_wp2_with (first | (go_at_call 45; refine (specTag_any x _).mono ?_; rintro e w' ⟨rfl, hw'⟩; (first | (rw [HTG.out]; rw [hw']) | rw [HTG.out])))
  obtain ⟨a1, a2, a3⟩ := sbox_out HT3.out (rp_leaf 0 0 ByteArray.empty (Nat.zero_le _)) (.int .i64 0) (.int .i64 0) (.string ⟨#[]⟩) (.slice none 0 0)
  exact bodyPost_ret (v := .agg #[.int .i64 0, .int .i64 0, .string ⟨#[]⟩, .slice none 0 0]) (by simp [results, Try.results50, go_sem, q1]) rfl ⟨_, _, rfl, a2, a1, .inr ⟨trivial, _, HS.out.same HS3.out a3⟩⟩
set_option maxHeartbeats 2000000 in
set_option maxRecDepth 100000 in
theorem read_6 {E : Env} {d' : Nat} {k : Nat} (hk : k ≤ 100) {w : World} (h : Sr E ((k + 1 : Nat) : Int) false w) (x : Int) (hx : x ≤ 9223372036854775807) (h0 : 0 ≤ x) (D : Int) (hD : 1 ≤ D ∧ D ≤ 7) (ht : tagW x = 6) : RdAt E D w x (raw false E.H (rT false E.H d') x k) := by
  have HS : Hid (Sr E ((k + 1 : Nat) : Int) false w) := h
  have hD1 := hD.1
  have hD7 := hD.2
  have HX : Hid (x ≤ 9223372036854775807) := hx
  obtain ⟨p, hp⟩ : ∃ p : Nat, valW x = p := ⟨(valW x).toNat, by have := valW_ge x; omega⟩
  have HPV : Hid (valW x = p) := hp
  have HTG : Hid (tagW x = 6) := ht
  have HPB : Hid (p ≤ 9223372036854774000) := by
    show _ ≤ _
    rw [valW_of h0] at hp; omega
  have hpb : (p : Int) ≤ 9223372036854774000 := by have := HPB.out; omega
  have hk1 : (k : Int) ≤ 100 := by omega
  obtain ⟨R, hR⟩ : ∃ R, raw false E.H (rT false E.H d') x k = R := ⟨_, rfl⟩
  have HR : Hid (R = rBin E.H p k) := by show _ = _; rw [← hR]; unfold raw; rw [if_neg (by omega), if_neg (by omega), if_neg (by omega), if_neg (by omega), if_pos ht, hp]
  rw [hR]
  clear hp h hx ht hD hR
  unfold RdAt
  go_enter Try.func50, Try.ntmps50
  go_wp2_with fail
  refine (specVal_any x HX.out _).mono ?_
  rintro e w1 ⟨rfl, hw1⟩
  rw [HPV.out]
  obtain ⟨hz1, q1, f1, ht1, hs1, hne⟩ := sbox_in HS.out _ _ hw1
  have HT1 : Hid (Turn E.rb w w1) := ht1
  have c2 := hs1.c2
  have c3 := hs1.c3
  have cf := hs1.fr
  have HS2 : Hid (Sr E k false (w1.setCell ⟨E.rb, 2, none⟩ (.int .i64 k))) := hs1.setL k
  have HT2 : Hid (Turn E.rb w (w1.setCell ⟨E.rb, 2, none⟩ (.int .i64 k))) := ht1.set 2 _
  have HZ2 : Hid ((w1.setCell ⟨E.rb, 2, none⟩ (.int .i64 k)).heap.size = w.heap.size + 1) := by show _ = _; rw [World.size_setCell]; exact hz1
  have c12 : (w1.setCell ⟨E.rb, 2, none⟩ (.int .i64 k)).cell? ⟨E.rb, 1, none⟩ = _ := HS2.out.c1
  have c32 : (w1.setCell ⟨E.rb, 2, none⟩ (.int .i64 k)).cell? ⟨E.rb, 3, none⟩ = _ := HS2.out.c3
  have q2 : ∀ o, (w1.setCell ⟨E.rb, 2, none⟩ (.int .i64 k)).cell? ⟨w.heap.size, o, none⟩ = (#[.int .i64 0, .int .i64 0, .string ⟨#[]⟩, .slice none 0 0] : Array Value)[o]? := fun o => by
    rw [World.cell?_setCell_other (h := fun e => by simp only [Addr.mk.injEq] at e; exact hne e.1)]; exact q1 o
  have f2 : ∀ o, (w1.setCell ⟨E.rb, 2, none⟩ (.int .i64 k)).frozen? ⟨w.heap.size, o, none⟩ = false := fun o => by rw [World.frozen?_setCell]; exact f1 o
  have g2 : ∀ o, (w1.setCell ⟨E.rb, 2, none⟩ (.int .i64 k)).frozen? ⟨E.rb, o, none⟩ = false := HS2.out.fr
  clear hw1 ht1 hs1
  go_wp2_with (first | (go_at_call 45; refine (specTag_any x _).mono ?_; rintro e w' ⟨rfl, hw'⟩; (first | (rw [HTG.out]; rw [hw']) | rw [HTG.out])) | (go_at_call 62; refine (specBin_any HS2.out p HPB.out).mono ?_; rintro e w5 ⟨s, rfl, hs5, ht5, hd5⟩; have HSM : Hid (s.size ≤ maxLen) := hs5; have HT5 : Hid (Turn E.rb w w5) := HT2.out.trans ht5; obtain ⟨q5, f5⟩ := ht5.keep hne (by rw [HZ2.out]; exact Nat.lt_succ_self _) q2 f2; clear ht5))
  obtain ⟨a1, a2, a3⟩ := sbox_out HT5.out (rp_leaf 6 0 s HSM.out) (.int .i64 6) (.int .i64 0) (.string s) (.slice none 0 0)
  refine bodyPost_ret (v := .agg #[.int .i64 6, .int .i64 0, .string s, .slice none 0 0]) (by simp [results, Try.results50, go_sem, q5]) rfl ⟨_, _, rfl, a2, a1, ?_⟩
  rw [HR.out]
  unfold rBin
  rw [Int.toNat_natCast]
  rcases hd5 with ⟨n, hc, htx, hs⟩ | ⟨hn, hs⟩
  · rw [hc]
    exact .inl ⟨k, by show bin k (txt _) = _; rw [htx]; rfl, HS.out.same hs a3⟩
  · refine .inr ⟨?_, _, HS.out.same hs a3⟩
    cases hc : cnt E.H (p : Int) 40 with
    | none => rfl
    | some n => show bin k (txt _) = _; rw [hn n hc]; rfl
set_option maxHeartbeats 2000000 in
set_option maxRecDepth 100000 in
theorem read_4 {E : Env} {d' : Nat} (ih : ReadC E d') (hd' : d' ≤ 6) {k : Nat} (hk : k ≤ 100) {w : World} (h : Sr E ((k + 1 : Nat) : Int) false w) (x : Int) (hx : x ≤ 9223372036854775807) (h0 : 0 ≤ x) (D : Int) (hD : 1 ≤ D ∧ D ≤ 7) (ht : tagW x = 4) (hDd : D = ((d' + 1 : Nat) : Int)) : RdAt E D w x (raw false E.H (rT false E.H d') x k) := by
  have HS : Hid (Sr E ((k + 1 : Nat) : Int) false w) := h
  have hD1 := hD.1
  have hD7 := hD.2
  have HX : Hid (x ≤ 9223372036854775807) := hx
  obtain ⟨p, hp⟩ : ∃ p : Nat, valW x = p := ⟨(valW x).toNat, by have := valW_ge x; omega⟩
  have HPV : Hid (valW x = p) := hp
  have HTG : Hid (tagW x = 4) := ht
  have HPB : Hid (p ≤ 9223372036854774000) := by
    show _ ≤ _
    rw [valW_of h0] at hp; omega
  have hpb : (p : Int) ≤ 9223372036854774000 := by have := HPB.out; omega
  have hk1 : (k : Int) ≤ 100 := by omega
  have IH : Hid (ReadC E d') := ih
  have HD6 : Hid (d' ≤ 6) := hd'
  have HK : Hid (k ≤ 100) := hk
  have HDD : Hid (D = ((d' + 1 : Nat) : Int)) := hDd
  obtain ⟨R, hR⟩ : ∃ R, raw false E.H (rT false E.H d') x k = R := ⟨_, rfl⟩
  have HR : Hid (R = rCnt E.H (rT false E.H d') p k) := by show _ = _; rw [← hR]; unfold raw; rw [if_neg (by omega), if_neg (by omega), if_neg (by omega), if_pos ht, hp]
  rw [hR]
  clear hp h hx ht hD hR ih hDd
  unfold RdAt
  go_enter Try.func50, Try.ntmps50
  go_wp2_with fail
  refine (specVal_any x HX.out _).mono ?_
  rintro e w1 ⟨rfl, hw1⟩
  rw [HPV.out]
  obtain ⟨hz1, q1, f1, ht1, hs1, hne⟩ := sbox_in HS.out _ _ hw1
  have HT1 : Hid (Turn E.rb w w1) := ht1
  have c2 := hs1.c2
  have c3 := hs1.c3
  have cf := hs1.fr
  have HS2 : Hid (Sr E k false (w1.setCell ⟨E.rb, 2, none⟩ (.int .i64 k))) := hs1.setL k
  have HT2 : Hid (Turn E.rb w (w1.setCell ⟨E.rb, 2, none⟩ (.int .i64 k))) := ht1.set 2 _
  have HZ2 : Hid ((w1.setCell ⟨E.rb, 2, none⟩ (.int .i64 k)).heap.size = w.heap.size + 1) := by show _ = _; rw [World.size_setCell]; exact hz1
  have c12 : (w1.setCell ⟨E.rb, 2, none⟩ (.int .i64 k)).cell? ⟨E.rb, 1, none⟩ = _ := HS2.out.c1
  have c32 : (w1.setCell ⟨E.rb, 2, none⟩ (.int .i64 k)).cell? ⟨E.rb, 3, none⟩ = _ := HS2.out.c3
  have q2 : ∀ o, (w1.setCell ⟨E.rb, 2, none⟩ (.int .i64 k)).cell? ⟨w.heap.size, o, none⟩ = (#[.int .i64 0, .int .i64 0, .string ⟨#[]⟩, .slice none 0 0] : Array Value)[o]? := fun o => by
    rw [World.cell?_setCell_other (h := fun e => by simp only [Addr.mk.injEq] at e; exact hne e.1)]; exact q1 o
  have f2 : ∀ o, (w1.setCell ⟨E.rb, 2, none⟩ (.int .i64 k)).frozen? ⟨w.heap.size, o, none⟩ = false := fun o => by rw [World.frozen?_setCell]; exact f1 o
  have g2 : ∀ o, (w1.setCell ⟨E.rb, 2, none⟩ (.int .i64 k)).frozen? ⟨E.rb, o, none⟩ = false := HS2.out.fr
  clear hw1 ht1 hs1
  go_wp2_with (first | (go_at_call 45; refine (specTag_any x _).mono ?_; rintro e w' ⟨rfl, hw'⟩; (first | (rw [HTG.out]; rw [hw']) | rw [HTG.out])) | (go_at_call 61; rw [HDD.out]; refine (specTuple_any IH.out HD6.out HS2.out HK.out p HPB.out).mono ?_; rintro e w5 ⟨tt, vv, rfl, hv5, ht5, hd5⟩; obtain ⟨va, vb, vc, vd, ve, vf, rfl⟩ := hv5.form; have HV5 : Hid (RpV (fun b => w.heap.size + 1 ≤ b) w5 tt (.agg #[.int .i64 va, .int .i64 vb, .string vc, .slice vd ve vf])) := (by rw [HZ2.out] at hv5; exact hv5); clear hv5; have HT5 : Hid (Turn E.rb w w5) := HT2.out.trans ht5; obtain ⟨q5, f5⟩ := ht5.keep hne (by rw [HZ2.out]; exact Nat.lt_succ_self _) q2 f2; clear ht5))
  obtain ⟨a1, a2, a3⟩ := sbox_out HT5.out HV5.out (.int .i64 va) (.int .i64 vb) (.string vc) (.slice vd ve vf)
  refine bodyPost_ret (v := .agg #[.int .i64 va, .int .i64 vb, .string vc, .slice vd ve vf]) (by simp [results, Try.results50, go_sem, q5]) rfl ⟨_, _, rfl, a2, a1, ?_⟩
  rw [HR.out]
  rcases hd5 with ⟨y, hy, hs⟩ | ⟨hn, z, hs⟩
  · exact .inl ⟨y, hy, HS.out.same hs a3⟩
  · exact .inr ⟨hn, z, HS.out.same hs a3⟩
set_option maxHeartbeats 2000000 in
set_option maxRecDepth 100000 in
theorem read_3 {E : Env} {d' : Nat} (ih : ReadC E d') (hd' : d' ≤ 6) {k : Nat} (hk : k ≤ 100) {w : World} (h : Sr E ((k + 1 : Nat) : Int) false w) (x : Int) (hx : x ≤ 9223372036854775807) (h0 : 0 ≤ x) (D : Int) (hD : 1 ≤ D ∧ D ≤ 7) (ht : tagW x = 3) (hDd : D = ((d' + 1 : Nat) : Int)) : RdAt E D w x (raw false E.H (rT false E.H d') x k) := by
  have HS : Hid (Sr E ((k + 1 : Nat) : Int) false w) := h
  have hD1 := hD.1
  have hD7 := hD.2
  have HX : Hid (x ≤ 9223372036854775807) := hx
  obtain ⟨p, hp⟩ : ∃ p : Nat, valW x = p := ⟨(valW x).toNat, by have := valW_ge x; omega⟩
  have HPV : Hid (valW x = p) := hp
  have HTG : Hid (tagW x = 3) := ht
  have HPB : Hid (p ≤ 9223372036854774000) := by
    show _ ≤ _
    rw [valW_of h0] at hp; omega
  have hpb : (p : Int) ≤ 9223372036854774000 := by have := HPB.out; omega
  have hk1 : (k : Int) ≤ 100 := by omega
  have IH : Hid (ReadC E d') := ih
  have HD6 : Hid (d' ≤ 6) := hd'
  have HK : Hid (k ≤ 100) := hk
  have HDD : Hid (D = ((d' + 1 : Nat) : Int)) := hDd
  obtain ⟨R, hR⟩ : ∃ R, raw false E.H (rT false E.H d') x k = R := ⟨_, rfl⟩
  have HR : Hid (R = tup 5 (rL E.H (rT false E.H d') 20 x k)) := by show _ = _; rw [← hR]; unfold raw; rw [if_neg (by omega), if_neg (by omega), if_neg (by omega), if_neg (by omega), if_neg (by omega), if_neg (by omega)]; rfl
  rw [hR]
  clear hp h hx ht hD hR ih hDd
  unfold RdAt
  go_enter Try.func50, Try.ntmps50
  go_wp2_with fail
  refine (specVal_any x HX.out _).mono ?_
  rintro e w1 ⟨rfl, hw1⟩
  rw [HPV.out]
  obtain ⟨hz1, q1, f1, ht1, hs1, hne⟩ := sbox_in HS.out _ _ hw1
  have HT1 : Hid (Turn E.rb w w1) := ht1
  have c2 := hs1.c2
  have c3 := hs1.c3
  have cf := hs1.fr
  have HS2 : Hid (Sr E k false (w1.setCell ⟨E.rb, 2, none⟩ (.int .i64 k))) := hs1.setL k
  have HT2 : Hid (Turn E.rb w (w1.setCell ⟨E.rb, 2, none⟩ (.int .i64 k))) := ht1.set 2 _
  have HZ2 : Hid ((w1.setCell ⟨E.rb, 2, none⟩ (.int .i64 k)).heap.size = w.heap.size + 1) := by show _ = _; rw [World.size_setCell]; exact hz1
  have c12 : (w1.setCell ⟨E.rb, 2, none⟩ (.int .i64 k)).cell? ⟨E.rb, 1, none⟩ = _ := HS2.out.c1
  have c32 : (w1.setCell ⟨E.rb, 2, none⟩ (.int .i64 k)).cell? ⟨E.rb, 3, none⟩ = _ := HS2.out.c3
  have q2 : ∀ o, (w1.setCell ⟨E.rb, 2, none⟩ (.int .i64 k)).cell? ⟨w.heap.size, o, none⟩ = (#[.int .i64 0, .int .i64 0, .string ⟨#[]⟩, .slice none 0 0] : Array Value)[o]? := fun o => by
    rw [World.cell?_setCell_other (h := fun e => by simp only [Addr.mk.injEq] at e; exact hne e.1)]; exact q1 o
  have f2 : ∀ o, (w1.setCell ⟨E.rb, 2, none⟩ (.int .i64 k)).frozen? ⟨w.heap.size, o, none⟩ = false := fun o => by rw [World.frozen?_setCell]; exact f1 o
  have g2 : ∀ o, (w1.setCell ⟨E.rb, 2, none⟩ (.int .i64 k)).frozen? ⟨E.rb, o, none⟩ = false := HS2.out.fr
  clear hw1 ht1 hs1
  go_wp2_with (first | (go_at_call 45; refine (specTag_any x _).mono ?_; rintro e w' ⟨rfl, hw'⟩; (first | (rw [HTG.out]; rw [hw']) | rw [HTG.out])) | (go_at_call 60; rw [HDD.out]; refine (specCons_any IH.out HD6.out HS2.out HK.out x HX.out).mono ?_; rintro e w5 ⟨tt, vv, rfl, hv5, ht5, hd5⟩; obtain ⟨va, vb, vc, vd, ve, vf, rfl⟩ := hv5.form; have HV5 : Hid (RpV (fun b => w.heap.size + 1 ≤ b) w5 tt (.agg #[.int .i64 va, .int .i64 vb, .string vc, .slice vd ve vf])) := (by rw [HZ2.out] at hv5; exact hv5); clear hv5; have HT5 : Hid (Turn E.rb w w5) := HT2.out.trans ht5; obtain ⟨q5, f5⟩ := ht5.keep hne (by rw [HZ2.out]; exact Nat.lt_succ_self _) q2 f2; clear ht5))
  obtain ⟨a1, a2, a3⟩ := sbox_out HT5.out HV5.out (.int .i64 va) (.int .i64 vb) (.string vc) (.slice vd ve vf)
  refine bodyPost_ret (v := .agg #[.int .i64 va, .int .i64 vb, .string vc, .slice vd ve vf]) (by simp [results, Try.results50, go_sem, q5]) rfl ⟨_, _, rfl, a2, a1, ?_⟩
  rw [HR.out]
  rcases hd5 with ⟨y, hy, hs⟩ | ⟨hn, z, hs⟩
  · exact .inl ⟨y, hy, HS.out.same hs a3⟩
  · exact .inr ⟨hn, z, HS.out.same hs a3⟩
set_option maxHeartbeats 2000000 in
set_option maxRecDepth 100000 in
theorem read_5 {E : Env} {d' : Nat} (ih : ReadC E d') (hd' : d' ≤ 6) {k : Nat} (hk : k ≤ 100) {w : World} (h : Sr E ((k + 1 : Nat) : Int) false w) (x : Int) (hx : x ≤ 9223372036854775807) (h0 : 0 ≤ x) (D : Int) (hD : 1 ≤ D ∧ D ≤ 7) (ht : tagW x = 5) (hDd : D = ((d' + 1 : Nat) : Int)) : RdAt E D w x (raw false E.H (rT false E.H d') x k) := by
  have HS : Hid (Sr E ((k + 1 : Nat) : Int) false w) := h
  have hD1 := hD.1
  have hD7 := hD.2
  have HX : Hid (x ≤ 9223372036854775807) := hx
  obtain ⟨p, hp⟩ : ∃ p : Nat, valW x = p := ⟨(valW x).toNat, by have := valW_ge x; omega⟩
  have HPV : Hid (valW x = p) := hp
  have HTG : Hid (tagW x = 5) := ht
  have HPB : Hid (p ≤ 9223372036854774000) := by
    show _ ≤ _
    rw [valW_of h0] at hp; omega
  have hpb : (p : Int) ≤ 9223372036854774000 := by have := HPB.out; omega
  have hk1 : (k : Int) ≤ 100 := by omega
  have IH : Hid (ReadC E d') := ih
  have HD6 : Hid (d' ≤ 6) := hd'
  have HK : Hid (k ≤ 100) := hk
  have HDD : Hid (D = ((d' + 1 : Nat) : Int)) := hDd
  obtain ⟨R, hR⟩ : ∃ R, raw false E.H (rT false E.H d') x k = R := ⟨_, rfl⟩
  have HR : Hid (R = tup 5 (rL E.H (rT false E.H d') 20 x k)) := by show _ = _; rw [← hR]; unfold raw; rw [if_neg (by omega), if_neg (by omega), if_neg (by omega), if_neg (by omega), if_neg (by omega), if_neg (by omega)]; rfl
  rw [hR]
  clear hp h hx ht hD hR ih hDd
  unfold RdAt
  go_enter Try.func50, Try.ntmps50
  go_wp2_with fail
  refine (specVal_any x HX.out _).mono ?_
  rintro e w1 ⟨rfl, hw1⟩
  rw [HPV.out]
  obtain ⟨hz1, q1, f1, ht1, hs1, hne⟩ := sbox_in HS.out _ _ hw1
  have HT1 : Hid (Turn E.rb w w1) := ht1
  have c2 := hs1.c2
  have c3 := hs1.c3
  have cf := hs1.fr
  have HS2 : Hid (Sr E k false (w1.setCell ⟨E.rb, 2, none⟩ (.int .i64 k))) := hs1.setL k
  have HT2 : Hid (Turn E.rb w (w1.setCell ⟨E.rb, 2, none⟩ (.int .i64 k))) := ht1.set 2 _
  have HZ2 : Hid ((w1.setCell ⟨E.rb, 2, none⟩ (.int .i64 k)).heap.size = w.heap.size + 1) := by show _ = _; rw [World.size_setCell]; exact hz1
  have c12 : (w1.setCell ⟨E.rb, 2, none⟩ (.int .i64 k)).cell? ⟨E.rb, 1, none⟩ = _ := HS2.out.c1
  have c32 : (w1.setCell ⟨E.rb, 2, none⟩ (.int .i64 k)).cell? ⟨E.rb, 3, none⟩ = _ := HS2.out.c3
  have q2 : ∀ o, (w1.setCell ⟨E.rb, 2, none⟩ (.int .i64 k)).cell? ⟨w.heap.size, o, none⟩ = (#[.int .i64 0, .int .i64 0, .string ⟨#[]⟩, .slice none 0 0] : Array Value)[o]? := fun o => by
    rw [World.cell?_setCell_other (h := fun e => by simp only [Addr.mk.injEq] at e; exact hne e.1)]; exact q1 o
  have f2 : ∀ o, (w1.setCell ⟨E.rb, 2, none⟩ (.int .i64 k)).frozen? ⟨w.heap.size, o, none⟩ = false := fun o => by rw [World.frozen?_setCell]; exact f1 o
  have g2 : ∀ o, (w1.setCell ⟨E.rb, 2, none⟩ (.int .i64 k)).frozen? ⟨E.rb, o, none⟩ = false := HS2.out.fr
  clear hw1 ht1 hs1
  go_wp2_with (first | (go_at_call 45; refine (specTag_any x _).mono ?_; rintro e w' ⟨rfl, hw'⟩; (first | (rw [HTG.out]; rw [hw']) | rw [HTG.out])) | (go_at_call 60; rw [HDD.out]; refine (specCons_any IH.out HD6.out HS2.out HK.out x HX.out).mono ?_; rintro e w5 ⟨tt, vv, rfl, hv5, ht5, hd5⟩; obtain ⟨va, vb, vc, vd, ve, vf, rfl⟩ := hv5.form; have HV5 : Hid (RpV (fun b => w.heap.size + 1 ≤ b) w5 tt (.agg #[.int .i64 va, .int .i64 vb, .string vc, .slice vd ve vf])) := (by rw [HZ2.out] at hv5; exact hv5); clear hv5; have HT5 : Hid (Turn E.rb w w5) := HT2.out.trans ht5; obtain ⟨q5, f5⟩ := ht5.keep hne (by rw [HZ2.out]; exact Nat.lt_succ_self _) q2 f2; clear ht5))
  obtain ⟨a1, a2, a3⟩ := sbox_out HT5.out HV5.out (.int .i64 va) (.int .i64 vb) (.string vc) (.slice vd ve vf)
  refine bodyPost_ret (v := .agg #[.int .i64 va, .int .i64 vb, .string vc, .slice vd ve vf]) (by simp [results, Try.results50, go_sem, q5]) rfl ⟨_, _, rfl, a2, a1, ?_⟩
  rw [HR.out]
  rcases hd5 with ⟨y, hy, hs⟩ | ⟨hn, z, hs⟩
  · exact .inl ⟨y, hy, HS.out.same hs a3⟩
  · exact .inr ⟨hn, z, HS.out.same hs a3⟩
theorem read_of {E : Env} {d : Nat} (hd6 : d ≤ 6) (ih : ∀ d', d = d' + 1 → ReadC E d') : ReadC E d := by
  intro w left x h hl hx
  have key : ∀ R, rT false E.H d x left = R → RdAt E d w x R → Calls Try.prog 50 #[.pointer (some ⟨E.rb, 0, none⟩), .int .i64 x, .int .i64 d] w fun e w' => ∃ t v, e = .returned v ∧ RpV (fun b => w.heap.size ≤ b) w' t v ∧ Turn E.rb w w' ∧
    ((∃ y : Nat, rT false E.H d x left = some (t, y) ∧ Sr E y false w') ∨ (rT false E.H d x left = none ∧ ∃ z : Int, Sr E z true w')) := fun R hR hA => by rw [hR]; exact hA
  by_cases h0 : 0 ≤ x
  · cases d with
    | zero => exact key none (by rw [rT]) (read_refuse hl h x hx _ (by omega) (.inr (.inl ⟨h0, by omega⟩)))
    | succ d' =>
      cases left with
      | zero => exact key none (by rw [rT, if_neg (by simp)]) (read_refuse hl h x hx _ (by omega) (.inr (.inr ⟨h0, by omega, rfl⟩)))
      | succ k =>
        have hi := ih d' rfl
        refine key _ (by rw [rT, if_pos ⟨by simpa using h0, by omega⟩, held_false]) ?_
        have hk : k ≤ 100 := by omega
        have hD : (1 : Int) ≤ ((d' + 1 : Nat) : Int) ∧ ((d' + 1 : Nat) : Int) ≤ 7 := by omega
        have ht := tagW_ge x
        have hc : tagW x = 0 ∨ tagW x = 1 ∨ tagW x = 2 ∨ tagW x = 3 ∨ tagW x = 4 ∨ tagW x = 5 ∨ tagW x = 6 ∨ tagW x = 7 := by omega
        rcases hc with hc | hc | hc | hc | hc | hc | hc | hc
        · by_cases hv : 2000000 < valW x
          · exact read_0n hk h x hx h0 _ hD hc hv
          · exact read_0y hk h x hx h0 _ hD hc hv
        · by_cases hv : valW x < E.H.A.length
          · exact read_1y hk h x hx h0 _ hD hc hv
          · exact read_1n hk h x hx h0 _ hD hc hv
        · exact read_2 hk h x hx h0 _ hD hc
        · exact read_3 hi (by omega) hk h x hx h0 _ hD hc rfl
        · exact read_4 hi (by omega) hk h x hx h0 _ hD hc rfl
        · exact read_5 hi (by omega) hk h x hx h0 _ hD hc rfl
        · exact read_6 hk h x hx h0 _ hD hc
        · exact read_7 hk h x hx h0 _ hD hc
  · exact key none (by cases d with | zero => rw [rT] | succ d => rw [rT, if_neg (by simp; omega)]) (read_refuse hl h x hx _ (by omega) (.inl (by omega)))
theorem read_all (E : Env) : ∀ d : Nat, d ≤ 6 → ReadC E d
  | 0, h => read_of h (fun d' e => by omega)
  | d + 1, h => read_of h (fun d' e => by
      have : d' = d := by omega
      subst this
      exact read_all E d' (by omega))
end Go.Proofs.Ytjjmikfbongccaa
