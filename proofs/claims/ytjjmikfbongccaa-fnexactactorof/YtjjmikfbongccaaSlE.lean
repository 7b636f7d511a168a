/-
  How the specification reads off both lists: a tuple.
-/
import Derived.Test.YtjjmikfbongccaaSlD
namespace Go.Proofs.Ytjjmikfbongccaa.Gn
open Go.RowKit
set_option linter.unusedVariables false

/-- What l6Read answers. -/
def ReadC (E : SE) (d : Nat) : Prop := ∀ (w : World) (left : Nat) (x : Int), Sr E left false w → left ≤ 100 → x ≤ 9223372036854775807 →
  Calls Try.prog 41 #[.pointer (some ⟨E.rb, 0, none⟩), .int .i64 x, .int .i64 d] w fun e w' => Ans E w w' (rT false E.H d x left) e
/-- How the reading of a list goes on. -/
def Goes (E : SE) (G : Option (List Tm × Nat)) (nx : Nat → Option (List Tm × Nat)) (l : List Tm) (wr : World) : Prop :=
  (∃ y : Nat, y ≤ 100 ∧ Sr E y false wr ∧ G = pre l (nx y)) ∨ (G = none ∧ ∃ z : Int, Sr E z true wr)
set_option maxHeartbeats 4000000 in
set_option maxRecDepth 100000 in
theorem l6Tuple_no {E : SE} {left : Nat} {w : World} (h : Sr E left false w) (p : Nat) (hp : p ≤ 9223372036854774000) (D : Int) (hc : cnt E.H p 8 = none) :
    Calls Try.prog 47 #[.pointer (some ⟨E.rb, 0, none⟩), .int .i64 p, .int .i64 D] w fun e w' => Ans E w w' none e := by
  have HS : Hid (Sr E left false w) := h
  have HS0 : Hid (Sr E left false (w.alloc (.cells #[.int .i64 0, .int .i64 0, .string ⟨#[]⟩, .slice none 0 0] 64))) := h.below ((Below.refl _ _).alloc (Nat.le_refl _) _)
  have k0 := HS0.out.drew.c0
  have k1 := HS0.out.drew.c1
  have k2 := HS0.out.drew.c2
  have HP : Hid (p ≤ 9223372036854775000) := by show _ ≤ _; omega
  have hpb : (p : Int) ≤ 9223372036854774000 := by omega
  have hrl := h.lt
  obtain ⟨k, hk, hk1, hk2⟩ := cn_none (by decide) hc
  have HSZ : Hid (sz E.G (mkw 4 p) = (k : Int)) := by show _ = _; rw [sz_mk h.src 4 (.inl rfl) p, hk]
  have HKK : Hid (inB ((k : Int) - 1) 0 8 = true → k ≠ 0 ∧ ¬ k ≤ E.G.len p) := hk2
  have hki : (k : Int) ≤ 1001 := by omega
  clear h hc hk hk1 hk2 hp
  go_enter Try.func47, Try.ntmps47
  go_wp2_with fail
  go_region_law (go_simp; go_wp2_with (first | (go_at_call 56; refine (specMake_any 4 p _).mono ?_; rintro e w' ⟨rfl, rfl⟩) | (go_at_call 58; refine (l6Size_any HS0.out.src.drew (mkw 4 p) (mkw_le _ _ (by decide))).mono ?_; rintro e w1 ⟨rfl, hb1⟩; rw [HSZ.out]; have HS1 : Hid (Sr E left false w1) := HS0.out.drew.below hb1; have q1 : ∀ o, w1.cell? ⟨w.heap.size, o, none⟩ = (#[.int .i64 0, .int .i64 0, .string ⟨#[]⟩, .slice none 0 0] : Array Value)[o]? := (fun o => by rw [hb1.cell (p := ⟨w.heap.size, o, none⟩) (by show w.heap.size < (w.alloc _).heap.size; rw [World.size_alloc]; omega)]; exact World.cell?_alloc_new w _ _ o); have f1 : ∀ o, w1.frozen? ⟨w.heap.size, o, none⟩ = false := (fun o => by rw [hb1.frozen (p := ⟨w.heap.size, o, none⟩) (by show w.heap.size < (w.alloc _).heap.size; rw [World.size_alloc]; omega)]; exact World.frozen?_alloc_new w _ _ o); have HT1 : Hid (Turn E.rb w w1) := (((Turn.refl E.rb w).alloc (.cells #[.int .i64 0, .int .i64 0, .string ⟨#[]⟩, .slice none 0 0] 64)).trans (Turn.undrew (Turn.of_below hb1))); have hz1 : w.heap.size + 1 ≤ w1.heap.size := (by have := hb1.size; have e2 : (w.alloc (.cells #[.int .i64 0, .int .i64 0, .string ⟨#[]⟩, .slice none 0 0] 64)).drew.heap.size = w.heap.size + 1 := World.size_alloc _ _; omega); have c0 := HS1.out.c0; have c1 := HS1.out.c1; have c2 := HS1.out.c2; clear hb1)))
  all_goals
    go_wp2_with fail
    refine (l6Words_any HS1.out.src p k HP.out).mono ?_
    rintro e w2 ⟨a2, m2, cc2, ok2, rfl, hb2, ho2⟩
    have HO2 : Hid (inB ((k : Int) - 1) 0 8 = true → ok2 = false) := fun hb => ho2 (HKK.out hb).1 (HKK.out hb).2
    have HS2 : Hid (Sr E left false w2) := HS1.out.below hb2
    have HT2 : Hid (Turn E.rb w w2) := HT1.out.trans (Turn.of_below hb2)
    have q2 : ∀ o, w2.cell? ⟨w.heap.size, o, none⟩ = (#[.int .i64 0, .int .i64 0, .string ⟨#[]⟩, .slice none 0 0] : Array Value)[o]? := fun o => by rw [hb2.cell (p := ⟨w.heap.size, o, none⟩) (by show w.heap.size < _; omega)]; exact q1 o
    have f2 : ∀ o, w2.frozen? ⟨w.heap.size, o, none⟩ = false := fun o => by rw [hb2.frozen (p := ⟨w.heap.size, o, none⟩) (by show w.heap.size < _; omega)]; exact f1 o
    have hb3 : Below w2.heap.size w2 (w2.alloc (.cells #[.int .i64 4, .int .i64 0, .string ⟨#[]⟩, .slice none 0 0] 64)) := (Below.refl _ _).alloc (Nat.le_refl _) _
    have HS3 : Hid (Sr E left false (w2.alloc (.cells #[.int .i64 4, .int .i64 0, .string ⟨#[]⟩, .slice none 0 0] 64))) := HS2.out.below hb3
    have HT3 : Hid (Turn E.rb w (w2.alloc (.cells #[.int .i64 4, .int .i64 0, .string ⟨#[]⟩, .slice none 0 0] 64))) := HT2.out.trans (Turn.of_below hb3)
    have hz2 := hb2.size
    have c5 := HS3.out.c5
    have cf := HS3.out.fr
    have hne : E.rb ≠ w.heap.size := by omega
    have hne2 : E.rb ≠ w2.heap.size := by omega
    have hne3 : w.heap.size ≠ w2.heap.size := by omega
    have q3 : ∀ o, (w2.alloc (.cells #[.int .i64 4, .int .i64 0, .string ⟨#[]⟩, .slice none 0 0] 64)).cell? ⟨w.heap.size, o, none⟩ = (#[.int .i64 0, .int .i64 0, .string ⟨#[]⟩, .slice none 0 0] : Array Value)[o]? := fun o => by rw [hb3.cell (p := ⟨w.heap.size, o, none⟩) (by show w.heap.size < _; omega)]; exact q2 o
    have f3 : ∀ o, (w2.alloc (.cells #[.int .i64 4, .int .i64 0, .string ⟨#[]⟩, .slice none 0 0] 64)).frozen? ⟨w.heap.size, o, none⟩ = false := fun o => by rw [hb3.frozen (p := ⟨w.heap.size, o, none⟩) (by show w.heap.size < _; omega)]; exact f2 o
    have hlt3 : w.heap.size < w2.heap.size := by omega
    go_wp2_with fail
    clear hb2 ho2 q1 f1 c0 c1 c2 k0 k1 k2 hb3 q2 f2
    generalize hW3 : (w2.alloc (.cells #[.int .i64 4, .int .i64 0, .string ⟨#[]⟩, .slice none 0 0] 64)) = w3 at *
    have x3 : ∀ o, w3.cell? ⟨w2.heap.size, o, none⟩ = (#[.int .i64 4, .int .i64 0, .string ⟨#[]⟩, .slice none 0 0] : Array Value)[o]? := fun o => by rw [← hW3]; exact World.cell?_alloc_new w2 _ _ o
    clear hW3
    cases hb : inB ((k : Int) - 1) 0 8 with
    | false =>
      have HBB : Hid (inB ((k : Int) - 1) 0 8 = false) := hb
      clear hb
      go_wp2_with (first | (go_at_call 59; refine (in_any _ _ _ _).mono ?_; rintro e w' ⟨rfl, hw'⟩; obtain rfl := hw'.symm; rw [HBB.out]))
      obtain ⟨a1, a2, a3⟩ := sbox_out (E := E.e) (HT3.out.set 5 (.bool true)) (Ytjjmikfbongccaa.rp_leaf 4 0 ByteArray.empty (Nat.zero_le _)) (.int .i64 4) (.int .i64 0) (.string ⟨#[]⟩) (.slice none 0 0)
      exact bodyPost_ret (v := .agg #[.int .i64 4, .int .i64 0, .string ⟨#[]⟩, .slice none 0 0]) (by simp [results, Try.results47, go_sem, q3]) rfl ⟨_, _, rfl, a2, a1, .inr ⟨rfl, _, HS.out.same (HS3.out.setB true) a3⟩⟩
    | true =>
      have HBB : Hid (inB ((k : Int) - 1) 0 8 = true) := hb
      obtain rfl := HO2.out hb
      clear hb
      go_wp2_with (first | (go_at_call 59; refine (in_any _ _ _ _).mono ?_; rintro e w' ⟨rfl, hw'⟩; obtain rfl := hw'.symm; rw [HBB.out]))
      obtain ⟨a1, a2, a3⟩ := sbox_out (E := E.e) (HT3.out.set 5 (.bool true)) (Ytjjmikfbongccaa.rp_leaf 4 0 ByteArray.empty (Nat.zero_le _)) (.int .i64 4) (.int .i64 0) (.string ⟨#[]⟩) (.slice none 0 0)
      exact bodyPost_ret (v := .agg #[.int .i64 4, .int .i64 0, .string ⟨#[]⟩, .slice none 0 0]) (by simp [results, Try.results47, go_sem, q3]) rfl ⟨_, _, rfl, a2, a1, .inr ⟨rfl, _, HS.out.same (HS3.out.setB true) a3⟩⟩
set_option maxHeartbeats 8000000 in
set_option maxRecDepth 100000 in
theorem l6Tuple_yes {E : SE} {d' : Nat} (ih : ReadC E d') (hd' : d' ≤ 6) {left : Nat} {w : World} (h : Sr E left false w) (hl : left ≤ 100) (p : Nat) (hp : p ≤ 9223372036854774000) (m : Nat) (hc : cnt E.H p 8 = some m) :
    Calls Try.prog 47 #[.pointer (some ⟨E.rb, 0, none⟩), .int .i64 p, .int .i64 ((d' + 1 : Nat) : Int)] w fun e w' => Ans E w w' (tup 4 (rTs (E.H.w p) (rT false E.H d') m 1 left)) e := by
  have HS : Hid (Sr E left false w) := h
  have HS0 : Hid (Sr E left false (w.alloc (.cells #[.int .i64 0, .int .i64 0, .string ⟨#[]⟩, .slice none 0 0] 64))) := h.below ((Below.refl _ _).alloc (Nat.le_refl _) _)
  have k0 := HS0.out.drew.c0
  have k1 := HS0.out.drew.c1
  have k2 := HS0.out.drew.c2
  have HP : Hid (p ≤ 9223372036854775000) := by show _ ≤ _; omega
  have hpb : (p : Int) ≤ 9223372036854774000 := by omega
  have hrl := h.lt
  have HL : Hid (left ≤ 100) := hl
  have HT : Hid (ReadC E d') := ih
  obtain ⟨D, hD⟩ : ∃ D : Int, D = ((d' + 1 : Nat) : Int) := ⟨_, rfl⟩
  rw [← hD]
  have HQD : Hid (D - 1 = d') := by show _ = _; omega
  have HWR : Hid (IntKind.i64.wrap (D - 1) = d') := by show _ = _; rw [IntKind.wrap_i64]; omega
  have hD0 : 1 ≤ D := by omega
  have hD6 : D ≤ 7 := by omega
  obtain ⟨hk1, hk2, hk3⟩ := cn_some (by decide) hc
  have HSZ : Hid (sz E.G (mkw 4 p) = (m : Int) + 1) := by show _ = _; rw [sz_mk h.src 4 (.inl rfl) p, hk1]
  have HM1 : Hid ((m : Int) + 1 = ((m + 1 : Nat) : Int)) := by show _ = _; omega
  have HLN : Hid (m + 1 ≤ E.G.len p) := hk2
  have hm8 : m ≤ 8 := by omega
  have hmi : (m : Int) ≤ 8 := by omega
  have HIN : Hid (inB (m : Int) 0 8 = true) := by show _ = _; unfold inB; simp; omega
  clear h hc hk1 hk2 hk3 hp hl ih hD
  obtain ⟨i0, hi, hzz0, hzz1, hzz2⟩ := infoParts infoTm
  obtain ⟨G, hG⟩ : ∃ G, rTs (E.H.w p) (rT false E.H d') m 1 left = G := ⟨_, rfl⟩
  have HG0 : Hid (rTs (E.H.w p) (rT false E.H d') m 1 left = G) := hG
  rw [hG]
  clear hG
  go_enter Try.func47, Try.ntmps47
  go_wp2_with fail
  go_region_law (go_simp; go_wp2_with (first | (go_at_call 56; refine (specMake_any 4 p _).mono ?_; rintro e w' ⟨rfl, rfl⟩) | (go_at_call 58; refine (l6Size_any HS0.out.src.drew (mkw 4 p) (mkw_le _ _ (by decide))).mono ?_; rintro e w1 ⟨rfl, hb1⟩; rw [HSZ.out]; have HS1 : Hid (Sr E left false w1) := HS0.out.drew.below hb1; have q1 : ∀ o, w1.cell? ⟨w.heap.size, o, none⟩ = (#[.int .i64 0, .int .i64 0, .string ⟨#[]⟩, .slice none 0 0] : Array Value)[o]? := (fun o => by rw [hb1.cell (p := ⟨w.heap.size, o, none⟩) (by show w.heap.size < (w.alloc _).heap.size; rw [World.size_alloc]; omega)]; exact World.cell?_alloc_new w _ _ o); have f1 : ∀ o, w1.frozen? ⟨w.heap.size, o, none⟩ = false := (fun o => by rw [hb1.frozen (p := ⟨w.heap.size, o, none⟩) (by show w.heap.size < (w.alloc _).heap.size; rw [World.size_alloc]; omega)]; exact World.frozen?_alloc_new w _ _ o); have HT1 : Hid (Turn E.rb w w1) := (((Turn.refl E.rb w).alloc (.cells #[.int .i64 0, .int .i64 0, .string ⟨#[]⟩, .slice none 0 0] 64)).trans (Turn.undrew (Turn.of_below hb1))); have hz1 : w.heap.size + 1 ≤ w1.heap.size := (by have := hb1.size; have e2 : (w.alloc (.cells #[.int .i64 0, .int .i64 0, .string ⟨#[]⟩, .slice none 0 0] 64)).drew.heap.size = w.heap.size + 1 := World.size_alloc _ _; omega); have c0 := HS1.out.c0; have c1 := HS1.out.c1; have c2 := HS1.out.c2; clear hb1)))
  all_goals
    go_wp2_with fail
    (first | rw [HM1.out] | skip)
    refine (l6Words_yes HS1.out.src p (m + 1) HLN.out (by omega)).mono ?_
    rintro e w2 ⟨cc2, rfl, hb2⟩
    have HS2 : Hid (Sr E left false w2) := HS1.out.below hb2
    have HT2 : Hid (Turn E.rb w w2) := HT1.out.trans (Turn.of_below hb2)
    have q2 : ∀ o, w2.cell? ⟨w.heap.size, o, none⟩ = (#[.int .i64 0, .int .i64 0, .string ⟨#[]⟩, .slice none 0 0] : Array Value)[o]? := fun o => by rw [hb2.cell (p := ⟨w.heap.size, o, none⟩) (by show w.heap.size < _; omega)]; exact q1 o
    have f2 : ∀ o, w2.frozen? ⟨w.heap.size, o, none⟩ = false := fun o => by rw [hb2.frozen (p := ⟨w.heap.size, o, none⟩) (by show w.heap.size < _; omega)]; exact f1 o
    have hz2 := hb2.size
    have HSN : Hid (E.G.sb p ≠ E.rb) := HS2.out.sn p (by have := HLN.out; omega)
    have HCE : Hid (∀ j, j < m → w2.cell? ⟨E.G.sb p, E.G.so p + (j + 1), none⟩ = some (.int .i64 (E.G.w p (j + 1)))) := fun j hj => HS2.out.at p (j + 1) (by have := HLN.out; omega)
    have HG1 : Hid (GS E.e w (w2.alloc (.cells #[.int .i64 4, .int .i64 0, .string ⟨#[]⟩, .slice none 0 0] 64)) w2.heap.size 4 [] (.slice none 0 0) []) := GS.start (E := E.e) HT2.out hrl (by omega) rfl q2 f2 4
    have HGO : Hid (Goes E G (fun y => rTs (E.H.w p) (rT false E.H d') (m + 1 - 1) 1 y) [] (w2.alloc (.cells #[.int .i64 4, .int .i64 0, .string ⟨#[]⟩, .slice none 0 0] 64))) := by
      have hs := HS2.out.below ((Below.refl _ _).alloc (Nat.le_refl _) (.cells #[.int .i64 4, .int .i64 0, .string ⟨#[]⟩, .slice none 0 0] 64))
      exact .inl ⟨left, HL.out, hs, by rw [pre_nil]; exact HG0.out.symm⟩
    have hCW2 : ∀ j, j < m → E.G.sb p < w2.heap.size := fun j hj => World.block_lt_of_cell? w2 _ (HCE.out j hj)
    have HCW2 : Hid (∀ j, j < m → E.G.sb p < w2.heap.size) := hCW2
    have HT3 : Hid (Turn E.rb w2 (w2.alloc (.cells #[.int .i64 4, .int .i64 0, .string ⟨#[]⟩, .slice none 0 0] 64))) := (Turn.refl _ _).alloc _
    have hne : E.rb ≠ w.heap.size := by omega
    have hne2 : E.rb ≠ w2.heap.size := by omega
    clear hb2 q1 f1 c0 c1 c2 k0 k1 k2 hCW2
    go_wp2_with (first | (go_at_call 59; refine (in_any _ _ _ _).mono ?_; rintro e w' ⟨rfl, hw'⟩; obtain rfl := hw'.symm; rw [HIN.out]))
    obtain ⟨tb, htb⟩ : ∃ tb, tb = w2.heap.size := ⟨_, rfl⟩
    rw [← htb] at HG1 HCW2
    rw [← htb]
    have htbz : w2.heap.size ≤ tb := by omega
    clear htb
    go_loopw [11] (fun i wr => ∃ (k : Nat) (l : List Tm) (u : Value) (xs : List Value), 1 ≤ k ∧ k ≤ m + 1 ∧ i = .int .i64 k ∧ GS E.e w wr tb 4 l u xs ∧ Turn E.rb w2 wr ∧ l.length ≤ k ∧ Goes E G (fun y => rTs (E.H.w p) (rT false E.H d') (m + 1 - k) k y) l wr) (fun i _ => m + 1 - (intOf i).toNat)
    case atStart => exact ⟨1, [], _, _, Nat.le_refl _, by omega, rfl, HG1.out, HT3.out, Nat.zero_le _, HGO.out⟩
    case round =>
      obtain ⟨k, l, u, xs, hk0, hk, rfl, hg, htr, hlk, hgo⟩ := hrel
      obtain ⟨ua, uc, rfl⟩ := hg.form
      have HG : Hid (GS E.e w wr tb 4 l (.slice ua l.length uc) xs) := hg
      have HTR : Hid (Turn E.rb w2 wr) := htr
      have t0 := hg.t0
      have t1 := hg.t1
      have t2 := hg.t2
      have t3 := hg.t3
      have tf := hg.tf
      have htl := hg.lt
      have hup := hg.up
      obtain ⟨r0, hr0⟩ := hg.r 0 (by decide)
      obtain ⟨r1, hr1⟩ := hg.r 1 (by decide)
      obtain ⟨r2, hr2⟩ := hg.r 2 (by decide)
      obtain ⟨r3, hr3⟩ := hg.r 3 (by decide)
      have hrf := hg.rf
      clear hg htr
      rcases hgo with ⟨y, hy, hsy, hGy⟩ | ⟨hGn, z, hsz⟩
      · have c5 := hsy.c5
        have HSY : Hid (Sr E y false wr) := hsy
        have HY : Hid (y ≤ 100) := hy
        have HGY : Hid (G = pre l (rTs (E.H.w p) (rT false E.H d') (m + 1 - k) k y)) := hGy
        clear hsy hy hGy
        by_cases hlt : k < m + 1
        · have q : wr.cell? ⟨E.G.sb p, E.G.so p + k, none⟩ = some (.int .i64 (E.G.w p k)) := HTR.out.cell HSN.out (by have := HCE.out (k - 1) (by omega); rw [show k - 1 + 1 = k by omega] at this; exact this)
          have HBG : Hid (E.G.w p k ≤ 9223372036854775807) := GE.bigw HSY.out.src _ _
          have HC3 : Hid (l.length + 1 ≤ maxLen) := by show _ ≤ _; unfold maxLen; omega
          have HC4 : Hid ((l.length + 1) * 56 ≤ 140737488355328) := by show _ ≤ _; omega
          have HKK : Hid (m + 1 - k = (m + 1 - (k + 1)) + 1) := by show _ = _; omega
          obtain ⟨x, hx⟩ : ∃ x, E.G.w p k = x := ⟨_, rfl⟩
          have HX : Hid (E.H.w p k = x) := hx
          rw [hx] at q HBG
          clear hx
          go_wp2_with fail
          go_region_law (first
          | (refine step_append_lies _ rfl (.tmp 57) (.tmp 66) 39 rfl (tb + 1) 64 i0 (.agg #[.int .i64 0, .int .i64 0, .string ⟨#[]⟩, .slice none 0 0]) 4 56 undTms hi hzz0 hzz1 hzz2 rfl (by decide) (.slice ua l.length uc) l.length xs (by simp [Act.eval]) (HG1.out.own.alloc _) ⟨w5.heap.size, 0, none⟩ 1 1 [.int .i64 va, .int .i64 vb, .string vc, .slice vd ve vf] (by simp [Act.eval]) rfl four8 one4 (by decide) HC3.out HC4.out (by simp; omega) _ rfl ?_; intro g6 cap6 w6 hown6 hgrow6 hat6 hlt6; obtain ⟨t36, tf6⟩ := HG1.out.grown hgrow6)
          | (go_simp; go_wp2_with (go_at_call 41; (first | rw [HWR.out] | rw [HQD.out]); refine (HT.out _ y _ HSY.out.drew HY.out HBG.out).mono ?_; rintro e w5 ⟨tt, vv, rfl, hv5, ht5, hd5⟩; obtain ⟨va, vb, vc, vd, ve, vf, rfl⟩ := hv5.form; have HG1 : Hid (GS E.e w w5 tb 4 l (.slice ua l.length uc) xs) := HG.out.call ht5.undrew; have htl5 := HG1.out.lt; have t35 := HG1.out.t3; have tf5 := HG1.out.tf)))
          all_goals
            obtain ⟨hg6, hk6⟩ := HG.out.more ht5.undrew hv5 hown6 hgrow6 (by rw [World.size_alloc] at hat6; exact hat6) hlt6
            have HG6 : Hid (GS E.e w _ tb 4 _ _ _) := hg6
            have hgo6 : Goes E G (fun y => rTs (E.H.w p) (rT false E.H d') (m + 1 - (k + 1)) (k + 1) y) (l ++ [tt]) (w6.setCell ⟨tb, 3, none⟩ (.slice (some ⟨g6, 0, none⟩) (l.length + 1) cap6)) := by
              rcases hd5 with ⟨y', hy', hs'⟩ | ⟨hn', z', hs'⟩
              · refine .inl ⟨y', by have := rT_lt _ _ _ _ _ _ _ hy'; have := HY.out; omega, HS.out.same hs' (fun j hj => hk6 j (by omega)), ?_⟩
                rw [HGY.out, HKK.out, rTs_some (by rw [HX.out]; exact hy'), pre_pre]
              · refine .inr ⟨?_, z', HS.out.same hs' (fun j hj => hk6 j (by omega))⟩
                rw [HGY.out, HKK.out, rTs_none (by rw [HX.out]; exact hn')]
                rfl
            have htr6 : Turn E.rb w2 (w6.setCell ⟨tb, 3, none⟩ (.slice (some ⟨g6, 0, none⟩) (l.length + 1) cap6)) := ⟨hg6.turn.os.trans HT2.out.os.symm, hg6.turn.tape.trans HT2.out.tape.symm, hg6.turn.output.trans HT2.out.output.symm, by have := hg6.lt; omega, fun j hj hn => (hk6 j (by omega)).trans ((HTR.out.trans ht5.undrew).block j hj hn)⟩
            have HTR6 : Hid (Turn E.rb w2 _) := htr6
            have HGO6 : Hid (Goes E G _ (l ++ [tt]) _) := hgo6
            clear t36 tf6 hown6 hgrow6 hat6 hlt6 hv5 hd5 ht5 HG1 htl5 t35 tf5 hg6 hk6 hgo6 htr6
            go_wp2_with fail
            go_roundw
            case rel => exact ⟨k + 1, l ++ [tt], _, _, by omega, by omega, by go_num, HG6.out, HTR6.out, by rw [List.length_append]; simp only [List.length_cons, List.length_nil]; omega, HGO6.out⟩
            case measure => simp [intOf]; omega
        · have HE : Hid (G = some (l, y)) := by
            show _ = _
            rw [HGY.out, show m + 1 - k = 0 by omega, rTs, pre, List.append_nil]
          go_wp2_with fail
          obtain ⟨hv, hdd, hkk⟩ := HG.out.done (.int .i64 4) (.int .i64 0) (.string ⟨#[]⟩) (.slice ua l.length uc)
          exact bodyPost_ret (v := .agg #[.int .i64 4, .int .i64 0, .string ⟨#[]⟩, .slice ua l.length uc]) (by simp [results, Try.results47, go_sem, hr0, hr1, hr2, hr3]) rfl ⟨_, _, rfl, hv, hdd, .inl ⟨y, by rw [HE.out]; rfl, HS.out.same HSY.out hkk⟩⟩
      · have c5 := hsz.c5
        have HSZ2 : Hid (Sr E z true wr) := hsz
        have HGN : Hid (G = none) := hGn
        clear hsz hGn
        by_cases hlt : k < m + 1
        all_goals
          go_wp2_with fail
          obtain ⟨hv, hdd, hkk⟩ := HG.out.done (.int .i64 4) (.int .i64 0) (.string ⟨#[]⟩) (.slice ua l.length uc)
          exact bodyPost_ret (v := .agg #[.int .i64 4, .int .i64 0, .string ⟨#[]⟩, .slice ua l.length uc]) (by simp [results, Try.results47, go_sem, hr0, hr1, hr2, hr3]) rfl ⟨_, _, rfl, hv, hdd, .inr ⟨by rw [HGN.out]; rfl, z, HS.out.same HSZ2.out hkk⟩⟩
theorem l6Tuple_any {E : SE} {d' : Nat} (ih : ReadC E d') (hd' : d' ≤ 6) {left : Nat} {w : World} (h : Sr E left false w) (hl : left ≤ 100) (p : Nat) (hp : p ≤ 9223372036854774000) :
    Calls Try.prog 47 #[.pointer (some ⟨E.rb, 0, none⟩), .int .i64 p, .int .i64 ((d' + 1 : Nat) : Int)] w fun e w' => Ans E w w' (rCnt E.H (rT false E.H d') p left) e := by
  unfold rCnt
  rw [Int.toNat_natCast]
  cases hc : cnt E.H p 8 with
  | none => exact l6Tuple_no h p hp _ hc
  | some m => exact l6Tuple_yes ih hd' h hl p hp m hc
end Go.Proofs.Ytjjmikfbongccaa.Gn
