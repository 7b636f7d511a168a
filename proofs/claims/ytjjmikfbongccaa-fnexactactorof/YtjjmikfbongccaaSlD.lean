/-
  How the specification reads off both lists: bytes.
-/
import Derived.Test.YtjjmikfbongccaaSlC
import Derived.Test.YtjjmikfbongccaaSpF
namespace Go.Proofs.Ytjjmikfbongccaa.Gn
open Go.RowKit
set_option linter.unusedVariables false

/-- What is answered, and how the reader stands. -/
def Ans (E : SE) (w w' : World) (R : Option (Tm × Nat)) (e : Ending) : Prop := ∃ t v, e = .returned v ∧ RpV (fun b => w.heap.size ≤ b) w' t v ∧ Turn E.rb w w' ∧ ((∃ y : Nat, R = some (t, y) ∧ Sr E y false w') ∨ (R = none ∧ ∃ z : Int, Sr E z true w'))
set_option maxHeartbeats 4000000 in
set_option maxRecDepth 100000 in
theorem l6Bin_no {E : SE} {left : Nat} {w : World} (h : Sr E left false w) (p : Nat) (hp : p ≤ 9223372036854774000) (hc : cnt E.H p 40 = none) :
    Calls Try.prog 49 #[.pointer (some ⟨E.rb, 0, none⟩), .int .i64 p] w fun e w' => Ans E w w' none e := by
  have HS : Hid (Sr E left false w) := h
  have HS0 : Hid (Sr E left false (w.alloc (.cells #[.int .i64 0, .int .i64 0, .string ⟨#[]⟩, .slice none 0 0] 64))) := h.below ((Below.refl _ _).alloc (Nat.le_refl _) _)
  have k0 := HS0.out.drew.c0
  have k1 := HS0.out.drew.c1
  have k2 := HS0.out.drew.c2
  have HP : Hid (p ≤ 9223372036854775000) := by show _ ≤ _; omega
  have hpb : (p : Int) ≤ 9223372036854774000 := by omega
  have hrl := h.lt
  obtain ⟨k, hk, hk1, hk2⟩ := cn_none (by decide) hc
  have HSZ : Hid (sz E.G (mkw 6 p) = (k : Int)) := by show _ = _; rw [sz_mk h.src 6 (.inr rfl) p, hk]
  have HKK : Hid (inB ((k : Int) - 1) 0 40 = true → k ≠ 0 ∧ ¬ k ≤ E.G.len p) := hk2
  have hki : (k : Int) ≤ 1001 := by omega
  clear h hc hk hk1 hk2 hp
  go_enter Try.func49, Try.ntmps49
  go_wp2_with fail
  go_region_law (go_simp; go_wp2_with (first | (go_at_call 56; refine (specMake_any 6 p _).mono ?_; rintro e w' ⟨rfl, rfl⟩) | (go_at_call 58; refine (l6Size_any HS0.out.src.drew (mkw 6 p) (mkw_le _ _ (by decide))).mono ?_; rintro e w1 ⟨rfl, hb1⟩; rw [HSZ.out]; have HS1 : Hid (Sr E left false w1) := HS0.out.drew.below hb1; have q1 : ∀ o, w1.cell? ⟨w.heap.size, o, none⟩ = (#[.int .i64 0, .int .i64 0, .string ⟨#[]⟩, .slice none 0 0] : Array Value)[o]? := (fun o => by rw [hb1.cell (p := ⟨w.heap.size, o, none⟩) (by show w.heap.size < (w.alloc _).heap.size; rw [World.size_alloc]; omega)]; exact World.cell?_alloc_new w _ _ o); have f1 : ∀ o, w1.frozen? ⟨w.heap.size, o, none⟩ = false := (fun o => by rw [hb1.frozen (p := ⟨w.heap.size, o, none⟩) (by show w.heap.size < (w.alloc _).heap.size; rw [World.size_alloc]; omega)]; exact World.frozen?_alloc_new w _ _ o); have HT1 : Hid (Turn E.rb w w1) := (((Turn.refl E.rb w).alloc (.cells #[.int .i64 0, .int .i64 0, .string ⟨#[]⟩, .slice none 0 0] 64)).trans (Turn.undrew (Turn.of_below hb1))); have hz1 : w.heap.size + 1 ≤ w1.heap.size := (by have := hb1.size; have e2 : (w.alloc (.cells #[.int .i64 0, .int .i64 0, .string ⟨#[]⟩, .slice none 0 0] 64)).drew.heap.size = w.heap.size + 1 := World.size_alloc _ _; omega); have c0 := HS1.out.c0; have c1 := HS1.out.c1; have c2 := HS1.out.c2; clear hb1)))
  all_goals
    go_wp2_with fail
    refine (l6Words_any HS1.out.src p k HP.out).mono ?_
    rintro e w2 ⟨a2, m2, cc2, ok2, rfl, hb2, ho2⟩
    have HO2 : Hid (inB ((k : Int) - 1) 0 40 = true → ok2 = false) := fun hb => ho2 (HKK.out hb).1 (HKK.out hb).2
    have HS2 : Hid (Sr E left false w2) := HS1.out.below hb2
    have HT2 : Hid (Turn E.rb w w2) := HT1.out.trans (Turn.of_below hb2)
    have q2 : ∀ o, w2.cell? ⟨w.heap.size, o, none⟩ = (#[.int .i64 0, .int .i64 0, .string ⟨#[]⟩, .slice none 0 0] : Array Value)[o]? := fun o => by rw [hb2.cell (p := ⟨w.heap.size, o, none⟩) (by show w.heap.size < _; omega)]; exact q1 o
    have f2 : ∀ o, w2.frozen? ⟨w.heap.size, o, none⟩ = false := fun o => by rw [hb2.frozen (p := ⟨w.heap.size, o, none⟩) (by show w.heap.size < _; omega)]; exact f1 o
    have c5 := HS2.out.c5
    have cf := HS2.out.fr
    have hne : E.rb ≠ w.heap.size := by omega
    clear hb2 ho2 q1 f1 c0 c1 c2 k0 k1 k2
    cases hb : inB ((k : Int) - 1) 0 40 with
    | false =>
      have HBB : Hid (inB ((k : Int) - 1) 0 40 = false) := hb
      clear hb
      go_wp2_with (first | (go_at_call 59; refine (in_any _ _ _ _).mono ?_; rintro e w' ⟨rfl, hw'⟩; obtain rfl := hw'.symm; rw [HBB.out]))
      obtain ⟨a1, a2, a3⟩ := sbox_out (E := E.e) (HT2.out.set 5 (.bool true)) (Ytjjmikfbongccaa.rp_leaf 0 0 ByteArray.empty (Nat.zero_le _)) (.int .i64 0) (.int .i64 0) (.string ⟨#[]⟩) (.slice none 0 0)
      exact bodyPost_ret (v := .agg #[.int .i64 0, .int .i64 0, .string ⟨#[]⟩, .slice none 0 0]) (by simp [results, Try.results49, go_sem, q2]) rfl ⟨_, _, rfl, a2, a1, .inr ⟨rfl, _, HS.out.same (HS2.out.setB true) a3⟩⟩
    | true =>
      have HBB : Hid (inB ((k : Int) - 1) 0 40 = true) := hb
      obtain rfl := HO2.out hb
      clear hb
      go_wp2_with (first | (go_at_call 59; refine (in_any _ _ _ _).mono ?_; rintro e w' ⟨rfl, hw'⟩; obtain rfl := hw'.symm; rw [HBB.out]))
      obtain ⟨a1, a2, a3⟩ := sbox_out (E := E.e) (HT2.out.set 5 (.bool true)) (Ytjjmikfbongccaa.rp_leaf 0 0 ByteArray.empty (Nat.zero_le _)) (.int .i64 0) (.int .i64 0) (.string ⟨#[]⟩) (.slice none 0 0)
      exact bodyPost_ret (v := .agg #[.int .i64 0, .int .i64 0, .string ⟨#[]⟩, .slice none 0 0]) (by simp [results, Try.results49, go_sem, q2]) rfl ⟨_, _, rfl, a2, a1, .inr ⟨rfl, _, HS.out.same (HS2.out.setB true) a3⟩⟩
theorem grow_keepG {E : SE} {l0 left : Int} {b0 bad : Bool} {w2 wr w5 : World} {o : Obj} {row : Option Nat} (h0 : Sr E l0 b0 w2) (ht : Turn E.rb w2 wr) (hs : Sr E left bad wr) (hgr : (wr.alloc o).grownBy w5 row) (hrow : ∀ k, row = some k → w2.heap.size ≤ k) : Turn E.rb w2 w5 ∧ Sr E left bad w5 := by
  have hz := ht.size
  have hs1 : (wr.alloc o).heap.size = wr.heap.size + 1 := World.size_alloc _ _
  have hk : ∀ k, k < w2.heap.size → w5.heap[k]? = wr.heap[k]? := fun k hk => by
    rw [hgr.block k (by rw [hs1]; omega) (fun e => by have := hrow k e.symm; omega)]
    show (wr.heap.push _)[k]? = _
    rw [Array.getElem?_push, if_neg (by omega)]
  exact ⟨⟨hgr.os.trans ht.os, hgr.tape.trans ht.tape, hgr.output.trans ht.output, by have := hgr.size; omega, fun k hkl hkn => (hk k hkl).trans (ht.block k hkl hkn)⟩, h0.same hs hk⟩
set_option maxHeartbeats 8000000 in
set_option maxRecDepth 100000 in
theorem l6Bin_yes {E : SE} {left : Nat} {w : World} (h : Sr E left false w) (p : Nat) (hp : p ≤ 9223372036854774000) (m : Nat) (hc : cnt E.H p 40 = some m) :
    Calls Try.prog 49 #[.pointer (some ⟨E.rb, 0, none⟩), .int .i64 p] w fun e w' => Ans E w w' (bin left (txt (wordsAt E.H p 1 m))) e := by
  have HS : Hid (Sr E left false w) := h
  have HS0 : Hid (Sr E left false (w.alloc (.cells #[.int .i64 0, .int .i64 0, .string ⟨#[]⟩, .slice none 0 0] 64))) := h.below ((Below.refl _ _).alloc (Nat.le_refl _) _)
  have k0 := HS0.out.drew.c0
  have k1 := HS0.out.drew.c1
  have k2 := HS0.out.drew.c2
  have HP : Hid (p ≤ 9223372036854775000) := by show _ ≤ _; omega
  have hpb : (p : Int) ≤ 9223372036854774000 := by omega
  have hrl := h.lt
  obtain ⟨hk1, hk2, hk3⟩ := cn_some (by decide) hc
  have HSZ : Hid (sz E.G (mkw 6 p) = (m : Int) + 1) := by show _ = _; rw [sz_mk h.src 6 (.inr rfl) p, hk1]
  have HM1 : Hid ((m : Int) + 1 = ((m + 1 : Nat) : Int)) := by show _ = _; omega
  have HLN : Hid (m + 1 ≤ E.G.len p) := hk2
  have hm40 : m ≤ 40 := by omega
  have hmi : (m : Int) ≤ 40 := by omega
  have HIN : Hid (inB (m : Int) 0 40 = true) := by show _ = _; unfold inB; simp; omega
  clear h hc hk1 hk2 hk3 hp
  obtain ⟨i0, hi, hz0, hz1, hz2⟩ := infoParts infoU8
  have HI : Hid (Try.prog.info? 5 = some i0 ∧ i0.zero = some (.int .u8 0) ∧ i0.size = 1 ∧ i0.bytes = 1) := ⟨hi, hz0, hz1, hz2⟩
  clear hi hz0 hz1 hz2
  obtain ⟨l, hl⟩ : ∃ l, wordsAt E.H p 1 m = l := ⟨_, rfl⟩
  have hlm : l.length = m := by rw [← hl, wordsAt_len]
  have HW : Hid (wordsAt E.H p 1 m = l) := hl
  have HLG : Hid (∀ j (hj : j < l.length), l[j] = E.G.w p (j + 1)) := fun j hj => by
    have := wordsAt_get E.H p 1 m j (by rw [wordsAt_len, ← hlm]; exact hj)
    simp only [HW.out] at this
    rw [this, Nat.add_comm 1 j]
    rfl
  rw [HW.out]
  clear hl HW
  subst hlm
  go_enter Try.func49, Try.ntmps49
  go_wp2_with fail
  go_region_law (go_simp; go_wp2_with (first | (go_at_call 56; refine (specMake_any 6 p _).mono ?_; rintro e w' ⟨rfl, rfl⟩) | (go_at_call 58; refine (l6Size_any HS0.out.src.drew (mkw 6 p) (mkw_le _ _ (by decide))).mono ?_; rintro e w1 ⟨rfl, hb1⟩; rw [HSZ.out]; have HS1 : Hid (Sr E left false w1) := HS0.out.drew.below hb1; have q1 : ∀ o, w1.cell? ⟨w.heap.size, o, none⟩ = (#[.int .i64 0, .int .i64 0, .string ⟨#[]⟩, .slice none 0 0] : Array Value)[o]? := (fun o => by rw [hb1.cell (p := ⟨w.heap.size, o, none⟩) (by show w.heap.size < (w.alloc _).heap.size; rw [World.size_alloc]; omega)]; exact World.cell?_alloc_new w _ _ o); have f1 : ∀ o, w1.frozen? ⟨w.heap.size, o, none⟩ = false := (fun o => by rw [hb1.frozen (p := ⟨w.heap.size, o, none⟩) (by show w.heap.size < (w.alloc _).heap.size; rw [World.size_alloc]; omega)]; exact World.frozen?_alloc_new w _ _ o); have HT1 : Hid (Turn E.rb w w1) := (((Turn.refl E.rb w).alloc (.cells #[.int .i64 0, .int .i64 0, .string ⟨#[]⟩, .slice none 0 0] 64)).trans (Turn.undrew (Turn.of_below hb1))); have hz1 : w.heap.size + 1 ≤ w1.heap.size := (by have := hb1.size; have e2 : (w.alloc (.cells #[.int .i64 0, .int .i64 0, .string ⟨#[]⟩, .slice none 0 0] 64)).drew.heap.size = w.heap.size + 1 := World.size_alloc _ _; omega); have c0 := HS1.out.c0; have c1 := HS1.out.c1; have c2 := HS1.out.c2; clear hb1)))
  all_goals
    go_wp2_with fail
    (first | rw [HM1.out] | skip)
    refine (l6Words_yes HS1.out.src p (l.length + 1) HLN.out (by omega)).mono ?_
    rintro e w2 ⟨cc2, rfl, hb2⟩
    have HS2 : Hid (Sr E left false w2) := HS1.out.below hb2
    have HT2 : Hid (Turn E.rb w w2) := HT1.out.trans (Turn.of_below hb2)
    have q2 : ∀ o, w2.cell? ⟨w.heap.size, o, none⟩ = (#[.int .i64 0, .int .i64 0, .string ⟨#[]⟩, .slice none 0 0] : Array Value)[o]? := fun o => by rw [hb2.cell (p := ⟨w.heap.size, o, none⟩) (by show w.heap.size < _; omega)]; exact q1 o
    have f2 : ∀ o, w2.frozen? ⟨w.heap.size, o, none⟩ = false := fun o => by rw [hb2.frozen (p := ⟨w.heap.size, o, none⟩) (by show w.heap.size < _; omega)]; exact f1 o
    have hz2 := hb2.size
    have hne : E.rb ≠ w.heap.size := by omega
    have hr2 := HS2.out.lt
    have HSN : Hid (E.G.sb p ≠ E.rb) := HS2.out.sn p (by have := HLN.out; omega)
    have HCE : Hid (∀ j (hj : j < l.length), w2.cell? ⟨E.G.sb p, E.G.so p + (j + 1), none⟩ = some (.int .i64 l[j])) := fun j hj => by
      rw [HLG.out j hj]
      exact HS2.out.at p (j + 1) (by have := HLN.out; omega)
    clear hb2 q1 f1 c0 c1 c2 k0 k1 k2
    go_wp2_with (first | (go_at_call 59; refine (in_any _ _ _ _).mono ?_; rintro e w' ⟨rfl, hw'⟩; obtain rfl := hw'.symm; rw [HIN.out]))
    go_loopw [8, 9] (fun v i wr => ∃ k : Nat, k ≤ l.length ∧ i = .int .i64 ((k + 1 : Nat) : Int) ∧ Own8 wr w2.heap.size v ((l.take k).map u8w) ∧ Turn E.rb w2 wr ∧ Sr E left (!(l.take k).all isByte) wr) (fun _ i _ => l.length + 1 - (intOf i).toNat)
    case atStart => exact ⟨0, Nat.zero_le _, rfl, own8_start w2, (Turn.refl _ _).alloc _, by simpa using HS2.out.below ((Below.refl _ _).alloc (Nat.le_refl _) _)⟩
    case round =>
      obtain ⟨k, hk, rfl, ho, ht, hs⟩ := hrel
      obtain ⟨g2, cc, rfl, hown⟩ := ho
      have hkl : ((l.take k).map u8w).length = k := by simp; omega
      rw [hkl] at hown ⊢
      have qf := hs.fr
      have hzr := ht.size
      have C3 : Hid (k + 1 ≤ maxLen) := by show _ ≤ _; unfold maxLen; omega
      have C4 : Hid ((k + 1) * 1 ≤ 140737488355328) := by show _ ≤ _; omega
      by_cases hlt : k < l.length
      · have q : wr.cell? ⟨E.G.sb p, E.G.so p + (k + 1), none⟩ = some (.int .i64 l[k]) := ht.cell HSN.out (HCE.out k hlt)
        have HTM : Hid ((l.take (k + 1)).map u8w = (l.take k).map u8w ++ [u8w l[k]]) := take_map l k hlt
        have HTA0 : Hid ((l.take (k + 1)).all isByte = ((l.take k).all isByte && isByte l[k])) := take_all l k hlt
        clear hkl
        generalize l[k] = x at *
        cases hcur : (l.take k).all isByte with
        | true =>
          cases hx : isByte x with
          | true =>
            have HXB : Hid (inB x 0 255 = true) := hx
            have HTA : Hid ((!(l.take (k + 1)).all isByte) = false) := by show _ = _; rw [HTA0.out, hcur, hx]; rfl
            have HTM2 : Hid ((l.take (k + 1)).map u8w = (l.take k).map u8w ++ [x % 256]) := by show _ = _; rw [HTM.out]; unfold u8w; rw [IntKind.wrap_u8]
            have HO : Hid ((wr.setCell ⟨E.rb, 5, none⟩ (.bool false)).ownsRow w2.heap.size 5 1 (.slice (some ⟨g2, 0, none⟩) k cc) k (((l.take k).map u8w).map (Value.int .u8))) := ownsRow_setCell_below hown (by show E.rb < _; omega) _
            have HTR : Hid (Turn E.rb w2 (wr.setCell ⟨E.rb, 5, none⟩ (.bool false))) := ht.set 5 _
            have HSR : Hid (Sr E left false (wr.setCell ⟨E.rb, 5, none⟩ (.bool false))) := hs.setB false
            have C5 : Hid (w2.heap.size ≤ ((wr.setCell ⟨E.rb, 5, none⟩ (.bool false)).alloc (.cells #[.int .u8 (x % 256)] 5)).heap.size) := by show _ ≤ _; rw [World.size_alloc, World.size_setCell]; omega
            have q' : (wr.setCell ⟨E.rb, 5, none⟩ (.bool false)).cell? ⟨E.G.sb p, E.G.so p + (k + 1), none⟩ = some (.int .i64 x) := by
              rw [World.cell?_setCell_other (h := fun e => by simp only [Addr.mk.injEq] at e; exact HSN.out e.1.symm)]; exact q
            rw [hcur] at hs
            have c5 := hs.c5
            clear hown ht hs hcur hx
            go_wp2_with (first | (go_at_call 59; refine (in_any _ _ _ _).mono ?_; rintro e w' ⟨rfl, hw'⟩; obtain rfl := hw'.symm; rw [HXB.out]) | (at_builtin; refine wpList_append_own_at _ rfl _ _ 68 rfl w2.heap.size 5 i0 (.int .u8 0) 1 1 undU8s HI.out.1 HI.out.2.1 HI.out.2.2.1 HI.out.2.2.2 rfl Nat.zero_lt_one _ k _ rfl (HO.out.alloc _) ⟨wr.heap.size, 0, none⟩ 1 1 [.int .u8 (x % 256)] rfl rfl (src8s _ _ _ _ _) (one8 _) C3.out C4.out C5.out ?_; intro v5 w5 hown5 hgr5 hnn5 hat5))
            have hown6 := own8_of (xs := (l.take (k + 1)).map u8w) (n := k + 1) (by rw [HTM2.out, List.map_append]; exact hown5) (fun e => by have := (hnn5.1 e).1; cases this)
            obtain ⟨ht6, hs6⟩ := grow_keepG HS2.out HTR.out HSR.out hgr5 (fun j hj => (HO.out.lt j hj).1)
            have HO6 : Hid (Own8 w5 w2.heap.size v5 ((l.take (k + 1)).map u8w)) := hown6
            have HT6 : Hid (Turn E.rb w2 w5) := ht6
            have HS6 : Hid (Sr E left (!(l.take (k + 1)).all isByte) w5) := by show Sr ..; rw [HTA.out]; exact hs6
            clear hown5 hgr5 hnn5 hat5 hown6 ht6 hs6
            go_roundw
            case rel => exact ⟨k + 1, by omega, by go_num, HO6.out, HT6.out, HS6.out⟩
            case measure => simp [intOf]; omega
          | false =>
            have HXB : Hid (inB x 0 255 = false) := hx
            have HTA : Hid ((!(l.take (k + 1)).all isByte) = true) := by show _ = _; rw [HTA0.out, hcur, hx]; rfl
            have HTM2 : Hid ((l.take (k + 1)).map u8w = (l.take k).map u8w ++ [x % 256]) := by show _ = _; rw [HTM.out]; unfold u8w; rw [IntKind.wrap_u8]
            have HO : Hid ((wr.setCell ⟨E.rb, 5, none⟩ (.bool true)).ownsRow w2.heap.size 5 1 (.slice (some ⟨g2, 0, none⟩) k cc) k (((l.take k).map u8w).map (Value.int .u8))) := ownsRow_setCell_below hown (by show E.rb < _; omega) _
            have HTR : Hid (Turn E.rb w2 (wr.setCell ⟨E.rb, 5, none⟩ (.bool true))) := ht.set 5 _
            have HSR : Hid (Sr E left true (wr.setCell ⟨E.rb, 5, none⟩ (.bool true))) := hs.setB true
            have C5 : Hid (w2.heap.size ≤ ((wr.setCell ⟨E.rb, 5, none⟩ (.bool true)).alloc (.cells #[.int .u8 (x % 256)] 5)).heap.size) := by show _ ≤ _; rw [World.size_alloc, World.size_setCell]; omega
            have q' : (wr.setCell ⟨E.rb, 5, none⟩ (.bool true)).cell? ⟨E.G.sb p, E.G.so p + (k + 1), none⟩ = some (.int .i64 x) := by
              rw [World.cell?_setCell_other (h := fun e => by simp only [Addr.mk.injEq] at e; exact HSN.out e.1.symm)]; exact q
            rw [hcur] at hs
            have c5 := hs.c5
            clear hown ht hs hcur hx
            go_wp2_with (first | (go_at_call 59; refine (in_any _ _ _ _).mono ?_; rintro e w' ⟨rfl, hw'⟩; obtain rfl := hw'.symm; rw [HXB.out]) | (at_builtin; refine wpList_append_own_at _ rfl _ _ 68 rfl w2.heap.size 5 i0 (.int .u8 0) 1 1 undU8s HI.out.1 HI.out.2.1 HI.out.2.2.1 HI.out.2.2.2 rfl Nat.zero_lt_one _ k _ rfl (HO.out.alloc _) ⟨wr.heap.size, 0, none⟩ 1 1 [.int .u8 (x % 256)] rfl rfl (src8s _ _ _ _ _) (one8 _) C3.out C4.out C5.out ?_; intro v5 w5 hown5 hgr5 hnn5 hat5))
            have hown6 := own8_of (xs := (l.take (k + 1)).map u8w) (n := k + 1) (by rw [HTM2.out, List.map_append]; exact hown5) (fun e => by have := (hnn5.1 e).1; cases this)
            obtain ⟨ht6, hs6⟩ := grow_keepG HS2.out HTR.out HSR.out hgr5 (fun j hj => (HO.out.lt j hj).1)
            have HO6 : Hid (Own8 w5 w2.heap.size v5 ((l.take (k + 1)).map u8w)) := hown6
            have HT6 : Hid (Turn E.rb w2 w5) := ht6
            have HS6 : Hid (Sr E left (!(l.take (k + 1)).all isByte) w5) := by show Sr ..; rw [HTA.out]; exact hs6
            clear hown5 hgr5 hnn5 hat5 hown6 ht6 hs6
            go_roundw
            case rel => exact ⟨k + 1, by omega, by go_num, HO6.out, HT6.out, HS6.out⟩
            case measure => simp [intOf]; omega
        | false =>
          have HTA : Hid ((!(l.take (k + 1)).all isByte) = true) := by show _ = _; rw [HTA0.out, hcur]; rfl
          have HTM2 : Hid ((l.take (k + 1)).map u8w = (l.take k).map u8w ++ [x % 256]) := by show _ = _; rw [HTM.out]; unfold u8w; rw [IntKind.wrap_u8]
          have HO : Hid ((wr.setCell ⟨E.rb, 5, none⟩ (.bool true)).ownsRow w2.heap.size 5 1 (.slice (some ⟨g2, 0, none⟩) k cc) k (((l.take k).map u8w).map (Value.int .u8))) := ownsRow_setCell_below hown (by show E.rb < _; omega) _
          have HTR : Hid (Turn E.rb w2 (wr.setCell ⟨E.rb, 5, none⟩ (.bool true))) := ht.set 5 _
          have HSR : Hid (Sr E left true (wr.setCell ⟨E.rb, 5, none⟩ (.bool true))) := hs.setB true
          have C5 : Hid (w2.heap.size ≤ ((wr.setCell ⟨E.rb, 5, none⟩ (.bool true)).alloc (.cells #[.int .u8 (x % 256)] 5)).heap.size) := by show _ ≤ _; rw [World.size_alloc, World.size_setCell]; omega
          have q' : (wr.setCell ⟨E.rb, 5, none⟩ (.bool true)).cell? ⟨E.G.sb p, E.G.so p + (k + 1), none⟩ = some (.int .i64 x) := by
            rw [World.cell?_setCell_other (h := fun e => by simp only [Addr.mk.injEq] at e; exact HSN.out e.1.symm)]; exact q
          rw [hcur] at hs
          have c5 := hs.c5
          clear hown ht hs hcur
          go_wp2_with (first | (at_builtin; refine wpList_append_own_at _ rfl _ _ 68 rfl w2.heap.size 5 i0 (.int .u8 0) 1 1 undU8s HI.out.1 HI.out.2.1 HI.out.2.2.1 HI.out.2.2.2 rfl Nat.zero_lt_one _ k _ rfl (HO.out.alloc _) ⟨wr.heap.size, 0, none⟩ 1 1 [.int .u8 (x % 256)] rfl rfl (src8s _ _ _ _ _) (one8 _) C3.out C4.out C5.out ?_; intro v5 w5 hown5 hgr5 hnn5 hat5))
          have hown6 := own8_of (xs := (l.take (k + 1)).map u8w) (n := k + 1) (by rw [HTM2.out, List.map_append]; exact hown5) (fun e => by have := (hnn5.1 e).1; cases this)
          obtain ⟨ht6, hs6⟩ := grow_keepG HS2.out HTR.out HSR.out hgr5 (fun j hj => (HO.out.lt j hj).1)
          have HO6 : Hid (Own8 w5 w2.heap.size v5 ((l.take (k + 1)).map u8w)) := hown6
          have HT6 : Hid (Turn E.rb w2 w5) := ht6
          have HS6 : Hid (Sr E left (!(l.take (k + 1)).all isByte) w5) := by show Sr ..; rw [HTA.out]; exact hs6
          clear hown5 hgr5 hnn5 hat5 hown6 ht6 hs6
          go_roundw
          case rel => exact ⟨k + 1, by omega, by go_num, HO6.out, HT6.out, HS6.out⟩
          case measure => simp [intOf]; omega
      · have hkl2 : k = l.length := by omega
        have htk : l.take k = l := by rw [hkl2]; simp
        rw [htk] at hown hs
        have HOW : Hid (wr.ownsRow w2.heap.size 5 1 (.slice (some ⟨g2, 0, none⟩) (l.map u8w).length cc) (l.map u8w).length ((l.map u8w).map (Value.int .u8))) := by
          show World.ownsRow ..
          rw [List.length_map, ← hkl2]; exact hown
        have hcv := conv8 HOW.out (fun y hy => by obtain ⟨z, _, rfl⟩ := List.mem_map.1 hy; exact u8w_byte z)
        rw [List.length_map, ← hkl2] at hcv
        obtain ⟨q4, f4⟩ := ht.keep (W := w.heap.size) (by omega) (by omega) q2 f2
        have HTR : Hid (Turn E.rb w wr) := HT2.out.trans ht
        have HSR : Hid (Sr E left (!l.all isByte) wr) := hs
        have HSZ2 : Hid ((txtB (l.map u8w)).size ≤ maxLen) := by
          show _ ≤ _
          have e : (txtB (l.map u8w)).size = l.length := by simp [txtB, ByteArray.size]
          rw [e]; unfold maxLen; omega
        clear hown hs htk hkl2 hkl ht
        go_wp2_with fail
        obtain ⟨a1, a2, a3⟩ := sbox_out (E := E.e) HTR.out (Ytjjmikfbongccaa.rp_leaf 6 0 (txtB (l.map u8w)) HSZ2.out) (.int .i64 6) (.int .i64 0) (.string (txtB (l.map u8w))) (.slice none 0 0)
        refine bodyPost_ret (v := .agg #[.int .i64 6, .int .i64 0, .string (txtB (l.map u8w)), .slice none 0 0]) (by simp [results, Try.results49, go_sem, q4]) rfl ⟨_, _, rfl, a2, a1, ?_⟩
        have hsf := HS.out.same HSR.out a3
        cases ha : l.all isByte with
        | true =>
          refine .inl ⟨left, ?_, by rw [ha] at hsf; exact hsf⟩
          rw [txt, if_pos ha, u8w_all ha]
          rfl
        | false =>
          refine .inr ⟨?_, _, by rw [ha] at hsf; exact hsf⟩
          rw [txt, if_neg (by rw [ha]; simp)]
          rfl
theorem l6Bin_any {E : SE} {left : Nat} {w : World} (h : Sr E left false w) (p : Nat) (hp : p ≤ 9223372036854774000) :
    Calls Try.prog 49 #[.pointer (some ⟨E.rb, 0, none⟩), .int .i64 p] w fun e w' => Ans E w w' (rBin E.H p left) e := by
  unfold rBin
  rw [Int.toNat_natCast]
  cases hc : cnt E.H p 40 with
  | none => exact l6Bin_no h p hp hc
  | some m => exact l6Bin_yes h p hp m hc
end Go.Proofs.Ytjjmikfbongccaa.Gn
