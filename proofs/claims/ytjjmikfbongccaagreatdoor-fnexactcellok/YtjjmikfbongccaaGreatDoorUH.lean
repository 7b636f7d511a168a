/-
  The specification's GensRead.
  (Ahead of it, in this text: How the specification reads off both lists: bytes. How the specification reads off both lists: a tuple. How the specification reads off both lists: a list, cell by cell. How the specification reads off both lists: one term whole, at every depth. How the specification reads off both lists: words that lead nowhere. How the specification reads off both lists: every word, at every depth.)
-/
import Derived.Test.YtjjmikfbongccaaGreatDoorUC
import Derived.Test.YtjjmikfbongccaaGreatDoorUE
import Derived.Test.YtjjmikfbongccaaGreatDoorTmI
namespace Go.Proofs.YtjjmikfbongccaaGreatDoor.Gn
open Go.RowKit
set_option linter.unusedVariables false

/-- What is answered, and how the reader stands. -/
def Ans (E : SE) (w w' : World) (R : Option (Tm × Nat)) (e : Ending) : Prop := ∃ t v, e = .returned v ∧ RpV (fun b => w.heap.size ≤ b) w' t v ∧ Turn E.rb w w' ∧ ((∃ y : Nat, R = some (t, y) ∧ Sr E y false w') ∨ (R = none ∧ ∃ z : Int, Sr E z true w'))
set_option maxHeartbeats 4000000 in
set_option maxRecDepth 100000 in
theorem l6Bin_no {E : SE} {left : Nat} {w : World} (h : Sr E left false w) (p : Nat) (hp : p ≤ 9223372036854774000) (hc : cnt E.H p 40 = none) :
    Calls Tryz.prog 63 #[.pointer (some ⟨E.rb, 0, none⟩), .int .i64 p] w fun e w' => Ans E w w' none e := by
  have HS : Hid (Sr E left false w) := h
  have HS0 : Hid (Sr E left false (w.alloc (.cells #[.int .i64 0, .int .i64 0, .string ⟨#[]⟩, .slice none 0 0] 66))) := h.below ((Below.refl _ _).alloc (Nat.le_refl _) _)
  have k0 := HS0.out.drew.c0
  have k1 := HS0.out.drew.c1
  have k2 := HS0.out.drew.c2
  have HP : Hid (p ≤ 9223372036854775000) := by show _ ≤ _; omega
  have hpb : (p : Int) ≤ 9223372036854774000 := by omega
  have hrl := h.lt
  obtain ⟨k, hk, hk1, hk2⟩ := cn_none (by decide) hc
  have HSZ : Hid (sz E.G (mkw 6 p) = (k : Int)) := by show _ = _; rw [sz_mk h.src 6 (.inr rfl) p, hk]
  have HKK : Hid (inB ((k : Int) - 1) 0 40 = true → k ≠ 0 ∧ ¬ k ≤ E.G.len p) := hk2
  have hki : (k : Int) ≤ 1001 := by omega
  clear h hc hk hk1 hk2 hp
  go_enter Tryz.func63, Tryz.ntmps63
  go_wp2_with fail
  go_region_law (go_simp; go_wp2_with (first | (go_at_call 80; refine (specMake_any 6 p _).mono ?_; rintro e w' ⟨rfl, rfl⟩) | (go_at_call 46; refine (l6Size_any HS0.out.src.drew (mkw 6 p) (mkw_le _ _ (by decide))).mono ?_; rintro e w1 ⟨rfl, hb1⟩; rw [HSZ.out]; have HS1 : Hid (Sr E left false w1) := HS0.out.drew.below hb1; have q1 : ∀ o, w1.cell? ⟨w.heap.size, o, none⟩ = (#[.int .i64 0, .int .i64 0, .string ⟨#[]⟩, .slice none 0 0] : Array Value)[o]? := (fun o => by rw [hb1.cell (p := ⟨w.heap.size, o, none⟩) (by show w.heap.size < (w.alloc _).heap.size; rw [World.size_alloc]; omega)]; exact World.cell?_alloc_new w _ _ o); have f1 : ∀ o, w1.frozen? ⟨w.heap.size, o, none⟩ = false := (fun o => by rw [hb1.frozen (p := ⟨w.heap.size, o, none⟩) (by show w.heap.size < (w.alloc _).heap.size; rw [World.size_alloc]; omega)]; exact World.frozen?_alloc_new w _ _ o); have HT1 : Hid (Turn E.rb w w1) := (((Turn.refl E.rb w).alloc (.cells #[.int .i64 0, .int .i64 0, .string ⟨#[]⟩, .slice none 0 0] 66)).trans (Turn.undrew (Turn.of_below hb1))); have hz1 : w.heap.size + 1 ≤ w1.heap.size := (by have := hb1.size; have e2 : (w.alloc (.cells #[.int .i64 0, .int .i64 0, .string ⟨#[]⟩, .slice none 0 0] 66)).drew.heap.size = w.heap.size + 1 := World.size_alloc _ _; omega); have c0 := HS1.out.c0; have c1 := HS1.out.c1; have c2 := HS1.out.c2; clear hb1)))
  all_goals
    go_wp2_with fail
    refine (l6Words_any HS1.out.src p k HP.out).mono ?_
    rintro e w2 ⟨a2, m2, cc2, ok2, rfl, hb2, ho2⟩
    have HO2 : Hid (inB ((k : Int) - 1) 0 40 = true → ok2 = false) := fun hb => ho2 (HKK.out hb).1 (HKK.out hb).2
    have HS2 : Hid (Sr E left false w2) := HS1.out.below hb2
    have HT2 : Hid (Turn E.rb w w2) := HT1.out.trans (Turn.of_below hb2)
    have q2 : ∀ o, w2.cell? ⟨w.heap.size, o, none⟩ = (#[.int .i64 0, .int .i64 0, .string ⟨#[]⟩, .slice none 0 0] : Array Value)[o]? := fun o => by rw [hb2.cell (p := ⟨w.heap.size, o, none⟩) (by show w.heap.size < _; omega)]; exact q1 o
    have f2 : ∀ o, w2.frozen? ⟨w.heap.size, o, none⟩ = false := fun o => by rw [hb2.frozen (p := ⟨w.heap.size, o, none⟩) (by show w.heap.size < _; omega)]; exact f1 o
    have c5 := HS2.out.c5
    have cf := HS2.out.fr
    have hne : E.rb ≠ w.heap.size := by omega
    clear hb2 ho2 q1 f1 c0 c1 c2 k0 k1 k2
    cases hb : inB ((k : Int) - 1) 0 40 with
    | false =>
      have HBB : Hid (inB ((k : Int) - 1) 0 40 = false) := hb
      clear hb
      go_wp2_with (first | (go_at_call 21; refine (in_any _ _ _ _).mono ?_; rintro e w' ⟨rfl, hw'⟩; obtain rfl := hw'.symm; rw [HBB.out]))
      obtain ⟨a1, a2, a3⟩ := sbox_out (E := E.e) (HT2.out.set 5 (.bool true)) (YtjjmikfbongccaaGreatDoor.rp_leaf 0 0 ByteArray.empty (Nat.zero_le _)) (.int .i64 0) (.int .i64 0) (.string ⟨#[]⟩) (.slice none 0 0)
      exact bodyPost_ret (v := .agg #[.int .i64 0, .int .i64 0, .string ⟨#[]⟩, .slice none 0 0]) (by simp [results, Tryz.results63, go_sem, q2]) rfl ⟨_, _, rfl, a2, a1, .inr ⟨rfl, _, HS.out.same (HS2.out.setB true) a3⟩⟩
    | true =>
      have HBB : Hid (inB ((k : Int) - 1) 0 40 = true) := hb
      obtain rfl := HO2.out hb
      clear hb
      go_wp2_with (first | (go_at_call 21; refine (in_any _ _ _ _).mono ?_; rintro e w' ⟨rfl, hw'⟩; obtain rfl := hw'.symm; rw [HBB.out]))
      obtain ⟨a1, a2, a3⟩ := sbox_out (E := E.e) (HT2.out.set 5 (.bool true)) (YtjjmikfbongccaaGreatDoor.rp_leaf 0 0 ByteArray.empty (Nat.zero_le _)) (.int .i64 0) (.int .i64 0) (.string ⟨#[]⟩) (.slice none 0 0)
      exact bodyPost_ret (v := .agg #[.int .i64 0, .int .i64 0, .string ⟨#[]⟩, .slice none 0 0]) (by simp [results, Tryz.results63, go_sem, q2]) rfl ⟨_, _, rfl, a2, a1, .inr ⟨rfl, _, HS.out.same (HS2.out.setB true) a3⟩⟩
theorem grow_keepG {E : SE} {l0 left : Int} {b0 bad : Bool} {w2 wr w5 : World} {o : Obj} {row : Option Nat} (h0 : Sr E l0 b0 w2) (ht : Turn E.rb w2 wr) (hs : Sr E left bad wr) (hgr : (wr.alloc o).grownBy w5 row) (hrow : ∀ k, row = some k → w2.heap.size ≤ k) : Turn E.rb w2 w5 ∧ Sr E left bad w5 := by
  have hz := ht.size
  have hs1 : (wr.alloc o).heap.size = wr.heap.size + 1 := World.size_alloc _ _
  have hk : ∀ k, k < w2.heap.size → w5.heap[k]? = wr.heap[k]? := fun k hk => by
    rw [hgr.block k (by rw [hs1]; omega) (fun e => by have := hrow k e.symm; omega)]
    show (wr.heap.push _)[k]? = _
    rw [Array.getElem?_push, if_neg (by omega)]
  exact ⟨⟨hgr.os.trans ht.os, hgr.tape.trans ht.tape, hgr.output.trans ht.output, by have := hgr.size; omega, fun k hkl hkn => (hk k hkl).trans (ht.block k hkl hkn)⟩, h0.same hs hk⟩
set_option maxHeartbeats 8000000 in
set_option maxRecDepth 100000 in
theorem l6Bin_yes {E : SE} {left : Nat} {w : World} (h : Sr E left false w) (p : Nat) (hp : p ≤ 9223372036854774000) (m : Nat) (hc : cnt E.H p 40 = some m) :
    Calls Tryz.prog 63 #[.pointer (some ⟨E.rb, 0, none⟩), .int .i64 p] w fun e w' => Ans E w w' (bin left (txt (wordsAt E.H p 1 m))) e := by
  have HS : Hid (Sr E left false w) := h
  have HS0 : Hid (Sr E left false (w.alloc (.cells #[.int .i64 0, .int .i64 0, .string ⟨#[]⟩, .slice none 0 0] 66))) := h.below ((Below.refl _ _).alloc (Nat.le_refl _) _)
  have k0 := HS0.out.drew.c0
  have k1 := HS0.out.drew.c1
  have k2 := HS0.out.drew.c2
  have HP : Hid (p ≤ 9223372036854775000) := by show _ ≤ _; omega
  have hpb : (p : Int) ≤ 9223372036854774000 := by omega
  have hrl := h.lt
  obtain ⟨hk1, hk2, hk3⟩ := cn_some (by decide) hc
  have HSZ : Hid (sz E.G (mkw 6 p) = (m : Int) + 1) := by show _ = _; rw [sz_mk h.src 6 (.inr rfl) p, hk1]
  have HM1 : Hid ((m : Int) + 1 = ((m + 1 : Nat) : Int)) := by show _ = _; omega
  have HLN : Hid (m + 1 ≤ E.G.len p) := hk2
  have hm40 : m ≤ 40 := by omega
  have hmi : (m : Int) ≤ 40 := by omega
  have HIN : Hid (inB (m : Int) 0 40 = true) := by show _ = _; unfold inB; simp; omega
  clear h hc hk1 hk2 hk3 hp
  obtain ⟨i0, hi, hz0, hz1, hz2⟩ := infoParts infoU8
  have HI : Hid (Tryz.prog.info? 5 = some i0 ∧ i0.zero = some (.int .u8 0) ∧ i0.size = 1 ∧ i0.bytes = 1) := ⟨hi, hz0, hz1, hz2⟩
  clear hi hz0 hz1 hz2
  obtain ⟨l, hl⟩ : ∃ l, wordsAt E.H p 1 m = l := ⟨_, rfl⟩
  have hlm : l.length = m := by rw [← hl, wordsAt_len]
  have HW : Hid (wordsAt E.H p 1 m = l) := hl
  have HLG : Hid (∀ j (hj : j < l.length), l[j] = E.G.w p (j + 1)) := fun j hj => by
    have := wordsAt_get E.H p 1 m j (by rw [wordsAt_len, ← hlm]; exact hj)
    simp only [HW.out] at this
    rw [this, Nat.add_comm 1 j]
    rfl
  rw [HW.out]
  clear hl HW
  subst hlm
  go_enter Tryz.func63, Tryz.ntmps63
  go_wp2_with fail
  go_region_law (go_simp; go_wp2_with (first | (go_at_call 80; refine (specMake_any 6 p _).mono ?_; rintro e w' ⟨rfl, rfl⟩) | (go_at_call 46; refine (l6Size_any HS0.out.src.drew (mkw 6 p) (mkw_le _ _ (by decide))).mono ?_; rintro e w1 ⟨rfl, hb1⟩; rw [HSZ.out]; have HS1 : Hid (Sr E left false w1) := HS0.out.drew.below hb1; have q1 : ∀ o, w1.cell? ⟨w.heap.size, o, none⟩ = (#[.int .i64 0, .int .i64 0, .string ⟨#[]⟩, .slice none 0 0] : Array Value)[o]? := (fun o => by rw [hb1.cell (p := ⟨w.heap.size, o, none⟩) (by show w.heap.size < (w.alloc _).heap.size; rw [World.size_alloc]; omega)]; exact World.cell?_alloc_new w _ _ o); have f1 : ∀ o, w1.frozen? ⟨w.heap.size, o, none⟩ = false := (fun o => by rw [hb1.frozen (p := ⟨w.heap.size, o, none⟩) (by show w.heap.size < (w.alloc _).heap.size; rw [World.size_alloc]; omega)]; exact World.frozen?_alloc_new w _ _ o); have HT1 : Hid (Turn E.rb w w1) := (((Turn.refl E.rb w).alloc (.cells #[.int .i64 0, .int .i64 0, .string ⟨#[]⟩, .slice none 0 0] 66)).trans (Turn.undrew (Turn.of_below hb1))); have hz1 : w.heap.size + 1 ≤ w1.heap.size := (by have := hb1.size; have e2 : (w.alloc (.cells #[.int .i64 0, .int .i64 0, .string ⟨#[]⟩, .slice none 0 0] 66)).drew.heap.size = w.heap.size + 1 := World.size_alloc _ _; omega); have c0 := HS1.out.c0; have c1 := HS1.out.c1; have c2 := HS1.out.c2; clear hb1)))
  all_goals
    go_wp2_with fail
    (first | rw [HM1.out] | skip)
    refine (l6Words_yes HS1.out.src p (l.length + 1) HLN.out (by omega)).mono ?_
    rintro e w2 ⟨cc2, rfl, hb2⟩
    have HS2 : Hid (Sr E left false w2) := HS1.out.below hb2
    have HT2 : Hid (Turn E.rb w w2) := HT1.out.trans (Turn.of_below hb2)
    have q2 : ∀ o, w2.cell? ⟨w.heap.size, o, none⟩ = (#[.int .i64 0, .int .i64 0, .string ⟨#[]⟩, .slice none 0 0] : Array Value)[o]? := fun o => by rw [hb2.cell (p := ⟨w.heap.size, o, none⟩) (by show w.heap.size < _; omega)]; exact q1 o
    have f2 : ∀ o, w2.frozen? ⟨w.heap.size, o, none⟩ = false := fun o => by rw [hb2.frozen (p := ⟨w.heap.size, o, none⟩) (by show w.heap.size < _; omega)]; exact f1 o
    have hz2 := hb2.size
    have hne : E.rb ≠ w.heap.size := by omega
    have hr2 := HS2.out.lt
    have HSN : Hid (E.G.sb p ≠ E.rb) := HS2.out.sn p (by have := HLN.out; omega)
    have HCE : Hid (∀ j (hj : j < l.length), w2.cell? ⟨E.G.sb p, E.G.so p + (j + 1), none⟩ = some (.int .i64 l[j])) := fun j hj => by
      rw [HLG.out j hj]
      exact HS2.out.at p (j + 1) (by have := HLN.out; omega)
    clear hb2 q1 f1 c0 c1 c2 k0 k1 k2
    go_wp2_with (first | (go_at_call 21; refine (in_any _ _ _ _).mono ?_; rintro e w' ⟨rfl, hw'⟩; obtain rfl := hw'.symm; rw [HIN.out]))
    go_loopw [8, 9] (fun v i wr => ∃ k : Nat, k ≤ l.length ∧ i = .int .i64 ((k + 1 : Nat) : Int) ∧ Own8 wr w2.heap.size v ((l.take k).map u8w) ∧ Turn E.rb w2 wr ∧ Sr E left (!(l.take k).all isByte) wr) (fun _ i _ => l.length + 1 - (intOf i).toNat)
    case atStart => exact ⟨0, Nat.zero_le _, rfl, own8_start w2, (Turn.refl _ _).alloc _, by simpa using HS2.out.below ((Below.refl _ _).alloc (Nat.le_refl _) _)⟩
    case round =>
      obtain ⟨k, hk, rfl, ho, ht, hs⟩ := hrel
      obtain ⟨g2, cc, rfl, hown⟩ := ho
      have hkl : ((l.take k).map u8w).length = k := by simp; omega
      rw [hkl] at hown ⊢
      have qf := hs.fr
      have hzr := ht.size
      have C3 : Hid (k + 1 ≤ maxLen) := by show _ ≤ _; unfold maxLen; omega
      have C4 : Hid ((k + 1) * 1 ≤ 140737488355328) := by show _ ≤ _; omega
      by_cases hlt : k < l.length
      · have q : wr.cell? ⟨E.G.sb p, E.G.so p + (k + 1), none⟩ = some (.int .i64 l[k]) := ht.cell HSN.out (HCE.out k hlt)
        have HTM : Hid ((l.take (k + 1)).map u8w = (l.take k).map u8w ++ [u8w l[k]]) := take_map l k hlt
        have HTA0 : Hid ((l.take (k + 1)).all isByte = ((l.take k).all isByte && isByte l[k])) := take_all l k hlt
        clear hkl
        generalize l[k] = x at *
        cases hcur : (l.take k).all isByte with
        | true =>
          cases hx : isByte x with
          | true =>
            have HXB : Hid (inB x 0 255 = true) := hx
            have HTA : Hid ((!(l.take (k + 1)).all isByte) = false) := by show _ = _; rw [HTA0.out, hcur, hx]; rfl
            have HTM2 : Hid ((l.take (k + 1)).map u8w = (l.take k).map u8w ++ [x % 256]) := by show _ = _; rw [HTM.out]; unfold u8w; rw [IntKind.wrap_u8]
            have HO : Hid ((wr.setCell ⟨E.rb, 5, none⟩ (.bool false)).ownsRow w2.heap.size 5 1 (.slice (some ⟨g2, 0, none⟩) k cc) k (((l.take k).map u8w).map (Value.int .u8))) := ownsRow_setCell_below hown (by show E.rb < _; omega) _
            have HTR : Hid (Turn E.rb w2 (wr.setCell ⟨E.rb, 5, none⟩ (.bool false))) := ht.set 5 _
            have HSR : Hid (Sr E left false (wr.setCell ⟨E.rb, 5, none⟩ (.bool false))) := hs.setB false
            have C5 : Hid (w2.heap.size ≤ ((wr.setCell ⟨E.rb, 5, none⟩ (.bool false)).alloc (.cells #[.int .u8 (x % 256)] 5)).heap.size) := by show _ ≤ _; rw [World.size_alloc, World.size_setCell]; omega
            have q' : (wr.setCell ⟨E.rb, 5, none⟩ (.bool false)).cell? ⟨E.G.sb p, E.G.so p + (k + 1), none⟩ = some (.int .i64 x) := by
              rw [World.cell?_setCell_other (h := fun e => by simp only [Addr.mk.injEq] at e; exact HSN.out e.1.symm)]; exact q
            rw [hcur] at hs
            have c5 := hs.c5
            clear hown ht hs hcur hx
            go_wp2_with (first | (go_at_call 21; refine (in_any _ _ _ _).mono ?_; rintro e w' ⟨rfl, hw'⟩; obtain rfl := hw'.symm; rw [HXB.out]) | (at_builtin; refine wpList_append_own_at _ rfl _ _ 121 rfl w2.heap.size 5 i0 (.int .u8 0) 1 1 undU8s HI.out.1 HI.out.2.1 HI.out.2.2.1 HI.out.2.2.2 rfl Nat.zero_lt_one _ k _ rfl (HO.out.alloc _) ⟨wr.heap.size, 0, none⟩ 1 1 [.int .u8 (x % 256)] rfl rfl (src8s _ _ _ _ _) (one8 _) C3.out C4.out C5.out ?_; intro v5 w5 hown5 hgr5 hnn5 hat5))
            have hown6 := own8_of (xs := (l.take (k + 1)).map u8w) (n := k + 1) (by rw [HTM2.out, List.map_append]; exact hown5) (fun e => by have := (hnn5.1 e).1; cases this)
            obtain ⟨ht6, hs6⟩ := grow_keepG HS2.out HTR.out HSR.out hgr5 (fun j hj => (HO.out.lt j hj).1)
            have HO6 : Hid (Own8 w5 w2.heap.size v5 ((l.take (k + 1)).map u8w)) := hown6
            have HT6 : Hid (Turn E.rb w2 w5) := ht6
            have HS6 : Hid (Sr E left (!(l.take (k + 1)).all isByte) w5) := by show Sr ..; rw [HTA.out]; exact hs6
            clear hown5 hgr5 hnn5 hat5 hown6 ht6 hs6
            go_roundw
            case rel => exact ⟨k + 1, by omega, by go_num, HO6.out, HT6.out, HS6.out⟩
            case measure => simp [intOf]; omega
          | false =>
            have HXB : Hid (inB x 0 255 = false) := hx
            have HTA : Hid ((!(l.take (k + 1)).all isByte) = true) := by show _ = _; rw [HTA0.out, hcur, hx]; rfl
            have HTM2 : Hid ((l.take (k + 1)).map u8w = (l.take k).map u8w ++ [x % 256]) := by show _ = _; rw [HTM.out]; unfold u8w; rw [IntKind.wrap_u8]
            have HO : Hid ((wr.setCell ⟨E.rb, 5, none⟩ (.bool true)).ownsRow w2.heap.size 5 1 (.slice (some ⟨g2, 0, none⟩) k cc) k (((l.take k).map u8w).map (Value.int .u8))) := ownsRow_setCell_below hown (by show E.rb < _; omega) _
            have HTR : Hid (Turn E.rb w2 (wr.setCell ⟨E.rb, 5, none⟩ (.bool true))) := ht.set 5 _
            have HSR : Hid (Sr E left true (wr.setCell ⟨E.rb, 5, none⟩ (.bool true))) := hs.setB true
            have C5 : Hid (w2.heap.size ≤ ((wr.setCell ⟨E.rb, 5, none⟩ (.bool true)).alloc (.cells #[.int .u8 (x % 256)] 5)).heap.size) := by show _ ≤ _; rw [World.size_alloc, World.size_setCell]; omega
            have q' : (wr.setCell ⟨E.rb, 5, none⟩ (.bool true)).cell? ⟨E.G.sb p, E.G.so p + (k + 1), none⟩ = some (.int .i64 x) := by
              rw [World.cell?_setCell_other (h := fun e => by simp only [Addr.mk.injEq] at e; exact HSN.out e.1.symm)]; exact q
            rw [hcur] at hs
            have c5 := hs.c5
            clear hown ht hs hcur hx
            go_wp2_with (first | (go_at_call 21; refine (in_any _ _ _ _).mono ?_; rintro e w' ⟨rfl, hw'⟩; obtain rfl := hw'.symm; rw [HXB.out]) | (at_builtin; refine wpList_append_own_at _ rfl _ _ 121 rfl w2.heap.size 5 i0 (.int .u8 0) 1 1 undU8s HI.out.1 HI.out.2.1 HI.out.2.2.1 HI.out.2.2.2 rfl Nat.zero_lt_one _ k _ rfl (HO.out.alloc _) ⟨wr.heap.size, 0, none⟩ 1 1 [.int .u8 (x % 256)] rfl rfl (src8s _ _ _ _ _) (one8 _) C3.out C4.out C5.out ?_; intro v5 w5 hown5 hgr5 hnn5 hat5))
            have hown6 := own8_of (xs := (l.take (k + 1)).map u8w) (n := k + 1) (by rw [HTM2.out, List.map_append]; exact hown5) (fun e => by have := (hnn5.1 e).1; cases this)
            obtain ⟨ht6, hs6⟩ := grow_keepG HS2.out HTR.out HSR.out hgr5 (fun j hj => (HO.out.lt j hj).1)
            have HO6 : Hid (Own8 w5 w2.heap.size v5 ((l.take (k + 1)).map u8w)) := hown6
            have HT6 : Hid (Turn E.rb w2 w5) := ht6
            have HS6 : Hid (Sr E left (!(l.take (k + 1)).all isByte) w5) := by show Sr ..; rw [HTA.out]; exact hs6
            clear hown5 hgr5 hnn5 hat5 hown6 ht6 hs6
            go_roundw
            case rel => exact ⟨k + 1, by omega, by go_num, HO6.out, HT6.out, HS6.out⟩
            case measure => simp [intOf]; omega
        | false =>
          have HTA : Hid ((!(l.take (k + 1)).all isByte) = true) := by show _ = _; rw [HTA0.out, hcur]; rfl
          have HTM2 : Hid ((l.take (k + 1)).map u8w = (l.take k).map u8w ++ [x % 256]) := by show _ = _; rw [HTM.out]; unfold u8w; rw [IntKind.wrap_u8]
          have HO : Hid ((wr.setCell ⟨E.rb, 5, none⟩ (.bool true)).ownsRow w2.heap.size 5 1 (.slice (some ⟨g2, 0, none⟩) k cc) k (((l.take k).map u8w).map (Value.int .u8))) := ownsRow_setCell_below hown (by show E.rb < _; omega) _
          have HTR : Hid (Turn E.rb w2 (wr.setCell ⟨E.rb, 5, none⟩ (.bool true))) := ht.set 5 _
          have HSR : Hid (Sr E left true (wr.setCell ⟨E.rb, 5, none⟩ (.bool true))) := hs.setB true
          have C5 : Hid (w2.heap.size ≤ ((wr.setCell ⟨E.rb, 5, none⟩ (.bool true)).alloc (.cells #[.int .u8 (x % 256)] 5)).heap.size) := by show _ ≤ _; rw [World.size_alloc, World.size_setCell]; omega
          have q' : (wr.setCell ⟨E.rb, 5, none⟩ (.bool true)).cell? ⟨E.G.sb p, E.G.so p + (k + 1), none⟩ = some (.int .i64 x) := by
            rw [World.cell?_setCell_other (h := fun e => by simp only [Addr.mk.injEq] at e; exact HSN.out e.1.symm)]; exact q
          rw [hcur] at hs
          have c5 := hs.c5
          clear hown ht hs hcur
          go_wp2_with (first | (at_builtin; refine wpList_append_own_at _ rfl _ _ 121 rfl w2.heap.size 5 i0 (.int .u8 0) 1 1 undU8s HI.out.1 HI.out.2.1 HI.out.2.2.1 HI.out.2.2.2 rfl Nat.zero_lt_one _ k _ rfl (HO.out.alloc _) ⟨wr.heap.size, 0, none⟩ 1 1 [.int .u8 (x % 256)] rfl rfl (src8s _ _ _ _ _) (one8 _) C3.out C4.out C5.out ?_; intro v5 w5 hown5 hgr5 hnn5 hat5))
          have hown6 := own8_of (xs := (l.take (k + 1)).map u8w) (n := k + 1) (by rw [HTM2.out, List.map_append]; exact hown5) (fun e => by have := (hnn5.1 e).1; cases this)
          obtain ⟨ht6, hs6⟩ := grow_keepG HS2.out HTR.out HSR.out hgr5 (fun j hj => (HO.out.lt j hj).1)
          have HO6 : Hid (Own8 w5 w2.heap.size v5 ((l.take (k + 1)).map u8w)) := hown6
          have HT6 : Hid (Turn E.rb w2 w5) := ht6
          have HS6 : Hid (Sr E left (!(l.take (k + 1)).all isByte) w5) := by show Sr ..; rw [HTA.out]; exact hs6
          clear hown5 hgr5 hnn5 hat5 hown6 ht6 hs6
          go_roundw
          case rel => exact ⟨k + 1, by omega, by go_num, HO6.out, HT6.out, HS6.out⟩
          case measure => simp [intOf]; omega
      · have hkl2 : k = l.length := by omega
        have htk : l.take k = l := by rw [hkl2]; simp
        rw [htk] at hown hs
        have HOW : Hid (wr.ownsRow w2.heap.size 5 1 (.slice (some ⟨g2, 0, none⟩) (l.map u8w).length cc) (l.map u8w).length ((l.map u8w).map (Value.int .u8))) := by
          show World.ownsRow ..
          rw [List.length_map, ← hkl2]; exact hown
        have hcv := conv8 HOW.out (fun y hy => by obtain ⟨z, _, rfl⟩ := List.mem_map.1 hy; exact u8w_byte z)
        rw [List.length_map, ← hkl2] at hcv
        obtain ⟨q4, f4⟩ := ht.keep (W := w.heap.size) (by omega) (by omega) q2 f2
        have HTR : Hid (Turn E.rb w wr) := HT2.out.trans ht
        have HSR : Hid (Sr E left (!l.all isByte) wr) := hs
        have HSZ2 : Hid ((txtB (l.map u8w)).size ≤ maxLen) := by
          show _ ≤ _
          have e : (txtB (l.map u8w)).size = l.length := by simp [txtB, ByteArray.size]
          rw [e]; unfold maxLen; omega
        clear hown hs htk hkl2 hkl ht
        go_wp2_with fail
        obtain ⟨a1, a2, a3⟩ := sbox_out (E := E.e) HTR.out (YtjjmikfbongccaaGreatDoor.rp_leaf 6 0 (txtB (l.map u8w)) HSZ2.out) (.int .i64 6) (.int .i64 0) (.string (txtB (l.map u8w))) (.slice none 0 0)
        refine bodyPost_ret (v := .agg #[.int .i64 6, .int .i64 0, .string (txtB (l.map u8w)), .slice none 0 0]) (by simp [results, Tryz.results63, go_sem, q4]) rfl ⟨_, _, rfl, a2, a1, ?_⟩
        have hsf := HS.out.same HSR.out a3
        cases ha : l.all isByte with
        | true =>
          refine .inl ⟨left, ?_, by rw [ha] at hsf; exact hsf⟩
          rw [txt, if_pos ha, u8w_all ha]
          rfl
        | false =>
          refine .inr ⟨?_, _, by rw [ha] at hsf; exact hsf⟩
          rw [txt, if_neg (by rw [ha]; simp)]
          rfl
theorem l6Bin_any {E : SE} {left : Nat} {w : World} (h : Sr E left false w) (p : Nat) (hp : p ≤ 9223372036854774000) :
    Calls Tryz.prog 63 #[.pointer (some ⟨E.rb, 0, none⟩), .int .i64 p] w fun e w' => Ans E w w' (rBin E.H p left) e := by
  unfold rBin
  rw [Int.toNat_natCast]
  cases hc : cnt E.H p 40 with
  | none => exact l6Bin_no h p hp hc
  | some m => exact l6Bin_yes h p hp m hc
end Go.Proofs.YtjjmikfbongccaaGreatDoor.Gn
namespace Go.Proofs.YtjjmikfbongccaaGreatDoor.Gn
open Go.RowKit
set_option linter.unusedVariables false

/-- What l6Read answers. -/
def ReadC (E : SE) (d : Nat) : Prop := ∀ (w : World) (left : Nat) (x : Int), Sr E left false w → left ≤ 100 → x ≤ 9223372036854775807 →
  Calls Tryz.prog 44 #[.pointer (some ⟨E.rb, 0, none⟩), .int .i64 x, .int .i64 d] w fun e w' => Ans E w w' (rT false E.H d x left) e
/-- How the reading of a list goes on. -/
def Goes (E : SE) (G : Option (List Tm × Nat)) (nx : Nat → Option (List Tm × Nat)) (l : List Tm) (wr : World) : Prop :=
  (∃ y : Nat, y ≤ 100 ∧ Sr E y false wr ∧ G = pre l (nx y)) ∨ (G = none ∧ ∃ z : Int, Sr E z true wr)
set_option maxHeartbeats 4000000 in
set_option maxRecDepth 100000 in
theorem l6Tuple_no {E : SE} {left : Nat} {w : World} (h : Sr E left false w) (p : Nat) (hp : p ≤ 9223372036854774000) (D : Int) (hc : cnt E.H p 8 = none) :
    Calls Tryz.prog 62 #[.pointer (some ⟨E.rb, 0, none⟩), .int .i64 p, .int .i64 D] w fun e w' => Ans E w w' none e := by
  have HS : Hid (Sr E left false w) := h
  have HS0 : Hid (Sr E left false (w.alloc (.cells #[.int .i64 0, .int .i64 0, .string ⟨#[]⟩, .slice none 0 0] 66))) := h.below ((Below.refl _ _).alloc (Nat.le_refl _) _)
  have k0 := HS0.out.drew.c0
  have k1 := HS0.out.drew.c1
  have k2 := HS0.out.drew.c2
  have HP : Hid (p ≤ 9223372036854775000) := by show _ ≤ _; omega
  have hpb : (p : Int) ≤ 9223372036854774000 := by omega
  have hrl := h.lt
  obtain ⟨k, hk, hk1, hk2⟩ := cn_none (by decide) hc
  have HSZ : Hid (sz E.G (mkw 4 p) = (k : Int)) := by show _ = _; rw [sz_mk h.src 4 (.inl rfl) p, hk]
  have HKK : Hid (inB ((k : Int) - 1) 0 8 = true → k ≠ 0 ∧ ¬ k ≤ E.G.len p) := hk2
  have hki : (k : Int) ≤ 1001 := by omega
  clear h hc hk hk1 hk2 hp
  go_enter Tryz.func62, Tryz.ntmps62
  go_wp2_with fail
  go_region_law (go_simp; go_wp2_with (first | (go_at_call 80; refine (specMake_any 4 p _).mono ?_; rintro e w' ⟨rfl, rfl⟩) | (go_at_call 46; refine (l6Size_any HS0.out.src.drew (mkw 4 p) (mkw_le _ _ (by decide))).mono ?_; rintro e w1 ⟨rfl, hb1⟩; rw [HSZ.out]; have HS1 : Hid (Sr E left false w1) := HS0.out.drew.below hb1; have q1 : ∀ o, w1.cell? ⟨w.heap.size, o, none⟩ = (#[.int .i64 0, .int .i64 0, .string ⟨#[]⟩, .slice none 0 0] : Array Value)[o]? := (fun o => by rw [hb1.cell (p := ⟨w.heap.size, o, none⟩) (by show w.heap.size < (w.alloc _).heap.size; rw [World.size_alloc]; omega)]; exact World.cell?_alloc_new w _ _ o); have f1 : ∀ o, w1.frozen? ⟨w.heap.size, o, none⟩ = false := (fun o => by rw [hb1.frozen (p := ⟨w.heap.size, o, none⟩) (by show w.heap.size < (w.alloc _).heap.size; rw [World.size_alloc]; omega)]; exact World.frozen?_alloc_new w _ _ o); have HT1 : Hid (Turn E.rb w w1) := (((Turn.refl E.rb w).alloc (.cells #[.int .i64 0, .int .i64 0, .string ⟨#[]⟩, .slice none 0 0] 66)).trans (Turn.undrew (Turn.of_below hb1))); have hz1 : w.heap.size + 1 ≤ w1.heap.size := (by have := hb1.size; have e2 : (w.alloc (.cells #[.int .i64 0, .int .i64 0, .string ⟨#[]⟩, .slice none 0 0] 66)).drew.heap.size = w.heap.size + 1 := World.size_alloc _ _; omega); have c0 := HS1.out.c0; have c1 := HS1.out.c1; have c2 := HS1.out.c2; clear hb1)))
  all_goals
    go_wp2_with fail
    refine (l6Words_any HS1.out.src p k HP.out).mono ?_
    rintro e w2 ⟨a2, m2, cc2, ok2, rfl, hb2, ho2⟩
    have HO2 : Hid (inB ((k : Int) - 1) 0 8 = true → ok2 = false) := fun hb => ho2 (HKK.out hb).1 (HKK.out hb).2
    have HS2 : Hid (Sr E left false w2) := HS1.out.below hb2
    have HT2 : Hid (Turn E.rb w w2) := HT1.out.trans (Turn.of_below hb2)
    have q2 : ∀ o, w2.cell? ⟨w.heap.size, o, none⟩ = (#[.int .i64 0, .int .i64 0, .string ⟨#[]⟩, .slice none 0 0] : Array Value)[o]? := fun o => by rw [hb2.cell (p := ⟨w.heap.size, o, none⟩) (by show w.heap.size < _; omega)]; exact q1 o
    have f2 : ∀ o, w2.frozen? ⟨w.heap.size, o, none⟩ = false := fun o => by rw [hb2.frozen (p := ⟨w.heap.size, o, none⟩) (by show w.heap.size < _; omega)]; exact f1 o
    have hb3 : Below w2.heap.size w2 (w2.alloc (.cells #[.int .i64 4, .int .i64 0, .string ⟨#[]⟩, .slice none 0 0] 66)) := (Below.refl _ _).alloc (Nat.le_refl _) _
    have HS3 : Hid (Sr E left false (w2.alloc (.cells #[.int .i64 4, .int .i64 0, .string ⟨#[]⟩, .slice none 0 0] 66))) := HS2.out.below hb3
    have HT3 : Hid (Turn E.rb w (w2.alloc (.cells #[.int .i64 4, .int .i64 0, .string ⟨#[]⟩, .slice none 0 0] 66))) := HT2.out.trans (Turn.of_below hb3)
    have hz2 := hb2.size
    have c5 := HS3.out.c5
    have cf := HS3.out.fr
    have hne : E.rb ≠ w.heap.size := by omega
    have hne2 : E.rb ≠ w2.heap.size := by omega
    have hne3 : w.heap.size ≠ w2.heap.size := by omega
    have q3 : ∀ o, (w2.alloc (.cells #[.int .i64 4, .int .i64 0, .string ⟨#[]⟩, .slice none 0 0] 66)).cell? ⟨w.heap.size, o, none⟩ = (#[.int .i64 0, .int .i64 0, .string ⟨#[]⟩, .slice none 0 0] : Array Value)[o]? := fun o => by rw [hb3.cell (p := ⟨w.heap.size, o, none⟩) (by show w.heap.size < _; omega)]; exact q2 o
    have f3 : ∀ o, (w2.alloc (.cells #[.int .i64 4, .int .i64 0, .string ⟨#[]⟩, .slice none 0 0] 66)).frozen? ⟨w.heap.size, o, none⟩ = false := fun o => by rw [hb3.frozen (p := ⟨w.heap.size, o, none⟩) (by show w.heap.size < _; omega)]; exact f2 o
    have hlt3 : w.heap.size < w2.heap.size := by omega
    go_wp2_with fail
    clear hb2 ho2 q1 f1 c0 c1 c2 k0 k1 k2 hb3 q2 f2
    generalize hW3 : (w2.alloc (.cells #[.int .i64 4, .int .i64 0, .string ⟨#[]⟩, .slice none 0 0] 66)) = w3 at *
    have x3 : ∀ o, w3.cell? ⟨w2.heap.size, o, none⟩ = (#[.int .i64 4, .int .i64 0, .string ⟨#[]⟩, .slice none 0 0] : Array Value)[o]? := fun o => by rw [← hW3]; exact World.cell?_alloc_new w2 _ _ o
    clear hW3
    cases hb : inB ((k : Int) - 1) 0 8 with
    | false =>
      have HBB : Hid (inB ((k : Int) - 1) 0 8 = false) := hb
      clear hb
      go_wp2_with (first | (go_at_call 21; refine (in_any _ _ _ _).mono ?_; rintro e w' ⟨rfl, hw'⟩; obtain rfl := hw'.symm; rw [HBB.out]))
      obtain ⟨a1, a2, a3⟩ := sbox_out (E := E.e) (HT3.out.set 5 (.bool true)) (YtjjmikfbongccaaGreatDoor.rp_leaf 4 0 ByteArray.empty (Nat.zero_le _)) (.int .i64 4) (.int .i64 0) (.string ⟨#[]⟩) (.slice none 0 0)
      exact bodyPost_ret (v := .agg #[.int .i64 4, .int .i64 0, .string ⟨#[]⟩, .slice none 0 0]) (by simp [results, Tryz.results62, go_sem, q3]) rfl ⟨_, _, rfl, a2, a1, .inr ⟨rfl, _, HS.out.same (HS3.out.setB true) a3⟩⟩
    | true =>
      have HBB : Hid (inB ((k : Int) - 1) 0 8 = true) := hb
      obtain rfl := HO2.out hb
      clear hb
      go_wp2_with (first | (go_at_call 21; refine (in_any _ _ _ _).mono ?_; rintro e w' ⟨rfl, hw'⟩; obtain rfl := hw'.symm; rw [HBB.out]))
      obtain ⟨a1, a2, a3⟩ := sbox_out (E := E.e) (HT3.out.set 5 (.bool true)) (YtjjmikfbongccaaGreatDoor.rp_leaf 4 0 ByteArray.empty (Nat.zero_le _)) (.int .i64 4) (.int .i64 0) (.string ⟨#[]⟩) (.slice none 0 0)
      exact bodyPost_ret (v := .agg #[.int .i64 4, .int .i64 0, .string ⟨#[]⟩, .slice none 0 0]) (by simp [results, Tryz.results62, go_sem, q3]) rfl ⟨_, _, rfl, a2, a1, .inr ⟨rfl, _, HS.out.same (HS3.out.setB true) a3⟩⟩
set_option maxHeartbeats 8000000 in
set_option maxRecDepth 100000 in
theorem l6Tuple_yes {E : SE} {d' : Nat} (ih : ReadC E d') (hd' : d' ≤ 6) {left : Nat} {w : World} (h : Sr E left false w) (hl : left ≤ 100) (p : Nat) (hp : p ≤ 9223372036854774000) (m : Nat) (hc : cnt E.H p 8 = some m) :
    Calls Tryz.prog 62 #[.pointer (some ⟨E.rb, 0, none⟩), .int .i64 p, .int .i64 ((d' + 1 : Nat) : Int)] w fun e w' => Ans E w w' (tup 4 (rTs (E.H.w p) (rT false E.H d') m 1 left)) e := by
  have HS : Hid (Sr E left false w) := h
  have HS0 : Hid (Sr E left false (w.alloc (.cells #[.int .i64 0, .int .i64 0, .string ⟨#[]⟩, .slice none 0 0] 66))) := h.below ((Below.refl _ _).alloc (Nat.le_refl _) _)
  have k0 := HS0.out.drew.c0
  have k1 := HS0.out.drew.c1
  have k2 := HS0.out.drew.c2
  have HP : Hid (p ≤ 9223372036854775000) := by show _ ≤ _; omega
  have hpb : (p : Int) ≤ 9223372036854774000 := by omega
  have hrl := h.lt
  have HL : Hid (left ≤ 100) := hl
  have HT : Hid (ReadC E d') := ih
  obtain ⟨D, hD⟩ : ∃ D : Int, D = ((d' + 1 : Nat) : Int) := ⟨_, rfl⟩
  rw [← hD]
  have HQD : Hid (D - 1 = d') := by show _ = _; omega
  have HWR : Hid (IntKind.i64.wrap (D - 1) = d') := by show _ = _; rw [IntKind.wrap_i64]; omega
  have hD0 : 1 ≤ D := by omega
  have hD6 : D ≤ 7 := by omega
  obtain ⟨hk1, hk2, hk3⟩ := cn_some (by decide) hc
  have HSZ : Hid (sz E.G (mkw 4 p) = (m : Int) + 1) := by show _ = _; rw [sz_mk h.src 4 (.inl rfl) p, hk1]
  have HM1 : Hid ((m : Int) + 1 = ((m + 1 : Nat) : Int)) := by show _ = _; omega
  have HLN : Hid (m + 1 ≤ E.G.len p) := hk2
  have hm8 : m ≤ 8 := by omega
  have hmi : (m : Int) ≤ 8 := by omega
  have HIN : Hid (inB (m : Int) 0 8 = true) := by show _ = _; unfold inB; simp; omega
  clear h hc hk1 hk2 hk3 hp hl ih hD
  obtain ⟨i0, hi, hzz0, hzz1, hzz2⟩ := infoParts infoTm
  obtain ⟨G, hG⟩ : ∃ G, rTs (E.H.w p) (rT false E.H d') m 1 left = G := ⟨_, rfl⟩
  have HG0 : Hid (rTs (E.H.w p) (rT false E.H d') m 1 left = G) := hG
  rw [hG]
  clear hG
  go_enter Tryz.func62, Tryz.ntmps62
  go_wp2_with fail
  go_region_law (go_simp; go_wp2_with (first | (go_at_call 80; refine (specMake_any 4 p _).mono ?_; rintro e w' ⟨rfl, rfl⟩) | (go_at_call 46; refine (l6Size_any HS0.out.src.drew (mkw 4 p) (mkw_le _ _ (by decide))).mono ?_; rintro e w1 ⟨rfl, hb1⟩; rw [HSZ.out]; have HS1 : Hid (Sr E left false w1) := HS0.out.drew.below hb1; have q1 : ∀ o, w1.cell? ⟨w.heap.size, o, none⟩ = (#[.int .i64 0, .int .i64 0, .string ⟨#[]⟩, .slice none 0 0] : Array Value)[o]? := (fun o => by rw [hb1.cell (p := ⟨w.heap.size, o, none⟩) (by show w.heap.size < (w.alloc _).heap.size; rw [World.size_alloc]; omega)]; exact World.cell?_alloc_new w _ _ o); have f1 : ∀ o, w1.frozen? ⟨w.heap.size, o, none⟩ = false := (fun o => by rw [hb1.frozen (p := ⟨w.heap.size, o, none⟩) (by show w.heap.size < (w.alloc _).heap.size; rw [World.size_alloc]; omega)]; exact World.frozen?_alloc_new w _ _ o); have HT1 : Hid (Turn E.rb w w1) := (((Turn.refl E.rb w).alloc (.cells #[.int .i64 0, .int .i64 0, .string ⟨#[]⟩, .slice none 0 0] 66)).trans (Turn.undrew (Turn.of_below hb1))); have hz1 : w.heap.size + 1 ≤ w1.heap.size := (by have := hb1.size; have e2 : (w.alloc (.cells #[.int .i64 0, .int .i64 0, .string ⟨#[]⟩, .slice none 0 0] 66)).drew.heap.size = w.heap.size + 1 := World.size_alloc _ _; omega); have c0 := HS1.out.c0; have c1 := HS1.out.c1; have c2 := HS1.out.c2; clear hb1)))
  all_goals
    go_wp2_with fail
    (first | rw [HM1.out] | skip)
    refine (l6Words_yes HS1.out.src p (m + 1) HLN.out (by omega)).mono ?_
    rintro e w2 ⟨cc2, rfl, hb2⟩
    have HS2 : Hid (Sr E left false w2) := HS1.out.below hb2
    have HT2 : Hid (Turn E.rb w w2) := HT1.out.trans (Turn.of_below hb2)
    have q2 : ∀ o, w2.cell? ⟨w.heap.size, o, none⟩ = (#[.int .i64 0, .int .i64 0, .string ⟨#[]⟩, .slice none 0 0] : Array Value)[o]? := fun o => by rw [hb2.cell (p := ⟨w.heap.size, o, none⟩) (by show w.heap.size < _; omega)]; exact q1 o
    have f2 : ∀ o, w2.frozen? ⟨w.heap.size, o, none⟩ = false := fun o => by rw [hb2.frozen (p := ⟨w.heap.size, o, none⟩) (by show w.heap.size < _; omega)]; exact f1 o
    have hz2 := hb2.size
    have HSN : Hid (E.G.sb p ≠ E.rb) := HS2.out.sn p (by have := HLN.out; omega)
    have HCE : Hid (∀ j, j < m → w2.cell? ⟨E.G.sb p, E.G.so p + (j + 1), none⟩ = some (.int .i64 (E.G.w p (j + 1)))) := fun j hj => HS2.out.at p (j + 1) (by have := HLN.out; omega)
    have HG1 : Hid (GS E.e w (w2.alloc (.cells #[.int .i64 4, .int .i64 0, .string ⟨#[]⟩, .slice none 0 0] 66)) w2.heap.size 4 [] (.slice none 0 0) []) := GS.start (E := E.e) HT2.out hrl (by omega) rfl q2 f2 4
    have HGO : Hid (Goes E G (fun y => rTs (E.H.w p) (rT false E.H d') (m + 1 - 1) 1 y) [] (w2.alloc (.cells #[.int .i64 4, .int .i64 0, .string ⟨#[]⟩, .slice none 0 0] 66))) := by
      have hs := HS2.out.below ((Below.refl _ _).alloc (Nat.le_refl _) (.cells #[.int .i64 4, .int .i64 0, .string ⟨#[]⟩, .slice none 0 0] 66))
      exact .inl ⟨left, HL.out, hs, by rw [pre_nil]; exact HG0.out.symm⟩
    have hCW2 : ∀ j, j < m → E.G.sb p < w2.heap.size := fun j hj => World.block_lt_of_cell? w2 _ (HCE.out j hj)
    have HCW2 : Hid (∀ j, j < m → E.G.sb p < w2.heap.size) := hCW2
    have HT3 : Hid (Turn E.rb w2 (w2.alloc (.cells #[.int .i64 4, .int .i64 0, .string ⟨#[]⟩, .slice none 0 0] 66))) := (Turn.refl _ _).alloc _
    have hne : E.rb ≠ w.heap.size := by omega
    have hne2 : E.rb ≠ w2.heap.size := by omega
    clear hb2 q1 f1 c0 c1 c2 k0 k1 k2 hCW2
    go_wp2_with (first | (go_at_call 21; refine (in_any _ _ _ _).mono ?_; rintro e w' ⟨rfl, hw'⟩; obtain rfl := hw'.symm; rw [HIN.out]))
    obtain ⟨tb, htb⟩ : ∃ tb, tb = w2.heap.size := ⟨_, rfl⟩
    rw [← htb] at HG1 HCW2
    rw [← htb]
    have htbz : w2.heap.size ≤ tb := by omega
    clear htb
    go_loopw [11] (fun i wr => ∃ (k : Nat) (l : List Tm) (u : Value) (xs : List Value), 1 ≤ k ∧ k ≤ m + 1 ∧ i = .int .i64 k ∧ GS E.e w wr tb 4 l u xs ∧ Turn E.rb w2 wr ∧ l.length ≤ k ∧ Goes E G (fun y => rTs (E.H.w p) (rT false E.H d') (m + 1 - k) k y) l wr) (fun i _ => m + 1 - (intOf i).toNat)
    case atStart => exact ⟨1, [], _, _, Nat.le_refl _, by omega, rfl, HG1.out, HT3.out, Nat.zero_le _, HGO.out⟩
    case round =>
      obtain ⟨k, l, u, xs, hk0, hk, rfl, hg, htr, hlk, hgo⟩ := hrel
      obtain ⟨ua, uc, rfl⟩ := hg.form
      have HG : Hid (GS E.e w wr tb 4 l (.slice ua l.length uc) xs) := hg
      have HTR : Hid (Turn E.rb w2 wr) := htr
      have t0 := hg.t0
      have t1 := hg.t1
      have t2 := hg.t2
      have t3 := hg.t3
      have tf := hg.tf
      have htl := hg.lt
      have hup := hg.up
      obtain ⟨r0, hr0⟩ := hg.r 0 (by decide)
      obtain ⟨r1, hr1⟩ := hg.r 1 (by decide)
      obtain ⟨r2, hr2⟩ := hg.r 2 (by decide)
      obtain ⟨r3, hr3⟩ := hg.r 3 (by decide)
      have hrf := hg.rf
      clear hg htr
      rcases hgo with ⟨y, hy, hsy, hGy⟩ | ⟨hGn, z, hsz⟩
      · have c5 := hsy.c5
        have HSY : Hid (Sr E y false wr) := hsy
        have HY : Hid (y ≤ 100) := hy
        have HGY : Hid (G = pre l (rTs (E.H.w p) (rT false E.H d') (m + 1 - k) k y)) := hGy
        clear hsy hy hGy
        by_cases hlt : k < m + 1
        · have q : wr.cell? ⟨E.G.sb p, E.G.so p + k, none⟩ = some (.int .i64 (E.G.w p k)) := HTR.out.cell HSN.out (by have := HCE.out (k - 1) (by omega); rw [show k - 1 + 1 = k by omega] at this; exact this)
          have HBG : Hid (E.G.w p k ≤ 9223372036854775807) := GE.bigw HSY.out.src _ _
          have HC3 : Hid (l.length + 1 ≤ maxLen) := by show _ ≤ _; unfold maxLen; omega
          have HC4 : Hid ((l.length + 1) * 56 ≤ 140737488355328) := by show _ ≤ _; omega
          have HKK : Hid (m + 1 - k = (m + 1 - (k + 1)) + 1) := by show _ = _; omega
          obtain ⟨x, hx⟩ : ∃ x, E.G.w p k = x := ⟨_, rfl⟩
          have HX : Hid (E.H.w p k = x) := hx
          rw [hx] at q HBG
          clear hx
          go_wp2_with fail
          go_region_law (first
          | (refine step_append_lies _ rfl (.tmp 57) (.tmp 66) 64 rfl (tb + 1) 66 i0 (.agg #[.int .i64 0, .int .i64 0, .string ⟨#[]⟩, .slice none 0 0]) 4 56 undTms hi hzz0 hzz1 hzz2 rfl (by decide) (.slice ua l.length uc) l.length xs (by simp [Act.eval]) (HG1.out.own.alloc _) ⟨w5.heap.size, 0, none⟩ 1 1 [.int .i64 va, .int .i64 vb, .string vc, .slice vd ve vf] (by simp [Act.eval]) rfl four8 one4 (by decide) HC3.out HC4.out (by simp; omega) _ rfl ?_; intro g6 cap6 w6 hown6 hgrow6 hat6 hlt6; obtain ⟨t36, tf6⟩ := HG1.out.grown hgrow6)
          | (go_simp; go_wp2_with (go_at_call 44; (first | rw [HWR.out] | rw [HQD.out]); refine (HT.out _ y _ HSY.out.drew HY.out HBG.out).mono ?_; rintro e w5 ⟨tt, vv, rfl, hv5, ht5, hd5⟩; obtain ⟨va, vb, vc, vd, ve, vf, rfl⟩ := hv5.form; have HG1 : Hid (GS E.e w w5 tb 4 l (.slice ua l.length uc) xs) := HG.out.call ht5.undrew; have htl5 := HG1.out.lt; have t35 := HG1.out.t3; have tf5 := HG1.out.tf)))
          all_goals
            obtain ⟨hg6, hk6⟩ := HG.out.more ht5.undrew hv5 hown6 hgrow6 (by rw [World.size_alloc] at hat6; exact hat6) hlt6
            have HG6 : Hid (GS E.e w _ tb 4 _ _ _) := hg6
            have hgo6 : Goes E G (fun y => rTs (E.H.w p) (rT false E.H d') (m + 1 - (k + 1)) (k + 1) y) (l ++ [tt]) (w6.setCell ⟨tb, 3, none⟩ (.slice (some ⟨g6, 0, none⟩) (l.length + 1) cap6)) := by
              rcases hd5 with ⟨y', hy', hs'⟩ | ⟨hn', z', hs'⟩
              · refine .inl ⟨y', by have := rT_lt _ _ _ _ _ _ _ hy'; have := HY.out; omega, HS.out.same hs' (fun j hj => hk6 j (by omega)), ?_⟩
                rw [HGY.out, HKK.out, rTs_some (by rw [HX.out]; exact hy'), pre_pre]
              · refine .inr ⟨?_, z', HS.out.same hs' (fun j hj => hk6 j (by omega))⟩
                rw [HGY.out, HKK.out, rTs_none (by rw [HX.out]; exact hn')]
                rfl
            have htr6 : Turn E.rb w2 (w6.setCell ⟨tb, 3, none⟩ (.slice (some ⟨g6, 0, none⟩) (l.length + 1) cap6)) := ⟨hg6.turn.os.trans HT2.out.os.symm, hg6.turn.tape.trans HT2.out.tape.symm, hg6.turn.output.trans HT2.out.output.symm, by have := hg6.lt; omega, fun j hj hn => (hk6 j (by omega)).trans ((HTR.out.trans ht5.undrew).block j hj hn)⟩
            have HTR6 : Hid (Turn E.rb w2 _) := htr6
            have HGO6 : Hid (Goes E G _ (l ++ [tt]) _) := hgo6
            clear t36 tf6 hown6 hgrow6 hat6 hlt6 hv5 hd5 ht5 HG1 htl5 t35 tf5 hg6 hk6 hgo6 htr6
            go_wp2_with fail
            go_roundw
            case rel => exact ⟨k + 1, l ++ [tt], _, _, by omega, by omega, by go_num, HG6.out, HTR6.out, by rw [List.length_append]; simp only [List.length_cons, List.length_nil]; omega, HGO6.out⟩
            case measure => simp [intOf]; omega
        · have HE : Hid (G = some (l, y)) := by
            show _ = _
            rw [HGY.out, show m + 1 - k = 0 by omega, rTs, pre, List.append_nil]
          go_wp2_with fail
          obtain ⟨hv, hdd, hkk⟩ := HG.out.done (.int .i64 4) (.int .i64 0) (.string ⟨#[]⟩) (.slice ua l.length uc)
          exact bodyPost_ret (v := .agg #[.int .i64 4, .int .i64 0, .string ⟨#[]⟩, .slice ua l.length uc]) (by simp [results, Tryz.results62, go_sem, hr0, hr1, hr2, hr3]) rfl ⟨_, _, rfl, hv, hdd, .inl ⟨y, by rw [HE.out]; rfl, HS.out.same HSY.out hkk⟩⟩
      · have c5 := hsz.c5
        have HSZ2 : Hid (Sr E z true wr) := hsz
        have HGN : Hid (G = none) := hGn
        clear hsz hGn
        by_cases hlt : k < m + 1
        all_goals
          go_wp2_with fail
          obtain ⟨hv, hdd, hkk⟩ := HG.out.done (.int .i64 4) (.int .i64 0) (.string ⟨#[]⟩) (.slice ua l.length uc)
          exact bodyPost_ret (v := .agg #[.int .i64 4, .int .i64 0, .string ⟨#[]⟩, .slice ua l.length uc]) (by simp [results, Tryz.results62, go_sem, hr0, hr1, hr2, hr3]) rfl ⟨_, _, rfl, hv, hdd, .inr ⟨by rw [HGN.out]; rfl, z, HS.out.same HSZ2.out hkk⟩⟩
theorem l6Tuple_any {E : SE} {d' : Nat} (ih : ReadC E d') (hd' : d' ≤ 6) {left : Nat} {w : World} (h : Sr E left false w) (hl : left ≤ 100) (p : Nat) (hp : p ≤ 9223372036854774000) :
    Calls Tryz.prog 62 #[.pointer (some ⟨E.rb, 0, none⟩), .int .i64 p, .int .i64 ((d' + 1 : Nat) : Int)] w fun e w' => Ans E w w' (rCnt E.H (rT false E.H d') p left) e := by
  unfold rCnt
  rw [Int.toNat_natCast]
  cases hc : cnt E.H p 8 with
  | none => exact l6Tuple_no h p hp _ hc
  | some m => exact l6Tuple_yes ih hd' h hl p hp m hc
end Go.Proofs.YtjjmikfbongccaaGreatDoor.Gn
namespace Go.Proofs.YtjjmikfbongccaaGreatDoor.Gn
open Go.RowKit
set_option linter.unusedVariables false

theorem rL_full {H : Hp} {g : Rd} {y : Nat} {x : Int} (h : x ≠ 3) : rL H g 0 x y = none := by rw [rL, if_neg h]
set_option maxHeartbeats 8000000 in
set_option maxRecDepth 100000 in
theorem l6Cons_any {E : SE} {d' : Nat} (ih : ReadC E d') (hd' : d' ≤ 6) {left : Nat} {w : World} (h : Sr E left false w) (hl : left ≤ 100) (x : Int) (hx : x ≤ 9223372036854775807) :
    Calls Tryz.prog 61 #[.pointer (some ⟨E.rb, 0, none⟩), .int .i64 x, .int .i64 ((d' + 1 : Nat) : Int)] w fun e w' => Ans E w w' (tup 5 (rL E.H (rT false E.H d') 20 x left)) e := by
  have HS : Hid (Sr E left false w) := h
  have HL : Hid (left ≤ 100) := hl
  have HT : Hid (ReadC E d') := ih
  have HX0 : Hid (x ≤ 9223372036854775807) := hx
  have hrl := h.lt
  have HM3 : Hid (mkw 3 0 = 3) := by show _ = _; decide
  obtain ⟨D, hD⟩ : ∃ D : Int, D = ((d' + 1 : Nat) : Int) := ⟨_, rfl⟩
  rw [← hD]
  have HQD : Hid (D - 1 = d') := by show _ = _; omega
  have HWR : Hid (IntKind.i64.wrap (D - 1) = d') := by show _ = _; rw [IntKind.wrap_i64]; omega
  have hD0 : 1 ≤ D := by omega
  have hD6 : D ≤ 7 := by omega
  clear h hl ih hD hx
  obtain ⟨i0, hi, hzz0, hzz1, hzz2⟩ := infoParts infoTm
  obtain ⟨G, hG⟩ : ∃ G, rL E.H (rT false E.H d') 20 x left = G := ⟨_, rfl⟩
  have HG : Hid (G = rL E.H (rT false E.H d') 20 x left) := hG.symm
  rw [hG]
  clear hG
  go_enter Tryz.func61, Tryz.ntmps61
  go_wp2_with fail
  have hbx : Below w.heap.size w (w.alloc (.cells #[.int .i64 0, .int .i64 0, .string ⟨#[]⟩, .slice none 0 0] 66)) := (Below.refl _ _).alloc (Nat.le_refl _) _
  have HG0 : Hid (GS E.e w ((w.alloc (.cells #[.int .i64 0, .int .i64 0, .string ⟨#[]⟩, .slice none 0 0] 66)).alloc (.cells #[.int .i64 5, .int .i64 0, .string ⟨#[]⟩, .slice none 0 0] 66)) (w.heap.size + 1) 5 [] (.slice none 0 0) []) := by
    have := GS.start (E := E.e) (w3 := w.alloc (.cells #[.int .i64 0, .int .i64 0, .string ⟨#[]⟩, .slice none 0 0] 66)) (Turn.of_below hbx) hrl (by rw [World.size_alloc]; exact Nat.le_refl _) rfl (fun o => World.cell?_alloc_new w _ _ o) (fun o => World.frozen?_alloc_new w _ _ o) 5
    rw [World.size_alloc] at this
    exact this
  have HS0 : Hid (Sr E left false ((w.alloc (.cells #[.int .i64 0, .int .i64 0, .string ⟨#[]⟩, .slice none 0 0] 66)).alloc (.cells #[.int .i64 5, .int .i64 0, .string ⟨#[]⟩, .slice none 0 0] 66))) := (HS.out.below hbx).below ((Below.refl _ _).alloc (Nat.le_refl _) _)
  obtain ⟨tb, htb⟩ : ∃ tb, tb = w.heap.size + 1 := ⟨_, rfl⟩
  rw [← htb] at HG0
  rw [← htb]
  have htb0 : w.heap.size < tb := by omega
  clear htb hbx
  go_loopw [1] (fun vx wr => ∃ (x : Int) (l : List Tm) (u : Value) (xs : List Value), vx = .int .i64 x ∧ x ≤ 9223372036854775807 ∧ GS E.e w wr tb 5 l u xs ∧ l.length ≤ 20 ∧ Goes E G (fun y => rL E.H (rT false E.H d') (20 - l.length) x y) l wr) (fun _ wr => 20 - lenT tb wr)
  case atStart => exact ⟨x, [], _, _, rfl, HX0.out, HG0.out, Nat.zero_le _, .inl ⟨left, HL.out, HS0.out, by rw [pre_nil]; exact HG.out⟩⟩
  case round =>
    clear HX0 HG HG0 HS0
    obtain ⟨x, l, u, xs, rfl, hx, hg, hlk, hgo⟩ := hrel
    have HX : Hid (x ≤ 9223372036854775807) := hx
    obtain ⟨ua, uc, rfl⟩ := hg.form
    have HG : Hid (GS E.e w wr tb 5 l (.slice ua l.length uc) xs) := hg
    have hrt : E.rb ≠ tb := by have : E.rb < w.heap.size := hg.old; omega
    have hrw : E.rb ≠ w.heap.size := by have : E.rb < w.heap.size := hg.old; omega
    clear hg
    rcases hgo with ⟨y, hy, hsy, hGy⟩ | ⟨hGn, z, hsz⟩
    · have HSY : Hid (Sr E y false wr) := hsy
      have HY : Hid (y ≤ 100) := hy
      have HGY : Hid (G = pre l (rL E.H (rT false E.H d') (20 - l.length) x y)) := hGy
      by_cases h3 : x = 3
      · subst h3
        have HE : Hid (G = some (l, y)) := by
          show _ = _
          rw [HGY.out, rL_end, pre, List.append_nil]
        have c5 := hsy.c5
        have t0 := HG.out.t0
        have t1 := HG.out.t1
        have t2 := HG.out.t2
        have t3 := HG.out.t3
        obtain ⟨r0, hr0⟩ := HG.out.r 0 (by decide)
        obtain ⟨r1, hr1⟩ := HG.out.r 1 (by decide)
        obtain ⟨r2, hr2⟩ := HG.out.r 2 (by decide)
        obtain ⟨r3, hr3⟩ := HG.out.r 3 (by decide)
        have hrf := HG.out.rf
        clear hsy hy hGy
        go_wp2_with (first | (go_at_call 80; refine (specMake_any 3 0 _).mono ?_; rintro e w' ⟨rfl, hw'⟩; obtain rfl := hw'.symm; rw [HM3.out]))
        obtain ⟨hv, hdd, hkk⟩ := HG.out.done (.int .i64 5) (.int .i64 0) (.string ⟨#[]⟩) (.slice ua l.length uc)
        exact bodyPost_ret (v := .agg #[.int .i64 5, .int .i64 0, .string ⟨#[]⟩, .slice ua l.length uc]) (by simp [results, Tryz.results61, go_sem, hr0, hr1, hr2, hr3]) rfl ⟨_, _, rfl, hv, hdd, .inl ⟨y, by rw [HE.out]; rfl, HS.out.same HSY.out hkk⟩⟩
      · have H3 : Hid (x ≠ 3) := h3
        have hne : (x != 3) = true := by simpa using h3
        obtain ⟨p, hp⟩ : ∃ p : Nat, valW x = p := ⟨(valW x).toNat, by have := valW_ge x; omega⟩
        have HPV : Hid (valW x = p) := hp
        have HTN : Hid ((valW x).toNat = p) := by show _ = _; rw [hp]; simp
        have HPB : Hid (p ≤ 9223372036854775000) := by
          show _ ≤ _
          have h1 := HX.out
          by_cases hx0 : 0 ≤ x
          · rw [valW_of hx0] at hp; omega
          · have : valW x = 0 := by unfold valW; rw [if_pos (by omega)]
            omega
        have k5 := hsy.c5
        have k0 := hsy.drew.c0
        have k1 := hsy.drew.c1
        have k2 := hsy.drew.c2
        clear hsy hy hGy h3 hp
        by_cases hw2 : 2 ≤ E.G.len p
        · have HA : Hid (2 ≤ E.G.len p) := hw2
          clear hw2
          go_wp2_with (first | (go_at_call 80; refine (specMake_any 3 0 _).mono ?_; rintro e w' ⟨rfl, hw'⟩; obtain rfl := hw'.symm; rw [HM3.out]))
          go_region_law (go_simp; go_wp2_with (first | (go_at_call 47; refine (specVal_any x HX.out _).mono ?_; rintro e w' ⟨rfl, rfl⟩; rw [HPV.out]) | (go_at_call 48; refine (l6Words_yes HSY.out.src.drew p 2 HA.out (by decide)).mono ?_; rintro e w3 ⟨c3, rfl, hb3⟩; have HG3 : Hid (GS E.e w w3 tb 5 l (.slice ua l.length uc) xs) := HG.out.call (Turn.undrew (Turn.of_below hb3)); have HS3 : Hid (Sr E y false w3) := HSY.out.drew.below hb3; clear hb3)))
          all_goals
            have c5 := HS3.out.c5
            have cf := HS3.out.fr
            have t0 := HG3.out.t0
            have t1 := HG3.out.t1
            have t2 := HG3.out.t2
            have t3 := HG3.out.t3
            have tf := HG3.out.tf
            have htl := HG3.out.lt
            obtain ⟨r0, hr0⟩ := HG3.out.r 0 (by decide)
            obtain ⟨r1, hr1⟩ := HG3.out.r 1 (by decide)
            obtain ⟨r2, hr2⟩ := HG3.out.r 2 (by decide)
            obtain ⟨r3, hr3⟩ := HG3.out.r 3 (by decide)
            have hrf := HG3.out.rf
            have HSB : Hid (Sr E y true (w3.setCell ⟨E.rb, 5, none⟩ (.bool true))) := HS3.out.setB true
            have HGB : Hid (GS E.e w (w3.setCell ⟨E.rb, 5, none⟩ (.bool true)) tb 5 l (.slice ua l.length uc) xs) := HG3.out.call ((Turn.refl _ _).set 5 _)
            clear k0 k1 k2 k5
            by_cases h5 : tagW x = 5
            · have HTG : Hid (tagW x = 5) := h5
              have HC : Hid (consAt E.H x) := ⟨h5, by rw [HTN.out]; exact HA.out⟩
              have hx0 : ¬ x < 0 := fun hh => by unfold tagW at h5; rw [if_pos hh] at h5; omega
              have hx0i : decide (x < 0) = false := by simp; omega
              clear h5
              by_cases hl20 : l.length < 20
              · have hln : ((l.length : Int) == 20) = false := by simp; omega
                have q0 : w3.cell? ⟨E.G.sb p, E.G.so p, none⟩ = some (.int .i64 (E.G.w p 0)) := HS3.out.at p 0 (by have := HA.out; omega)
                have HBG : Hid (E.G.w p 0 ≤ 9223372036854775807) := GE.bigw HS3.out.src _ _
                have HBG1 : Hid (E.G.w p 1 ≤ 9223372036854775807) := GE.bigw HS3.out.src _ _
                have HC3 : Hid (l.length + 1 ≤ maxLen) := by show _ ≤ _; unfold maxLen; omega
                have HC4 : Hid ((l.length + 1) * 56 ≤ 140737488355328) := by show _ ≤ _; omega
                have HKK : Hid (20 - l.length = (20 - (l.length + 1)) + 1) := by show _ = _; omega
                obtain ⟨x0, hx0'⟩ : ∃ x0, E.G.w p 0 = x0 := ⟨_, rfl⟩
                have HXX : Hid (E.H.w p 0 = x0) := hx0'
                rw [hx0'] at q0 HBG
                clear hx0'
                go_wp2_with (first | (go_at_call 49; refine (specTag_any x _).mono ?_; rintro e w' ⟨rfl, hw'⟩; obtain rfl := hw'.symm; rw [HTG.out]))
                go_region_law (first
          | (refine step_append_lies _ rfl (.tmp 53) (.tmp 61) 64 rfl (tb + 1) 66 i0 (.agg #[.int .i64 0, .int .i64 0, .string ⟨#[]⟩, .slice none 0 0]) 4 56 undTms hi hzz0 hzz1 hzz2 rfl (by decide) (.slice ua l.length uc) l.length xs (by simp [Act.eval]) (HG1.out.own.alloc _) ⟨w5.heap.size, 0, none⟩ 1 1 [.int .i64 va, .int .i64 vb, .string vc, .slice vd ve vf] (by simp [Act.eval]) rfl four8 one4 (by decide) HC3.out HC4.out (by simp; omega) _ rfl ?_; intro g6 cap6 w6 hown6 hgrow6 hat6 hlt6; obtain ⟨t36, tf6⟩ := HG1.out.grown hgrow6)
          | (go_simp; go_wp2_with (go_at_call 44; (first | rw [HWR.out] | rw [HQD.out]); refine (HT.out _ y _ HS3.out.drew HY.out HBG.out).mono ?_; rintro e w5 ⟨tt, vv, rfl, hv5, ht5, hd5⟩; obtain ⟨va, vb, vc, vd, ve, vf, rfl⟩ := hv5.form; have HG1 : Hid (GS E.e w w5 tb 5 l (.slice ua l.length uc) xs) := HG3.out.call ht5.undrew; have htl5 := HG1.out.lt; have t35 := HG1.out.t3; have tf5 := HG1.out.tf)))
                all_goals
                  obtain ⟨hg6, hk6⟩ := HG3.out.more ht5.undrew hv5 hown6 hgrow6 (by rw [World.size_alloc] at hat6; exact hat6) hlt6
                  have HG6 : Hid (GS E.e w _ tb 5 _ _ _) := hg6
                  have hgo6 : Goes E G (fun y => rL E.H (rT false E.H d') (20 - (l ++ [tt]).length) (E.G.w p 1) y) (l ++ [tt]) (w6.setCell ⟨tb, 3, none⟩ (.slice (some ⟨g6, 0, none⟩) (l.length + 1) cap6)) := by
                    rcases hd5 with ⟨y', hy', hs'⟩ | ⟨hn', z', hs'⟩
                    · refine .inl ⟨y', by have := rT_lt _ _ _ _ _ _ _ hy'; have := HY.out; omega, HS.out.same hs' (fun j hj => hk6 j (by omega)), ?_⟩
                      rw [HGY.out, HKK.out, rL_some H3.out HC.out (by rw [HTN.out, HXX.out]; exact hy'), pre_pre, HTN.out, List.length_append]
                      rfl
                    · refine .inr ⟨?_, z', HS.out.same hs' (fun j hj => hk6 j (by omega))⟩
                      rw [HGY.out, rL_none H3.out (by rw [HTN.out, HXX.out]; exact hn')]
                      rfl
                  have hsrc6 : GSrc E.G (w6.setCell ⟨tb, 3, none⟩ (.slice (some ⟨g6, 0, none⟩) (l.length + 1) cap6)) := by
                    rcases hgo6 with ⟨_, _, h, _⟩ | ⟨_, _, h⟩
                    · exact h.src
                    · exact h.src
                  have q1 := hsrc6.at p 1 (by have := HA.out; omega)
                  have HGO6 : Hid (Goes E G _ (l ++ [tt]) _) := hgo6
                  have HLG : Hid ((l ++ [tt]).length = l.length + 1) := by show _ = _; rw [List.length_append]; rfl
                  clear t36 tf6 hown6 hgrow6 hat6 hlt6 hv5 hd5 ht5 HG1 htl5 t35 tf5 hg6 hk6 hgo6 hsrc6
                  go_wp2_with fail
                  go_roundw
                  case rel => exact ⟨_, l ++ [tt], _, _, rfl, HBG1.out, HG6.out, by rw [HLG.out]; omega, HGO6.out⟩
                  case measure => rw [lenT_gs HG6.out, lenT_gs HG.out, HLG.out]; omega
              · have hln : ((l.length : Int) == 20) = true := by simp; omega
                have HGN : Hid (G = none) := by
                  show _ = _
                  rw [HGY.out, show 20 - l.length = 0 by omega, rL_full H3.out]
                  rfl
                go_wp2_with (first | (go_at_call 49; refine (specTag_any x _).mono ?_; rintro e w' ⟨rfl, hw'⟩; obtain rfl := hw'.symm; rw [HTG.out]))
                obtain ⟨hv, hdd, hkk⟩ := HGB.out.done (.int .i64 5) (.int .i64 0) (.string ⟨#[]⟩) (.slice ua l.length uc)
                exact bodyPost_ret (v := .agg #[.int .i64 5, .int .i64 0, .string ⟨#[]⟩, .slice ua l.length uc]) (by simp [results, Tryz.results61, go_sem, hr0, hr1, hr2, hr3]) rfl ⟨_, _, rfl, hv, hdd, .inr ⟨by rw [HGN.out]; rfl, _, HS.out.same HSB.out hkk⟩⟩
            · have HGN : Hid (G = none) := by show _ = _; rw [HGY.out, rL_off H3.out (fun hh => h5 hh.1)]; rfl
              have h5b : (tagW x != 5) = true := by simpa using h5
              clear h5
              by_cases hx0 : x < 0
              · go_wp2_with fail
                obtain ⟨hv, hdd, hkk⟩ := HGB.out.done (.int .i64 5) (.int .i64 0) (.string ⟨#[]⟩) (.slice ua l.length uc)
                exact bodyPost_ret (v := .agg #[.int .i64 5, .int .i64 0, .string ⟨#[]⟩, .slice ua l.length uc]) (by simp [results, Tryz.results61, go_sem, hr0, hr1, hr2, hr3]) rfl ⟨_, _, rfl, hv, hdd, .inr ⟨by rw [HGN.out]; rfl, _, HS.out.same HSB.out hkk⟩⟩
              · have hx0i : decide (x < 0) = false := by simp; omega
                go_wp2_with (first | (go_at_call 49; refine (specTag_any x _).mono ?_; rintro e w' ⟨rfl, hw'⟩; obtain rfl := hw'.symm))
                obtain ⟨hv, hdd, hkk⟩ := HGB.out.done (.int .i64 5) (.int .i64 0) (.string ⟨#[]⟩) (.slice ua l.length uc)
                exact bodyPost_ret (v := .agg #[.int .i64 5, .int .i64 0, .string ⟨#[]⟩, .slice ua l.length uc]) (by simp [results, Tryz.results61, go_sem, hr0, hr1, hr2, hr3]) rfl ⟨_, _, rfl, hv, hdd, .inr ⟨by rw [HGN.out]; rfl, _, HS.out.same HSB.out hkk⟩⟩
        · have HA : Hid (¬ 2 ≤ E.G.len p) := hw2
          have HGN : Hid (G = none) := by show _ = _; rw [HGY.out, rL_off H3.out (fun hh => HA.out (by have := hh.2; rw [HTN.out] at this; exact this))]; rfl
          clear hw2
          go_wp2_with (first | (go_at_call 80; refine (specMake_any 3 0 _).mono ?_; rintro e w' ⟨rfl, hw'⟩; obtain rfl := hw'.symm; rw [HM3.out]))
          go_region_law (go_simp; go_wp2_with (first | (go_at_call 47; refine (specVal_any x HX.out _).mono ?_; rintro e w' ⟨rfl, rfl⟩; rw [HPV.out]) | (go_at_call 48; refine (l6Words_no HSY.out.src.drew p 2 HA.out HPB.out).mono ?_; rintro e w3 ⟨⟨g3, rfl⟩, hb3⟩; have HG3 : Hid (GS E.e w w3 tb 5 l (.slice ua l.length uc) xs) := HG.out.call (Turn.undrew (Turn.of_below hb3)); have HS3 : Hid (Sr E y false w3) := HSY.out.drew.below hb3; clear hb3)))
          all_goals
            have c5 := HS3.out.c5
            have cf := HS3.out.fr
            have t0 := HG3.out.t0
            have t1 := HG3.out.t1
            have t2 := HG3.out.t2
            have t3 := HG3.out.t3
            have tf := HG3.out.tf
            have htl := HG3.out.lt
            obtain ⟨r0, hr0⟩ := HG3.out.r 0 (by decide)
            obtain ⟨r1, hr1⟩ := HG3.out.r 1 (by decide)
            obtain ⟨r2, hr2⟩ := HG3.out.r 2 (by decide)
            obtain ⟨r3, hr3⟩ := HG3.out.r 3 (by decide)
            have hrf := HG3.out.rf
            have HSB : Hid (Sr E y true (w3.setCell ⟨E.rb, 5, none⟩ (.bool true))) := HS3.out.setB true
            have HGB : Hid (GS E.e w (w3.setCell ⟨E.rb, 5, none⟩ (.bool true)) tb 5 l (.slice ua l.length uc) xs) := HG3.out.call ((Turn.refl _ _).set 5 _)
            clear k0 k1 k2 k5
            go_wp2_with fail
            obtain ⟨hv, hdd, hkk⟩ := HGB.out.done (.int .i64 5) (.int .i64 0) (.string ⟨#[]⟩) (.slice ua l.length uc)
            exact bodyPost_ret (v := .agg #[.int .i64 5, .int .i64 0, .string ⟨#[]⟩, .slice ua l.length uc]) (by simp [results, Tryz.results61, go_sem, hr0, hr1, hr2, hr3]) rfl ⟨_, _, rfl, hv, hdd, .inr ⟨by rw [HGN.out]; rfl, _, HS.out.same HSB.out hkk⟩⟩
    · have c5 := hsz.c5
      have HSZ : Hid (Sr E z true wr) := hsz
      have HGN : Hid (G = none) := hGn
      have t0 := HG.out.t0
      have t1 := HG.out.t1
      have t2 := HG.out.t2
      have t3 := HG.out.t3
      obtain ⟨r0, hr0⟩ := HG.out.r 0 (by decide)
      obtain ⟨r1, hr1⟩ := HG.out.r 1 (by decide)
      obtain ⟨r2, hr2⟩ := HG.out.r 2 (by decide)
      obtain ⟨r3, hr3⟩ := HG.out.r 3 (by decide)
      have hrf := HG.out.rf
      clear hsz hGn
      go_wp2_with fail
      obtain ⟨hv, hdd, hkk⟩ := HG.out.done (.int .i64 5) (.int .i64 0) (.string ⟨#[]⟩) (.slice ua l.length uc)
      exact bodyPost_ret (v := .agg #[.int .i64 5, .int .i64 0, .string ⟨#[]⟩, .slice ua l.length uc]) (by simp [results, Tryz.results61, go_sem, hr0, hr1, hr2, hr3]) rfl ⟨_, _, rfl, hv, hdd, .inr ⟨by rw [HGN.out]; rfl, z, HS.out.same HSZ.out hkk⟩⟩
end Go.Proofs.YtjjmikfbongccaaGreatDoor.Gn
namespace Go.Proofs.YtjjmikfbongccaaGreatDoor.Gn
open Go.RowKit
set_option linter.unusedVariables false

/-- What l6Read answers at one word. -/
def RdAt (E : SE) (D : Int) (w : World) (x : Int) (R : Option (Tm × Nat)) : Prop :=
  Calls Tryz.prog 44 #[.pointer (some ⟨E.rb, 0, none⟩), .int .i64 x, .int .i64 D] w fun e w' => Ans E w w' R e
theorem boxG {E : SE} {left : Int} {bad : Bool} {w w1 : World} (h : Sr E left bad w) (c : Array Value) (t : TypeId) (k : Int) (e : w1 = (w.alloc (.cells c t)).setCell ⟨E.rb, 4, none⟩ (.int .i64 k)) :
    w1.heap.size = w.heap.size + 1 ∧ (∀ o, w1.cell? ⟨w.heap.size, o, none⟩ = c[o]?) ∧ (∀ o, w1.frozen? ⟨w.heap.size, o, none⟩ = false) ∧ Turn E.rb w w1 ∧ Sr E k bad w1 ∧ E.rb ≠ w.heap.size := by
  have hlt := h.lt
  subst e
  have hb : Below w.heap.size w (w.alloc (.cells c t)) := (Below.refl _ _).alloc (Nat.le_refl _) _
  refine ⟨by rw [World.size_setCell, World.size_alloc], fun o => ?_, fun o => ?_, ((Turn.of_below hb).set 4 _), (h.below hb).setL k, by omega⟩
  · rw [World.cell?_setCell_other (h := fun e => by simp only [Addr.mk.injEq] at e; omega)]
    exact World.cell?_alloc_new w c t o
  · rw [World.frozen?_setCell]
    exact World.frozen?_alloc_new w _ _ o
set_option maxHeartbeats 2000000 in
set_option maxRecDepth 100000 in
theorem read_refuse {E : SE} {left : Nat} (hl : left ≤ 100) {w : World} (h : Sr E left false w) (x : Int) (hx : x ≤ 9223372036854775807) (D : Int) (hD : 0 ≤ D ∧ D ≤ 7) (hr : x < 0 ∨ (0 ≤ x ∧ D < 1) ∨ (0 ≤ x ∧ 1 ≤ D ∧ left = 0)) : RdAt E D w x none := by
  have hD0 := hD.1
  have hD7 := hD.2
  have hl1 : (left : Int) ≤ 100 := by omega
  have hb : Below w.heap.size w (w.alloc (.cells #[.int .i64 0, .int .i64 0, .string ⟨#[]⟩, .slice none 0 0] 66)) := (Below.refl _ _).alloc (Nat.le_refl _) _
  have hs1 := h.below hb
  have c4 := hs1.c4
  have c5 := hs1.c5
  have cf := hs1.fr
  have q1 : ∀ o, (w.alloc (.cells #[.int .i64 0, .int .i64 0, .string ⟨#[]⟩, .slice none 0 0] 66)).cell? ⟨w.heap.size, o, none⟩ = (#[.int .i64 0, .int .i64 0, .string ⟨#[]⟩, .slice none 0 0] : Array Value)[o]? := fun o => World.cell?_alloc_new w _ _ o
  have hne : E.rb ≠ w.heap.size := by have := h.lt; omega
  have HSB0 : Hid (∀ k : Int, Sr E k true (((w.alloc (.cells #[.int .i64 0, .int .i64 0, .string ⟨#[]⟩, .slice none 0 0] 66)).setCell ⟨E.rb, 4, none⟩ (.int .i64 k)).setCell ⟨E.rb, 5, none⟩ (.bool true))) := fun k => (hs1.setL k).setB true
  have HTB0 : Hid (∀ k : Int, Turn E.rb w (((w.alloc (.cells #[.int .i64 0, .int .i64 0, .string ⟨#[]⟩, .slice none 0 0] 66)).setCell ⟨E.rb, 4, none⟩ (.int .i64 k)).setCell ⟨E.rb, 5, none⟩ (.bool true))) := fun k => ((Turn.of_below hb).set 4 _).set 5 _
  have HFB : Hid (∀ k : Int, Sr E k true (((w.alloc (.cells #[.int .i64 0, .int .i64 0, .string ⟨#[]⟩, .slice none 0 0] 66)).setCell ⟨E.rb, 4, none⟩ (.int .i64 k)).setCell ⟨E.rb, 5, none⟩ (.bool true)) ∧ Turn E.rb w (((w.alloc (.cells #[.int .i64 0, .int .i64 0, .string ⟨#[]⟩, .slice none 0 0] 66)).setCell ⟨E.rb, 4, none⟩ (.int .i64 k)).setCell ⟨E.rb, 5, none⟩ (.bool true)) ∧ (∀ o, (((w.alloc (.cells #[.int .i64 0, .int .i64 0, .string ⟨#[]⟩, .slice none 0 0] 66)).setCell ⟨E.rb, 4, none⟩ (.int .i64 k)).setCell ⟨E.rb, 5, none⟩ (.bool true)).cell? ⟨w.heap.size, o, none⟩ = (#[.int .i64 0, .int .i64 0, .string ⟨#[]⟩, .slice none 0 0] : Array Value)[o]?)) := fun k =>
    ⟨HSB0.out k, HTB0.out k, fun o => by
      rw [World.cell?_setCell_other (h := fun e => by simp only [Addr.mk.injEq] at e; omega), World.cell?_setCell_other (h := fun e => by simp only [Addr.mk.injEq] at e; omega)]
      exact q1 o⟩
  have HS : Hid (Sr E left false w) := h
  clear hD h hx hs1 hb HSB0 HTB0
  rcases hr with hr | ⟨hr, hr2⟩ | ⟨hr, hr2, hr3⟩
  · unfold RdAt
    go_enter Tryz.func44, Tryz.ntmps44
    go_wp2_with fail
    obtain ⟨hs2, ht2, hq2⟩ := HFB.out ((left : Int) - 1)
    generalize (((w.alloc (.cells #[.int .i64 0, .int .i64 0, .string ⟨#[]⟩, .slice none 0 0] 66)).setCell ⟨E.rb, 4, none⟩ (.int .i64 ((left : Int) - 1))).setCell ⟨E.rb, 5, none⟩ (.bool true)) = W2 at hs2 ht2 hq2 ⊢
    obtain ⟨a1, a2, a3⟩ := sbox_out (E := E.e) ht2 (YtjjmikfbongccaaGreatDoor.rp_leaf 0 0 ByteArray.empty (Nat.zero_le _)) (.int .i64 0) (.int .i64 0) (.string ⟨#[]⟩) (.slice none 0 0)
    have hfin : Ans E w (lay4 W2 w.heap.size (.int .i64 0) (.int .i64 0) (.string ⟨#[]⟩) (.slice none 0 0)) none (.returned (.agg #[.int .i64 0, .int .i64 0, .string ⟨#[]⟩, .slice none 0 0])) := ⟨_, _, rfl, a2, a1, .inr ⟨rfl, _, HS.out.same hs2 a3⟩⟩
    exact bodyPost_ret (v := .agg #[.int .i64 0, .int .i64 0, .string ⟨#[]⟩, .slice none 0 0]) (by simp [results, Tryz.results44, go_sem, hq2]) rfl hfin
  · unfold RdAt
    go_enter Tryz.func44, Tryz.ntmps44
    go_wp2_with fail
    obtain ⟨hs2, ht2, hq2⟩ := HFB.out ((left : Int) - 1)
    generalize (((w.alloc (.cells #[.int .i64 0, .int .i64 0, .string ⟨#[]⟩, .slice none 0 0] 66)).setCell ⟨E.rb, 4, none⟩ (.int .i64 ((left : Int) - 1))).setCell ⟨E.rb, 5, none⟩ (.bool true)) = W2 at hs2 ht2 hq2 ⊢
    obtain ⟨a1, a2, a3⟩ := sbox_out (E := E.e) ht2 (YtjjmikfbongccaaGreatDoor.rp_leaf 0 0 ByteArray.empty (Nat.zero_le _)) (.int .i64 0) (.int .i64 0) (.string ⟨#[]⟩) (.slice none 0 0)
    have hfin : Ans E w (lay4 W2 w.heap.size (.int .i64 0) (.int .i64 0) (.string ⟨#[]⟩) (.slice none 0 0)) none (.returned (.agg #[.int .i64 0, .int .i64 0, .string ⟨#[]⟩, .slice none 0 0])) := ⟨_, _, rfl, a2, a1, .inr ⟨rfl, _, HS.out.same hs2 a3⟩⟩
    exact bodyPost_ret (v := .agg #[.int .i64 0, .int .i64 0, .string ⟨#[]⟩, .slice none 0 0]) (by simp [results, Tryz.results44, go_sem, hq2]) rfl hfin
  · subst hr3
    unfold RdAt
    go_enter Tryz.func44, Tryz.ntmps44
    go_wp2_with fail
    obtain ⟨hs2, ht2, hq2⟩ := HFB.out (-1)
    generalize (((w.alloc (.cells #[.int .i64 0, .int .i64 0, .string ⟨#[]⟩, .slice none 0 0] 66)).setCell ⟨E.rb, 4, none⟩ (.int .i64 (-1))).setCell ⟨E.rb, 5, none⟩ (.bool true)) = W2 at hs2 ht2 hq2 ⊢
    obtain ⟨a1, a2, a3⟩ := sbox_out (E := E.e) ht2 (YtjjmikfbongccaaGreatDoor.rp_leaf 0 0 ByteArray.empty (Nat.zero_le _)) (.int .i64 0) (.int .i64 0) (.string ⟨#[]⟩) (.slice none 0 0)
    have hfin : Ans E w (lay4 W2 w.heap.size (.int .i64 0) (.int .i64 0) (.string ⟨#[]⟩) (.slice none 0 0)) none (.returned (.agg #[.int .i64 0, .int .i64 0, .string ⟨#[]⟩, .slice none 0 0])) := ⟨_, _, rfl, a2, a1, .inr ⟨rfl, _, HS.out.same hs2 a3⟩⟩
    exact bodyPost_ret (v := .agg #[.int .i64 0, .int .i64 0, .string ⟨#[]⟩, .slice none 0 0]) (by simp [results, Tryz.results44, go_sem, hq2]) rfl hfin
set_option maxHeartbeats 2000000 in
set_option maxRecDepth 100000 in
theorem read_6 {E : SE} {k : Nat} (hk : k ≤ 100) {w : World} (h : Sr E ((k + 1 : Nat) : Int) false w) (x : Int) (hx : x ≤ 9223372036854775807) (h0 : 0 ≤ x) (D : Int) (hD : 1 ≤ D ∧ D ≤ 7) (ht : tagW x = 6) (R : Option (Tm × Nat)) (hR : rBin E.H (valW x) k = R) : RdAt E D w x R := by
  have HS : Hid (Sr E ((k + 1 : Nat) : Int) false w) := h
  have hD1 := hD.1
  have hD7 := hD.2
  have HX : Hid (x ≤ 9223372036854775807) := hx
  obtain ⟨p, hp⟩ : ∃ p : Nat, valW x = p := ⟨(valW x).toNat, by have := valW_ge x; omega⟩
  have HPV : Hid (valW x = p) := hp
  have HTG : Hid (tagW x = 6) := ht
  have HPB : Hid (p ≤ 9223372036854774000) := by
    show _ ≤ _
    rw [valW_of h0] at hp; omega
  have hk1 : (k : Int) ≤ 100 := by omega
  have HKL : Hid (k ≤ 100) := hk
  have hb0 : Below w.heap.size w (w.alloc (.cells #[.int .i64 0, .int .i64 0, .string ⟨#[]⟩, .slice none 0 0] 66)) := (Below.refl _ _).alloc (Nat.le_refl _) _
  have c4 := (h.below hb0).c4
  have cf := (h.below hb0).fr
  have hne0 : E.rb ≠ w.heap.size := by have := h.lt; omega
  have HRR : Hid (rBin E.H (p : Int) k = R) := by show _ = _; rw [← hp]; exact hR
  clear h hx ht hD hb0 hp
  unfold RdAt
  go_enter Tryz.func44, Tryz.ntmps44
  go_wp2_with fail
  refine (specTag_any x _).mono ?_
  rintro e w1 ⟨rfl, hw1⟩
  rw [HTG.out]
  obtain ⟨hz1, q1, f1, ht1, hs1, hne⟩ := boxG HS.out _ _ _ hw1
  have HT1 : Hid (Turn E.rb w w1) := ht1
  have HS1 : Hid (Sr E k false w1) := hs1
  have HB1 : Hid (∀ o, w1.cell? ⟨w.heap.size, o, none⟩ = (#[.int .i64 0, .int .i64 0, .string ⟨#[]⟩, .slice none 0 0] : Array Value)[o]?) := q1
  clear hw1 ht1 hs1 c4 cf
  go_wp2_with fail
  refine (specVal_any x HX.out _).mono ?_
  rintro e w' ⟨rfl, hw'⟩
  obtain rfl := hw'.symm
  rw [HPV.out]
  go_wp2_with fail
  refine (l6Bin_any HS1.out p HPB.out).mono ?_
  rw [HRR.out]
  rintro e w5 ⟨tt, vv, rfl, hv5, ht5, hd5⟩
  obtain ⟨va, vb, vc, vd, ve, vf, rfl⟩ := hv5.form
  obtain ⟨q5, f5⟩ := ht5.keep hne (by omega) q1 f1
  have HV5 : Hid (RpV (fun b => w.heap.size + 1 ≤ b) w5 tt (.agg #[.int .i64 va, .int .i64 vb, .string vc, .slice vd ve vf])) := (by rw [← hz1]; exact hv5)
  have HT5 : Hid (Turn E.rb w w5) := HT1.out.trans ht5
  have HD5 : Hid ((∃ y : Nat, R = some (tt, y) ∧ Sr E y false w5) ∨ (R = none ∧ ∃ z : Int, Sr E z true w5)) := hd5
  clear hv5 ht5 hd5 hz1 q1 f1
  go_wp2_with fail
  obtain ⟨a1, a2, a3⟩ := sbox_out (E := E.e) HT5.out HV5.out (.int .i64 va) (.int .i64 vb) (.string vc) (.slice vd ve vf)
  have hfin : Ans E w (lay4 w5 w.heap.size (.int .i64 va) (.int .i64 vb) (.string vc) (.slice vd ve vf)) R (.returned (.agg #[.int .i64 va, .int .i64 vb, .string vc, .slice vd ve vf])) := by
    refine ⟨_, _, rfl, a2, a1, ?_⟩
    rcases HD5.out with ⟨y, h1, h2⟩ | ⟨h1, z, h2⟩
    · exact .inl ⟨y, h1, HS.out.same h2 a3⟩
    · exact .inr ⟨h1, z, HS.out.same h2 a3⟩
  exact bodyPost_ret (v := .agg #[.int .i64 va, .int .i64 vb, .string vc, .slice vd ve vf]) (by simp [results, Tryz.results44, go_sem, q5]) rfl hfin
set_option maxHeartbeats 2000000 in
set_option maxRecDepth 100000 in
theorem read_4 {E : SE} {d' : Nat} (ih : ReadC E d') (hd' : d' ≤ 6) {k : Nat} (hk : k ≤ 100) {w : World} (h : Sr E ((k + 1 : Nat) : Int) false w) (x : Int) (hx : x ≤ 9223372036854775807) (h0 : 0 ≤ x) (D : Int) (hD : 1 ≤ D ∧ D ≤ 7) (ht : tagW x = 4) (hDD : D = ((d' + 1 : Nat) : Int)) (R : Option (Tm × Nat)) (hR : rCnt E.H (rT false E.H d') (valW x) k = R) : RdAt E D w x R := by
  have HS : Hid (Sr E ((k + 1 : Nat) : Int) false w) := h
  have hD1 := hD.1
  have hD7 := hD.2
  have HX : Hid (x ≤ 9223372036854775807) := hx
  obtain ⟨p, hp⟩ : ∃ p : Nat, valW x = p := ⟨(valW x).toNat, by have := valW_ge x; omega⟩
  have HPV : Hid (valW x = p) := hp
  have HTG : Hid (tagW x = 4) := ht
  have HPB : Hid (p ≤ 9223372036854774000) := by
    show _ ≤ _
    rw [valW_of h0] at hp; omega
  have hk1 : (k : Int) ≤ 100 := by omega
  have HKL : Hid (k ≤ 100) := hk
  have hb0 : Below w.heap.size w (w.alloc (.cells #[.int .i64 0, .int .i64 0, .string ⟨#[]⟩, .slice none 0 0] 66)) := (Below.refl _ _).alloc (Nat.le_refl _) _
  have c4 := (h.below hb0).c4
  have cf := (h.below hb0).fr
  have hne0 : E.rb ≠ w.heap.size := by have := h.lt; omega
  have HRR : Hid (rCnt E.H (rT false E.H d') (p : Int) k = R) := by show _ = _; rw [← hp]; exact hR
  have HT : Hid (ReadC E d') := ih
  have HDD : Hid (D = ((d' + 1 : Nat) : Int)) := hDD
  clear hDD ih
  clear h hx ht hD hb0 hp
  unfold RdAt
  go_enter Tryz.func44, Tryz.ntmps44
  go_wp2_with fail
  refine (specTag_any x _).mono ?_
  rintro e w1 ⟨rfl, hw1⟩
  rw [HTG.out]
  obtain ⟨hz1, q1, f1, ht1, hs1, hne⟩ := boxG HS.out _ _ _ hw1
  have HT1 : Hid (Turn E.rb w w1) := ht1
  have HS1 : Hid (Sr E k false w1) := hs1
  have HB1 : Hid (∀ o, w1.cell? ⟨w.heap.size, o, none⟩ = (#[.int .i64 0, .int .i64 0, .string ⟨#[]⟩, .slice none 0 0] : Array Value)[o]?) := q1
  clear hw1 ht1 hs1 c4 cf
  go_wp2_with fail
  refine (specVal_any x HX.out _).mono ?_
  rintro e w' ⟨rfl, hw'⟩
  obtain rfl := hw'.symm
  rw [HPV.out]
  go_wp2_with fail
  rw [HDD.out]
  refine (l6Tuple_any HT.out hd' HS1.out HKL.out p HPB.out).mono ?_
  rw [HRR.out]
  rintro e w5 ⟨tt, vv, rfl, hv5, ht5, hd5⟩
  obtain ⟨va, vb, vc, vd, ve, vf, rfl⟩ := hv5.form
  obtain ⟨q5, f5⟩ := ht5.keep hne (by omega) q1 f1
  have HV5 : Hid (RpV (fun b => w.heap.size + 1 ≤ b) w5 tt (.agg #[.int .i64 va, .int .i64 vb, .string vc, .slice vd ve vf])) := (by rw [← hz1]; exact hv5)
  have HT5 : Hid (Turn E.rb w w5) := HT1.out.trans ht5
  have HD5 : Hid ((∃ y : Nat, R = some (tt, y) ∧ Sr E y false w5) ∨ (R = none ∧ ∃ z : Int, Sr E z true w5)) := hd5
  clear hv5 ht5 hd5 hz1 q1 f1
  go_wp2_with fail
  obtain ⟨a1, a2, a3⟩ := sbox_out (E := E.e) HT5.out HV5.out (.int .i64 va) (.int .i64 vb) (.string vc) (.slice vd ve vf)
  have hfin : Ans E w (lay4 w5 w.heap.size (.int .i64 va) (.int .i64 vb) (.string vc) (.slice vd ve vf)) R (.returned (.agg #[.int .i64 va, .int .i64 vb, .string vc, .slice vd ve vf])) := by
    refine ⟨_, _, rfl, a2, a1, ?_⟩
    rcases HD5.out with ⟨y, h1, h2⟩ | ⟨h1, z, h2⟩
    · exact .inl ⟨y, h1, HS.out.same h2 a3⟩
    · exact .inr ⟨h1, z, HS.out.same h2 a3⟩
  exact bodyPost_ret (v := .agg #[.int .i64 va, .int .i64 vb, .string vc, .slice vd ve vf]) (by simp [results, Tryz.results44, go_sem, q5]) rfl hfin
set_option maxHeartbeats 2000000 in
set_option maxRecDepth 100000 in
theorem read_3 {E : SE} {d' : Nat} (ih : ReadC E d') (hd' : d' ≤ 6) {k : Nat} (hk : k ≤ 100) {w : World} (h : Sr E ((k + 1 : Nat) : Int) false w) (x : Int) (hx : x ≤ 9223372036854775807) (h0 : 0 ≤ x) (D : Int) (hD : 1 ≤ D ∧ D ≤ 7) (ht : tagW x = 3) (hDD : D = ((d' + 1 : Nat) : Int)) (R : Option (Tm × Nat)) (hR : tup 5 (rL E.H (rT false E.H d') 20 x k) = R) : RdAt E D w x R := by
  have HS : Hid (Sr E ((k + 1 : Nat) : Int) false w) := h
  have hD1 := hD.1
  have hD7 := hD.2
  have HX : Hid (x ≤ 9223372036854775807) := hx
  obtain ⟨p, hp⟩ : ∃ p : Nat, valW x = p := ⟨(valW x).toNat, by have := valW_ge x; omega⟩
  have HPV : Hid (valW x = p) := hp
  have HTG : Hid (tagW x = 3) := ht
  have HPB : Hid (p ≤ 9223372036854774000) := by
    show _ ≤ _
    rw [valW_of h0] at hp; omega
  have hk1 : (k : Int) ≤ 100 := by omega
  have HKL : Hid (k ≤ 100) := hk
  have hb0 : Below w.heap.size w (w.alloc (.cells #[.int .i64 0, .int .i64 0, .string ⟨#[]⟩, .slice none 0 0] 66)) := (Below.refl _ _).alloc (Nat.le_refl _) _
  have c4 := (h.below hb0).c4
  have cf := (h.below hb0).fr
  have hne0 : E.rb ≠ w.heap.size := by have := h.lt; omega
  have HRR : Hid (tup 5 (rL E.H (rT false E.H d') 20 x k) = R) := hR
  have HT : Hid (ReadC E d') := ih
  have HDD : Hid (D = ((d' + 1 : Nat) : Int)) := hDD
  clear hDD ih
  clear h hx ht hD hb0 hp
  unfold RdAt
  go_enter Tryz.func44, Tryz.ntmps44
  go_wp2_with fail
  refine (specTag_any x _).mono ?_
  rintro e w1 ⟨rfl, hw1⟩
  rw [HTG.out]
  obtain ⟨hz1, q1, f1, ht1, hs1, hne⟩ := boxG HS.out _ _ _ hw1
  have HT1 : Hid (Turn E.rb w w1) := ht1
  have HS1 : Hid (Sr E k false w1) := hs1
  have HB1 : Hid (∀ o, w1.cell? ⟨w.heap.size, o, none⟩ = (#[.int .i64 0, .int .i64 0, .string ⟨#[]⟩, .slice none 0 0] : Array Value)[o]?) := q1
  clear hw1 ht1 hs1 c4 cf
  go_wp2_with fail
  rw [HDD.out]
  refine (l6Cons_any HT.out hd' HS1.out HKL.out x HX.out).mono ?_
  rw [HRR.out]
  rintro e w5 ⟨tt, vv, rfl, hv5, ht5, hd5⟩
  obtain ⟨va, vb, vc, vd, ve, vf, rfl⟩ := hv5.form
  obtain ⟨q5, f5⟩ := ht5.keep hne (by omega) q1 f1
  have HV5 : Hid (RpV (fun b => w.heap.size + 1 ≤ b) w5 tt (.agg #[.int .i64 va, .int .i64 vb, .string vc, .slice vd ve vf])) := (by rw [← hz1]; exact hv5)
  have HT5 : Hid (Turn E.rb w w5) := HT1.out.trans ht5
  have HD5 : Hid ((∃ y : Nat, R = some (tt, y) ∧ Sr E y false w5) ∨ (R = none ∧ ∃ z : Int, Sr E z true w5)) := hd5
  clear hv5 ht5 hd5 hz1 q1 f1
  go_wp2_with fail
  obtain ⟨a1, a2, a3⟩ := sbox_out (E := E.e) HT5.out HV5.out (.int .i64 va) (.int .i64 vb) (.string vc) (.slice vd ve vf)
  have hfin : Ans E w (lay4 w5 w.heap.size (.int .i64 va) (.int .i64 vb) (.string vc) (.slice vd ve vf)) R (.returned (.agg #[.int .i64 va, .int .i64 vb, .string vc, .slice vd ve vf])) := by
    refine ⟨_, _, rfl, a2, a1, ?_⟩
    rcases HD5.out with ⟨y, h1, h2⟩ | ⟨h1, z, h2⟩
    · exact .inl ⟨y, h1, HS.out.same h2 a3⟩
    · exact .inr ⟨h1, z, HS.out.same h2 a3⟩
  exact bodyPost_ret (v := .agg #[.int .i64 va, .int .i64 vb, .string vc, .slice vd ve vf]) (by simp [results, Tryz.results44, go_sem, q5]) rfl hfin
set_option maxHeartbeats 2000000 in
set_option maxRecDepth 100000 in
theorem read_5 {E : SE} {d' : Nat} (ih : ReadC E d') (hd' : d' ≤ 6) {k : Nat} (hk : k ≤ 100) {w : World} (h : Sr E ((k + 1 : Nat) : Int) false w) (x : Int) (hx : x ≤ 9223372036854775807) (h0 : 0 ≤ x) (D : Int) (hD : 1 ≤ D ∧ D ≤ 7) (ht : tagW x = 5) (hDD : D = ((d' + 1 : Nat) : Int)) (R : Option (Tm × Nat)) (hR : tup 5 (rL E.H (rT false E.H d') 20 x k) = R) : RdAt E D w x R := by
  have HS : Hid (Sr E ((k + 1 : Nat) : Int) false w) := h
  have hD1 := hD.1
  have hD7 := hD.2
  have HX : Hid (x ≤ 9223372036854775807) := hx
  obtain ⟨p, hp⟩ : ∃ p : Nat, valW x = p := ⟨(valW x).toNat, by have := valW_ge x; omega⟩
  have HPV : Hid (valW x = p) := hp
  have HTG : Hid (tagW x = 5) := ht
  have HPB : Hid (p ≤ 9223372036854774000) := by
    show _ ≤ _
    rw [valW_of h0] at hp; omega
  have hk1 : (k : Int) ≤ 100 := by omega
  have HKL : Hid (k ≤ 100) := hk
  have hb0 : Below w.heap.size w (w.alloc (.cells #[.int .i64 0, .int .i64 0, .string ⟨#[]⟩, .slice none 0 0] 66)) := (Below.refl _ _).alloc (Nat.le_refl _) _
  have c4 := (h.below hb0).c4
  have cf := (h.below hb0).fr
  have hne0 : E.rb ≠ w.heap.size := by have := h.lt; omega
  have HRR : Hid (tup 5 (rL E.H (rT false E.H d') 20 x k) = R) := hR
  have HT : Hid (ReadC E d') := ih
  have HDD : Hid (D = ((d' + 1 : Nat) : Int)) := hDD
  clear hDD ih
  clear h hx ht hD hb0 hp
  unfold RdAt
  go_enter Tryz.func44, Tryz.ntmps44
  go_wp2_with fail
  refine (specTag_any x _).mono ?_
  rintro e w1 ⟨rfl, hw1⟩
  rw [HTG.out]
  obtain ⟨hz1, q1, f1, ht1, hs1, hne⟩ := boxG HS.out _ _ _ hw1
  have HT1 : Hid (Turn E.rb w w1) := ht1
  have HS1 : Hid (Sr E k false w1) := hs1
  have HB1 : Hid (∀ o, w1.cell? ⟨w.heap.size, o, none⟩ = (#[.int .i64 0, .int .i64 0, .string ⟨#[]⟩, .slice none 0 0] : Array Value)[o]?) := q1
  clear hw1 ht1 hs1 c4 cf
  go_wp2_with fail
  rw [HDD.out]
  refine (l6Cons_any HT.out hd' HS1.out HKL.out x HX.out).mono ?_
  rw [HRR.out]
  rintro e w5 ⟨tt, vv, rfl, hv5, ht5, hd5⟩
  obtain ⟨va, vb, vc, vd, ve, vf, rfl⟩ := hv5.form
  obtain ⟨q5, f5⟩ := ht5.keep hne (by omega) q1 f1
  have HV5 : Hid (RpV (fun b => w.heap.size + 1 ≤ b) w5 tt (.agg #[.int .i64 va, .int .i64 vb, .string vc, .slice vd ve vf])) := (by rw [← hz1]; exact hv5)
  have HT5 : Hid (Turn E.rb w w5) := HT1.out.trans ht5
  have HD5 : Hid ((∃ y : Nat, R = some (tt, y) ∧ Sr E y false w5) ∨ (R = none ∧ ∃ z : Int, Sr E z true w5)) := hd5
  clear hv5 ht5 hd5 hz1 q1 f1
  go_wp2_with fail
  obtain ⟨a1, a2, a3⟩ := sbox_out (E := E.e) HT5.out HV5.out (.int .i64 va) (.int .i64 vb) (.string vc) (.slice vd ve vf)
  have hfin : Ans E w (lay4 w5 w.heap.size (.int .i64 va) (.int .i64 vb) (.string vc) (.slice vd ve vf)) R (.returned (.agg #[.int .i64 va, .int .i64 vb, .string vc, .slice vd ve vf])) := by
    refine ⟨_, _, rfl, a2, a1, ?_⟩
    rcases HD5.out with ⟨y, h1, h2⟩ | ⟨h1, z, h2⟩
    · exact .inl ⟨y, h1, HS.out.same h2 a3⟩
    · exact .inr ⟨h1, z, HS.out.same h2 a3⟩
  exact bodyPost_ret (v := .agg #[.int .i64 va, .int .i64 vb, .string vc, .slice vd ve vf]) (by simp [results, Tryz.results44, go_sem, q5]) rfl hfin
end Go.Proofs.YtjjmikfbongccaaGreatDoor.Gn
namespace Go.Proofs.YtjjmikfbongccaaGreatDoor.Gn
open Go.RowKit
set_option linter.unusedVariables false

/-- A word that leads nowhere, by the elder reader. -/
theorem leaf_raw (H : Hp) (g g0 : Rd) (f : Nat → Int) (x : Int) (k : Nat) (ht : tagW x = 0 ∨ tagW x = 1 ∨ tagW x = 2 ∨ tagW x = 7) :
    (∀ t y, YtjjmikfbongccaaGreatDoor.raw false ⟨0, f, H.A⟩ g0 x 0 = some (t, y) → raw false H g x k = some (t, k)) ∧ (YtjjmikfbongccaaGreatDoor.raw false ⟨0, f, H.A⟩ g0 x 0 = none → raw false H g x k = none) := by
  rcases ht with ht | ht | ht | ht
  · unfold YtjjmikfbongccaaGreatDoor.raw raw
    rw [if_pos ht, if_pos ht]
    split
    · exact ⟨fun t y h => (by cases h), fun _ => rfl⟩
    · refine ⟨fun t y h => ?_, fun h => (by cases h)⟩
      simp only [Option.some.injEq, Prod.mk.injEq] at h
      rw [h.1]
  · unfold YtjjmikfbongccaaGreatDoor.raw raw
    rw [if_neg (by omega), if_pos ht, if_neg (by omega), if_pos ht]
    unfold YtjjmikfbongccaaGreatDoor.rAtom rAtom
    by_cases hv : valW x < H.A.length
    · rw [if_pos hv, if_pos (show valW x < ((⟨0, f, H.A⟩ : YtjjmikfbongccaaGreatDoor.Hp).A.length : Int) from hv)]
      refine ⟨fun t y h => ?_, fun h => (by cases h)⟩
      simp only [Option.some.injEq, Prod.mk.injEq] at h
      rw [h.1]
    · rw [if_neg hv, if_neg (show ¬ valW x < ((⟨0, f, H.A⟩ : YtjjmikfbongccaaGreatDoor.Hp).A.length : Int) from hv)]
      exact ⟨fun t y h => (by cases h), fun _ => rfl⟩
  · unfold YtjjmikfbongccaaGreatDoor.raw raw
    rw [if_neg (by omega), if_neg (by omega), if_pos ht, if_neg (by omega), if_neg (by omega), if_pos ht]
    refine ⟨fun t y h => ?_, fun h => (by cases h)⟩
    simp only [Option.some.injEq, Prod.mk.injEq] at h
    rw [h.1]
  · unfold YtjjmikfbongccaaGreatDoor.raw raw
    rw [if_neg (by omega), if_neg (by omega), if_neg (by omega), if_neg (by omega), if_neg (by omega), if_pos ht, if_neg (by omega), if_neg (by omega), if_neg (by omega), if_neg (by omega), if_neg (by omega), if_pos ht]
    exact ⟨fun t y h => (by cases h), fun _ => rfl⟩
/-- The elder reader, without words. -/
abbrev E5 (E : SE) (rb : Nat) : YtjjmikfbongccaaGreatDoor.Env := ⟨⟨0, fun _ => 0, E.G.A⟩, rb, none, 0, 0, 0, E.G.av, E.G.ab, E.G.ao, E.G.acap⟩
theorem plain_in {E : SE} {left : Int} {bad : Bool} {w1 : World} (h : Sr E left bad w1) : YtjjmikfbongccaaGreatDoor.Sr (E5 E w1.heap.size) 1 false (w1.alloc (.cells #[.slice none 0 0, .slice E.G.av E.G.A.length E.G.acap, .int .i64 1, .bool false] 102)) := by
  have hb : Below w1.heap.size w1 (w1.alloc (.cells #[.slice none 0 0, .slice E.G.av E.G.A.length E.G.acap, .int .i64 1, .bool false] 102)) := (Below.refl _ _).alloc (Nat.le_refl _) _
  have q : ∀ o, (w1.alloc (.cells #[.slice none 0 0, .slice E.G.av E.G.A.length E.G.acap, .int .i64 1, .bool false] 102)).cell? ⟨w1.heap.size, o, none⟩ = (#[.slice none 0 0, .slice E.G.av E.G.A.length E.G.acap, .int .i64 1, .bool false] : Array Value)[o]? := fun o => World.cell?_alloc_new w1 _ _ o
  have s := h.src
  refine ⟨q 0, q 1, q 2, q 3, fun o => World.frozen?_alloc_new w1 _ _ o, ⟨⟨Nat.zero_le _, s.a⟩, fun hn => absurd rfl hn, s.al, fun j hj => absurd hj (Nat.not_lt_zero j), s.ats.below hb, Nat.le_refl _, fun j => (by show (0 : Int) ≤ _; decide), s.txt⟩, fun hn => absurd rfl hn, fun hn => ?_⟩
  have hn' : E.G.A.length ≠ 0 := hn
  have : E.G.ab < w1.heap.size := World.block_lt_of_cell? w1 _ (s.ats 0 (by omega))
  show E.G.ab ≠ w1.heap.size
  omega
theorem plain_read (E : SE) {left : Int} {w1 : World} (h : Sr E left false w1) (x : Int) (hx : x ≤ 9223372036854775807) (h0 : 0 ≤ x) (H : Hp) (hH : H.A = E.G.A) (g : Rd) (k : Nat) (ht : tagW x = 0 ∨ tagW x = 1 ∨ tagW x = 2 ∨ tagW x = 7) (R : Option (Tm × Nat)) (hR : raw false H g x k = R) :
    Calls Tryz.prog 64 #[.pointer (some ⟨w1.heap.size, 0, none⟩), .int .i64 x, .int .i64 1] (w1.alloc (.cells #[.slice none 0 0, .slice E.G.av E.G.A.length E.G.acap, .int .i64 1, .bool false] 102)) fun e w5 =>
      ∃ tt va vb vc vd ve vf b5, e = .returned (.agg #[.int .i64 va, .int .i64 vb, .string vc, .slice vd ve vf]) ∧ RpV (fun b => w1.heap.size + 1 ≤ b) w5 tt (.agg #[.int .i64 va, .int .i64 vb, .string vc, .slice vd ve vf]) ∧ Below w1.heap.size w1 w5 ∧ w1.heap.size + 1 ≤ w5.heap.size ∧ w5.cell? ⟨w1.heap.size, 3, none⟩ = some (.bool b5) ∧ ((b5 = false ∧ R = some (tt, k)) ∨ (b5 = true ∧ R = none)) := by
  have hz : (w1.alloc (.cells #[.slice none 0 0, .slice E.G.av E.G.A.length E.G.acap, .int .i64 1, .bool false] 102)).heap.size = w1.heap.size + 1 := World.size_alloc _ _
  refine (YtjjmikfbongccaaGreatDoor.read_all (E5 E w1.heap.size) 1 (by decide) _ 1 x (plain_in h) (by decide) hx).mono ?_
  rintro e w5 ⟨tt, vv, rfl, hv5, ht5, hd5⟩
  obtain ⟨va, vb, vc, vd, ve, vf, rfl⟩ := hv5.form
  rw [hz] at hv5
  have hz5 := ht5.size
  rw [hz] at hz5
  have hb5 : Below w1.heap.size w1 w5 := Turn.below ((Below.refl _ _).alloc (Nat.le_refl _) _) (by rw [hz]; omega) ht5 (Nat.le_refl _)
  have hr : YtjjmikfbongccaaGreatDoor.rT false (E5 E w1.heap.size).H 1 x 1 = YtjjmikfbongccaaGreatDoor.raw false ⟨0, fun _ => 0, H.A⟩ (YtjjmikfbongccaaGreatDoor.rT false (E5 E w1.heap.size).H 0) x 0 := by
    rw [YtjjmikfbongccaaGreatDoor.rT, if_pos ⟨by simpa using h0, by decide⟩, held_false, hH]
  obtain ⟨l1, l2⟩ := leaf_raw H g (YtjjmikfbongccaaGreatDoor.rT false (E5 E w1.heap.size).H 0) (fun _ => 0) x k ht
  rw [hr] at hd5
  rcases hd5 with ⟨y, h1, h2⟩ | ⟨h1, z, h2⟩
  · exact ⟨tt, va, vb, vc, vd, ve, vf, false, rfl, hv5, hb5, hz5, h2.c3, .inl ⟨rfl, by rw [← hR]; exact l1 _ _ h1⟩⟩
  · exact ⟨tt, va, vb, vc, vd, ve, vf, true, rfl, hv5, hb5, hz5, h2.c3, .inr ⟨rfl, by rw [← hR]; exact l2 h1⟩⟩
set_option maxHeartbeats 2000000 in
set_option maxRecDepth 100000 in
theorem read_0 {E : SE} {g : Rd} {k : Nat} (hk : k ≤ 100) {w : World} (h : Sr E ((k + 1 : Nat) : Int) false w) (x : Int) (hx : x ≤ 9223372036854775807) (h0 : 0 ≤ x) (D : Int) (hD : 1 ≤ D ∧ D ≤ 7) (ht : tagW x = 0) (R : Option (Tm × Nat)) (hR : raw false E.H g x k = R) : RdAt E D w x R := by
  have HS : Hid (Sr E ((k + 1 : Nat) : Int) false w) := h
  have hD1 := hD.1
  have hD7 := hD.2
  have HX : Hid (x ≤ 9223372036854775807) := hx
  obtain ⟨p, hp⟩ : ∃ p : Nat, valW x = p := ⟨(valW x).toNat, by have := valW_ge x; omega⟩
  have HPV : Hid (valW x = p) := hp
  have HTG : Hid (tagW x = 0) := ht
  have HPB : Hid (p ≤ 9223372036854774000) := by
    show _ ≤ _
    rw [valW_of h0] at hp; omega
  have hk1 : (k : Int) ≤ 100 := by omega
  have HKL : Hid (k ≤ 100) := hk
  have hb0 : Below w.heap.size w (w.alloc (.cells #[.int .i64 0, .int .i64 0, .string ⟨#[]⟩, .slice none 0 0] 66)) := (Below.refl _ _).alloc (Nat.le_refl _) _
  have c4 := (h.below hb0).c4
  have cf := (h.below hb0).fr
  have hne0 : E.rb ≠ w.heap.size := by have := h.lt; omega
  have HPR : Hid (∀ w1, Sr E k false w1 → Calls Tryz.prog 64 #[.pointer (some ⟨w1.heap.size, 0, none⟩), .int .i64 x, .int .i64 1] (w1.alloc (.cells #[.slice none 0 0, .slice E.G.av E.G.A.length E.G.acap, .int .i64 1, .bool false] 102)) fun e w5 =>
      ∃ tt va vb vc vd ve vf b5, e = .returned (.agg #[.int .i64 va, .int .i64 vb, .string vc, .slice vd ve vf]) ∧ RpV (fun b => w1.heap.size + 1 ≤ b) w5 tt (.agg #[.int .i64 va, .int .i64 vb, .string vc, .slice vd ve vf]) ∧ Below w1.heap.size w1 w5 ∧ w1.heap.size + 1 ≤ w5.heap.size ∧ w5.cell? ⟨w1.heap.size, 3, none⟩ = some (.bool b5) ∧ ((b5 = false ∧ R = some (tt, k)) ∨ (b5 = true ∧ R = none))) := fun w1 hs => plain_read E hs x hx h0 E.H rfl g k (by omega) R hR
  clear h hx ht hD hb0 hp
  unfold RdAt
  go_enter Tryz.func44, Tryz.ntmps44
  go_wp2_with fail
  refine (specTag_any x _).mono ?_
  rintro e w1 ⟨rfl, hw1⟩
  rw [HTG.out]
  obtain ⟨hz1, q1, f1, ht1, hs1, hne⟩ := boxG HS.out _ _ _ hw1
  have HT1 : Hid (Turn E.rb w w1) := ht1
  have HS1 : Hid (Sr E k false w1) := hs1
  have HB1 : Hid (∀ o, w1.cell? ⟨w.heap.size, o, none⟩ = (#[.int .i64 0, .int .i64 0, .string ⟨#[]⟩, .slice none 0 0] : Array Value)[o]?) := q1
  clear hw1 ht1 hs1 c4 cf
  have c3 := HS1.out.c3
  have HZ1 : Hid (w1.heap.size = w.heap.size + 1) := hz1
  clear hz1
  go_wp2_with fail
  refine (HPR.out w1 HS1.out).mono ?_
  rintro e w5 ⟨tt, va, vb, vc, vd, ve, vf, b5, rfl, hv5, hb5, hz5, hc5, hd5⟩
  have hz1 := HZ1.out
  have HV5 : Hid (RpV (fun b => w1.heap.size + 1 ≤ b) w5 tt (.agg #[.int .i64 va, .int .i64 vb, .string vc, .slice vd ve vf])) := hv5
  have HD5 : Hid ((b5 = false ∧ R = some (tt, k)) ∨ (b5 = true ∧ R = none)) := hd5
  have HB5 : Hid (Below w1.heap.size w1 w5) := hb5
  have HS5 : Hid (Sr E k false w5) := HS1.out.below hb5
  have q5 : ∀ o, w5.cell? ⟨w.heap.size, o, none⟩ = (#[.int .i64 0, .int .i64 0, .string ⟨#[]⟩, .slice none 0 0] : Array Value)[o]? := fun o => by rw [hb5.cell (p := ⟨w.heap.size, o, none⟩) (by show w.heap.size < _; omega)]; exact q1 o
  have f5 : ∀ o, w5.frozen? ⟨w.heap.size, o, none⟩ = false := fun o => by rw [hb5.frozen (p := ⟨w.heap.size, o, none⟩) (by show w.heap.size < _; omega)]; exact f1 o
  have hk6 : Below w5.heap.size w5 (w5.alloc (.cells #[.int .i64 va, .int .i64 vb, .string vc, .slice vd ve vf] 66)) := (Below.refl _ _).alloc (Nat.le_refl _) _
  have hrl := HS.out.lt
  have q6 : ∀ o, (w5.alloc (.cells #[.int .i64 va, .int .i64 vb, .string vc, .slice vd ve vf] 66)).cell? ⟨w.heap.size, o, none⟩ = (#[.int .i64 0, .int .i64 0, .string ⟨#[]⟩, .slice none 0 0] : Array Value)[o]? := fun o => by rw [hk6.cell (p := ⟨w.heap.size, o, none⟩) (by show w.heap.size < _; omega)]; exact q5 o
  have f6 : ∀ o, (w5.alloc (.cells #[.int .i64 va, .int .i64 vb, .string vc, .slice vd ve vf] 66)).frozen? ⟨w.heap.size, o, none⟩ = false := fun o => by rw [hk6.frozen (p := ⟨w.heap.size, o, none⟩) (by show w.heap.size < _; omega)]; exact f5 o
  have c6 : (w5.alloc (.cells #[.int .i64 va, .int .i64 vb, .string vc, .slice vd ve vf] 66)).cell? ⟨w1.heap.size, 3, none⟩ = some (.bool b5) := by rw [hk6.cell (p := ⟨w1.heap.size, 3, none⟩) (by show w1.heap.size < _; omega)]; exact hc5
  have HS6 : Hid (Sr E k false (w5.alloc (.cells #[.int .i64 va, .int .i64 vb, .string vc, .slice vd ve vf] 66))) := HS5.out.below hk6
  have HT6 : Hid (Turn E.rb w (w5.alloc (.cells #[.int .i64 va, .int .i64 vb, .string vc, .slice vd ve vf] 66))) := (HT1.out.trans (Turn.of_below hb5)).trans (Turn.of_below hk6)
  have HV6 : Hid (RpV (fun b => w1.heap.size + 1 ≤ b) (w5.alloc (.cells #[.int .i64 va, .int .i64 vb, .string vc, .slice vd ve vf] 66)) tt (.agg #[.int .i64 va, .int .i64 vb, .string vc, .slice vd ve vf])) := (Moves.below hk6).repV HV5.out
  have k5 := HS6.out.c5
  have kf := HS6.out.fr
  have hne5 : E.rb ≠ w5.heap.size := by have := HS5.out.lt; omega
  have hne6 : w.heap.size ≠ w5.heap.size := by omega
  have hZ1 : Hid (w1.heap.size = w.heap.size + 1) := hz1
  have HZ5 : Hid (w1.heap.size + 1 ≤ w5.heap.size) := hz5
  clear hv5 hb5 hd5 hk6 q5 f5 q1 f1 hc5 c3 hz1 hz5
  cases b5 with
  | false =>
    have HR5 : Hid (R = some (tt, k)) := by
      rcases HD5.out with ⟨_, h⟩ | ⟨h, _⟩
      · exact h
      · cases h
    clear HD5
    go_wp2_with fail
    have hs7 := HS6.out.setB false
    have ht7 := HT6.out.set 5 (.bool false)
    have hv7 : RpV (fun b => w.heap.size + 1 ≤ b) ((w5.alloc (.cells #[.int .i64 va, .int .i64 vb, .string vc, .slice vd ve vf] 66)).setCell ⟨E.rb, 5, none⟩ (.bool false)) tt (.agg #[.int .i64 va, .int .i64 vb, .string vc, .slice vd ve vf]) := Moves.repV (S := fun b => w1.heap.size + 1 ≤ b) (fun b' o' v' hb' hc' => by
      have h1 : w1.heap.size + 1 ≤ b' := hb'
      have h2 := hZ1.out
      exact ⟨by omega, by rw [World.cell?_setCell_other (h := fun e => by simp only [Addr.mk.injEq] at e; omega)]; exact hc'⟩) HV6.out
    have hq7 : ∀ o, ((w5.alloc (.cells #[.int .i64 va, .int .i64 vb, .string vc, .slice vd ve vf] 66)).setCell ⟨E.rb, 5, none⟩ (.bool false)).cell? ⟨w.heap.size, o, none⟩ = (#[.int .i64 0, .int .i64 0, .string ⟨#[]⟩, .slice none 0 0] : Array Value)[o]? := fun o => by
      rw [World.cell?_setCell_other (h := fun e => by simp only [Addr.mk.injEq] at e; omega)]; exact q6 o
    generalize ((w5.alloc (.cells #[.int .i64 va, .int .i64 vb, .string vc, .slice vd ve vf] 66)).setCell ⟨E.rb, 5, none⟩ (.bool false)) = W7 at hs7 ht7 hv7 hq7 ⊢
    obtain ⟨a1, a2, a3⟩ := sbox_out (E := E.e) ht7 hv7 (.int .i64 va) (.int .i64 vb) (.string vc) (.slice vd ve vf)
    have hfin : Ans E w (lay4 W7 w.heap.size (.int .i64 va) (.int .i64 vb) (.string vc) (.slice vd ve vf)) R (.returned (.agg #[.int .i64 va, .int .i64 vb, .string vc, .slice vd ve vf])) := ⟨_, _, rfl, a2, a1, .inl ⟨k, HR5.out, HS.out.same hs7 a3⟩⟩
    exact bodyPost_ret (v := .agg #[.int .i64 va, .int .i64 vb, .string vc, .slice vd ve vf]) (by simp [results, Tryz.results44, go_sem, hq7]) rfl hfin
  | true =>
    have HR5 : Hid (R = none) := by
      rcases HD5.out with ⟨h, _⟩ | ⟨_, h⟩
      · cases h
      · exact h
    clear HD5
    go_wp2_with fail
    have hs7 := HS6.out.setB true
    have ht7 := HT6.out.set 5 (.bool true)
    have hv7 : RpV (fun b => w.heap.size + 1 ≤ b) ((w5.alloc (.cells #[.int .i64 va, .int .i64 vb, .string vc, .slice vd ve vf] 66)).setCell ⟨E.rb, 5, none⟩ (.bool true)) tt (.agg #[.int .i64 va, .int .i64 vb, .string vc, .slice vd ve vf]) := Moves.repV (S := fun b => w1.heap.size + 1 ≤ b) (fun b' o' v' hb' hc' => by
      have h1 : w1.heap.size + 1 ≤ b' := hb'
      have h2 := hZ1.out
      exact ⟨by omega, by rw [World.cell?_setCell_other (h := fun e => by simp only [Addr.mk.injEq] at e; omega)]; exact hc'⟩) HV6.out
    have hq7 : ∀ o, ((w5.alloc (.cells #[.int .i64 va, .int .i64 vb, .string vc, .slice vd ve vf] 66)).setCell ⟨E.rb, 5, none⟩ (.bool true)).cell? ⟨w.heap.size, o, none⟩ = (#[.int .i64 0, .int .i64 0, .string ⟨#[]⟩, .slice none 0 0] : Array Value)[o]? := fun o => by
      rw [World.cell?_setCell_other (h := fun e => by simp only [Addr.mk.injEq] at e; omega)]; exact q6 o
    generalize ((w5.alloc (.cells #[.int .i64 va, .int .i64 vb, .string vc, .slice vd ve vf] 66)).setCell ⟨E.rb, 5, none⟩ (.bool true)) = W7 at hs7 ht7 hv7 hq7 ⊢
    obtain ⟨a1, a2, a3⟩ := sbox_out (E := E.e) ht7 hv7 (.int .i64 va) (.int .i64 vb) (.string vc) (.slice vd ve vf)
    have hfin : Ans E w (lay4 W7 w.heap.size (.int .i64 va) (.int .i64 vb) (.string vc) (.slice vd ve vf)) R (.returned (.agg #[.int .i64 va, .int .i64 vb, .string vc, .slice vd ve vf])) := ⟨_, _, rfl, a2, a1, .inr ⟨HR5.out, _, HS.out.same hs7 a3⟩⟩
    exact bodyPost_ret (v := .agg #[.int .i64 va, .int .i64 vb, .string vc, .slice vd ve vf]) (by simp [results, Tryz.results44, go_sem, hq7]) rfl hfin
set_option maxHeartbeats 2000000 in
set_option maxRecDepth 100000 in
theorem read_1 {E : SE} {g : Rd} {k : Nat} (hk : k ≤ 100) {w : World} (h : Sr E ((k + 1 : Nat) : Int) false w) (x : Int) (hx : x ≤ 9223372036854775807) (h0 : 0 ≤ x) (D : Int) (hD : 1 ≤ D ∧ D ≤ 7) (ht : tagW x = 1) (R : Option (Tm × Nat)) (hR : raw false E.H g x k = R) : RdAt E D w x R := by
  have HS : Hid (Sr E ((k + 1 : Nat) : Int) false w) := h
  have hD1 := hD.1
  have hD7 := hD.2
  have HX : Hid (x ≤ 9223372036854775807) := hx
  obtain ⟨p, hp⟩ : ∃ p : Nat, valW x = p := ⟨(valW x).toNat, by have := valW_ge x; omega⟩
  have HPV : Hid (valW x = p) := hp
  have HTG : Hid (tagW x = 1) := ht
  have HPB : Hid (p ≤ 9223372036854774000) := by
    show _ ≤ _
    rw [valW_of h0] at hp; omega
  have hk1 : (k : Int) ≤ 100 := by omega
  have HKL : Hid (k ≤ 100) := hk
  have hb0 : Below w.heap.size w (w.alloc (.cells #[.int .i64 0, .int .i64 0, .string ⟨#[]⟩, .slice none 0 0] 66)) := (Below.refl _ _).alloc (Nat.le_refl _) _
  have c4 := (h.below hb0).c4
  have cf := (h.below hb0).fr
  have hne0 : E.rb ≠ w.heap.size := by have := h.lt; omega
  have HPR : Hid (∀ w1, Sr E k false w1 → Calls Tryz.prog 64 #[.pointer (some ⟨w1.heap.size, 0, none⟩), .int .i64 x, .int .i64 1] (w1.alloc (.cells #[.slice none 0 0, .slice E.G.av E.G.A.length E.G.acap, .int .i64 1, .bool false] 102)) fun e w5 =>
      ∃ tt va vb vc vd ve vf b5, e = .returned (.agg #[.int .i64 va, .int .i64 vb, .string vc, .slice vd ve vf]) ∧ RpV (fun b => w1.heap.size + 1 ≤ b) w5 tt (.agg #[.int .i64 va, .int .i64 vb, .string vc, .slice vd ve vf]) ∧ Below w1.heap.size w1 w5 ∧ w1.heap.size + 1 ≤ w5.heap.size ∧ w5.cell? ⟨w1.heap.size, 3, none⟩ = some (.bool b5) ∧ ((b5 = false ∧ R = some (tt, k)) ∨ (b5 = true ∧ R = none))) := fun w1 hs => plain_read E hs x hx h0 E.H rfl g k (by omega) R hR
  clear h hx ht hD hb0 hp
  unfold RdAt
  go_enter Tryz.func44, Tryz.ntmps44
  go_wp2_with fail
  refine (specTag_any x _).mono ?_
  rintro e w1 ⟨rfl, hw1⟩
  rw [HTG.out]
  obtain ⟨hz1, q1, f1, ht1, hs1, hne⟩ := boxG HS.out _ _ _ hw1
  have HT1 : Hid (Turn E.rb w w1) := ht1
  have HS1 : Hid (Sr E k false w1) := hs1
  have HB1 : Hid (∀ o, w1.cell? ⟨w.heap.size, o, none⟩ = (#[.int .i64 0, .int .i64 0, .string ⟨#[]⟩, .slice none 0 0] : Array Value)[o]?) := q1
  clear hw1 ht1 hs1 c4 cf
  have c3 := HS1.out.c3
  have HZ1 : Hid (w1.heap.size = w.heap.size + 1) := hz1
  clear hz1
  go_wp2_with fail
  refine (HPR.out w1 HS1.out).mono ?_
  rintro e w5 ⟨tt, va, vb, vc, vd, ve, vf, b5, rfl, hv5, hb5, hz5, hc5, hd5⟩
  have hz1 := HZ1.out
  have HV5 : Hid (RpV (fun b => w1.heap.size + 1 ≤ b) w5 tt (.agg #[.int .i64 va, .int .i64 vb, .string vc, .slice vd ve vf])) := hv5
  have HD5 : Hid ((b5 = false ∧ R = some (tt, k)) ∨ (b5 = true ∧ R = none)) := hd5
  have HB5 : Hid (Below w1.heap.size w1 w5) := hb5
  have HS5 : Hid (Sr E k false w5) := HS1.out.below hb5
  have q5 : ∀ o, w5.cell? ⟨w.heap.size, o, none⟩ = (#[.int .i64 0, .int .i64 0, .string ⟨#[]⟩, .slice none 0 0] : Array Value)[o]? := fun o => by rw [hb5.cell (p := ⟨w.heap.size, o, none⟩) (by show w.heap.size < _; omega)]; exact q1 o
  have f5 : ∀ o, w5.frozen? ⟨w.heap.size, o, none⟩ = false := fun o => by rw [hb5.frozen (p := ⟨w.heap.size, o, none⟩) (by show w.heap.size < _; omega)]; exact f1 o
  have hk6 : Below w5.heap.size w5 (w5.alloc (.cells #[.int .i64 va, .int .i64 vb, .string vc, .slice vd ve vf] 66)) := (Below.refl _ _).alloc (Nat.le_refl _) _
  have hrl := HS.out.lt
  have q6 : ∀ o, (w5.alloc (.cells #[.int .i64 va, .int .i64 vb, .string vc, .slice vd ve vf] 66)).cell? ⟨w.heap.size, o, none⟩ = (#[.int .i64 0, .int .i64 0, .string ⟨#[]⟩, .slice none 0 0] : Array Value)[o]? := fun o => by rw [hk6.cell (p := ⟨w.heap.size, o, none⟩) (by show w.heap.size < _; omega)]; exact q5 o
  have f6 : ∀ o, (w5.alloc (.cells #[.int .i64 va, .int .i64 vb, .string vc, .slice vd ve vf] 66)).frozen? ⟨w.heap.size, o, none⟩ = false := fun o => by rw [hk6.frozen (p := ⟨w.heap.size, o, none⟩) (by show w.heap.size < _; omega)]; exact f5 o
  have c6 : (w5.alloc (.cells #[.int .i64 va, .int .i64 vb, .string vc, .slice vd ve vf] 66)).cell? ⟨w1.heap.size, 3, none⟩ = some (.bool b5) := by rw [hk6.cell (p := ⟨w1.heap.size, 3, none⟩) (by show w1.heap.size < _; omega)]; exact hc5
  have HS6 : Hid (Sr E k false (w5.alloc (.cells #[.int .i64 va, .int .i64 vb, .string vc, .slice vd ve vf] 66))) := HS5.out.below hk6
  have HT6 : Hid (Turn E.rb w (w5.alloc (.cells #[.int .i64 va, .int .i64 vb, .string vc, .slice vd ve vf] 66))) := (HT1.out.trans (Turn.of_below hb5)).trans (Turn.of_below hk6)
  have HV6 : Hid (RpV (fun b => w1.heap.size + 1 ≤ b) (w5.alloc (.cells #[.int .i64 va, .int .i64 vb, .string vc, .slice vd ve vf] 66)) tt (.agg #[.int .i64 va, .int .i64 vb, .string vc, .slice vd ve vf])) := (Moves.below hk6).repV HV5.out
  have k5 := HS6.out.c5
  have kf := HS6.out.fr
  have hne5 : E.rb ≠ w5.heap.size := by have := HS5.out.lt; omega
  have hne6 : w.heap.size ≠ w5.heap.size := by omega
  have hZ1 : Hid (w1.heap.size = w.heap.size + 1) := hz1
  have HZ5 : Hid (w1.heap.size + 1 ≤ w5.heap.size) := hz5
  clear hv5 hb5 hd5 hk6 q5 f5 q1 f1 hc5 c3 hz1 hz5
  cases b5 with
  | false =>
    have HR5 : Hid (R = some (tt, k)) := by
      rcases HD5.out with ⟨_, h⟩ | ⟨h, _⟩
      · exact h
      · cases h
    clear HD5
    go_wp2_with fail
    have hs7 := HS6.out.setB false
    have ht7 := HT6.out.set 5 (.bool false)
    have hv7 : RpV (fun b => w.heap.size + 1 ≤ b) ((w5.alloc (.cells #[.int .i64 va, .int .i64 vb, .string vc, .slice vd ve vf] 66)).setCell ⟨E.rb, 5, none⟩ (.bool false)) tt (.agg #[.int .i64 va, .int .i64 vb, .string vc, .slice vd ve vf]) := Moves.repV (S := fun b => w1.heap.size + 1 ≤ b) (fun b' o' v' hb' hc' => by
      have h1 : w1.heap.size + 1 ≤ b' := hb'
      have h2 := hZ1.out
      exact ⟨by omega, by rw [World.cell?_setCell_other (h := fun e => by simp only [Addr.mk.injEq] at e; omega)]; exact hc'⟩) HV6.out
    have hq7 : ∀ o, ((w5.alloc (.cells #[.int .i64 va, .int .i64 vb, .string vc, .slice vd ve vf] 66)).setCell ⟨E.rb, 5, none⟩ (.bool false)).cell? ⟨w.heap.size, o, none⟩ = (#[.int .i64 0, .int .i64 0, .string ⟨#[]⟩, .slice none 0 0] : Array Value)[o]? := fun o => by
      rw [World.cell?_setCell_other (h := fun e => by simp only [Addr.mk.injEq] at e; omega)]; exact q6 o
    generalize ((w5.alloc (.cells #[.int .i64 va, .int .i64 vb, .string vc, .slice vd ve vf] 66)).setCell ⟨E.rb, 5, none⟩ (.bool false)) = W7 at hs7 ht7 hv7 hq7 ⊢
    obtain ⟨a1, a2, a3⟩ := sbox_out (E := E.e) ht7 hv7 (.int .i64 va) (.int .i64 vb) (.string vc) (.slice vd ve vf)
    have hfin : Ans E w (lay4 W7 w.heap.size (.int .i64 va) (.int .i64 vb) (.string vc) (.slice vd ve vf)) R (.returned (.agg #[.int .i64 va, .int .i64 vb, .string vc, .slice vd ve vf])) := ⟨_, _, rfl, a2, a1, .inl ⟨k, HR5.out, HS.out.same hs7 a3⟩⟩
    exact bodyPost_ret (v := .agg #[.int .i64 va, .int .i64 vb, .string vc, .slice vd ve vf]) (by simp [results, Tryz.results44, go_sem, hq7]) rfl hfin
  | true =>
    have HR5 : Hid (R = none) := by
      rcases HD5.out with ⟨h, _⟩ | ⟨_, h⟩
      · cases h
      · exact h
    clear HD5
    go_wp2_with fail
    have hs7 := HS6.out.setB true
    have ht7 := HT6.out.set 5 (.bool true)
    have hv7 : RpV (fun b => w.heap.size + 1 ≤ b) ((w5.alloc (.cells #[.int .i64 va, .int .i64 vb, .string vc, .slice vd ve vf] 66)).setCell ⟨E.rb, 5, none⟩ (.bool true)) tt (.agg #[.int .i64 va, .int .i64 vb, .string vc, .slice vd ve vf]) := Moves.repV (S := fun b => w1.heap.size + 1 ≤ b) (fun b' o' v' hb' hc' => by
      have h1 : w1.heap.size + 1 ≤ b' := hb'
      have h2 := hZ1.out
      exact ⟨by omega, by rw [World.cell?_setCell_other (h := fun e => by simp only [Addr.mk.injEq] at e; omega)]; exact hc'⟩) HV6.out
    have hq7 : ∀ o, ((w5.alloc (.cells #[.int .i64 va, .int .i64 vb, .string vc, .slice vd ve vf] 66)).setCell ⟨E.rb, 5, none⟩ (.bool true)).cell? ⟨w.heap.size, o, none⟩ = (#[.int .i64 0, .int .i64 0, .string ⟨#[]⟩, .slice none 0 0] : Array Value)[o]? := fun o => by
      rw [World.cell?_setCell_other (h := fun e => by simp only [Addr.mk.injEq] at e; omega)]; exact q6 o
    generalize ((w5.alloc (.cells #[.int .i64 va, .int .i64 vb, .string vc, .slice vd ve vf] 66)).setCell ⟨E.rb, 5, none⟩ (.bool true)) = W7 at hs7 ht7 hv7 hq7 ⊢
    obtain ⟨a1, a2, a3⟩ := sbox_out (E := E.e) ht7 hv7 (.int .i64 va) (.int .i64 vb) (.string vc) (.slice vd ve vf)
    have hfin : Ans E w (lay4 W7 w.heap.size (.int .i64 va) (.int .i64 vb) (.string vc) (.slice vd ve vf)) R (.returned (.agg #[.int .i64 va, .int .i64 vb, .string vc, .slice vd ve vf])) := ⟨_, _, rfl, a2, a1, .inr ⟨HR5.out, _, HS.out.same hs7 a3⟩⟩
    exact bodyPost_ret (v := .agg #[.int .i64 va, .int .i64 vb, .string vc, .slice vd ve vf]) (by simp [results, Tryz.results44, go_sem, hq7]) rfl hfin
set_option maxHeartbeats 2000000 in
set_option maxRecDepth 100000 in
theorem read_2 {E : SE} {g : Rd} {k : Nat} (hk : k ≤ 100) {w : World} (h : Sr E ((k + 1 : Nat) : Int) false w) (x : Int) (hx : x ≤ 9223372036854775807) (h0 : 0 ≤ x) (D : Int) (hD : 1 ≤ D ∧ D ≤ 7) (ht : tagW x = 2) (R : Option (Tm × Nat)) (hR : raw false E.H g x k = R) : RdAt E D w x R := by
  have HS : Hid (Sr E ((k + 1 : Nat) : Int) false w) := h
  have hD1 := hD.1
  have hD7 := hD.2
  have HX : Hid (x ≤ 9223372036854775807) := hx
  obtain ⟨p, hp⟩ : ∃ p : Nat, valW x = p := ⟨(valW x).toNat, by have := valW_ge x; omega⟩
  have HPV : Hid (valW x = p) := hp
  have HTG : Hid (tagW x = 2) := ht
  have HPB : Hid (p ≤ 9223372036854774000) := by
    show _ ≤ _
    rw [valW_of h0] at hp; omega
  have hk1 : (k : Int) ≤ 100 := by omega
  have HKL : Hid (k ≤ 100) := hk
  have hb0 : Below w.heap.size w (w.alloc (.cells #[.int .i64 0, .int .i64 0, .string ⟨#[]⟩, .slice none 0 0] 66)) := (Below.refl _ _).alloc (Nat.le_refl _) _
  have c4 := (h.below hb0).c4
  have cf := (h.below hb0).fr
  have hne0 : E.rb ≠ w.heap.size := by have := h.lt; omega
  have HPR : Hid (∀ w1, Sr E k false w1 → Calls Tryz.prog 64 #[.pointer (some ⟨w1.heap.size, 0, none⟩), .int .i64 x, .int .i64 1] (w1.alloc (.cells #[.slice none 0 0, .slice E.G.av E.G.A.length E.G.acap, .int .i64 1, .bool false] 102)) fun e w5 =>
      ∃ tt va vb vc vd ve vf b5, e = .returned (.agg #[.int .i64 va, .int .i64 vb, .string vc, .slice vd ve vf]) ∧ RpV (fun b => w1.heap.size + 1 ≤ b) w5 tt (.agg #[.int .i64 va, .int .i64 vb, .string vc, .slice vd ve vf]) ∧ Below w1.heap.size w1 w5 ∧ w1.heap.size + 1 ≤ w5.heap.size ∧ w5.cell? ⟨w1.heap.size, 3, none⟩ = some (.bool b5) ∧ ((b5 = false ∧ R = some (tt, k)) ∨ (b5 = true ∧ R = none))) := fun w1 hs => plain_read E hs x hx h0 E.H rfl g k (by omega) R hR
  clear h hx ht hD hb0 hp
  unfold RdAt
  go_enter Tryz.func44, Tryz.ntmps44
  go_wp2_with fail
  refine (specTag_any x _).mono ?_
  rintro e w1 ⟨rfl, hw1⟩
  rw [HTG.out]
  obtain ⟨hz1, q1, f1, ht1, hs1, hne⟩ := boxG HS.out _ _ _ hw1
  have HT1 : Hid (Turn E.rb w w1) := ht1
  have HS1 : Hid (Sr E k false w1) := hs1
  have HB1 : Hid (∀ o, w1.cell? ⟨w.heap.size, o, none⟩ = (#[.int .i64 0, .int .i64 0, .string ⟨#[]⟩, .slice none 0 0] : Array Value)[o]?) := q1
  clear hw1 ht1 hs1 c4 cf
  have c3 := HS1.out.c3
  have HZ1 : Hid (w1.heap.size = w.heap.size + 1) := hz1
  clear hz1
  go_wp2_with fail
  refine (HPR.out w1 HS1.out).mono ?_
  rintro e w5 ⟨tt, va, vb, vc, vd, ve, vf, b5, rfl, hv5, hb5, hz5, hc5, hd5⟩
  have hz1 := HZ1.out
  have HV5 : Hid (RpV (fun b => w1.heap.size + 1 ≤ b) w5 tt (.agg #[.int .i64 va, .int .i64 vb, .string vc, .slice vd ve vf])) := hv5
  have HD5 : Hid ((b5 = false ∧ R = some (tt, k)) ∨ (b5 = true ∧ R = none)) := hd5
  have HB5 : Hid (Below w1.heap.size w1 w5) := hb5
  have HS5 : Hid (Sr E k false w5) := HS1.out.below hb5
  have q5 : ∀ o, w5.cell? ⟨w.heap.size, o, none⟩ = (#[.int .i64 0, .int .i64 0, .string ⟨#[]⟩, .slice none 0 0] : Array Value)[o]? := fun o => by rw [hb5.cell (p := ⟨w.heap.size, o, none⟩) (by show w.heap.size < _; omega)]; exact q1 o
  have f5 : ∀ o, w5.frozen? ⟨w.heap.size, o, none⟩ = false := fun o => by rw [hb5.frozen (p := ⟨w.heap.size, o, none⟩) (by show w.heap.size < _; omega)]; exact f1 o
  have hk6 : Below w5.heap.size w5 (w5.alloc (.cells #[.int .i64 va, .int .i64 vb, .string vc, .slice vd ve vf] 66)) := (Below.refl _ _).alloc (Nat.le_refl _) _
  have hrl := HS.out.lt
  have q6 : ∀ o, (w5.alloc (.cells #[.int .i64 va, .int .i64 vb, .string vc, .slice vd ve vf] 66)).cell? ⟨w.heap.size, o, none⟩ = (#[.int .i64 0, .int .i64 0, .string ⟨#[]⟩, .slice none 0 0] : Array Value)[o]? := fun o => by rw [hk6.cell (p := ⟨w.heap.size, o, none⟩) (by show w.heap.size < _; omega)]; exact q5 o
  have f6 : ∀ o, (w5.alloc (.cells #[.int .i64 va, .int .i64 vb, .string vc, .slice vd ve vf] 66)).frozen? ⟨w.heap.size, o, none⟩ = false := fun o => by rw [hk6.frozen (p := ⟨w.heap.size, o, none⟩) (by show w.heap.size < _; omega)]; exact f5 o
  have c6 : (w5.alloc (.cells #[.int .i64 va, .int .i64 vb, .string vc, .slice vd ve vf] 66)).cell? ⟨w1.heap.size, 3, none⟩ = some (.bool b5) := by rw [hk6.cell (p := ⟨w1.heap.size, 3, none⟩) (by show w1.heap.size < _; omega)]; exact hc5
  have HS6 : Hid (Sr E k false (w5.alloc (.cells #[.int .i64 va, .int .i64 vb, .string vc, .slice vd ve vf] 66))) := HS5.out.below hk6
  have HT6 : Hid (Turn E.rb w (w5.alloc (.cells #[.int .i64 va, .int .i64 vb, .string vc, .slice vd ve vf] 66))) := (HT1.out.trans (Turn.of_below hb5)).trans (Turn.of_below hk6)
  have HV6 : Hid (RpV (fun b => w1.heap.size + 1 ≤ b) (w5.alloc (.cells #[.int .i64 va, .int .i64 vb, .string vc, .slice vd ve vf] 66)) tt (.agg #[.int .i64 va, .int .i64 vb, .string vc, .slice vd ve vf])) := (Moves.below hk6).repV HV5.out
  have k5 := HS6.out.c5
  have kf := HS6.out.fr
  have hne5 : E.rb ≠ w5.heap.size := by have := HS5.out.lt; omega
  have hne6 : w.heap.size ≠ w5.heap.size := by omega
  have hZ1 : Hid (w1.heap.size = w.heap.size + 1) := hz1
  have HZ5 : Hid (w1.heap.size + 1 ≤ w5.heap.size) := hz5
  clear hv5 hb5 hd5 hk6 q5 f5 q1 f1 hc5 c3 hz1 hz5
  cases b5 with
  | false =>
    have HR5 : Hid (R = some (tt, k)) := by
      rcases HD5.out with ⟨_, h⟩ | ⟨h, _⟩
      · exact h
      · cases h
    clear HD5
    go_wp2_with fail
    have hs7 := HS6.out.setB false
    have ht7 := HT6.out.set 5 (.bool false)
    have hv7 : RpV (fun b => w.heap.size + 1 ≤ b) ((w5.alloc (.cells #[.int .i64 va, .int .i64 vb, .string vc, .slice vd ve vf] 66)).setCell ⟨E.rb, 5, none⟩ (.bool false)) tt (.agg #[.int .i64 va, .int .i64 vb, .string vc, .slice vd ve vf]) := Moves.repV (S := fun b => w1.heap.size + 1 ≤ b) (fun b' o' v' hb' hc' => by
      have h1 : w1.heap.size + 1 ≤ b' := hb'
      have h2 := hZ1.out
      exact ⟨by omega, by rw [World.cell?_setCell_other (h := fun e => by simp only [Addr.mk.injEq] at e; omega)]; exact hc'⟩) HV6.out
    have hq7 : ∀ o, ((w5.alloc (.cells #[.int .i64 va, .int .i64 vb, .string vc, .slice vd ve vf] 66)).setCell ⟨E.rb, 5, none⟩ (.bool false)).cell? ⟨w.heap.size, o, none⟩ = (#[.int .i64 0, .int .i64 0, .string ⟨#[]⟩, .slice none 0 0] : Array Value)[o]? := fun o => by
      rw [World.cell?_setCell_other (h := fun e => by simp only [Addr.mk.injEq] at e; omega)]; exact q6 o
    generalize ((w5.alloc (.cells #[.int .i64 va, .int .i64 vb, .string vc, .slice vd ve vf] 66)).setCell ⟨E.rb, 5, none⟩ (.bool false)) = W7 at hs7 ht7 hv7 hq7 ⊢
    obtain ⟨a1, a2, a3⟩ := sbox_out (E := E.e) ht7 hv7 (.int .i64 va) (.int .i64 vb) (.string vc) (.slice vd ve vf)
    have hfin : Ans E w (lay4 W7 w.heap.size (.int .i64 va) (.int .i64 vb) (.string vc) (.slice vd ve vf)) R (.returned (.agg #[.int .i64 va, .int .i64 vb, .string vc, .slice vd ve vf])) := ⟨_, _, rfl, a2, a1, .inl ⟨k, HR5.out, HS.out.same hs7 a3⟩⟩
    exact bodyPost_ret (v := .agg #[.int .i64 va, .int .i64 vb, .string vc, .slice vd ve vf]) (by simp [results, Tryz.results44, go_sem, hq7]) rfl hfin
  | true =>
    have HR5 : Hid (R = none) := by
      rcases HD5.out with ⟨h, _⟩ | ⟨_, h⟩
      · cases h
      · exact h
    clear HD5
    go_wp2_with fail
    have hs7 := HS6.out.setB true
    have ht7 := HT6.out.set 5 (.bool true)
    have hv7 : RpV (fun b => w.heap.size + 1 ≤ b) ((w5.alloc (.cells #[.int .i64 va, .int .i64 vb, .string vc, .slice vd ve vf] 66)).setCell ⟨E.rb, 5, none⟩ (.bool true)) tt (.agg #[.int .i64 va, .int .i64 vb, .string vc, .slice vd ve vf]) := Moves.repV (S := fun b => w1.heap.size + 1 ≤ b) (fun b' o' v' hb' hc' => by
      have h1 : w1.heap.size + 1 ≤ b' := hb'
      have h2 := hZ1.out
      exact ⟨by omega, by rw [World.cell?_setCell_other (h := fun e => by simp only [Addr.mk.injEq] at e; omega)]; exact hc'⟩) HV6.out
    have hq7 : ∀ o, ((w5.alloc (.cells #[.int .i64 va, .int .i64 vb, .string vc, .slice vd ve vf] 66)).setCell ⟨E.rb, 5, none⟩ (.bool true)).cell? ⟨w.heap.size, o, none⟩ = (#[.int .i64 0, .int .i64 0, .string ⟨#[]⟩, .slice none 0 0] : Array Value)[o]? := fun o => by
      rw [World.cell?_setCell_other (h := fun e => by simp only [Addr.mk.injEq] at e; omega)]; exact q6 o
    generalize ((w5.alloc (.cells #[.int .i64 va, .int .i64 vb, .string vc, .slice vd ve vf] 66)).setCell ⟨E.rb, 5, none⟩ (.bool true)) = W7 at hs7 ht7 hv7 hq7 ⊢
    obtain ⟨a1, a2, a3⟩ := sbox_out (E := E.e) ht7 hv7 (.int .i64 va) (.int .i64 vb) (.string vc) (.slice vd ve vf)
    have hfin : Ans E w (lay4 W7 w.heap.size (.int .i64 va) (.int .i64 vb) (.string vc) (.slice vd ve vf)) R (.returned (.agg #[.int .i64 va, .int .i64 vb, .string vc, .slice vd ve vf])) := ⟨_, _, rfl, a2, a1, .inr ⟨HR5.out, _, HS.out.same hs7 a3⟩⟩
    exact bodyPost_ret (v := .agg #[.int .i64 va, .int .i64 vb, .string vc, .slice vd ve vf]) (by simp [results, Tryz.results44, go_sem, hq7]) rfl hfin
set_option maxHeartbeats 2000000 in
set_option maxRecDepth 100000 in
theorem read_7 {E : SE} {g : Rd} {k : Nat} (hk : k ≤ 100) {w : World} (h : Sr E ((k + 1 : Nat) : Int) false w) (x : Int) (hx : x ≤ 9223372036854775807) (h0 : 0 ≤ x) (D : Int) (hD : 1 ≤ D ∧ D ≤ 7) (ht : tagW x = 7) (R : Option (Tm × Nat)) (hR : raw false E.H g x k = R) : RdAt E D w x R := by
  have HS : Hid (Sr E ((k + 1 : Nat) : Int) false w) := h
  have hD1 := hD.1
  have hD7 := hD.2
  have HX : Hid (x ≤ 9223372036854775807) := hx
  obtain ⟨p, hp⟩ : ∃ p : Nat, valW x = p := ⟨(valW x).toNat, by have := valW_ge x; omega⟩
  have HPV : Hid (valW x = p) := hp
  have HTG : Hid (tagW x = 7) := ht
  have HPB : Hid (p ≤ 9223372036854774000) := by
    show _ ≤ _
    rw [valW_of h0] at hp; omega
  have hk1 : (k : Int) ≤ 100 := by omega
  have HKL : Hid (k ≤ 100) := hk
  have hb0 : Below w.heap.size w (w.alloc (.cells #[.int .i64 0, .int .i64 0, .string ⟨#[]⟩, .slice none 0 0] 66)) := (Below.refl _ _).alloc (Nat.le_refl _) _
  have c4 := (h.below hb0).c4
  have cf := (h.below hb0).fr
  have hne0 : E.rb ≠ w.heap.size := by have := h.lt; omega
  have HPR : Hid (∀ w1, Sr E k false w1 → Calls Tryz.prog 64 #[.pointer (some ⟨w1.heap.size, 0, none⟩), .int .i64 x, .int .i64 1] (w1.alloc (.cells #[.slice none 0 0, .slice E.G.av E.G.A.length E.G.acap, .int .i64 1, .bool false] 102)) fun e w5 =>
      ∃ tt va vb vc vd ve vf b5, e = .returned (.agg #[.int .i64 va, .int .i64 vb, .string vc, .slice vd ve vf]) ∧ RpV (fun b => w1.heap.size + 1 ≤ b) w5 tt (.agg #[.int .i64 va, .int .i64 vb, .string vc, .slice vd ve vf]) ∧ Below w1.heap.size w1 w5 ∧ w1.heap.size + 1 ≤ w5.heap.size ∧ w5.cell? ⟨w1.heap.size, 3, none⟩ = some (.bool b5) ∧ ((b5 = false ∧ R = some (tt, k)) ∨ (b5 = true ∧ R = none))) := fun w1 hs => plain_read E hs x hx h0 E.H rfl g k (by omega) R hR
  clear h hx ht hD hb0 hp
  unfold RdAt
  go_enter Tryz.func44, Tryz.ntmps44
  go_wp2_with fail
  refine (specTag_any x _).mono ?_
  rintro e w1 ⟨rfl, hw1⟩
  rw [HTG.out]
  obtain ⟨hz1, q1, f1, ht1, hs1, hne⟩ := boxG HS.out _ _ _ hw1
  have HT1 : Hid (Turn E.rb w w1) := ht1
  have HS1 : Hid (Sr E k false w1) := hs1
  have HB1 : Hid (∀ o, w1.cell? ⟨w.heap.size, o, none⟩ = (#[.int .i64 0, .int .i64 0, .string ⟨#[]⟩, .slice none 0 0] : Array Value)[o]?) := q1
  clear hw1 ht1 hs1 c4 cf
  have c3 := HS1.out.c3
  have HZ1 : Hid (w1.heap.size = w.heap.size + 1) := hz1
  clear hz1
  go_wp2_with fail
  refine (HPR.out w1 HS1.out).mono ?_
  rintro e w5 ⟨tt, va, vb, vc, vd, ve, vf, b5, rfl, hv5, hb5, hz5, hc5, hd5⟩
  have hz1 := HZ1.out
  have HV5 : Hid (RpV (fun b => w1.heap.size + 1 ≤ b) w5 tt (.agg #[.int .i64 va, .int .i64 vb, .string vc, .slice vd ve vf])) := hv5
  have HD5 : Hid ((b5 = false ∧ R = some (tt, k)) ∨ (b5 = true ∧ R = none)) := hd5
  have HB5 : Hid (Below w1.heap.size w1 w5) := hb5
  have HS5 : Hid (Sr E k false w5) := HS1.out.below hb5
  have q5 : ∀ o, w5.cell? ⟨w.heap.size, o, none⟩ = (#[.int .i64 0, .int .i64 0, .string ⟨#[]⟩, .slice none 0 0] : Array Value)[o]? := fun o => by rw [hb5.cell (p := ⟨w.heap.size, o, none⟩) (by show w.heap.size < _; omega)]; exact q1 o
  have f5 : ∀ o, w5.frozen? ⟨w.heap.size, o, none⟩ = false := fun o => by rw [hb5.frozen (p := ⟨w.heap.size, o, none⟩) (by show w.heap.size < _; omega)]; exact f1 o
  have hk6 : Below w5.heap.size w5 (w5.alloc (.cells #[.int .i64 va, .int .i64 vb, .string vc, .slice vd ve vf] 66)) := (Below.refl _ _).alloc (Nat.le_refl _) _
  have hrl := HS.out.lt
  have q6 : ∀ o, (w5.alloc (.cells #[.int .i64 va, .int .i64 vb, .string vc, .slice vd ve vf] 66)).cell? ⟨w.heap.size, o, none⟩ = (#[.int .i64 0, .int .i64 0, .string ⟨#[]⟩, .slice none 0 0] : Array Value)[o]? := fun o => by rw [hk6.cell (p := ⟨w.heap.size, o, none⟩) (by show w.heap.size < _; omega)]; exact q5 o
  have f6 : ∀ o, (w5.alloc (.cells #[.int .i64 va, .int .i64 vb, .string vc, .slice vd ve vf] 66)).frozen? ⟨w.heap.size, o, none⟩ = false := fun o => by rw [hk6.frozen (p := ⟨w.heap.size, o, none⟩) (by show w.heap.size < _; omega)]; exact f5 o
  have c6 : (w5.alloc (.cells #[.int .i64 va, .int .i64 vb, .string vc, .slice vd ve vf] 66)).cell? ⟨w1.heap.size, 3, none⟩ = some (.bool b5) := by rw [hk6.cell (p := ⟨w1.heap.size, 3, none⟩) (by show w1.heap.size < _; omega)]; exact hc5
  have HS6 : Hid (Sr E k false (w5.alloc (.cells #[.int .i64 va, .int .i64 vb, .string vc, .slice vd ve vf] 66))) := HS5.out.below hk6
  have HT6 : Hid (Turn E.rb w (w5.alloc (.cells #[.int .i64 va, .int .i64 vb, .string vc, .slice vd ve vf] 66))) := (HT1.out.trans (Turn.of_below hb5)).trans (Turn.of_below hk6)
  have HV6 : Hid (RpV (fun b => w1.heap.size + 1 ≤ b) (w5.alloc (.cells #[.int .i64 va, .int .i64 vb, .string vc, .slice vd ve vf] 66)) tt (.agg #[.int .i64 va, .int .i64 vb, .string vc, .slice vd ve vf])) := (Moves.below hk6).repV HV5.out
  have k5 := HS6.out.c5
  have kf := HS6.out.fr
  have hne5 : E.rb ≠ w5.heap.size := by have := HS5.out.lt; omega
  have hne6 : w.heap.size ≠ w5.heap.size := by omega
  have hZ1 : Hid (w1.heap.size = w.heap.size + 1) := hz1
  have HZ5 : Hid (w1.heap.size + 1 ≤ w5.heap.size) := hz5
  clear hv5 hb5 hd5 hk6 q5 f5 q1 f1 hc5 c3 hz1 hz5
  cases b5 with
  | false =>
    have HR5 : Hid (R = some (tt, k)) := by
      rcases HD5.out with ⟨_, h⟩ | ⟨h, _⟩
      · exact h
      · cases h
    clear HD5
    go_wp2_with fail
    have hs7 := HS6.out.setB false
    have ht7 := HT6.out.set 5 (.bool false)
    have hv7 : RpV (fun b => w.heap.size + 1 ≤ b) ((w5.alloc (.cells #[.int .i64 va, .int .i64 vb, .string vc, .slice vd ve vf] 66)).setCell ⟨E.rb, 5, none⟩ (.bool false)) tt (.agg #[.int .i64 va, .int .i64 vb, .string vc, .slice vd ve vf]) := Moves.repV (S := fun b => w1.heap.size + 1 ≤ b) (fun b' o' v' hb' hc' => by
      have h1 : w1.heap.size + 1 ≤ b' := hb'
      have h2 := hZ1.out
      exact ⟨by omega, by rw [World.cell?_setCell_other (h := fun e => by simp only [Addr.mk.injEq] at e; omega)]; exact hc'⟩) HV6.out
    have hq7 : ∀ o, ((w5.alloc (.cells #[.int .i64 va, .int .i64 vb, .string vc, .slice vd ve vf] 66)).setCell ⟨E.rb, 5, none⟩ (.bool false)).cell? ⟨w.heap.size, o, none⟩ = (#[.int .i64 0, .int .i64 0, .string ⟨#[]⟩, .slice none 0 0] : Array Value)[o]? := fun o => by
      rw [World.cell?_setCell_other (h := fun e => by simp only [Addr.mk.injEq] at e; omega)]; exact q6 o
    generalize ((w5.alloc (.cells #[.int .i64 va, .int .i64 vb, .string vc, .slice vd ve vf] 66)).setCell ⟨E.rb, 5, none⟩ (.bool false)) = W7 at hs7 ht7 hv7 hq7 ⊢
    obtain ⟨a1, a2, a3⟩ := sbox_out (E := E.e) ht7 hv7 (.int .i64 va) (.int .i64 vb) (.string vc) (.slice vd ve vf)
    have hfin : Ans E w (lay4 W7 w.heap.size (.int .i64 va) (.int .i64 vb) (.string vc) (.slice vd ve vf)) R (.returned (.agg #[.int .i64 va, .int .i64 vb, .string vc, .slice vd ve vf])) := ⟨_, _, rfl, a2, a1, .inl ⟨k, HR5.out, HS.out.same hs7 a3⟩⟩
    exact bodyPost_ret (v := .agg #[.int .i64 va, .int .i64 vb, .string vc, .slice vd ve vf]) (by simp [results, Tryz.results44, go_sem, hq7]) rfl hfin
  | true =>
    have HR5 : Hid (R = none) := by
      rcases HD5.out with ⟨h, _⟩ | ⟨_, h⟩
      · cases h
      · exact h
    clear HD5
    go_wp2_with fail
    have hs7 := HS6.out.setB true
    have ht7 := HT6.out.set 5 (.bool true)
    have hv7 : RpV (fun b => w.heap.size + 1 ≤ b) ((w5.alloc (.cells #[.int .i64 va, .int .i64 vb, .string vc, .slice vd ve vf] 66)).setCell ⟨E.rb, 5, none⟩ (.bool true)) tt (.agg #[.int .i64 va, .int .i64 vb, .string vc, .slice vd ve vf]) := Moves.repV (S := fun b => w1.heap.size + 1 ≤ b) (fun b' o' v' hb' hc' => by
      have h1 : w1.heap.size + 1 ≤ b' := hb'
      have h2 := hZ1.out
      exact ⟨by omega, by rw [World.cell?_setCell_other (h := fun e => by simp only [Addr.mk.injEq] at e; omega)]; exact hc'⟩) HV6.out
    have hq7 : ∀ o, ((w5.alloc (.cells #[.int .i64 va, .int .i64 vb, .string vc, .slice vd ve vf] 66)).setCell ⟨E.rb, 5, none⟩ (.bool true)).cell? ⟨w.heap.size, o, none⟩ = (#[.int .i64 0, .int .i64 0, .string ⟨#[]⟩, .slice none 0 0] : Array Value)[o]? := fun o => by
      rw [World.cell?_setCell_other (h := fun e => by simp only [Addr.mk.injEq] at e; omega)]; exact q6 o
    generalize ((w5.alloc (.cells #[.int .i64 va, .int .i64 vb, .string vc, .slice vd ve vf] 66)).setCell ⟨E.rb, 5, none⟩ (.bool true)) = W7 at hs7 ht7 hv7 hq7 ⊢
    obtain ⟨a1, a2, a3⟩ := sbox_out (E := E.e) ht7 hv7 (.int .i64 va) (.int .i64 vb) (.string vc) (.slice vd ve vf)
    have hfin : Ans E w (lay4 W7 w.heap.size (.int .i64 va) (.int .i64 vb) (.string vc) (.slice vd ve vf)) R (.returned (.agg #[.int .i64 va, .int .i64 vb, .string vc, .slice vd ve vf])) := ⟨_, _, rfl, a2, a1, .inr ⟨HR5.out, _, HS.out.same hs7 a3⟩⟩
    exact bodyPost_ret (v := .agg #[.int .i64 va, .int .i64 vb, .string vc, .slice vd ve vf]) (by simp [results, Tryz.results44, go_sem, hq7]) rfl hfin
end Go.Proofs.YtjjmikfbongccaaGreatDoor.Gn
namespace Go.Proofs.YtjjmikfbongccaaGreatDoor.Gn
open Go.RowKit
set_option linter.unusedVariables false

theorem read_of {E : SE} {d : Nat} (hd6 : d ≤ 6) (ih : ∀ d', d = d' + 1 → ReadC E d') : ReadC E d := by
  intro w left x h hl hx
  have key : ∀ R, rT false E.H d x left = R → RdAt E d w x R → Calls Tryz.prog 44 #[.pointer (some ⟨E.rb, 0, none⟩), .int .i64 x, .int .i64 d] w fun e w' => Ans E w w' (rT false E.H d x left) e := fun R hR hA => by rw [hR]; exact hA
  by_cases h0 : 0 ≤ x
  · cases d with
    | zero => exact key none (by rw [rT]) (read_refuse hl h x hx _ (by omega) (.inr (.inl ⟨h0, by omega⟩)))
    | succ d' =>
      cases left with
      | zero => exact key none (by rw [rT, if_neg (by simp)]) (read_refuse hl h x hx _ (by omega) (.inr (.inr ⟨h0, by omega, rfl⟩)))
      | succ k =>
        have hi := ih d' rfl
        have hk : k ≤ 100 := by omega
        have hD : (1 : Int) ≤ ((d' + 1 : Nat) : Int) ∧ ((d' + 1 : Nat) : Int) ≤ 7 := by omega
        have ht := tagW_ge x
        have e0 : rT false E.H (d' + 1) x (k + 1) = raw false E.H (rT false E.H d') x k := by rw [rT, if_pos ⟨by simpa using h0, by omega⟩, held_false]; rfl
        have hc : tagW x = 0 ∨ tagW x = 1 ∨ tagW x = 2 ∨ tagW x = 3 ∨ tagW x = 4 ∨ tagW x = 5 ∨ tagW x = 6 ∨ tagW x = 7 := by omega
        rcases hc with hc | hc | hc | hc | hc | hc | hc | hc
        · exact key _ e0 (read_0 hk h x hx h0 _ hD hc _ rfl)
        · exact key _ e0 (read_1 hk h x hx h0 _ hD hc _ rfl)
        · exact key _ e0 (read_2 hk h x hx h0 _ hD hc _ rfl)
        · exact key _ e0 (read_3 hi (by omega) hk h x hx h0 _ hD hc rfl _ (by unfold raw; rw [if_neg (by omega), if_neg (by omega), if_neg (by omega), if_neg (by omega), if_neg (by omega), if_neg (by omega)]; rfl))
        · exact key _ e0 (read_4 hi (by omega) hk h x hx h0 _ hD hc rfl _ (by unfold raw; rw [if_neg (by omega), if_neg (by omega), if_neg (by omega), if_pos hc]))
        · exact key _ e0 (read_5 hi (by omega) hk h x hx h0 _ hD hc rfl _ (by unfold raw; rw [if_neg (by omega), if_neg (by omega), if_neg (by omega), if_neg (by omega), if_neg (by omega), if_neg (by omega)]; rfl))
        · exact key _ e0 (read_6 hk h x hx h0 _ hD hc _ (by unfold raw; rw [if_neg (by omega), if_neg (by omega), if_neg (by omega), if_neg (by omega), if_pos hc]))
        · exact key _ e0 (read_7 hk h x hx h0 _ hD hc _ rfl)
  · exact key none (by cases d with | zero => rw [rT] | succ d => rw [rT, if_neg (by simp; omega)]) (read_refuse hl h x hx _ (by omega) (.inl (by omega)))
theorem read_all (E : SE) : ∀ d : Nat, d ≤ 6 → ReadC E d
  | 0, h => read_of h (fun d' e => by omega)
  | d + 1, h => read_of h (fun d' e => by
      have : d' = d := by omega
      subst this
      exact read_all E d' (by omega))
end Go.Proofs.YtjjmikfbongccaaGreatDoor.Gn
namespace Go.Proofs.YtjjmikfbongccaaGreatDoor.Gn
open Go.RowKit
set_option linter.unusedVariables false

theorem sread_yes {E : SE} {d : Nat} (hc : ReadC E d) {w : World} {left : Nat} {x : Int} (hs : Sr E left false w) (hl : left ≤ 100) (hx : x ≤ 9223372036854775807) {t : Tm} {y : Nat} (he : rT false E.H d x left = some (t, y)) :
    Calls Tryz.prog 44 #[.pointer (some ⟨E.rb, 0, none⟩), .int .i64 x, .int .i64 d] w fun e w' => ∃ a b c d' e' f, e = .returned (.agg #[.int .i64 a, .int .i64 b, .string c, .slice d' e' f]) ∧ RpV (fun b => w.heap.size ≤ b) w' t (.agg #[.int .i64 a, .int .i64 b, .string c, .slice d' e' f]) ∧ Turn E.rb w w' ∧ Sr E y false w' := by
  refine (hc w left x hs hl hx).mono ?_
  rintro e w' ⟨t', v, rfl, hv, ht, ⟨y', hy, hs'⟩ | ⟨hn, _⟩⟩
  · rw [he] at hy
    simp only [Option.some.injEq, Prod.mk.injEq] at hy
    obtain ⟨rfl, rfl⟩ := hy
    obtain ⟨a, b, c, d', e', f, rfl⟩ := hv.form
    exact ⟨a, b, c, d', e', f, rfl, hv, ht, hs'⟩
  · rw [he] at hn; cases hn
theorem sread_no {E : SE} {d : Nat} (hc : ReadC E d) {w : World} {left : Nat} {x : Int} (hs : Sr E left false w) (hl : left ≤ 100) (hx : x ≤ 9223372036854775807) (he : rT false E.H d x left = none) :
    Calls Tryz.prog 44 #[.pointer (some ⟨E.rb, 0, none⟩), .int .i64 x, .int .i64 d] w fun e w' => ∃ a b c d' e' f, e = .returned (.agg #[.int .i64 a, .int .i64 b, .string c, .slice d' e' f]) ∧ Turn E.rb w w' ∧ ∃ z : Int, Sr E z true w' := by
  refine (hc w left x hs hl hx).mono ?_
  rintro e w' ⟨t', v, rfl, hv, ht, ⟨y', hy, hs'⟩ | ⟨hn, z, hs'⟩⟩
  · rw [he] at hy; cases hy
  · obtain ⟨a, b, c, d', e', f, rfl⟩ := hv.form
    exact ⟨a, b, c, d', e', f, rfl, ht, z, hs'⟩
abbrev E2 (G : GE) (w : World) : SE := ⟨G, w.heap.size + 1⟩
abbrev rdCells (G : GE) : Array Value := #[.slice G.wv G.N G.cap, .slice G.yv G.M G.ycap, .int .i64 G.mark, .slice G.av G.A.length G.acap, .int .i64 100, .bool false]
theorem sread_in {G : GE} {w : World} (h : GSrc G w) (W : World) (hW : ((w.alloc (.cells #[.int .i64 0, .int .i64 0, .string ⟨#[]⟩, .slice none 0 0] 66)).alloc (.cells #[.slice G.wv G.N G.cap, .slice G.yv G.M G.ycap, .int .i64 G.mark, .slice G.av G.A.length G.acap, .int .i64 100, .bool false] 82)) = W) :
    Sr (E2 G w) 100 false W ∧ (∀ o, W.cell? ⟨w.heap.size, o, none⟩ = (#[.int .i64 0, .int .i64 0, .string ⟨#[]⟩, .slice none 0 0] : Array Value)[o]?) ∧ (∀ o, W.frozen? ⟨w.heap.size, o, none⟩ = false) ∧ W.heap.size = w.heap.size + 2 ∧ Below w.heap.size w W := by
  have s1 : (w.alloc (.cells #[.int .i64 0, .int .i64 0, .string ⟨#[]⟩, .slice none 0 0] 66)).heap.size = w.heap.size + 1 := World.size_alloc _ _
  have b1 : Below w.heap.size w (w.alloc (.cells #[.int .i64 0, .int .i64 0, .string ⟨#[]⟩, .slice none 0 0] 66)) := (Below.refl _ _).alloc (Nat.le_refl _) _
  have q1 : ∀ o, (w.alloc (.cells #[.int .i64 0, .int .i64 0, .string ⟨#[]⟩, .slice none 0 0] 66)).cell? ⟨w.heap.size, o, none⟩ = (#[.int .i64 0, .int .i64 0, .string ⟨#[]⟩, .slice none 0 0] : Array Value)[o]? := fun o => World.cell?_alloc_new w _ _ o
  have f1 : ∀ o, (w.alloc (.cells #[.int .i64 0, .int .i64 0, .string ⟨#[]⟩, .slice none 0 0] 66)).frozen? ⟨w.heap.size, o, none⟩ = false := fun o => World.frozen?_alloc_new w _ _ o
  generalize (w.alloc (.cells #[.int .i64 0, .int .i64 0, .string ⟨#[]⟩, .slice none 0 0] 66)) = w1 at *
  have k2 : Below w1.heap.size w1 (w1.alloc (.cells (rdCells G) 82)) := (Below.refl _ _).alloc (Nat.le_refl _) _
  have q2 : ∀ o, (w1.alloc (.cells (rdCells G) 82)).cell? ⟨w.heap.size + 1, o, none⟩ = (rdCells G)[o]? := fun o => by rw [← s1]; exact World.cell?_alloc_new w1 _ _ o
  have f2 : ∀ o, (w1.alloc (.cells (rdCells G) 82)).frozen? ⟨w.heap.size + 1, o, none⟩ = false := fun o => by rw [← s1]; exact World.frozen?_alloc_new w1 _ _ o
  have s2 : (w1.alloc (.cells (rdCells G) 82)).heap.size = w.heap.size + 2 := by rw [World.size_alloc, s1]
  rw [hW] at k2 q2 f2 s2
  have hb : Below w.heap.size w W := b1.trans (k2.mono (by omega))
  have hs := h.below hb
  refine ⟨⟨q2 0, q2 1, q2 2, q2 3, q2 4, q2 5, f2, hs, fun hn => ?_, fun hn => ?_, fun hn => ?_⟩, fun o => ?_, fun o => ?_, s2, hb⟩
  · have : G.b < w.heap.size := World.block_lt_of_cell? w _ (h.ws 0 (by have : G.N ≠ 0 := hn; omega))
    show G.b ≠ w.heap.size + 1
    omega
  · have : G.yb < w.heap.size := World.block_lt_of_cell? w _ (h.ys 0 (by have : G.M ≠ 0 := hn; omega))
    show G.yb ≠ w.heap.size + 1
    omega
  · have : G.ab < w.heap.size := World.block_lt_of_cell? w _ (h.ats 0 (by have : G.A.length ≠ 0 := hn; omega))
    show G.ab ≠ w.heap.size + 1
    omega
  · rw [k2.cell (p := ⟨w.heap.size, o, none⟩) (by show w.heap.size < _; omega)]; exact q1 o
  · rw [k2.frozen (p := ⟨w.heap.size, o, none⟩) (by show w.heap.size < _; omega)]; exact f1 o
/-- What both kinds of GensRead answer. -/
def ReadP (G : GE) (w : World) (x : Int) (e : Ending) (w' : World) : Prop :=
  ∃ a b c d' e' f, e = .returned (.tuple #[.agg #[.int .i64 a, .int .i64 b, .string c, .slice d' e' f], .bool (readT G.H x).isSome]) ∧ Below w.heap.size w w' ∧
    ((∃ t, readT G.H x = some t ∧ RpV (fun b => w.heap.size ≤ b) w' t (.agg #[.int .i64 a, .int .i64 b, .string c, .slice d' e' f])) ∨ (readT G.H x = none ∧ Value.agg #[.int .i64 a, .int .i64 b, .string c, .slice d' e' f] = zT))
theorem readT_spec {H : Hp} (ho : H.ok) (x : Int) : (∀ t y, rT false H 6 x 100 = some (t, y) → readT H x = if (look t 6 100).isSome then some t else none) ∧ (rT false H 6 x 100 = none → readT H x = none) := by
  have key := read_one ho x
  refine ⟨fun t y h => ?_, fun h => ?_⟩
  · unfold readT
    cases hq : rT true H 6 x 100 with
    | none =>
      split
      · rename_i hl
        have := (key t y).2 ⟨h, hl⟩
        rw [hq] at this; cases this
      · rfl
    | some p =>
      obtain ⟨t', y'⟩ := p
      obtain ⟨h1, h2⟩ := (key t' y').1 hq
      rw [h] at h1
      simp only [Option.some.injEq, Prod.mk.injEq] at h1
      obtain ⟨rfl, rfl⟩ := h1
      rw [if_pos h2]; rfl
  · unfold readT
    cases hq : rT true H 6 x 100 with
    | none => rfl
    | some p =>
      obtain ⟨t', y'⟩ := p
      have := ((key t' y').1 hq).1
      rw [h] at this; cases this

set_option maxHeartbeats 2000000 in
set_option maxRecDepth 100000 in
theorem gensRead_aux (E : GE) (w0 w : World) (hw : w0.alloc (.cells #[.slice E.wv E.N E.cap, .slice E.yv E.M E.ycap, .int .i64 E.mark] 38) = w) (h : GSrc E w) (x : Int) (hx : x ≤ 9223372036854775807) :
    Calls Tryz.prog 33 #[E.v, .slice E.av E.A.length E.acap, .int .i64 x] w0 (ReadP E w x) := by
  have HS : Hid (GSrc E w) := h
  have HX : Hid (x ≤ 9223372036854775807) := hx
  have hus : w0.heap.size + 1 = w.heap.size := by rw [← hw, World.size_alloc]
  have HUS : Hid (w0.heap.size + 1 = w.heap.size) := hus
  have HW0 : Hid (w0.alloc (.cells #[.slice E.wv E.N E.cap, .slice E.yv E.M E.ycap, .int .i64 E.mark] 38) = w) := hw
  clear hus hw
  have HK := readT_spec (GE.ok h.n h.m h.a) x
  have HKK : Hid ((∀ t y, rT false E.H 6 x 100 = some (t, y) → readT E.H x = if (look t 6 100).isSome then some t else none) ∧ (rT false E.H 6 x 100 = none → readT E.H x = none)) := HK
  clear h hx HK
  unfold ReadP GE.v
  generalize hRR : readT E.H x = RR
  have HRR : Hid (readT E.H x = RR) := hRR
  clear hRR
  go_enter Tryz.func33, Tryz.ntmps33
  go_wp2_with fail
  rw [HUS.out, HW0.out]
  generalize hW : ((w.alloc (.cells #[.int .i64 0, .int .i64 0, .string ⟨#[]⟩, .slice none 0 0] 66)).alloc (.cells #[.slice E.wv E.N E.cap, .slice E.yv E.M E.ycap, .int .i64 E.mark, .slice E.av E.A.length E.acap, .int .i64 100, .bool false] 82)) = W
  obtain ⟨hs2, q2, f2, hz2, hb2⟩ := sread_in HS.out W hW
  have HB2 : Hid (Below w.heap.size w W) := hb2
  clear hW hb2
  cases hq : rT false E.H 6 x 100 with
  | none =>
    have HRN : Hid (RR = none) := by show _ = _; rw [← HRR.out]; exact HKK.out.2 hq
    refine (sread_no (E := E2 E w) (read_all _ 6 (Nat.le_refl _)) (left := 100) hs2 (by decide) HX.out hq).mono ?_
    rintro e w5 ⟨va, vb, vc, vd, ve, vf, rfl, ht5, z, hs5⟩
    have c3 : w5.cell? ⟨w.heap.size + 1, 5, none⟩ = some (.bool true) := hs5.c5
    obtain ⟨q5, f5⟩ := ht5.keep (W := w.heap.size) (by show w.heap.size + 1 ≠ _; omega) (by omega) q2 f2
    have hz5 := ht5.size
    have HB5 : Hid (Below w.heap.size w w5) := Turn.below HB2.out (by omega) ht5 (by show _ ≤ w.heap.size + 1; omega)
    clear hs2 q2 f2 hq ht5 hs5
    have hk5 : Below w5.heap.size w5 (w5.alloc (.cells #[.int .i64 va, .int .i64 vb, .string vc, .slice vd ve vf] 66)) := (Below.refl _ _).alloc (Nat.le_refl _) _
    have q6 : ∀ o, (w5.alloc (.cells #[.int .i64 va, .int .i64 vb, .string vc, .slice vd ve vf] 66)).cell? ⟨w.heap.size, o, none⟩ = (#[.int .i64 0, .int .i64 0, .string ⟨#[]⟩, .slice none 0 0] : Array Value)[o]? := fun o => by rw [hk5.cell (p := ⟨w.heap.size, o, none⟩) (by show w.heap.size < _; omega)]; exact q5 o
    have f6 : ∀ o, (w5.alloc (.cells #[.int .i64 va, .int .i64 vb, .string vc, .slice vd ve vf] 66)).frozen? ⟨w.heap.size, o, none⟩ = false := fun o => by rw [hk5.frozen (p := ⟨w.heap.size, o, none⟩) (by show w.heap.size < _; omega)]; exact f5 o
    have c36 : (w5.alloc (.cells #[.int .i64 va, .int .i64 vb, .string vc, .slice vd ve vf] 66)).cell? ⟨w.heap.size + 1, 5, none⟩ = _ := (hk5.cell (p := ⟨w.heap.size + 1, 5, none⟩) (by show w.heap.size + 1 < _; omega)).trans c3
    have HB6 : Hid (Below w.heap.size w (w5.alloc (.cells #[.int .i64 va, .int .i64 vb, .string vc, .slice vd ve vf] 66))) := HB5.out.trans (hk5.mono (by omega))
    clear hk5
    go_wp2_with fail
    refine bodyPost_ret (v := .tuple #[zT, .bool false]) (by simp [results, Tryz.results33, go_sem, q6]) rfl ⟨0, 0, ⟨#[]⟩, none, 0, 0, by rw [HRN.out]; rfl, lay4_below HB6.out (Nat.le_refl _) _ _ _ _, .inr ⟨HRN.out, rfl⟩⟩
  | some ty =>
    obtain ⟨t, y⟩ := ty
    have HRT : Hid (RR = if (look t 6 100).isSome then some t else none) := by show _ = _; rw [← HRR.out]; exact HKK.out.1 t y hq
    refine (sread_yes (E := E2 E w) (read_all _ 6 (Nat.le_refl _)) (left := 100) hs2 (by decide) HX.out hq).mono ?_
    rintro e w5 ⟨va, vb, vc, vd, ve, vf, rfl, hv5, ht5, hs5⟩
    have c3 : w5.cell? ⟨w.heap.size + 1, 5, none⟩ = some (.bool false) := hs5.c5
    obtain ⟨q5, f5⟩ := ht5.keep (W := w.heap.size) (by show w.heap.size + 1 ≠ _; omega) (by omega) q2 f2
    have hz5 := ht5.size
    have HB5 : Hid (Below w.heap.size w w5) := Turn.below HB2.out (by omega) ht5 (by show _ ≤ w.heap.size + 1; omega)
    have HV5 : Hid (RpV (fun b => w.heap.size + 2 ≤ b) w5 t (.agg #[.int .i64 va, .int .i64 vb, .string vc, .slice vd ve vf])) := by rw [hz2] at hv5; exact hv5
    clear hs2 q2 f2 hq ht5 hs5 hv5
    have hk5 : Below w5.heap.size w5 (w5.alloc (.cells #[.int .i64 va, .int .i64 vb, .string vc, .slice vd ve vf] 66)) := (Below.refl _ _).alloc (Nat.le_refl _) _
    have q6 : ∀ o, (w5.alloc (.cells #[.int .i64 va, .int .i64 vb, .string vc, .slice vd ve vf] 66)).cell? ⟨w.heap.size, o, none⟩ = (#[.int .i64 0, .int .i64 0, .string ⟨#[]⟩, .slice none 0 0] : Array Value)[o]? := fun o => by rw [hk5.cell (p := ⟨w.heap.size, o, none⟩) (by show w.heap.size < _; omega)]; exact q5 o
    have f6 : ∀ o, (w5.alloc (.cells #[.int .i64 va, .int .i64 vb, .string vc, .slice vd ve vf] 66)).frozen? ⟨w.heap.size, o, none⟩ = false := fun o => by rw [hk5.frozen (p := ⟨w.heap.size, o, none⟩) (by show w.heap.size < _; omega)]; exact f5 o
    have c36 : (w5.alloc (.cells #[.int .i64 va, .int .i64 vb, .string vc, .slice vd ve vf] 66)).cell? ⟨w.heap.size + 1, 5, none⟩ = _ := (hk5.cell (p := ⟨w.heap.size + 1, 5, none⟩) (by show w.heap.size + 1 < _; omega)).trans c3
    have HB6 : Hid (Below w.heap.size w (w5.alloc (.cells #[.int .i64 va, .int .i64 vb, .string vc, .slice vd ve vf] 66))) := HB5.out.trans (hk5.mono (by omega))
    have HV6 : Hid (RpV (fun b => w.heap.size + 2 ≤ b) (w5.alloc (.cells #[.int .i64 va, .int .i64 vb, .string vc, .slice vd ve vf] 66)) t (.agg #[.int .i64 va, .int .i64 vb, .string vc, .slice vd ve vf])) := (Moves.below hk5).repV HV5.out
    clear hk5
    cases hlk : (look t 6 100).isSome with
    | true =>
      have HLK : Hid ((look t 6 100).isSome = true) := hlk
      have HRS : Hid (RR = some t) := by show _ = _; rw [HRT.out, if_pos hlk]
      clear hlk
      go_wp2_with (first | (go_at_call 45; refine (specOk_any t 0 _ _ HV6.out.rep).mono ?_; rintro e w7 ⟨rfl, hb7⟩; rw [HLK.out]; obtain ⟨b7, hk7, hz7, o7, t7, p7⟩ := box_two hb7; have q7 : ∀ o, w7.cell? ⟨w.heap.size, o, none⟩ = (#[.int .i64 0, .int .i64 0, .string ⟨#[]⟩, .slice none 0 0] : Array Value)[o]? := (fun o => by rw [hb7.cell (p := ⟨w.heap.size, o, none⟩) (by rw [World.size_alloc]; show w.heap.size < _; omega)]; exact q6 o); have f7 : ∀ o, w7.frozen? ⟨w.heap.size, o, none⟩ = false := (fun o => by rw [hb7.frozen (p := ⟨w.heap.size, o, none⟩) (by rw [World.size_alloc]; show w.heap.size < _; omega)]; exact f6 o); have HB7 : Hid (Below w.heap.size w w7) := HB6.out.trans (hb7.mono (by rw [World.size_alloc]; omega)); have HV7 : Hid (RpV (fun b => w.heap.size + 2 ≤ b) w7 t (.agg #[.int .i64 va, .int .i64 vb, .string vc, .slice vd ve vf])) := (Moves.below hb7).repV HV6.out; clear hb7 hk7 o7 t7 p7 q6 f6 c36))
      refine bodyPost_ret (v := .tuple #[.agg #[.int .i64 va, .int .i64 vb, .string vc, .slice vd ve vf], .bool true]) (by simp [results, Tryz.results33, go_sem, q7]) rfl ⟨va, vb, vc, vd, ve, vf, by rw [HRS.out]; rfl, lay4_below HB7.out (Nat.le_refl _) _ _ _ _, .inl ⟨t, HRS.out, ?_⟩⟩
      refine Moves.repV (S := fun b => w.heap.size + 2 ≤ b) (fun b' o' v' hb' hc' => ?_) HV7.out
      have : w.heap.size + 2 ≤ b' := hb'
      exact ⟨by show w.heap.size ≤ b'; omega, (lay4_cell (by omega)).trans hc'⟩
    | false =>
      have HLK : Hid ((look t 6 100).isSome = false) := hlk
      have HRN : Hid (RR = none) := by show _ = _; rw [HRT.out, if_neg (by rw [hlk]; simp)]
      clear hlk
      go_wp2_with (first | (go_at_call 45; refine (specOk_any t 0 _ _ HV6.out.rep).mono ?_; rintro e w7 ⟨rfl, hb7⟩; rw [HLK.out]; have q7 : ∀ o, w7.cell? ⟨w.heap.size, o, none⟩ = (#[.int .i64 0, .int .i64 0, .string ⟨#[]⟩, .slice none 0 0] : Array Value)[o]? := (fun o => by rw [hb7.cell (p := ⟨w.heap.size, o, none⟩) (by rw [World.size_alloc]; show w.heap.size < _; omega)]; exact q6 o); have f7 : ∀ o, w7.frozen? ⟨w.heap.size, o, none⟩ = false := (fun o => by rw [hb7.frozen (p := ⟨w.heap.size, o, none⟩) (by rw [World.size_alloc]; show w.heap.size < _; omega)]; exact f6 o); have HB7 : Hid (Below w.heap.size w w7) := HB6.out.trans (hb7.mono (by rw [World.size_alloc]; omega)); clear hb7 q6 f6 c36))
      exact bodyPost_ret (v := .tuple #[zT, .bool false]) (by simp [results, Tryz.results33, go_sem, q7]) rfl ⟨0, 0, ⟨#[]⟩, none, 0, 0, by rw [HRN.out]; rfl, lay4_below HB7.out (Nat.le_refl _) _ _ _ _, .inr ⟨HRN.out, rfl⟩⟩
theorem specGensRead_any (E : GE) (w : World) (h : GSrc E w) (x : Int) (hx : x ≤ 9223372036854775807) :
    Calls Tryz.prog 33 #[E.v, .slice E.av E.A.length E.acap, .int .i64 x] w (ReadP E w x) := by
  have hb : Below w.heap.size w (w.alloc (.cells #[.slice E.wv E.N E.cap, .slice E.yv E.M E.ycap, .int .i64 E.mark] 38)) := (Below.refl _ _).alloc (Nat.le_refl _) _
  have hz : (w.alloc (.cells #[.slice E.wv E.N E.cap, .slice E.yv E.M E.ycap, .int .i64 E.mark] 38)).heap.size = w.heap.size + 1 := World.size_alloc _ _
  refine (gensRead_aux E w _ rfl (h.below hb) x hx).mono ?_
  rintro e w' ⟨a, b, c, d', e', f, he, hb', hr⟩
  refine ⟨a, b, c, d', e', f, he, hb.trans (hb'.mono (by omega)), ?_⟩
  rcases hr with ⟨t, h1, h2⟩ | h
  · refine .inl ⟨t, h1, Moves.repV (S := fun b => (w.alloc (.cells #[.slice E.wv E.N E.cap, .slice E.yv E.M E.ycap, .int .i64 E.mark] 38)).heap.size ≤ b) (fun b' o' v' hb' hc' => ⟨?_, hc'⟩) h2⟩
    have : w.heap.size + 1 ≤ b' := by rw [← hz]; exact hb'
    show w.heap.size ≤ b'
    omega
  · exact .inr h
end Go.Proofs.YtjjmikfbongccaaGreatDoor.Gn
