/-
  How the program reads words that a function value tells: the kinds of terms.
-/
import Derived.Test.YtabgfaafpgholaaW23
namespace Go.Proofs.Ytabgfaafpgholaa.Gn
open Go.RowKit
set_option linter.unusedVariables false

set_option maxHeartbeats 2000000 in
set_option maxRecDepth 100000 in
theorem termOf_1y {E : Env} {d : Nat} {w : World} {left : Nat} (h : Rr E left w) (x : Int) (hw : isW x = true) (ht : tagW x = 1) (hv : valW x < E.H.A.length) : TofC E d w left x := by
  obtain ⟨p, hp⟩ : ∃ p : Nat, valW x = p := ⟨(valW x).toNat, by have := valW_ge x; omega⟩
  have HP : Hid (valW x = p) := hp
  have HX : Hid (x ≤ 9223372036854775807) := isW_big hw
  have HT : Hid (tagW x = 1) := ht
  have hpb : (p : Int) ≤ 4000000 := by have := isW_val hw; omega
  have HPB : Hid (p ≤ 4000000) := by show _ ≤ _; omega
  have HR : Hid (Rr E left w) := h
  have hpl : p < E.H.A.length := by omega
  obtain ⟨s, hs⟩ : ∃ s, E.H.A[p] = s := ⟨_, rfl⟩
  have HSC : Hid (s.size ≤ 1048576) := h.txt s (by rw [← hs]; exact List.getElem_mem _)
  have HSM : Hid (s.size ≤ maxLen) := Nat.le_trans HSC.out (by unfold maxLen; omega)
  have HAL : Hid (E.av = some ⟨E.ab, E.ao, none⟩) := h.al (by omega)
  have HS : Hid (E.H.A[p] = s) := hs
  unfold TofC
  rw [show raw true E.H (rT true E.H d) x left = some (.mk 2 0 s [], left) by unfold raw; rw [if_neg (by omega), if_pos ht]; unfold rAtom; rw [if_pos hv, hp, Int.toNat_natCast]; simp [hs, hpl]]
  clear hp hw ht h hv
  go_enter Try.func107, Try.ntmps107
  go_wp2_with fail
  refine (implVal_any x HX.out _).mono ?_
  rintro e w1 ⟨rfl, hw1⟩
  rw [HP.out]
  obtain ⟨hz1, q1, f1, ht1, hr1, hne⟩ := box_in HR.out _ _ hw1
  have HT1 : Hid (Turn E.rb w w1) := ht1
  have HR1 : Hid (Rr E left w1) := hr1
  have c1 := hr1.c1
  rw [HAL.out] at c1
  have ca : w1.cell? ⟨E.ab, E.ao + p, none⟩ = some (.string s) := by rw [hr1.at p hpl, HS.out]
  have hAb := hr1.ok.a
  clear HS hs
  generalize E.H.A.length = AL at *
  have hd : decide ((p : Int) < (AL : Int)) = true := by simp; omega
  clear hw1 ht1 hr1
  go_wp2_with (first | (go_at_call 120; refine (implTag_any x HX.out _).mono ?_; rintro e w1 ⟨rfl, rfl⟩; rw [HT.out]) | (go_at_call 93; refine (insist_yes _).mono ?_; rintro e w1 ⟨rfl, rfl⟩) | (go_at_call 122; fail))
  have hlt1 : w.heap.size < w1.heap.size := by omega
  refine (strClone_any s w1 HSC.out).mono ?_
  rintro e w2 ⟨rfl, hb2⟩
  have q2 : ∀ o, w2.cell? ⟨w.heap.size, o, none⟩ = w1.cell? ⟨w.heap.size, o, none⟩ := fun o => hb2.cell (p := ⟨w.heap.size, o, none⟩) hlt1
  have g2 : ∀ o, w2.frozen? ⟨w.heap.size, o, none⟩ = w1.frozen? ⟨w.heap.size, o, none⟩ := fun o => hb2.frozen (p := ⟨w.heap.size, o, none⟩) hlt1
  simp only [q1, f1] at q2 g2
  have HT2 : Hid (Turn E.rb w w2) := HT1.out.trans (Turn.of_below hb2)
  have HR2 : Hid (Rr E left w2) := HR1.out.below hb2
  have hz2 : w1.heap.size ≤ w2.heap.size := hb2.size
  clear hb2 q1 f1
  go_wp2_with fail
  obtain ⟨a1, a2, a3⟩ := box_out HR.out HT2.out (by omega) HR2.out (rp_leaf 2 0 s HSM.out) (.int .i64 2) (.int .i64 0) (.string s) (.slice none 0 0)
  exact bodyPost_ret (v := .agg #[.int .i64 2, .int .i64 0, .string s, .slice none 0 0]) (by simp [results, Try.results107, go_sem, q2]) rfl ⟨a1, .inl ⟨_, _, _, rfl, rfl, a2, a3⟩⟩
set_option maxHeartbeats 2000000 in
set_option maxRecDepth 100000 in
theorem termOf_1n {E : Env} {d : Nat} {w : World} {left : Nat} (h : Rr E left w) (x : Int) (hw : isW x = true) (ht : tagW x = 1) (hv : ¬ valW x < E.H.A.length) : TofC E d w left x := by
  obtain ⟨p, hp⟩ : ∃ p : Nat, valW x = p := ⟨(valW x).toNat, by have := valW_ge x; omega⟩
  have HP : Hid (valW x = p) := hp
  have HX : Hid (x ≤ 9223372036854775807) := isW_big hw
  have HT : Hid (tagW x = 1) := ht
  have hpb : (p : Int) ≤ 4000000 := by have := isW_val hw; omega
  have HPB : Hid (p ≤ 4000000) := by show _ ≤ _; omega
  have HR : Hid (Rr E left w) := h
  have hpl : ¬ p < E.H.A.length := by omega
  unfold TofC
  rw [show raw true E.H (rT true E.H d) x left = none by unfold raw; rw [if_neg (by omega), if_pos ht]; unfold rAtom; rw [if_neg hv]]
  clear hp hw ht h hv
  go_enter Try.func107, Try.ntmps107
  go_wp2_with fail
  refine (implVal_any x HX.out _).mono ?_
  rintro e w1 ⟨rfl, hw1⟩
  rw [HP.out]
  obtain ⟨hz1, q1, f1, ht1, hr1, hne⟩ := box_in HR.out _ _ hw1
  have HT1 : Hid (Turn E.rb w w1) := ht1
  have HR1 : Hid (Rr E left w1) := hr1
  have c1 := hr1.c1
  have hAb := hr1.ok.a
  generalize E.H.A.length = AL at *
  have hd : decide ((p : Int) < (AL : Int)) = false := by simp; omega
  clear hw1 ht1 hr1
  go_wp2_with (first | (go_at_call 120; refine (implTag_any x HX.out _).mono ?_; rintro e w1 ⟨rfl, rfl⟩; rw [HT.out]) | (go_at_call 93; refine (insist_no _).mono ?_; rintro e w1 ⟨rfl, rfl⟩))
  exact ⟨rfl, HT1.out, .inr ⟨trivial, rfl⟩⟩
set_option maxHeartbeats 2000000 in
set_option maxRecDepth 100000 in
theorem termOf_2 {E : Env} {d : Nat} {w : World} {left : Nat} (h : Rr E left w) (x : Int) (hw : isW x = true) (ht : tagW x = 2) : TofC E d w left x := by
  obtain ⟨p, hp⟩ : ∃ p : Nat, valW x = p := ⟨(valW x).toNat, by have := valW_ge x; omega⟩
  have HP : Hid (valW x = p) := hp
  have HX : Hid (x ≤ 9223372036854775807) := isW_big hw
  have HT : Hid (tagW x = 2) := ht
  have hpb : (p : Int) ≤ 4000000 := by have := isW_val hw; omega
  have HPB : Hid (p ≤ 4000000) := by show _ ≤ _; omega
  have HR : Hid (Rr E left w) := h
  unfold TofC
  rw [show raw true E.H (rT true E.H d) x left = some (.mk 3 (p : Int) ByteArray.empty [], left) by unfold raw; rw [if_neg (by omega), if_neg (by omega), if_pos ht, hp]]
  clear hp hw ht h
  go_enter Try.func107, Try.ntmps107
  go_wp2_with fail
  refine (implVal_any x HX.out _).mono ?_
  rintro e w1 ⟨rfl, hw1⟩
  rw [HP.out]
  obtain ⟨hz1, q1, f1, ht1, hr1, hne⟩ := box_in HR.out _ _ hw1
  have HT1 : Hid (Turn E.rb w w1) := ht1
  have HR1 : Hid (Rr E left w1) := hr1
  clear hw1 ht1 hr1
  go_wp2_with (first | (go_at_call 120; refine (implTag_any x HX.out _).mono ?_; rintro e w1 ⟨rfl, rfl⟩; rw [HT.out]))
  obtain ⟨a1, a2, a3⟩ := box_out HR.out HT1.out (by omega) HR1.out (rp_leaf 3 (p : Int) ByteArray.empty (Nat.zero_le _)) (.int .i64 3) (.int .i64 (p : Int)) (.string ⟨#[]⟩) (.slice none 0 0)
  exact bodyPost_ret (v := .agg #[.int .i64 3, .int .i64 (p : Int), .string ⟨#[]⟩, .slice none 0 0]) (by simp [results, Try.results107, go_sem, q1]) rfl ⟨a1, .inl ⟨_, _, _, rfl, rfl, a2, a3⟩⟩
set_option maxHeartbeats 2000000 in
set_option maxRecDepth 100000 in
theorem termOf_4n {E : Env} {d : Nat} {w : World} {left : Nat} (h : Rr E left w) (x : Int) (hw : isW x = true) (ht : tagW x = 4) (hc : cnt E.H (valW x) 8 = none) : TofC E d w left x := by
  obtain ⟨p, hp⟩ : ∃ p : Nat, valW x = p := ⟨(valW x).toNat, by have := valW_ge x; omega⟩
  have HP : Hid (valW x = p) := hp
  have HX : Hid (x ≤ 9223372036854775807) := isW_big hw
  have HT : Hid (tagW x = 4) := ht
  have hpb : (p : Int) ≤ 4000000 := by have := isW_val hw; omega
  have HPB : Hid (p ≤ 4000000) := by show _ ≤ _; omega
  have HR : Hid (Rr E left w) := h
  have HC : Hid (cnt E.H (p : Int) 8 = none) := by show _ = _; rw [← hp]; exact hc
  unfold TofC
  rw [show raw true E.H (rT true E.H d) x left = none by unfold raw; rw [if_neg (by omega), if_neg (by omega), if_neg (by omega), if_pos ht]; unfold rCnt; rw [hc]]
  clear hp hw ht h hc
  go_enter Try.func107, Try.ntmps107
  go_wp2_with fail
  refine (implVal_any x HX.out _).mono ?_
  rintro e w1 ⟨rfl, hw1⟩
  rw [HP.out]
  obtain ⟨hz1, q1, f1, ht1, hr1, hne⟩ := box_in HR.out _ _ hw1
  have HT1 : Hid (Turn E.rb w w1) := ht1
  have HR1 : Hid (Rr E left w1) := hr1
  clear hw1 ht1 hr1
  go_wp2_with (first | (go_at_call 120; refine (implTag_any x HX.out _).mono ?_; rintro e w1 ⟨rfl, rfl⟩; rw [HT.out]) | (go_at_call 124; refine (counted_no HR1.out p 8 (by decide) HPB.out HC.out).mono ?_; rintro e w1 ⟨rfl, rfl⟩))
  exact ⟨rfl, HT1.out, .inr ⟨trivial, rfl⟩⟩
set_option maxHeartbeats 2000000 in
set_option maxRecDepth 100000 in
theorem termOf_6n {E : Env} {d : Nat} {w : World} {left : Nat} (h : Rr E left w) (x : Int) (hw : isW x = true) (ht : tagW x = 6) (hc : cnt E.H (valW x) 40 = none) : TofC E d w left x := by
  obtain ⟨p, hp⟩ : ∃ p : Nat, valW x = p := ⟨(valW x).toNat, by have := valW_ge x; omega⟩
  have HP : Hid (valW x = p) := hp
  have HX : Hid (x ≤ 9223372036854775807) := isW_big hw
  have HT : Hid (tagW x = 6) := ht
  have hpb : (p : Int) ≤ 4000000 := by have := isW_val hw; omega
  have HPB : Hid (p ≤ 4000000) := by show _ ≤ _; omega
  have HR : Hid (Rr E left w) := h
  have HC : Hid (cnt E.H (p : Int) 40 = none) := by show _ = _; rw [← hp]; exact hc
  unfold TofC
  rw [show raw true E.H (rT true E.H d) x left = none by unfold raw; rw [if_neg (by omega), if_neg (by omega), if_neg (by omega), if_neg (by omega), if_pos ht]; unfold rBin; rw [hc]]
  clear hp hw ht h hc
  go_enter Try.func107, Try.ntmps107
  go_wp2_with fail
  refine (implVal_any x HX.out _).mono ?_
  rintro e w1 ⟨rfl, hw1⟩
  rw [HP.out]
  obtain ⟨hz1, q1, f1, ht1, hr1, hne⟩ := box_in HR.out _ _ hw1
  have HT1 : Hid (Turn E.rb w w1) := ht1
  have HR1 : Hid (Rr E left w1) := hr1
  clear hw1 ht1 hr1
  go_wp2_with (first | (go_at_call 120; refine (implTag_any x HX.out _).mono ?_; rintro e w1 ⟨rfl, rfl⟩; rw [HT.out]) | (go_at_call 124; refine (counted_no HR1.out p 40 (by decide) HPB.out HC.out).mono ?_; rintro e w1 ⟨rfl, rfl⟩))
  exact ⟨rfl, HT1.out, .inr ⟨trivial, rfl⟩⟩
set_option maxHeartbeats 2000000 in
set_option maxRecDepth 100000 in
theorem termOf_4y {E : Env} {d : Nat} (ih : TermC E d) {w : World} {left : Nat} (h : Rr E left w) (hl : left ≤ 100) (x : Int) (hw : isW x = true) (ht : tagW x = 4) (n : Nat) (hc : cnt E.H (valW x) 8 = some n) (l : List Tm) (y : Nat) (he : rTs (E.H.w (valW x).toNat) (rT true E.H d) n 1 left = some (l, y)) : TofC E d w left x := by
  obtain ⟨p, hp⟩ : ∃ p : Nat, valW x = p := ⟨(valW x).toNat, by have := valW_ge x; omega⟩
  have HP : Hid (valW x = p) := hp
  have HX : Hid (x ≤ 9223372036854775807) := isW_big hw
  have HT : Hid (tagW x = 4) := ht
  have hpb : (p : Int) ≤ 4000000 := by have := isW_val hw; omega
  have HPB : Hid (p ≤ 4000000) := by show _ ≤ _; omega
  have HR : Hid (Rr E left w) := h
  have HC : Hid (cnt E.H (p : Int) 8 = some n) := by show _ = _; rw [← hp]; exact hc
  have hcs := cnt_some HC.out
  rw [Int.toNat_natCast] at hcs
  have HPN : Hid (1 + n ≤ E.H.len p) := by show _ ≤ _; omega
  have HN8 : Hid (n ≤ 8) := by show _ ≤ _; omega
  have HL : Hid (left ≤ 100) := hl
  have IH : Hid (TermC E d) := ih
  have HE : Hid (rTs (E.H.w p) (rT true E.H d) n 1 left = some (l, y)) := by show _ = _; rw [← he, hp]; simp
  unfold TofC
  rw [show raw true E.H (rT true E.H d) x left = some (.mk 4 0 ByteArray.empty l, y) by unfold raw; rw [if_neg (by omega), if_neg (by omega), if_neg (by omega), if_pos ht]; unfold rCnt; rw [hc]; show tup 4 _ = _; rw [he]; rfl]
  clear hp hw ht h hc hcs hl ih he
  go_enter Try.func107, Try.ntmps107
  go_wp2_with fail
  refine (implVal_any x HX.out _).mono ?_
  rintro e w1 ⟨rfl, hw1⟩
  rw [HP.out]
  obtain ⟨hz1, q1, f1, ht1, hr1, hne⟩ := box_in HR.out _ _ hw1
  have HT1 : Hid (Turn E.rb w w1) := ht1
  have HR1 : Hid (Rr E left w1) := hr1
  have hr1s := HR1.out.lt
  clear hw1 ht1 hr1
  go_wp2_with (first | (go_at_call 120; refine (implTag_any x HX.out _).mono ?_; rintro e w1 ⟨rfl, rfl⟩; rw [HT.out]) | (go_at_call 124; refine (counted_yes HR1.out p 8 n HC.out).mono ?_; rintro e w1 ⟨⟨o2, c2, rfl, ho2⟩, rfl⟩) | (go_at_call 123; refine (terms_yes IH.out HR1.out HL.out p 1 n o2 _ ho2 HPN.out HN8.out HE.out).mono ?_; rintro e w5 ⟨ao, cap, rfl, ht5, hl5, hc5, hv5, hr5⟩; have HT5 : Hid (Turn E.rb w1 w5) := ht5; obtain ⟨q5, f5⟩ := ht5.keep hne (by omega) q1 f1; have HR5 : Hid (Rr E y w5) := hr5; have HV5 : Hid (OwL w5 l (w1.heap.size) w5.heap.size ao) := hv5; have HLC : Hid (l.length ≤ cap ∧ cap ≤ maxLen) := ⟨hl5, hc5⟩; have hz5 := ht5.size; clear ht5 hr5 hv5 hl5 hc5))
  have hv6 : OwE w5 (w.heap.size + 1) w5.heap.size (.mk 4 0 ByteArray.empty l) (.agg #[.int .i64 4, .int .i64 0, .string ⟨#[]⟩, .slice ao l.length cap]) := ⟨ao, cap, rfl, Nat.zero_le _, HLC.out.1, HLC.out.2, by rw [← hz1]; exact HV5.out⟩
  obtain ⟨a1, a2, a3⟩ := box_out HR.out (HT1.out.trans HT5.out) (by omega) HR5.out hv6 (.int .i64 4) (.int .i64 0) (.string ⟨#[]⟩) (.slice ao l.length cap)
  exact bodyPost_ret (v := .agg #[.int .i64 4, .int .i64 0, .string ⟨#[]⟩, .slice ao l.length cap]) (by simp [results, Try.results107, go_sem, q5]) rfl ⟨a1, .inl ⟨_, _, _, rfl, rfl, a2, a3⟩⟩
set_option maxHeartbeats 2000000 in
set_option maxRecDepth 100000 in
theorem termOf_4z {E : Env} {d : Nat} (ih : TermC E d) {w : World} {left : Nat} (h : Rr E left w) (hl : left ≤ 100) (x : Int) (hw : isW x = true) (ht : tagW x = 4) (n : Nat) (hc : cnt E.H (valW x) 8 = some n) (he : rTs (E.H.w (valW x).toNat) (rT true E.H d) n 1 left = none) : TofC E d w left x := by
  obtain ⟨p, hp⟩ : ∃ p : Nat, valW x = p := ⟨(valW x).toNat, by have := valW_ge x; omega⟩
  have HP : Hid (valW x = p) := hp
  have HX : Hid (x ≤ 9223372036854775807) := isW_big hw
  have HT : Hid (tagW x = 4) := ht
  have hpb : (p : Int) ≤ 4000000 := by have := isW_val hw; omega
  have HPB : Hid (p ≤ 4000000) := by show _ ≤ _; omega
  have HR : Hid (Rr E left w) := h
  have HC : Hid (cnt E.H (p : Int) 8 = some n) := by show _ = _; rw [← hp]; exact hc
  have hcs := cnt_some HC.out
  rw [Int.toNat_natCast] at hcs
  have HPN : Hid (1 + n ≤ E.H.len p) := by show _ ≤ _; omega
  have HN8 : Hid (n ≤ 8) := by show _ ≤ _; omega
  have HL : Hid (left ≤ 100) := hl
  have IH : Hid (TermC E d) := ih
  have HE : Hid (rTs (E.H.w p) (rT true E.H d) n 1 left = none) := by show _ = _; rw [← he, hp]; simp
  unfold TofC
  rw [show raw true E.H (rT true E.H d) x left = none by unfold raw; rw [if_neg (by omega), if_neg (by omega), if_neg (by omega), if_pos ht]; unfold rCnt; rw [hc]; show tup 4 _ = _; rw [he]; rfl]
  clear hp hw ht h hc hcs hl ih he
  go_enter Try.func107, Try.ntmps107
  go_wp2_with fail
  refine (implVal_any x HX.out _).mono ?_
  rintro e w1 ⟨rfl, hw1⟩
  rw [HP.out]
  obtain ⟨hz1, q1, f1, ht1, hr1, hne⟩ := box_in HR.out _ _ hw1
  have HT1 : Hid (Turn E.rb w w1) := ht1
  have HR1 : Hid (Rr E left w1) := hr1
  clear hw1 ht1 hr1
  go_wp2_with (first | (go_at_call 120; refine (implTag_any x HX.out _).mono ?_; rintro e w1 ⟨rfl, rfl⟩; rw [HT.out]) | (go_at_call 124; refine (counted_yes HR1.out p 8 n HC.out).mono ?_; rintro e w1 ⟨⟨o2, c2, rfl, ho2⟩, rfl⟩) | (go_at_call 123; refine (terms_no IH.out HR1.out HL.out p 1 n o2 _ ho2 HPN.out HN8.out HE.out).mono ?_; rintro e w5 ⟨rfl, ht5⟩))
  exact ⟨rfl, HT1.out.trans ht5, .inr ⟨trivial, rfl⟩⟩
set_option maxHeartbeats 2000000 in
set_option maxRecDepth 100000 in
theorem termOf_6y {E : Env} {d : Nat} {w : World} {left : Nat} (h : Rr E left w) (x : Int) (hw : isW x = true) (ht : tagW x = 6) (n : Nat) (hc : cnt E.H (valW x) 40 = some n) (he : (wordsAt E.H (valW x).toNat 1 n).all isByte = true) : TofC E d w left x := by
  obtain ⟨p, hp⟩ : ∃ p : Nat, valW x = p := ⟨(valW x).toNat, by have := valW_ge x; omega⟩
  have HP : Hid (valW x = p) := hp
  have HX : Hid (x ≤ 9223372036854775807) := isW_big hw
  have HT : Hid (tagW x = 6) := ht
  have hpb : (p : Int) ≤ 4000000 := by have := isW_val hw; omega
  have HPB : Hid (p ≤ 4000000) := by show _ ≤ _; omega
  have HR : Hid (Rr E left w) := h
  have HC : Hid (cnt E.H (p : Int) 40 = some n) := by show _ = _; rw [← hp]; exact hc
  have hcs := cnt_some HC.out
  rw [Int.toNat_natCast] at hcs
  have HPN : Hid (1 + n ≤ E.H.len p) := by show _ ≤ _; omega
  have HN8 : Hid (n ≤ 40) := by show _ ≤ _; omega
  obtain ⟨l, hl⟩ : ∃ l, wordsAt E.H p 1 n = l := ⟨_, rfl⟩
  have hln : l.length = n := by rw [← hl, wordsAt_len]
  have HLN : Hid (l.length = n) := hln
  have HW : Hid (wordsAt E.H p 1 n = l) := hl
  have HE : Hid (l.all isByte = true) := by show _ = _; rw [← hl]; rw [hp] at he; simpa using he
  unfold TofC
  rw [show raw true E.H (rT true E.H d) x left = some (.mk 6 0 (txtB l) [], left) by unfold raw; rw [if_neg (by omega), if_neg (by omega), if_neg (by omega), if_neg (by omega), if_pos ht]; unfold rBin; rw [hc]; show bin _ (txt _) = _; unfold txt; rw [if_pos he, hp, Int.toNat_natCast, hl]; rfl]
  clear hp hw ht h hc hcs he
  go_enter Try.func107, Try.ntmps107
  go_wp2_with fail
  refine (implVal_any x HX.out _).mono ?_
  rintro e w1 ⟨rfl, hw1⟩
  rw [HP.out]
  obtain ⟨hz1, q1, f1, ht1, hr1, hne⟩ := box_in HR.out _ _ hw1
  have HT1 : Hid (Turn E.rb w w1) := ht1
  have HR1 : Hid (Rr E left w1) := hr1
  have HCE : Hid (∀ o2, (n ≠ 0 → o2 = E.so p + 1) → ∀ j (hj : j < l.length), w1.cell? ⟨E.sb p, o2 + j, none⟩ = some (.int .i64 l[j])) := fun o2 ho2 j hj => by
    have hj' : j < n := by rw [← HLN.out]; exact hj
    have e : l[j] = E.H.w p (1 + j) := by
      have := wordsAt_get E.H p 1 n j (by rw [wordsAt_len]; exact hj')
      simp only [HW.out] at this
      exact this
    rw [ho2 (by omega), Nat.add_assoc, e]
    exact HR1.out.ws p (1 + j) (by have := HPN.out; omega)
  have HN40 : Hid (l.length ≤ 40) := by show _ ≤ _; rw [HLN.out]; exact HN8.out
  clear hl
  have HSZ : Hid ((txtB l).size ≤ maxLen) := by
    show _ ≤ _
    have e : (txtB l).size = l.length := by simp [txtB, ByteArray.size]
    have := HN40.out
    rw [e]; unfold maxLen; omega
  subst hln
  have hr1s := HR1.out.lt
  clear hw1 ht1 hr1
  go_wp2_with (first | (go_at_call 120; refine (implTag_any x HX.out _).mono ?_; rintro e w1 ⟨rfl, rfl⟩; rw [HT.out]) | (go_at_call 124; refine (counted_yes HR1.out p 40 _ HC.out).mono ?_; rintro e w1 ⟨⟨o2, c2, rfl, ho2⟩, rfl⟩) | (go_at_call 125; refine (text_yes (E.sb p) o2 _ l _ (HCE.out o2 ho2) HN40.out HE.out).mono ?_; rintro e w5 ⟨rfl, hb5⟩; have HB5 : Hid (Below w1.heap.size w1 w5) := hb5; have ht5 : Turn E.rb w1 w5 := Turn.of_below hb5; obtain ⟨q5, f5⟩ := ht5.keep hne (by omega) q1 f1; have hz5 := ht5.size; clear ht5 hb5))
  obtain ⟨a1, a2, a3⟩ := box_out HR.out (HT1.out.trans (Turn.of_below HB5.out)) (by omega) (HR1.out.below HB5.out) (rp_leaf 6 0 (txtB l) HSZ.out) (.int .i64 6) (.int .i64 0) (.string (txtB l)) (.slice none 0 0)
  exact bodyPost_ret (v := .agg #[.int .i64 6, .int .i64 0, .string (txtB l), .slice none 0 0]) (by simp [results, Try.results107, go_sem, q5]) rfl ⟨a1, .inl ⟨_, _, _, rfl, rfl, a2, a3⟩⟩
set_option maxHeartbeats 2000000 in
set_option maxRecDepth 100000 in
theorem termOf_6z {E : Env} {d : Nat} {w : World} {left : Nat} (h : Rr E left w) (x : Int) (hw : isW x = true) (ht : tagW x = 6) (n : Nat) (hc : cnt E.H (valW x) 40 = some n) (he : (wordsAt E.H (valW x).toNat 1 n).all isByte = false) : TofC E d w left x := by
  obtain ⟨p, hp⟩ : ∃ p : Nat, valW x = p := ⟨(valW x).toNat, by have := valW_ge x; omega⟩
  have HP : Hid (valW x = p) := hp
  have HX : Hid (x ≤ 9223372036854775807) := isW_big hw
  have HT : Hid (tagW x = 6) := ht
  have hpb : (p : Int) ≤ 4000000 := by have := isW_val hw; omega
  have HPB : Hid (p ≤ 4000000) := by show _ ≤ _; omega
  have HR : Hid (Rr E left w) := h
  have HC : Hid (cnt E.H (p : Int) 40 = some n) := by show _ = _; rw [← hp]; exact hc
  have hcs := cnt_some HC.out
  rw [Int.toNat_natCast] at hcs
  have HPN : Hid (1 + n ≤ E.H.len p) := by show _ ≤ _; omega
  have HN8 : Hid (n ≤ 40) := by show _ ≤ _; omega
  obtain ⟨l, hl⟩ : ∃ l, wordsAt E.H p 1 n = l := ⟨_, rfl⟩
  have hln : l.length = n := by rw [← hl, wordsAt_len]
  have HLN : Hid (l.length = n) := hln
  have HW : Hid (wordsAt E.H p 1 n = l) := hl
  have HE : Hid (l.all isByte = false) := by show _ = _; rw [← hl]; rw [hp] at he; simpa using he
  unfold TofC
  rw [show raw true E.H (rT true E.H d) x left = none by unfold raw; rw [if_neg (by omega), if_neg (by omega), if_neg (by omega), if_neg (by omega), if_pos ht]; unfold rBin; rw [hc]; show bin _ (txt _) = _; unfold txt; rw [if_neg (by rw [he]; simp)]; rfl]
  clear hp hw ht h hc hcs he
  go_enter Try.func107, Try.ntmps107
  go_wp2_with fail
  refine (implVal_any x HX.out _).mono ?_
  rintro e w1 ⟨rfl, hw1⟩
  rw [HP.out]
  obtain ⟨hz1, q1, f1, ht1, hr1, hne⟩ := box_in HR.out _ _ hw1
  have HT1 : Hid (Turn E.rb w w1) := ht1
  have HR1 : Hid (Rr E left w1) := hr1
  have HCE : Hid (∀ o2, (n ≠ 0 → o2 = E.so p + 1) → ∀ j (hj : j < l.length), w1.cell? ⟨E.sb p, o2 + j, none⟩ = some (.int .i64 l[j])) := fun o2 ho2 j hj => by
    have hj' : j < n := by rw [← HLN.out]; exact hj
    have e : l[j] = E.H.w p (1 + j) := by
      have := wordsAt_get E.H p 1 n j (by rw [wordsAt_len]; exact hj')
      simp only [HW.out] at this
      exact this
    rw [ho2 (by omega), Nat.add_assoc, e]
    exact HR1.out.ws p (1 + j) (by have := HPN.out; omega)
  have HN40 : Hid (l.length ≤ 40) := by show _ ≤ _; rw [HLN.out]; exact HN8.out
  clear hl
  subst hln
  clear hw1 ht1 hr1
  go_wp2_with (first | (go_at_call 120; refine (implTag_any x HX.out _).mono ?_; rintro e w1 ⟨rfl, rfl⟩; rw [HT.out]) | (go_at_call 124; refine (counted_yes HR1.out p 40 _ HC.out).mono ?_; rintro e w1 ⟨⟨o2, c2, rfl, ho2⟩, rfl⟩) | (go_at_call 125; refine (text_no (E.sb p) o2 _ l _ (HCE.out o2 ho2) HN40.out HE.out).mono ?_; rintro e w5 ⟨rfl, hb5⟩))
  exact ⟨rfl, HT1.out.trans (Turn.of_below hb5), .inr ⟨trivial, rfl⟩⟩
set_option maxHeartbeats 2000000 in
set_option maxRecDepth 100000 in
theorem termOf_3y {E : Env} {d : Nat} (ih : TermC E d) {w : World} {left : Nat} (h : Rr E left w) (hl : left ≤ 100) (x : Int) (hw : isW x = true) (ht : tagW x = 3) (l : List Tm) (y : Nat) (he : rL E.H (rT true E.H d) left x left = some (l, y)) : TofC E d w left x := by
  obtain ⟨p, hp⟩ : ∃ p : Nat, valW x = p := ⟨(valW x).toNat, by have := valW_ge x; omega⟩
  have HP : Hid (valW x = p) := hp
  have HX : Hid (x ≤ 9223372036854775807) := isW_big hw
  have HT : Hid (tagW x = 3) := ht
  have hpb : (p : Int) ≤ 4000000 := by have := isW_val hw; omega
  have HPB : Hid (p ≤ 4000000) := by show _ ≤ _; omega
  have HR : Hid (Rr E left w) := h
  have HL : Hid (left ≤ 100) := hl
  have IH : Hid (TermC E d) := ih
  have HE : Hid (rL E.H (rT true E.H d) left x left = some (l, y)) := he
  unfold TofC
  rw [show raw true E.H (rT true E.H d) x left = some (.mk 5 0 ByteArray.empty l, y) by unfold raw; rw [if_neg (by omega), if_neg (by omega), if_neg (by omega), if_neg (by omega), if_neg (by omega), if_neg (by omega), if_pos rfl, he]; rfl]
  clear hp hw ht h hl ih he
  go_enter Try.func107, Try.ntmps107
  go_wp2_with fail
  refine (implVal_any x HX.out _).mono ?_
  rintro e w1 ⟨rfl, hw1⟩
  rw [HP.out]
  obtain ⟨hz1, q1, f1, ht1, hr1, hne⟩ := box_in HR.out _ _ hw1
  have HT1 : Hid (Turn E.rb w w1) := ht1
  have HR1 : Hid (Rr E left w1) := hr1
  have hr1s := HR1.out.lt
  clear hw1 ht1 hr1
  go_wp2_with (first | (go_at_call 120; refine (implTag_any x HX.out _).mono ?_; rintro e w1 ⟨rfl, rfl⟩; rw [HT.out]) | (go_at_call 126; refine (list_yes IH.out HR1.out HL.out x HX.out HE.out).mono ?_; rintro e w5 ⟨ao, cap, rfl, ht5, hl5, hc5, hv5, hr5⟩; have HT5 : Hid (Turn E.rb w1 w5) := ht5; obtain ⟨q5, f5⟩ := ht5.keep hne (by omega) q1 f1; have HR5 : Hid (Rr E y w5) := hr5; have HV5 : Hid (OwL w5 l (w1.heap.size) w5.heap.size ao) := hv5; have HLC : Hid (l.length ≤ cap ∧ cap ≤ maxLen) := ⟨hl5, hc5⟩; have hz5 := ht5.size; clear ht5 hr5 hv5 hl5 hc5))
  have hv6 : OwE w5 (w.heap.size + 1) w5.heap.size (.mk 5 0 ByteArray.empty l) (.agg #[.int .i64 5, .int .i64 0, .string ⟨#[]⟩, .slice ao l.length cap]) := ⟨ao, cap, rfl, Nat.zero_le _, HLC.out.1, HLC.out.2, by rw [← hz1]; exact HV5.out⟩
  obtain ⟨a1, a2, a3⟩ := box_out HR.out (HT1.out.trans HT5.out) (by omega) HR5.out hv6 (.int .i64 5) (.int .i64 0) (.string ⟨#[]⟩) (.slice ao l.length cap)
  exact bodyPost_ret (v := .agg #[.int .i64 5, .int .i64 0, .string ⟨#[]⟩, .slice ao l.length cap]) (by simp [results, Try.results107, go_sem, q5]) rfl ⟨a1, .inl ⟨_, _, _, rfl, rfl, a2, a3⟩⟩
set_option maxHeartbeats 2000000 in
set_option maxRecDepth 100000 in
theorem termOf_3z {E : Env} {d : Nat} (ih : TermC E d) {w : World} {left : Nat} (h : Rr E left w) (hl : left ≤ 100) (x : Int) (hw : isW x = true) (ht : tagW x = 3) (he : rL E.H (rT true E.H d) left x left = none) : TofC E d w left x := by
  obtain ⟨p, hp⟩ : ∃ p : Nat, valW x = p := ⟨(valW x).toNat, by have := valW_ge x; omega⟩
  have HP : Hid (valW x = p) := hp
  have HX : Hid (x ≤ 9223372036854775807) := isW_big hw
  have HT : Hid (tagW x = 3) := ht
  have hpb : (p : Int) ≤ 4000000 := by have := isW_val hw; omega
  have HPB : Hid (p ≤ 4000000) := by show _ ≤ _; omega
  have HR : Hid (Rr E left w) := h
  have HL : Hid (left ≤ 100) := hl
  have IH : Hid (TermC E d) := ih
  have HE : Hid (rL E.H (rT true E.H d) left x left = none) := he
  unfold TofC
  rw [show raw true E.H (rT true E.H d) x left = none by unfold raw; rw [if_neg (by omega), if_neg (by omega), if_neg (by omega), if_neg (by omega), if_neg (by omega), if_neg (by omega), if_pos rfl, he]; rfl]
  clear hp hw ht h hl ih he
  go_enter Try.func107, Try.ntmps107
  go_wp2_with fail
  refine (implVal_any x HX.out _).mono ?_
  rintro e w1 ⟨rfl, hw1⟩
  rw [HP.out]
  obtain ⟨hz1, q1, f1, ht1, hr1, hne⟩ := box_in HR.out _ _ hw1
  have HT1 : Hid (Turn E.rb w w1) := ht1
  have HR1 : Hid (Rr E left w1) := hr1
  clear hw1 ht1 hr1
  go_wp2_with (first | (go_at_call 120; refine (implTag_any x HX.out _).mono ?_; rintro e w1 ⟨rfl, rfl⟩; rw [HT.out]) | (go_at_call 126; refine (list_no IH.out HR1.out HL.out x HX.out HE.out).mono ?_; rintro e w5 ⟨rfl, ht5⟩))
  exact ⟨rfl, HT1.out.trans ht5, .inr ⟨trivial, rfl⟩⟩
set_option maxHeartbeats 2000000 in
set_option maxRecDepth 100000 in
theorem termOf_5y {E : Env} {d : Nat} (ih : TermC E d) {w : World} {left : Nat} (h : Rr E left w) (hl : left ≤ 100) (x : Int) (hw : isW x = true) (ht : tagW x = 5) (l : List Tm) (y : Nat) (he : rL E.H (rT true E.H d) left x left = some (l, y)) : TofC E d w left x := by
  obtain ⟨p, hp⟩ : ∃ p : Nat, valW x = p := ⟨(valW x).toNat, by have := valW_ge x; omega⟩
  have HP : Hid (valW x = p) := hp
  have HX : Hid (x ≤ 9223372036854775807) := isW_big hw
  have HT : Hid (tagW x = 5) := ht
  have hpb : (p : Int) ≤ 4000000 := by have := isW_val hw; omega
  have HPB : Hid (p ≤ 4000000) := by show _ ≤ _; omega
  have HR : Hid (Rr E left w) := h
  have HL : Hid (left ≤ 100) := hl
  have IH : Hid (TermC E d) := ih
  have HE : Hid (rL E.H (rT true E.H d) left x left = some (l, y)) := he
  unfold TofC
  rw [show raw true E.H (rT true E.H d) x left = some (.mk 5 0 ByteArray.empty l, y) by unfold raw; rw [if_neg (by omega), if_neg (by omega), if_neg (by omega), if_neg (by omega), if_neg (by omega), if_neg (by omega), if_pos rfl, he]; rfl]
  clear hp hw ht h hl ih he
  go_enter Try.func107, Try.ntmps107
  go_wp2_with fail
  refine (implVal_any x HX.out _).mono ?_
  rintro e w1 ⟨rfl, hw1⟩
  rw [HP.out]
  obtain ⟨hz1, q1, f1, ht1, hr1, hne⟩ := box_in HR.out _ _ hw1
  have HT1 : Hid (Turn E.rb w w1) := ht1
  have HR1 : Hid (Rr E left w1) := hr1
  have hr1s := HR1.out.lt
  clear hw1 ht1 hr1
  go_wp2_with (first | (go_at_call 120; refine (implTag_any x HX.out _).mono ?_; rintro e w1 ⟨rfl, rfl⟩; rw [HT.out]) | (go_at_call 126; refine (list_yes IH.out HR1.out HL.out x HX.out HE.out).mono ?_; rintro e w5 ⟨ao, cap, rfl, ht5, hl5, hc5, hv5, hr5⟩; have HT5 : Hid (Turn E.rb w1 w5) := ht5; obtain ⟨q5, f5⟩ := ht5.keep hne (by omega) q1 f1; have HR5 : Hid (Rr E y w5) := hr5; have HV5 : Hid (OwL w5 l (w1.heap.size) w5.heap.size ao) := hv5; have HLC : Hid (l.length ≤ cap ∧ cap ≤ maxLen) := ⟨hl5, hc5⟩; have hz5 := ht5.size; clear ht5 hr5 hv5 hl5 hc5))
  have hv6 : OwE w5 (w.heap.size + 1) w5.heap.size (.mk 5 0 ByteArray.empty l) (.agg #[.int .i64 5, .int .i64 0, .string ⟨#[]⟩, .slice ao l.length cap]) := ⟨ao, cap, rfl, Nat.zero_le _, HLC.out.1, HLC.out.2, by rw [← hz1]; exact HV5.out⟩
  obtain ⟨a1, a2, a3⟩ := box_out HR.out (HT1.out.trans HT5.out) (by omega) HR5.out hv6 (.int .i64 5) (.int .i64 0) (.string ⟨#[]⟩) (.slice ao l.length cap)
  exact bodyPost_ret (v := .agg #[.int .i64 5, .int .i64 0, .string ⟨#[]⟩, .slice ao l.length cap]) (by simp [results, Try.results107, go_sem, q5]) rfl ⟨a1, .inl ⟨_, _, _, rfl, rfl, a2, a3⟩⟩
set_option maxHeartbeats 2000000 in
set_option maxRecDepth 100000 in
theorem termOf_5z {E : Env} {d : Nat} (ih : TermC E d) {w : World} {left : Nat} (h : Rr E left w) (hl : left ≤ 100) (x : Int) (hw : isW x = true) (ht : tagW x = 5) (he : rL E.H (rT true E.H d) left x left = none) : TofC E d w left x := by
  obtain ⟨p, hp⟩ : ∃ p : Nat, valW x = p := ⟨(valW x).toNat, by have := valW_ge x; omega⟩
  have HP : Hid (valW x = p) := hp
  have HX : Hid (x ≤ 9223372036854775807) := isW_big hw
  have HT : Hid (tagW x = 5) := ht
  have hpb : (p : Int) ≤ 4000000 := by have := isW_val hw; omega
  have HPB : Hid (p ≤ 4000000) := by show _ ≤ _; omega
  have HR : Hid (Rr E left w) := h
  have HL : Hid (left ≤ 100) := hl
  have IH : Hid (TermC E d) := ih
  have HE : Hid (rL E.H (rT true E.H d) left x left = none) := he
  unfold TofC
  rw [show raw true E.H (rT true E.H d) x left = none by unfold raw; rw [if_neg (by omega), if_neg (by omega), if_neg (by omega), if_neg (by omega), if_neg (by omega), if_neg (by omega), if_pos rfl, he]; rfl]
  clear hp hw ht h hl ih he
  go_enter Try.func107, Try.ntmps107
  go_wp2_with fail
  refine (implVal_any x HX.out _).mono ?_
  rintro e w1 ⟨rfl, hw1⟩
  rw [HP.out]
  obtain ⟨hz1, q1, f1, ht1, hr1, hne⟩ := box_in HR.out _ _ hw1
  have HT1 : Hid (Turn E.rb w w1) := ht1
  have HR1 : Hid (Rr E left w1) := hr1
  clear hw1 ht1 hr1
  go_wp2_with (first | (go_at_call 120; refine (implTag_any x HX.out _).mono ?_; rintro e w1 ⟨rfl, rfl⟩; rw [HT.out]) | (go_at_call 126; refine (list_no IH.out HR1.out HL.out x HX.out HE.out).mono ?_; rintro e w5 ⟨rfl, ht5⟩))
  exact ⟨rfl, HT1.out.trans ht5, .inr ⟨trivial, rfl⟩⟩
theorem termOf_any {E : Env} {d : Nat} (ih : TermC E d) {w : World} {left : Nat} (h : Rr E left w) (hl : left ≤ 100) (x : Int) (hw : isW x = true) : TofC E d w left x := by
  have h7 := isW_tag hw
  have ht := tagW_ge x
  have hc : tagW x = 0 ∨ tagW x = 1 ∨ tagW x = 2 ∨ tagW x = 3 ∨ tagW x = 4 ∨ tagW x = 5 ∨ tagW x = 6 := by omega
  rcases hc with hc | hc | hc | hc | hc | hc | hc
  · exact termOf_0 h x hw hc
  · by_cases hv : valW x < E.H.A.length
    · exact termOf_1y h x hw hc hv
    · exact termOf_1n h x hw hc hv
  · exact termOf_2 h x hw hc
  · cases he : rL E.H (rT true E.H d) left x left with
    | none => exact termOf_3z ih h hl x hw hc he
    | some p => exact termOf_3y ih h hl x hw hc p.1 p.2 he
  · cases hn : cnt E.H (valW x) 8 with
    | none => exact termOf_4n h x hw hc hn
    | some n =>
      cases he : rTs (E.H.w (valW x).toNat) (rT true E.H d) n 1 left with
      | none => exact termOf_4z ih h hl x hw hc n hn he
      | some p => exact termOf_4y ih h hl x hw hc n hn p.1 p.2 he
  · cases he : rL E.H (rT true E.H d) left x left with
    | none => exact termOf_5z ih h hl x hw hc he
    | some p => exact termOf_5y ih h hl x hw hc p.1 p.2 he
  · cases hn : cnt E.H (valW x) 40 with
    | none => exact termOf_6n h x hw hc hn
    | some n =>
      cases he : (wordsAt E.H (valW x).toNat 1 n).all isByte with
      | true => exact termOf_6y h x hw hc n hn he
      | false => exact termOf_6z h x hw hc n hn he
end Go.Proofs.Ytabgfaafpgholaa.Gn
