/-
  A drawn word: what DrawMakeWord and DrawTagOf answer, and that the law of words holds of it.
-/
import Derived.Test.YtikedjdjfncgkaaGuB
import Derived.Test.YtikedjdjfncgkaaWdA
namespace Go.Proofs.Ytikedjdjfncgkaa
open Go.RowKit
set_option linter.unusedVariables false

set_option maxHeartbeats 1000000 in
theorem below_10000 (cb : Nat) (ao : Option Addr) (len cap : Nat) (zs : List Int) (w : World) (hc : Cur cb ao len cap zs w) :
    Calls Try.prog 64 #[.pointer (some ⟨cb, 0, none⟩), .int .i64 10000] w fun e w' => ∃ x : Int, e = .returned (.int .i64 x) ∧ 0 ≤ x ∧ x < 10000 ∧ Drawn cb ao len cap zs w w' := by
  have HC : Hid (Cur cb ao len cap zs w) := hc
  clear hc
  go_enter Try.func64, Try.ntmps64
  go_wp2_with fail
  refine (byte_any cb ao len cap zs _ HC.out).mono ?_
  rintro e w1 ⟨x, rfl, hx0, hx1, hc1, ht1⟩
  have HD : Hid (Drawn cb ao len cap zs w w1) := ⟨hc1, ht1⟩
  clear hc1 ht1
  go_wp2_with fail
  refine (byte_any cb ao len cap zs _ HD.out.1).mono ?_
  rintro e w2 ⟨y, rfl, hy0, hy1, hc2, ht2⟩
  have HD2 : Hid (Drawn cb ao len cap zs w w2) := ⟨hc2, HD.out.2.trans ht2⟩
  clear hc2 ht2 HD
  go_wp2_with fail
  refine (byte_any cb ao len cap zs _ HD2.out.1).mono ?_
  rintro e w3 ⟨z, rfl, hz0, hz1, hc3, ht3⟩
  have HD3 : Hid (Drawn cb ao len cap zs w w3) := ⟨hc3, HD2.out.2.trans ht3⟩
  clear hc3 ht3 HD2
  go_wp2_with fail
  go_ret
  exact ⟨(x * 65536 + y * 256 + z) % 10000, rfl, Int.emod_nonneg _ (by omega), Int.emod_lt_of_pos _ (by omega), HD3.out⟩

set_option maxHeartbeats 1000000 in
theorem drawMake_any (w : World) (ao : Option Addr) (len cap : Nat) (zs : List Int) (hr : IsRow w ao len cap zs) (hsm : len ≤ 1048576) :
    Calls Try.prog 24 #[.slice ao len cap] w fun e w' => ∃ (t v : Int), e = .returned (.tuple #[.int .i64 t, .int .i64 v]) ∧ Below w.heap.size w w' := by
  have HR : Hid (IsRow w ao len cap zs) := hr
  clear hr
  go_enter Try.func24, Try.ntmps24
  go_wp2_with fail
  refine (new_any _ ao len cap zs HR.out hsm).mono ?_
  rintro e w1 ⟨rfl, hc1, hb1, hz1⟩
  have HC : Hid (Cur w.heap.size ao len cap zs w1) := hc1
  have HB : Hid (Below w.heap.size w w1 ∧ w.heap.size < w1.heap.size) := ⟨hb1, by omega⟩
  clear hc1 hb1 hz1
  go_wp2_with fail
  refine (int_any w.heap.size ao len cap zs _ (HC.out.alloc _) w1.heap.size [0, 1, 4, 6, 7, -1] (by have := HB.out.2; omega) (by simp) (by simp) ?_).mono ?_
  · exact news_ints w1 [0, 1, 4, 6, 7, -1] _
  rintro e w3 ⟨t, rfl, hp, hd⟩
  have HC3 : Hid (Cur w.heap.size ao len cap zs w3) := hd.1
  have HB3 : Hid (Below w.heap.size w w3 ∧ w.heap.size < w3.heap.size) :=
    ⟨Turn.below (HB.out.1.alloc (by have := HB.out.2; omega) _) (by rw [World.size_alloc]; have := HB.out.2; omega) hd.2 (by omega), by have := hd.2.size; rw [World.size_alloc] at this; have := HB.out.2; omega⟩
  clear hd hp
  go_wp2_with fail
  refine (int_any w.heap.size ao len cap zs _ (HC3.out.alloc _) w3.heap.size [0, 1, 77, 4000000, 4000001, -1] (by have := HB3.out.2; omega) (by simp) (by simp) ?_).mono ?_
  · exact news_ints w3 [0, 1, 77, 4000000, 4000001, -1] _
  rintro e w4 ⟨v, rfl, hn, hd⟩
  have HB4 : Hid (Below w.heap.size w w4) :=
    Turn.below (HB3.out.1.alloc (by have := HB3.out.2; omega) _) (by rw [World.size_alloc]; have := HB3.out.2; omega) hd.2 (by omega)
  clear hd hn
  go_wp2_with fail
  exact bodyPost_ret (v := .tuple #[.int .i64 t, .int .i64 v]) (by simp [results, Try.results24, go_sem]) rfl ⟨t, v, rfl, HB4.out⟩

set_option maxHeartbeats 1000000 in
theorem drawTag_any (w : World) (ao : Option Addr) (len cap : Nat) (zs : List Int) (hr : IsRow w ao len cap zs) (hsm : len ≤ 1048576) :
    Calls Try.prog 27 #[.slice ao len cap] w fun e w' => ∃ x : Int, e = .returned (.int .i64 x) ∧ x ≤ 10000 ∧ Below w.heap.size w w' := by
  have HR : Hid (IsRow w ao len cap zs) := hr
  clear hr
  go_enter Try.func27, Try.ntmps27
  go_wp2_with fail
  refine (new_any _ ao len cap zs HR.out hsm).mono ?_
  rintro e w1 ⟨rfl, hc1, hb1, hz1⟩
  have HC : Hid (Cur w.heap.size ao len cap zs w1) := hc1
  have HB : Hid (Below w.heap.size w w1 ∧ w.heap.size < w1.heap.size) := ⟨hb1, by omega⟩
  clear hc1 hb1 hz1
  go_wp2_with fail
  refine (below_10000 w.heap.size ao len cap zs _ HC.out).mono ?_
  rintro e w2 ⟨x, rfl, hx0, hx1, hd⟩
  have HC2 : Hid (Cur w.heap.size ao len cap zs w2) := hd.1
  have HB2 : Hid (Below w.heap.size w w2 ∧ w.heap.size < w2.heap.size) := ⟨Turn.below HB.out.1 (by have := HB.out.2; omega) hd.2 (by omega), by have := hd.2.size; have := HB.out.2; omega⟩
  clear hd
  go_wp2_with fail
  refine (int_any w.heap.size ao len cap zs _ (HC2.out.alloc _) w2.heap.size [0, 7, 8, 65, -1, -9223372036854775808, x] (by have := HB2.out.2; omega) (by simp) (by simp) ?_).mono ?_
  · exact news_ints w2 [0, 7, 8, 65, -1, -9223372036854775808, x] _
  rintro e w3 ⟨p, rfl, hp, hd⟩
  have HP : Hid (p ≤ 10000) := by
    show p ≤ 10000
    simp only [List.mem_cons, List.not_mem_nil, or_false] at hp
    omega
  have HB3 : Hid (Below w.heap.size w w3) :=
    Turn.below (HB2.out.1.alloc (by have := HB2.out.2; omega) _) (by rw [World.size_alloc]; have := HB2.out.2; omega) hd.2 (by omega)
  clear hd hp
  go_wp2_with fail
  go_ret
  exact ⟨p, rfl, HP.out, HB3.out⟩

theorem mk_tag {t v : Int} (h0 : 0 ≤ t) (h1 : t ≤ 6) (h2 : 0 ≤ v) (h3 : v ≤ 4000000) : mkw t v = v * 8 + t ∧ tagW (mkw t v) = t ∧ valW (mkw t v) = v := by
  have e : mkw t v = v * 8 + t := by simp [mkw, inB, h0, h1, h2, h3]
  rw [e]
  unfold tagW valW
  rw [if_neg (by omega), if_neg (by omega)]
  omega
theorem mk_no {t v : Int} (h : ¬ (0 ≤ t ∧ t ≤ 6 ∧ 0 ≤ v ∧ v ≤ 4000000)) : mkw t v = 0 := by
  unfold mkw
  rw [if_neg]
  simp only [inB, Bool.and_eq_true, decide_eq_true_eq]
  omega
theorem mk_le (t v : Int) : mkw t v ≤ 9223372036854775807 := by
  by_cases h : 0 ≤ t ∧ t ≤ 6 ∧ 0 ≤ v ∧ v ≤ 4000000
  · rw [(mk_tag h.1 h.2.1 h.2.2.1 h.2.2.2).1]; omega
  · rw [mk_no h]; omega
theorem word_parts {x : Int} (h : 0 ≤ x) : valW x * 8 + tagW x = x ∧ 0 ≤ valW x ∧ valW x ≤ x ∧ 0 ≤ tagW x ∧ tagW x < 8 := by
  unfold tagW valW
  rw [if_neg (by omega), if_neg (by omega)]
  omega

set_option maxHeartbeats 4000000 in
set_option maxRecDepth 100000 in
theorem words_walk (w : World) (ao : Option Addr) (len cap : Nat) (zs : List Int) (hr : IsRow w ao len cap zs) (hlc : len ≤ cap) (hcm : cap ≤ maxLen) :
    Calls Try.prog 5 #[.slice ao len cap] w fun e w' => e = .returned (.bool true) ∧ Below w.heap.size w w' := by
  have HR : Hid (IsRow w ao len cap zs) := hr
  have HL : Hid (len ≤ maxLen) := Nat.le_trans hlc hcm
  clear hr
  by_cases hbig : 1048576 < len
  · go_enter Try.func5, Try.ntmps5
    go_wp2_with fail
    refine (big_any ao len cap HL.out _).mono ?_
    rintro e w1 ⟨rfl, rfl⟩
    go_wp2_with fail
    go_ret
    exact ⟨rfl, Below.refl _ _⟩
  · have HSM : Hid (len ≤ 1048576) := by show _ ≤ _; omega
    go_enter Try.func5, Try.ntmps5
    go_wp2_with fail
    refine (big_any ao len cap HL.out _).mono ?_
    rintro e w1 ⟨rfl, rfl⟩
    go_wp2_with fail
    refine (drawMake_any _ ao len cap zs HR.out HSM.out).mono ?_
    rintro e w2 ⟨t, v, rfl, hb⟩
    have HB : Hid (Below w1.heap.size w1 w2) := hb
    clear hb hbig hlc hcm HL
    go_wp2_with fail
    refine (implMake_any t v _).mono ?_
    rintro e w3 ⟨rfl, rfl⟩
    go_wp2_with fail
    refine (specMake_any t v _).mono ?_
    rintro e w4 ⟨rfl, rfl⟩
    have HLE : Hid (mkw t v ≤ 9223372036854775807) := mk_le t v
    by_cases hin : 0 ≤ t ∧ t ≤ 6 ∧ 0 ≤ v ∧ v ≤ 4000000
    · obtain ⟨h0, h1, h2, h3⟩ := hin
      have HMK : Hid (mkw t v = v * 8 + t ∧ tagW (mkw t v) = t ∧ valW (mkw t v) = v) := mk_tag h0 h1 h2 h3
      obtain ⟨y, hy⟩ : ∃ y, mkw t v = y := ⟨_, rfl⟩
      rw [hy] at HLE HMK ⊢
      have HY : Hid (y ≤ 9223372036854775807 ∧ tagW y = t ∧ valW y = v) := ⟨HLE.out, HMK.out.2⟩
      clear hy HLE HMK
      go_wp2_with fail
      refine (drawTag_any _ ao len cap zs (HR.out.below HB.out) HSM.out).mono ?_
      rintro e w5 ⟨x, rfl, hx, hb5⟩
      have HB5 : Hid (Below w1.heap.size w1 w5) := HB.out.trans (hb5.mono HB.out.size)
      have HX : Hid (x ≤ 9223372036854775807) := by show _ ≤ _; omega
      clear hb5
      have hW : 0 ≤ x → valW x * 8 + tagW x = x ∧ 0 ≤ valW x ∧ valW x ≤ x ∧ 0 ≤ tagW x ∧ tagW x < 8 := word_parts
      by_cases hn : x < 0
      · clear hW
        go_wp2_with (first
          | (go_at_call 28; first | (refine (implTag_any y HY.out.1 _).mono ?_; rintro e w' ⟨rfl, rfl⟩; rw [HY.out.2.1]) | (refine (implTag_any x HX.out _).mono ?_; rintro e w' ⟨rfl, rfl⟩))
          | (go_at_call 29; first | (refine (implVal_any y HY.out.1 _).mono ?_; rintro e w' ⟨rfl, rfl⟩; rw [HY.out.2.2]) | (refine (implVal_any x HX.out _).mono ?_; rintro e w' ⟨rfl, rfl⟩))
          | (go_at_call 30; refine (specTag_any _ _).mono ?_; rintro e w' ⟨rfl, rfl⟩)
          | (go_at_call 31; refine (specVal_any x HX.out _).mono ?_; rintro e w' ⟨rfl, rfl⟩))
        go_ret
        first | exact ⟨rfl, HB5.out⟩ | exact ⟨ret_bool (by simp), HB5.out⟩
      · obtain ⟨p1, p2, p3, p4, p5⟩ := hW (by omega)
        clear hW
        go_wp2_with (first
          | (go_at_call 28; first | (refine (implTag_any y HY.out.1 _).mono ?_; rintro e w' ⟨rfl, rfl⟩; rw [HY.out.2.1]) | (refine (implTag_any x HX.out _).mono ?_; rintro e w' ⟨rfl, rfl⟩))
          | (go_at_call 29; first | (refine (implVal_any y HY.out.1 _).mono ?_; rintro e w' ⟨rfl, rfl⟩; rw [HY.out.2.2]) | (refine (implVal_any x HX.out _).mono ?_; rintro e w' ⟨rfl, rfl⟩))
          | (go_at_call 30; refine (specTag_any _ _).mono ?_; rintro e w' ⟨rfl, rfl⟩)
          | (go_at_call 31; refine (specVal_any x HX.out _).mono ?_; rintro e w' ⟨rfl, rfl⟩))
        go_ret
        first | exact ⟨rfl, HB5.out⟩ | exact ⟨ret_bool (by simp [p1]), HB5.out⟩
    · have e := mk_no hin
      rw [e]
      clear e HLE
      by_cases h0 : t < 0
      · go_wp2_with fail
        go_ret
        exact ⟨rfl, HB.out⟩
      · by_cases h1 : 6 < t
        · go_wp2_with fail
          go_ret
          exact ⟨rfl, HB.out⟩
        · by_cases h2 : v < 0
          · go_wp2_with fail
            go_ret
            exact ⟨rfl, HB.out⟩
          · have h3 : 4000000 < v := by omega
            go_wp2_with fail
            go_ret
            exact ⟨rfl, HB.out⟩
end Go.Proofs.Ytikedjdjfncgkaa
