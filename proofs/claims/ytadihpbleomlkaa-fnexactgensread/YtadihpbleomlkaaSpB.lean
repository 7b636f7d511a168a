/-
  How the specification reads words: how many there are; bytes.
-/
import Derived.Test.YtadihpbleomlkaaSpA
namespace Go.Proofs.Ytadihpbleomlkaa
open Go.RowKit
set_option linter.unusedVariables false

theorem count_yes {E : Env} {left : Int} {w : World} (h : Sr E left false w) (p : Nat) (most : Int) (h1 : p + 1 ≤ E.H.N) (h2 : inB (E.H.f p) 0 most = true) :
    Calls Try.prog 133 #[.pointer (some ⟨E.rb, 0, none⟩), .int .i64 p, .int .i64 most] w fun e w' => e = .returned (.int .i64 (E.H.f p)) ∧ w' = w := by
  have HS : Hid (Sr E left false w) := h
  have HA : Hid (p + 1 ≤ E.H.N) := h1
  have HA3 : Hid (E.H.N ≠ 0) := by show _ ≠ _; omega
  have q := h.src.ws p (by omega)
  have HI : Hid (inB (E.H.f p) 0 most = true) := h2
  clear h h1 h2
  generalize E.H.f p = x at *
  go_enter Try.func133, Try.ntmps133
  go_wp2_with fail
  refine (words_yes HS.out p 1 HA.out HA3.out).mono ?_
  rintro e w' ⟨⟨o', rfl, ho'⟩, rfl⟩
  obtain rfl := ho' (by decide)
  clear ho'
  go_wp2_with (first | (go_at_call 68; refine (in_any _ _ _ _).mono ?_; rintro e w' ⟨rfl, rfl⟩; rw [HI.out]))
  go_ret
  exact ⟨rfl, rfl⟩
theorem count_no {E : Env} {left : Int} {w : World} (h : Sr E left false w) (p : Nat) (most : Int) (hp : p ≤ 9223372036854775000) (h1 : p + 1 ≤ E.H.N → inB (E.H.f p) 0 most = false) :
    Calls Try.prog 133 #[.pointer (some ⟨E.rb, 0, none⟩), .int .i64 p, .int .i64 most] w fun e w' => e = .returned (.int .i64 0) ∧ Turn E.rb w w' ∧ Sr E left true w' := by
  have HS : Hid (Sr E left false w) := h
  have HP : Hid (p ≤ 9223372036854775000) := hp
  by_cases h2 : p + 1 ≤ E.H.N
  · have HA : Hid (p + 1 ≤ E.H.N) := h2
    have HA3 : Hid (E.H.N ≠ 0) := by show _ ≠ _; omega
    have q := h.src.ws p (by omega)
    have q3 := h.c3
    have qf := h.fr
    have HI : Hid (inB (E.H.f p) 0 most = false) := h1 h2
    have HB : Hid (Sr E left true (w.setCell ⟨E.rb, 3, none⟩ (.bool true))) := h.setB true
    clear h h1 h2 hp
    generalize E.H.f p = x at *
    go_enter Try.func133, Try.ntmps133
    go_wp2_with fail
    refine (words_yes HS.out p 1 HA.out HA3.out).mono ?_
    rintro e w' ⟨⟨o', rfl, ho'⟩, rfl⟩
    obtain rfl := ho' (by decide)
    clear ho'
    go_wp2_with (first | (go_at_call 68; refine (in_any _ _ _ _).mono ?_; rintro e w' ⟨rfl, rfl⟩; rw [HI.out]))
    go_ret
    exact ⟨rfl, (Turn.refl _ _).set 3 _, HB.out⟩
  · have HA : Hid (false = true ∨ ¬ p + 1 ≤ E.H.N) := .inr h2
    clear h h1 h2 hp
    go_enter Try.func133, Try.ntmps133
    go_wp2_with fail
    refine (words_no HS.out p 1 HP.out HA.out).mono ?_
    rintro e w1 ⟨⟨g, rfl⟩, ht1, hs1⟩
    have q3 := hs1.c3
    have qf := hs1.fr
    have HT1 : Hid (Turn E.rb w w1) := ht1
    have HB : Hid (Sr E left true (w1.setCell ⟨E.rb, 3, none⟩ (.bool true))) := hs1.setB true
    clear ht1 hs1
    go_wp2_with fail
    go_ret
    exact ⟨rfl, HT1.out.trans ((Turn.refl _ _).set 3 _), HB.out⟩

/-- What is kept of a number in a byte. -/
def u8w (x : Int) : Int := IntKind.u8.wrap x
theorem u8w_byte (x : Int) : isByte (u8w x) = true := by
  unfold isByte u8w
  rw [IntKind.wrap_u8]
  simp
  omega
theorem u8w_all {l : List Int} (h : l.all isByte = true) : l.map u8w = l := by
  induction l with
  | nil => rfl
  | cons x r ih =>
    simp only [List.all_cons, Bool.and_eq_true] at h
    rw [List.map_cons, ih h.2]
    unfold u8w
    rw [isByte_wrap h.1]
theorem inB_byte (x : Int) : inB x 0 255 = isByte x := rfl

theorem count_any {E : Env} {left : Int} {w : World} (h : Sr E left false w) (p : Nat) (most : Int) (hp : p ≤ 9223372036854775000) :
    Calls Try.prog 133 #[.pointer (some ⟨E.rb, 0, none⟩), .int .i64 p, .int .i64 most] w fun e w' => ∃ (c : Nat) (bad1 : Bool), e = .returned (.int .i64 c) ∧ Turn E.rb w w' ∧ Sr E left bad1 w' ∧ ((bad1 = false ∧ p + 1 ≤ E.H.N ∧ (c : Int) = E.H.f p ∧ (c : Int) ≤ most) ∨ (bad1 = true ∧ c = 0 ∧ ¬ (p + 1 ≤ E.H.N ∧ 0 ≤ E.H.f p ∧ E.H.f p ≤ most))) := by
  by_cases hc : p + 1 ≤ E.H.N ∧ 0 ≤ E.H.f p ∧ E.H.f p ≤ most
  · refine (count_yes h p most hc.1 (by unfold inB; simp; omega)).mono ?_
    rintro e w' ⟨rfl, rfl⟩
    exact ⟨(E.H.f p).toNat, false, ret_int (by omega), Turn.refl _ _, h, .inl ⟨rfl, hc.1, by omega, by omega⟩⟩
  · refine (count_no h p most hp (fun h1 => by unfold inB; simp; omega)).mono ?_
    rintro e w' ⟨rfl, ht, hs⟩
    exact ⟨0, true, rfl, ht, hs, .inr ⟨rfl, rfl, hc⟩⟩
theorem words_any {E : Env} {left : Int} {bad : Bool} {w : World} (h : Sr E left bad w) (p n : Nat) (hp : p ≤ 9223372036854775000) (hp0 : p ≠ 0) :
    Calls Try.prog 132 #[.pointer (some ⟨E.rb, 0, none⟩), .int .i64 p, .int .i64 n] w fun e w' => ∃ (g o' m cap' : Nat) (bad2 : Bool), e = .returned (.slice (some ⟨g, o', none⟩) m cap') ∧ Turn E.rb w w' ∧ Sr E left bad2 w' ∧
      ((bad = false ∧ p + n ≤ E.H.N ∧ bad2 = false ∧ m = n ∧ (n ≠ 0 → g = E.b ∧ o' = E.o + p)) ∨ ((bad = true ∨ ¬ p + n ≤ E.H.N) ∧ bad2 = true ∧ m = 0)) := by
  by_cases hc : bad = false ∧ p + n ≤ E.H.N
  · obtain ⟨rfl, h1⟩ := hc
    refine (words_yes h p n h1 (by omega)).mono ?_
    rintro e w' ⟨⟨o', rfl, ho⟩, rfl⟩
    exact ⟨E.b, o', n, _, false, rfl, Turn.refl _ _, h, .inl ⟨rfl, h1, rfl, rfl, fun hn => ⟨rfl, ho hn⟩⟩⟩
  · have hc' : bad = true ∨ ¬ p + n ≤ E.H.N := by
      cases bad with
      | true => exact .inl rfl
      | false => exact .inr (fun h => hc ⟨rfl, h⟩)
    refine (words_no h p n hp hc').mono ?_
    rintro e w' ⟨⟨g, rfl⟩, ht, hs⟩
    exact ⟨g, 0, 0, 0, true, rfl, ht, hs, .inr ⟨hc', rfl, rfl⟩⟩
/-- What stands behind the word that says how many. -/
def CW (E : Env) (p : Nat) (most : Int) (w : World) (g o' m : Nat) (bad : Bool) : Prop :=
  (∀ j, j < m → w.cell? ⟨g, o' + j, none⟩ = some (.int .i64 (E.H.f (p + 1 + j))) ∧ g ≠ E.rb) ∧ ((bad = false ∧ cnt E.H p most = some m ∧ (m : Int) ≤ most) ∨ (bad = true ∧ cnt E.H p most = none ∧ m = 0))
theorem cw_of {E : Env} {left : Int} {p c m g o' : Nat} {most : Int} {bad1 bad2 : Bool} {w2 : World} (hs : Sr E left bad2 w2)
    (h1 : (bad1 = false ∧ p + 1 ≤ E.H.N ∧ (c : Int) = E.H.f p ∧ (c : Int) ≤ most) ∨ (bad1 = true ∧ c = 0 ∧ ¬ (p + 1 ≤ E.H.N ∧ 0 ≤ E.H.f p ∧ E.H.f p ≤ most)))
    (h2 : (bad1 = false ∧ p + 1 + c ≤ E.H.N ∧ bad2 = false ∧ m = c ∧ (c ≠ 0 → g = E.b ∧ o' = E.o + (p + 1))) ∨ ((bad1 = true ∨ ¬ p + 1 + c ≤ E.H.N) ∧ bad2 = true ∧ m = 0)) : CW E p most w2 g o' m bad2 := by
  rcases h2 with ⟨hb, hn, rfl, rfl, ho⟩ | ⟨hb, rfl, rfl⟩
  · rcases h1 with ⟨_, ha, hf, hm⟩ | ⟨hb', _⟩
    · refine ⟨fun j hj => ?_, .inl ⟨rfl, ?_, hm⟩⟩
      · obtain ⟨rfl, rfl⟩ := ho (by omega)
        exact ⟨by rw [Nat.add_assoc]; exact hs.src.ws (p + 1 + j) (by omega), hs.wn (by omega)⟩
      · unfold cnt
        rw [Int.toNat_natCast, if_pos ⟨by omega, by omega, by omega, by omega⟩, ← hf]
        simp
    · rw [hb] at hb'; cases hb'
  · refine ⟨fun j hj => absurd hj (by omega), .inr ⟨rfl, ?_, rfl⟩⟩
    unfold cnt
    rw [Int.toNat_natCast]
    rcases h1 with ⟨hb', ha, hf, hm⟩ | ⟨hb', _, hx⟩
    · rw [if_neg]
      rintro ⟨_, _, _, h4⟩
      rcases hb with hb | hb
      · rw [hb'] at hb; cases hb
      · omega
    · rw [if_neg]
      rintro ⟨a1, a2, a3, _⟩
      exact hx ⟨by omega, a2, a3⟩

theorem grow_keep {E : Env} {l0 left : Int} {b0 bad : Bool} {w2 wr w5 : World} {o : Obj} {row : Option Nat} (h0 : Sr E l0 b0 w2) (ht : Turn E.rb w2 wr) (hs : Sr E left bad wr) (hgr : (wr.alloc o).grownBy w5 row) (hrow : ∀ k, row = some k → w2.heap.size ≤ k) : Turn E.rb w2 w5 ∧ Sr E left bad w5 := by
  have hz := ht.size
  have hs1 : (wr.alloc o).heap.size = wr.heap.size + 1 := World.size_alloc _ _
  have hk : ∀ k, k < w2.heap.size → w5.heap[k]? = wr.heap[k]? := fun k hk => by
    rw [hgr.block k (by rw [hs1]; omega) (fun e => by have := hrow k e.symm; omega)]
    show (wr.heap.push _)[k]? = _
    rw [Array.getElem?_push, if_neg (by omega)]
  exact ⟨⟨hgr.os.trans ht.os, hgr.tape.trans ht.tape, hgr.output.trans ht.output, by have := hgr.size; omega, fun k hkl hkn => (hk k hkl).trans (ht.block k hkl hkn)⟩, h0.same hs hk⟩
theorem src8s (w : World) (p : Addr) (v : Value) (x : Int) (t : TypeId) : ∀ j u, [Value.int .u8 x][j]? = some u → ((w.setCell p v).alloc (.cells #[.int .u8 x] t)).cell? ((⟨w.heap.size, 0, none⟩ : Addr).add j) = some u := fun j u hu => by
  have := src8 (w.setCell p v) x t j u hu
  rw [World.size_setCell] at this
  exact this
theorem take_all (l : List Int) (k : Nat) (h : k < l.length) : (l.take (k + 1)).all isByte = ((l.take k).all isByte && isByte l[k]) := by
  rw [List.take_add_one, List.getElem?_eq_getElem h, List.all_append]
  simp only [Option.toList, List.all_cons, List.all_nil, Bool.and_true]
theorem take_map (l : List Int) (k : Nat) (h : k < l.length) : (l.take (k + 1)).map u8w = (l.take k).map u8w ++ [u8w l[k]] := by
  rw [List.take_add_one, List.getElem?_eq_getElem h, List.map_append]
  rfl

set_option maxHeartbeats 4000000 in
set_option maxRecDepth 100000 in
theorem specBin_any {E : Env} {left : Int} {w : World} (h : Sr E left false w) (p : Nat) (hp : p ≤ 9223372036854774000) :
    Calls Try.prog 118 #[.pointer (some ⟨E.rb, 0, none⟩), .int .i64 p] w fun e w' => ∃ s, e = .returned (.agg #[.int .i64 6, .int .i64 0, .string s, .slice none 0 0]) ∧ s.size ≤ maxLen ∧ Turn E.rb w w' ∧
      ((∃ n, cnt E.H p 40 = some n ∧ txt (wordsAt E.H (p + 1) n) = some s ∧ Sr E left false w') ∨ ((∀ n, cnt E.H p 40 = some n → txt (wordsAt E.H (p + 1) n) = none) ∧ Sr E left true w')) := by
  have HS : Hid (Sr E left false w) := h
  have HP : Hid (p ≤ 9223372036854775000) := by show _ ≤ _; omega
  have HP1 : Hid (p + 1 ≤ 9223372036854775000) := by show _ ≤ _; omega
  have hpb : (p : Int) ≤ 9223372036854774000 := by omega
  have HQ : Hid ((p : Int) + 1 = ((p + 1 : Nat) : Int)) := by show _ = _; omega
  have hrl := h.lt
  clear h
  obtain ⟨i0, hi, hz0, hz1, hz2⟩ := infoParts infoU8
  have HI : Hid (Try.prog.info? 5 = some i0 ∧ i0.zero = some (.int .u8 0) ∧ i0.size = 1 ∧ i0.bytes = 1) := ⟨hi, hz0, hz1, hz2⟩
  clear hi hz0 hz1 hz2
  go_enter Try.func118, Try.ntmps118
  go_wp2_with fail
  have hbx : ∀ c T, Below w.heap.size w (w.alloc (.cells c T)) := fun c T => (Below.refl _ _).alloc (Nat.le_refl _) _
  refine (count_any (HS.out.below (hbx _ _)) p 40 HP.out).mono ?_
  rintro e w1 ⟨c, bad1, rfl, ht1, hs1, hr1⟩
  have hz1 : w.heap.size + 1 ≤ w1.heap.size := by have := ht1.size; rw [World.size_alloc] at this; exact this
  obtain ⟨q1, f1⟩ := ht1.keep (W := w.heap.size) (by omega) (by rw [World.size_alloc]; exact Nat.lt_succ_self _) (fun o => World.cell?_alloc_new w _ _ o) (fun o => World.frozen?_alloc_new w _ _ o)
  have HT1 : Hid (Turn E.rb w w1) := (Turn.of_below (hbx _ _)).trans ht1
  have HS1 : Hid (Sr E left bad1 w1) := hs1
  have HR1 : Hid ((bad1 = false ∧ p + 1 ≤ E.H.N ∧ (c : Int) = E.H.f p ∧ (c : Int) ≤ 40) ∨ (bad1 = true ∧ c = 0 ∧ ¬ (p + 1 ≤ E.H.N ∧ 0 ≤ E.H.f p ∧ E.H.f p ≤ 40))) := hr1
  clear hs1 hr1 ht1 hbx
  go_wp2_with (first | (go_at_call 132; rw [HQ.out]; refine (words_any HS1.out (p + 1) c HP1.out (Nat.succ_ne_zero p)).mono ?_; rintro e w2 ⟨g, o', m, cap', bad2, rfl, ht2, hs2, hr2⟩; have hcw : Hid (CW E p 40 w2 g o' m bad2) := (cw_of hs2 HR1.out hr2); obtain ⟨q2, f2⟩ := ht2.keep (W := w.heap.size) (by omega) (by omega) q1 f1; have HT2 : Hid (Turn E.rb w w2) := HT1.out.trans ht2; have HS2 : Hid (Sr E left bad2 w2) := hs2; have hz2 := ht2.size; clear ht2 hs2 hr2 q1 f1))
  have hm40 : m ≤ 40 := by
    rcases hcw.out.2 with ⟨_, _, h⟩ | ⟨_, _, h⟩
    · omega
    · omega
  obtain ⟨l, hl⟩ : ∃ l, wordsAt E.H (p + 1) m = l := ⟨_, rfl⟩
  have hlm : l.length = m := by rw [← hl, wordsAt_len]
  have HLM : Hid (l.length = m) := hlm
  have HW : Hid (wordsAt E.H (p + 1) m = l) := hl
  have HCE : Hid (∀ j (hj : j < l.length), w2.cell? ⟨g, o' + j, none⟩ = some (.int .i64 l[j]) ∧ g ≠ E.rb) := fun j hj => by
    have hj' : j < m := by rw [← HLM.out]; exact hj
    have e : l[j] = E.H.f (p + 1 + j) := by
      have := wordsAt_get E.H (p + 1) m j (by rw [wordsAt_len]; exact hj')
      simp only [HW.out] at this
      exact this
    rw [e]
    exact hcw.out.1 j hj'
  clear hl
  subst hlm
  go_loopw [7, 8] (fun v i wr => ∃ k : Nat, k ≤ l.length ∧ i = .int .i64 k ∧ Own8 wr w2.heap.size v ((l.take k).map u8w) ∧ Turn E.rb w2 wr ∧ Sr E left (bad2 || !(l.take k).all isByte) wr) (fun _ i _ => l.length - (intOf i).toNat)
  case atStart => exact ⟨0, Nat.zero_le _, rfl, own8_start w2, (Turn.refl _ _).alloc _, by simpa using HS2.out.below ((Below.refl _ _).alloc (Nat.le_refl _) _)⟩
  case round =>
    obtain ⟨k, hk, rfl, ho, ht, hs⟩ := hrel
    obtain ⟨g2, cc, rfl, hown⟩ := ho
    have hkl : ((l.take k).map u8w).length = k := by simp; omega
    rw [hkl] at hown ⊢
    have q3 := hs.c3
    have qf := hs.fr
    have hzr := ht.size
    have hr2 := HS2.out.lt
    have C3 : Hid (k + 1 ≤ maxLen) := by show _ ≤ _; unfold maxLen; omega
    have C4 : Hid ((k + 1) * 1 ≤ 140737488355328) := by show _ ≤ _; omega
    by_cases hlt : k < l.length
    · obtain ⟨hcl, hgn⟩ := HCE.out k hlt
      have q : wr.cell? ⟨g, o' + k, none⟩ = some (.int .i64 l[k]) := ht.cell hgn hcl
      have HTM : Hid ((l.take (k + 1)).map u8w = (l.take k).map u8w ++ [u8w l[k]]) := take_map l k hlt
      have HTA0 : Hid ((l.take (k + 1)).all isByte = ((l.take k).all isByte && isByte l[k])) := take_all l k hlt
      clear hcl hgn hkl
      generalize l[k] = x at *
      cases hx : isByte x with
      | true =>
        have HXB : Hid (inB x 0 255 = true) := hx
        have HTA : Hid ((bad2 || !(l.take (k + 1)).all isByte) = (bad2 || !(l.take k).all isByte)) := by show _ = _; rw [HTA0.out, hx, Bool.and_true]
        have HO : Hid (wr.ownsRow w2.heap.size 5 1 (.slice (some ⟨g2, 0, none⟩) k cc) k (((l.take k).map u8w).map (Value.int .u8))) := hown
        have HTR : Hid (Turn E.rb w2 wr) := ht
        have HSR : Hid (Sr E left (bad2 || !(l.take k).all isByte) wr) := hs
        have C5 : Hid (w2.heap.size ≤ (wr.alloc (.cells #[.int .u8 (IntKind.u8.wrap x)] 5)).heap.size) := by show _ ≤ _; rw [World.size_alloc]; omega
        clear hx hown ht hs
        go_wp2_with (first | (go_at_call 68; refine (in_any _ _ _ _).mono ?_; rintro e w' ⟨rfl, hw'⟩; obtain rfl := hw'.symm; rw [HXB.out]) | (at_builtin; refine wpList_append_own_at _ rfl _ _ 110 rfl w2.heap.size 5 i0 (.int .u8 0) 1 1 undU8s HI.out.1 HI.out.2.1 HI.out.2.2.1 HI.out.2.2.2 rfl Nat.zero_lt_one _ k _ rfl (HO.out.alloc _) ⟨_, 0, none⟩ 1 1 [.int .u8 (IntKind.u8.wrap x)] rfl rfl (src8 _ _ _) (one8 _) C3.out C4.out C5.out ?_; intro v5 w5 hown5 hgr5 hnn5 hat5))
        have hown6 := own8_of (xs := (l.take (k + 1)).map u8w) (n := k + 1) (by rw [HTM.out, List.map_append]; exact hown5) (fun e => by have := (hnn5.1 e).1; cases this)
        obtain ⟨ht6, hs6⟩ := grow_keep HS2.out HTR.out HSR.out hgr5 (fun j hj => (HO.out.lt j hj).1)
        have HO6 : Hid (Own8 w5 w2.heap.size v5 ((l.take (k + 1)).map u8w)) := hown6
        have HT6 : Hid (Turn E.rb w2 w5) := ht6
        have HS6 : Hid (Sr E left (bad2 || !(l.take (k + 1)).all isByte) w5) := by show Sr ..; rw [HTA.out]; exact hs6
        clear hown5 hgr5 hnn5 hat5 hown6 ht6 hs6
        go_roundw
        case rel => exact ⟨k + 1, by omega, by go_num, HO6.out, HT6.out, HS6.out⟩
        case measure => simp [intOf]; omega
      | false =>
        have HXB : Hid (inB x 0 255 = false) := hx
        have HTA : Hid ((bad2 || !(l.take (k + 1)).all isByte) = true) := by show _ = _; rw [HTA0.out, hx, Bool.and_false]; simp
        have HTM : Hid ((l.take (k + 1)).map u8w = (l.take k).map u8w ++ [x % 256]) := by show _ = _; rw [HTM.out]; unfold u8w; rw [IntKind.wrap_u8]
        have HO : Hid ((wr.setCell ⟨E.rb, 3, none⟩ (.bool true)).ownsRow w2.heap.size 5 1 (.slice (some ⟨g2, 0, none⟩) k cc) k (((l.take k).map u8w).map (Value.int .u8))) := ownsRow_setCell_below hown (by show E.rb < _; omega) _
        have HTR : Hid (Turn E.rb w2 (wr.setCell ⟨E.rb, 3, none⟩ (.bool true))) := ht.set 3 _
        have HSR : Hid (Sr E left true (wr.setCell ⟨E.rb, 3, none⟩ (.bool true))) := hs.setB true
        have C5 : Hid (w2.heap.size ≤ ((wr.setCell ⟨E.rb, 3, none⟩ (.bool true)).alloc (.cells #[.int .u8 (x % 256)] 5)).heap.size) := by show _ ≤ _; rw [World.size_alloc, World.size_setCell]; omega
        have q' : (wr.setCell ⟨E.rb, 3, none⟩ (.bool true)).cell? ⟨g, o' + k, none⟩ = some (.int .i64 x) := by
          rw [World.cell?_setCell_other (h := fun e => by simp only [Addr.mk.injEq] at e; exact (HCE.out k hlt).2 e.1.symm)]; exact q
        clear hx hown ht hs
        go_wp2_with (first | (go_at_call 68; refine (in_any _ _ _ _).mono ?_; rintro e w' ⟨rfl, hw'⟩; obtain rfl := hw'.symm; rw [HXB.out]) | (at_builtin; refine wpList_append_own_at _ rfl _ _ 110 rfl w2.heap.size 5 i0 (.int .u8 0) 1 1 undU8s HI.out.1 HI.out.2.1 HI.out.2.2.1 HI.out.2.2.2 rfl Nat.zero_lt_one _ k _ rfl (HO.out.alloc _) ⟨wr.heap.size, 0, none⟩ 1 1 [.int .u8 (x % 256)] rfl rfl (src8s _ _ _ _ _) (one8 _) C3.out C4.out C5.out ?_; intro v5 w5 hown5 hgr5 hnn5 hat5))
        have hown6 := own8_of (xs := (l.take (k + 1)).map u8w) (n := k + 1) (by rw [HTM.out, List.map_append]; exact hown5) (fun e => by have := (hnn5.1 e).1; cases this)
        obtain ⟨ht6, hs6⟩ := grow_keep HS2.out HTR.out HSR.out hgr5 (fun j hj => (HO.out.lt j hj).1)
        have HO6 : Hid (Own8 w5 w2.heap.size v5 ((l.take (k + 1)).map u8w)) := hown6
        have HT6 : Hid (Turn E.rb w2 w5) := ht6
        have HS6 : Hid (Sr E left (bad2 || !(l.take (k + 1)).all isByte) w5) := by show Sr ..; rw [HTA.out]; exact hs6
        clear hown5 hgr5 hnn5 hat5 hown6 ht6 hs6
        go_roundw
        case rel => exact ⟨k + 1, by omega, by go_num, HO6.out, HT6.out, HS6.out⟩
        case measure => simp [intOf]; omega
    · have hkl2 : k = l.length := by omega
      have htk : l.take k = l := by rw [hkl2]; simp
      rw [htk] at hown hs
      have HOW : Hid (wr.ownsRow w2.heap.size 5 1 (.slice (some ⟨g2, 0, none⟩) (l.map u8w).length cc) (l.map u8w).length ((l.map u8w).map (Value.int .u8))) := by
        show World.ownsRow ..
        rw [List.length_map, ← hkl2]; exact hown
      have hcv := conv8 HOW.out (fun y hy => by obtain ⟨z, _, rfl⟩ := List.mem_map.1 hy; exact u8w_byte z)
      rw [List.length_map, ← hkl2] at hcv
      obtain ⟨q4, f4⟩ := ht.keep (W := w.heap.size) (by omega) (by omega) q2 f2
      have HTR : Hid (Turn E.rb w wr) := HT2.out.trans ht
      have HSR : Hid (Sr E left (bad2 || !l.all isByte) wr) := hs
      have HSZ : Hid ((txtB (l.map u8w)).size ≤ maxLen) := by
        show _ ≤ _
        have e : (txtB (l.map u8w)).size = l.length := by simp [txtB, ByteArray.size]
        rw [e]; unfold maxLen; omega
      clear hown hs htk hkl2 hkl ht
      go_wp2_with fail
      have hkk : ∀ (a b c d : Value) k, k < w.heap.size → (lay4 wr w.heap.size a b c d).heap[k]? = wr.heap[k]? := fun a b c d k hk => lay4_heap (by omega)
      have hfin : ∀ a b c d, Turn E.rb w (lay4 wr w.heap.size a b c d) ∧ Sr E left (bad2 || !l.all isByte) (lay4 wr w.heap.size a b c d) := fun a b c d =>
        ⟨⟨HTR.out.os, HTR.out.tape, HTR.out.output, by rw [lay4_size]; exact HTR.out.size, fun k hkl hkn => (hkk a b c d k hkl).trans (HTR.out.block k hkl hkn)⟩, HS.out.same HSR.out (hkk a b c d)⟩
      obtain ⟨a1, a2⟩ := hfin (.int .i64 6) (.int .i64 0) (.string (txtB (l.map u8w))) (.slice none 0 0)
      refine bodyPost_ret (v := .agg #[.int .i64 6, .int .i64 0, .string (txtB (l.map u8w)), .slice none 0 0]) (by simp [results, Try.results118, go_sem, q4]) rfl ⟨_, rfl, HSZ.out, a1, ?_⟩
      rcases hcw.out.2 with ⟨hb, hc, _⟩ | ⟨hb, hc, _⟩
      · cases ha : l.all isByte with
        | true =>
          refine .inl ⟨_, hc, ?_, by rw [hb, ha] at a2; exact a2⟩
          rw [HW.out, txt, if_pos ha, u8w_all ha]
        | false =>
          refine .inr ⟨fun n hn => ?_, by rw [hb, ha] at a2; exact a2⟩
          rw [hc] at hn
          injection hn with hn
          rw [← hn, HW.out, txt, if_neg (by rw [ha]; simp)]
      · refine .inr ⟨fun n hn => (by rw [hc] at hn; cases hn), by rw [hb] at a2; exact a2⟩
end Go.Proofs.Ytadihpbleomlkaa
