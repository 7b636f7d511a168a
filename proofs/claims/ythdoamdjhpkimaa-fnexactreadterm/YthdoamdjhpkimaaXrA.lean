/-
  The frame of the law over ReadTerm: what it marks.
-/
import Derived.Test.YthdoamdjhpkimaaXhB
import Derived.Test.YthdoamdjhpkimaaMkB
import Derived.Test.YthdoamdjhpkimaaRgJ
namespace Go.Proofs.Ythdoamdjhpkimaa
open Go.RowKit
set_option linter.unusedVariables false

set_option maxHeartbeats 1000000 in
theorem markIntS_any (b o N cap : Nat) (f : Nat → Int) (w : World) (hI : Ints w b o N f) (k : Int) (hk : 0 ≤ k ∧ k ≤ 1048576) (hN : N ≤ 1048576) :
    Calls Try.prog 51 #[.slice (some ⟨b, o, none⟩) N cap, .int .i64 k] w fun e w' => e = .returned (.int .i64 (k + N)) ∧ Turn b w w' ∧ Ints w' b o N (fun j => k + j) := by
  have HI : Hid (Ints w b o N f) := hI
  clear hI
  go_enter Try.func51, Try.ntmps51
  go_wp2_with fail
  go_loopw [1, 5] (fun a i w' => ∃ m : Nat, m ≤ N ∧ i = .int .i64 m ∧ a = .int .i64 (k + m) ∧ Turn b w w' ∧ Ints w' b o N (fun j => if j < m then k + j else f j)) (fun _ i _ => N - (intOf i).toNat)
  case atStart => exact ⟨0, Nat.zero_le _, by simp, by simp, Turn.refl _ _, HI.out.congr (fun j _ => by rw [if_neg (by omega)])⟩
  case round =>
    obtain ⟨m, hm, rfl, rfl, ht, hi⟩ := hrel
    have HT : Hid (Turn b w wr) := ht
    have HI2 : Hid (Ints wr b o N (fun j => if j < m then k + j else f j)) := hi
    by_cases hlt : m < N
    · have cm := hi.cell m hlt
      rw [if_neg (by omega)] at cm
      have fr : ∀ x, wr.frozen? ⟨b, x, none⟩ = false := hi.free
      clear ht hi
      go_wp2_with fail
      go_roundw
      case rel =>
        refine ⟨m + 1, by omega, by go_num, by go_num, HT.out.set _ _, (HI2.out.set m hlt _).congr fun j _ => ?_⟩
        unfold upd
        by_cases e : j = m
        · subst e
          rw [if_pos rfl, if_pos (by omega)]
        · rw [if_neg e]
          dsimp only
          by_cases e2 : j < m
          · rw [if_pos e2, if_pos (by omega)]
          · rw [if_neg e2, if_neg (by omega)]
      case measure => simp [intOf]; omega
    · have hme : m = N := by omega
      subst hme
      clear ht hi
      go_wp2_with fail
      go_ret
      exact ⟨rfl, HT.out, HI2.out.congr (fun j hj => by rw [if_pos hj])⟩

theorem markHeap_any (b o N cap : Nat) (f : Nat → Int) (w : World) (hI : Ints w b o N f) (k : Int) (hk : 0 ≤ k ∧ k ≤ 1048576) (hN : N ≤ 1048576) (hlt : b < w.heap.size) :
    Calls Try.prog 25 #[.agg #[.slice (some ⟨b, o, none⟩) N cap], .int .i64 k] w fun e w' => e = .returned (.int .i64 (k + N)) ∧ Turn b w w' ∧ Ints w' b o N (fun j => k + j) := by
  have HI : Hid (Ints w b o N f) := hI
  clear hI
  go_enter Try.func25, Try.ntmps25
  go_wp2_with fail
  have hb := (Below.refl w.heap.size w).alloc (Nat.le_refl _) (.cells #[.slice (some ⟨b, o, none⟩) N cap] 26)
  refine (markIntS_any b o N cap f _ (HI.out.below hb hlt) k hk hN).mono ?_
  rintro e w1 ⟨rfl, ht, hi⟩
  have HT : Hid (Turn b w w1) := (Turn.of_below hb).trans ht
  have HI2 : Hid (Ints w1 b o N (fun j => k + j)) := hi
  clear ht hi hb
  go_wp2_with fail
  go_ret
  exact ⟨rfl, HT.out, HI2.out⟩
set_option maxHeartbeats 1000000 in
theorem markStr2_any (b N cap : Nat) (f : Nat → ByteArray) (w : World) (hI : Sts w b N f) (hlt0 : b < w.heap.size) (hN : N ≤ 1048577) (K : Nat) (hK : 1 ≤ K) (hK2 : K ≤ 1048577) :
    Calls Try.prog 26 #[.slice (some ⟨b, 0, none⟩) N cap, .int .i64 K] w fun e w' => e = .returned (.int .i64 ((K : Int) + N)) ∧ Turn b w w' ∧ Sts w' b N (fun j => mkT (K + j)) := by
  have HI : Hid (Sts w b N f) := hI
  clear hI
  go_enter Try.func26, Try.ntmps26
  go_wp2_with fail
  go_loopw [1, 5] (fun a i w' => ∃ m : Nat, m ≤ N ∧ i = .int .i64 m ∧ a = .int .i64 ((K + m : Nat) : Int) ∧ Turn b w w' ∧ Sts w' b N (fun j => if j < m then mkT (K + j) else f j)) (fun _ i _ => N - (intOf i).toNat)
  case atStart => exact ⟨0, Nat.zero_le _, by simp, by simp, Turn.refl _ _, HI.out.congr (fun j _ => by rw [if_neg (by omega)])⟩
  case round =>
    obtain ⟨m, hm, rfl, rfl, ht, hi⟩ := hrel
    have HT : Hid (Turn b w wr) := ht
    have HI2 : Hid (Sts wr b N (fun j => if j < m then mkT (K + j) else f j)) := hi
    have hltr : b < wr.heap.size := Nat.lt_of_lt_of_le hlt0 ht.size
    clear ht hi
    by_cases hlt : m < N
    · obtain ⟨u, hu⟩ : ∃ u : Nat, u = K + m := ⟨_, rfl⟩
      have HU : Hid (u = K + m) := hu
      have hu1 : 1 ≤ u := by omega
      have hu2 : u ≤ 4000000000 := by omega
      rw [← hu]
      clear hu
      go_wp2_with fail
      refine (markText_any u hu1 hu2 wr).mono ?_
      rintro e w1 ⟨rfl, hb1⟩
      have HT1 : Hid (Turn b w w1) := HT.out.trans (Turn.of_below hb1)
      have hi1 := HI2.out.below hb1 hltr
      have HI1 : Hid (Sts w1 b N (fun j => if j < m then mkT (K + j) else f j)) := hi1
      have cm := hi1.cell m hlt
      have fr : ∀ x, w1.frozen? ⟨b, x, none⟩ = false := hi1.free
      clear hi1 hb1
      generalize hx : mkT u = x
      have HX : Hid (mkT u = x) := hx
      clear hx
      go_wp2_with fail
      go_roundw
      case rel =>
        refine ⟨m + 1, by omega, by go_num, by rw [HU.out]; go_num, HT1.out.set _ _, (HI1.out.set m hlt _).congr fun j _ => ?_⟩
        unfold updS
        by_cases e : j = m
        · subst e
          rw [if_pos rfl, if_pos (by omega), ← HX.out, HU.out]
        · rw [if_neg e]
          dsimp only
          by_cases e2 : j < m
          · rw [if_pos e2, if_pos (by omega)]
          · rw [if_neg e2, if_neg (by omega)]
      case measure => simp [intOf]; omega
    · have hme : m = N := by omega
      subst hme
      go_wp2_with fail
      go_ret
      exact ⟨ret_int (by omega), HT.out, HI2.out.congr (fun j hj => by rw [if_pos hj])⟩


theorem markTerm_any (k0 n0 : Int) (s0 : ByteArray) (l : List Tm) (ao : Option Addr) (cap : Nat) (w : World) (lo hi : Nat) (h : OwL w l lo hi ao) (hhi : hi ≤ w.heap.size) (hlc : l.length ≤ cap) (hcm : cap ≤ maxLen) (hc : cL l ≤ 2900) :
    Calls Try.prog 27 #[.agg #[.int .i64 k0, .int .i64 n0, .string s0, .slice ao l.length cap], .int .i64 1] w fun e w' => e = .returned (.int .i64 ((1 + cL l : Nat) : Int)) ∧ OwL w' (mrL l 1) lo hi ao ∧ Out lo hi w w' := by
  have HH : Hid (OwL w l lo hi ao) := h
  have HC : Hid (l.length ≤ cap ∧ cap ≤ maxLen) := ⟨hlc, hcm⟩
  clear h hlc hcm
  go_enter Try.func27, Try.ntmps27
  go_wp2_with fail
  have hb : Below w.heap.size w (w.alloc (.cells #[.int .i64 k0, .int .i64 n0, .string s0, .slice ao l.length cap] 32)) := (Below.refl _ _).alloc (Nat.le_refl _) _
  refine (mkS_all l _ lo hi ao cap 1 (OwL.keep _ _ _ _ (fun b _ _ hbl => hb.block b hbl) HH.out) (by rw [World.size_alloc]; omega) HC.out.1 HC.out.2 (by omega) (by omega)).mono ?_
  rintro e w1 ⟨rfl, h1, h2⟩
  have HO : Hid (OwL w1 (mrL l 1) lo hi ao) := h1
  have HT : Hid (Out lo hi w w1) := (Out.below hb).trans h2
  clear h1 h2 hb
  go_wp2_with fail
  go_ret
  exact ⟨rfl, HO.out, HT.out⟩
theorem heldTerm_any (k0 n0 : Int) (s0 : ByteArray) (l : List Tm) (ao : Option Addr) (cap : Nat) (w : World) (h : RepL 0 w (mrL l 1) ao) (hlc : l.length ≤ cap) (hcm : cap ≤ maxLen) (hc : cL l ≤ 2900) :
    Calls Try.prog 28 #[.agg #[.int .i64 k0, .int .i64 n0, .string s0, .slice ao l.length cap], .int .i64 1] w fun e w' => e = .returned (.int .i64 ((1 + cL l : Nat) : Int)) ∧ Below w.heap.size w w' := by
  have HH : Hid (RepL 0 w (mrL l 1) ao) := h
  have HC : Hid (l.length ≤ cap ∧ cap ≤ maxLen) := ⟨hlc, hcm⟩
  clear h hlc hcm
  go_enter Try.func28, Try.ntmps28
  go_wp2_with fail
  have hb : Below w.heap.size w (w.alloc (.cells #[.int .i64 k0, .int .i64 n0, .string s0, .slice ao l.length cap] 32)) := (Below.refl _ _).alloc (Nat.le_refl _) _
  refine (heS_all l _ ao cap 1 (repL_below HH.out hb) HC.out.1 HC.out.2 (by omega) (by omega)).mono ?_
  rintro e w1 ⟨rfl, h1⟩
  have HB : Hid (Below w.heap.size w w1) := hb.trans (h1.mono (by rw [World.size_alloc]; omega))
  clear h1 hb
  go_wp2_with fail
  go_ret
  exact ⟨rfl, HB.out⟩

/-! ### What both answer, a term in each case -/
def tOf : Option Tm → Tm
  | some t => t
  | none => .mk 0 0 ByteArray.empty []
theorem specRd (E : Env) (w : World) (h : Src E w) (x : Int) (hx : x ≤ 9223372036854775807) :
    Calls Try.prog 12 #[.agg #[.slice E.wv E.H.N E.cap], .slice E.av E.H.A.length E.acap, .int .i64 x] w fun e w' => ∃ a b c d' e' f, e = .returned (.tuple #[.agg #[.int .i64 a, .int .i64 b, .string c, .slice d' e' f], .bool (readT E.H x).isSome]) ∧ Below w.heap.size w w' ∧ RepV 0 w' (tOf (readT E.H x)) (.agg #[.int .i64 a, .int .i64 b, .string c, .slice d' e' f]) := by
  refine (specReadP E w h x hx).mono ?_
  rintro e w' ⟨a, b, c, d', e', f, rfl, hb, ⟨t, ht, hv⟩ | ⟨hn, hz⟩⟩
  · exact ⟨a, b, c, d', e', f, rfl, hb, by rw [ht]; exact hv.rep⟩
  · refine ⟨a, b, c, d', e', f, rfl, hb, ?_⟩
    rw [hn, hz]
    exact ⟨none, 0, rfl, Nat.zero_le _, Nat.le_refl _, Nat.zero_le _, by rw [RepL]; trivial⟩
theorem implRd (E : Env) (w : World) (h : Src E w) (hl : Gn.Lst E.wv E.b E.o E.H.N E.cap) (x : Int) (hx : x ≤ 9223372036854775807) :
    Calls Try.prog 11 #[.agg #[.slice E.wv E.H.N E.cap], .slice E.av E.H.A.length E.acap, .int .i64 x] w fun e w' => ∃ v, e = .returned (.tuple #[v, .bool (readT E.H x).isSome]) ∧ Below w.heap.size w w' ∧ OwV w' w.heap.size w'.heap.size (tOf (readT E.H x)) v := by
  refine (Gn.implRead_any E w h hl x hx).mono ?_
  rintro e w' ⟨hb, ⟨t, v, ht, rfl, hv⟩ | ⟨hn, rfl⟩⟩
  · exact ⟨v, by rw [ht]; rfl, hb, by rw [ht]; exact hv⟩
  · refine ⟨zT, by rw [hn]; rfl, hb, ?_⟩
    rw [hn]
    exact ⟨none, 0, rfl, Nat.zero_le _, Nat.le_refl _, Nat.zero_le _, by rw [OwL]; trivial⟩
mutual
theorem look_cT : ∀ (t : Tm) (d m x : Nat), look t d m = some x → cT t + 3 * x ≤ 3 * m
  | .mk k n s l, d, m, x, h => by
    rw [look] at h
    split at h
    · cases h
    · rename_i hc
      have := look_cL l _ _ _ h
      rw [cT]
      omega
theorem look_cL : ∀ (l : List Tm) (d m x : Nat), lookL l d m = some x → cL l + 3 * x ≤ 3 * m
  | [], d, m, x, h => by rw [lookL] at h; cases h; rw [cL]; omega
  | t :: r, d, m, x, h => by
    rw [lookL] at h
    split at h
    · cases h
    · rename_i y hy
      have h1 := look_cT t d m y hy
      have h2 := look_cL r d y x h
      rw [cL]
      omega
end
theorem tOf_small {H : Hp} (ho : H.ok) (x : Int) {k n : Int} {s : ByteArray} {l : List Tm} (h : tOf (readT H x) = .mk k n s l) : cL l ≤ 2900 := by
  unfold readT at h
  cases hq : rT true H 6 x 100 with
  | none =>
    rw [hq] at h
    simp only [Option.map_none, tOf, Tm.mk.injEq] at h
    obtain ⟨_, _, _, rfl⟩ := h
    rw [cL]; omega
  | some p =>
    obtain ⟨t, y⟩ := p
    rw [hq] at h
    simp only [Option.map_some, tOf] at h
    have hl := rT_look 6 x 100 t y hq
    have := look_cT t 6 100 y hl
    rw [h, cT] at this
    omega
end Go.Proofs.Ythdoamdjhpkimaa
