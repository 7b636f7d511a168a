/-
  What the law FnNoRooms does.
-/
import Derived.Test.YtnfncdoiabgdjaaNrE
import Derived.Maps.AppendAt
import Derived.Laws.OwnMore
namespace Go.Proofs.Ytnfncdoiabgdjaa.Nr
open Go.RowKit
set_option linter.unusedVariables false

mutual
theorem rpT_up {w : World} : ∀ (t : Tm) (b o : Nat), RepT 0 w t b o → RpT (fun x => x < w.heap.size) w t b o
  | .mk k n s l, b, o, h => by
    rw [RepT] at h
    rw [RpT]
    obtain ⟨h0, h1, h2, hs, ao, cap, h3, hl, hc, hr⟩ := h
    exact ⟨h0, h1, h2, hs, ao, cap, h3, hl, hc, rpL_up l ao hr⟩
theorem rpL_up {w : World} : ∀ (l : List Tm) (ao : Option Addr), RepL 0 w l ao → RpL (fun x => x < w.heap.size) w l ao
  | [], _, _ => by rw [RpL]; trivial
  | t :: r, ao, h => by
    rw [RepL] at h
    rw [RpL]
    obtain ⟨b, off, e, _, ht, hr⟩ := h
    have h1 := rpT_up t b off ht
    obtain ⟨v, hv⟩ := h1.head
    exact ⟨b, off, e, World.block_lt_of_cell? w _ hv, h1, rpL_up r _ hr⟩
end
/-- The cells of what was said, as a row. -/
theorem news_any {w : World} {b o : Nat} {l : List Sn} (h : ∀ j (hj : j < l.length), BxN w b (o + j * 6) l[j]) : ∀ m, m ≤ l.length → ∃ xs, RowN (fun x => x < w.heap.size) w (l.take m) xs ∧ (∀ j u, xs[j]? = some u → w.cell? ⟨b, o + j, none⟩ = some u) ∧ ∀ u ∈ xs, u.oneCell' = true
  | 0, _ => ⟨[], by rw [List.take_zero]; exact RowN.nil _ _, fun j u hj => by simp at hj, fun u hu => by simp at hu⟩
  | m + 1, hm => by
    obtain ⟨xs, h1, h2, h3⟩ := news_any h m (by omega)
    have hx := h m (by omega)
    have hl1 : xs.length = m * 6 := by rw [h1.1, List.length_take]; omega
    revert hx
    rw [List.take_succ_eq_append_getElem (show m < l.length by omega)]
    generalize l[m] = x
    intro hx
    obtain ⟨kind, pid, t⟩ := x
    obtain ⟨k, n, s, tl⟩ := t
    obtain ⟨c0, c1, ct⟩ := hx
    have ct2 := ct
    dsimp only at c0 c1 ct2
    rw [RepT] at ct2
    obtain ⟨d0, d1, d2, hs, ax, cx, d3, hlx, hcx, rl⟩ := ct2
    refine ⟨xs ++ [.int .i64 kind, .int .i64 pid, .int .i64 k, .int .i64 n, .string s, .slice ax tl.length cx], h1.snoc (x := ⟨kind, pid, .mk k n s tl⟩) ⟨ax, cx, rfl, hs, hlx, hcx, rpL_up _ _ rl⟩, fun j u hj => ?_, fun u hu => ?_⟩
    · by_cases hjl : j < xs.length
      · rw [List.getElem?_append_left hjl] at hj
        exact h2 j u hj
      · rw [List.getElem?_append_right (by omega)] at hj
        obtain ⟨i, rfl⟩ : ∃ i, j = m * 6 + i := ⟨j - m * 6, by omega⟩
        rw [hl1, Nat.add_sub_cancel_left] at hj
        have hi : i < 6 := by
          have := (List.getElem?_eq_some_iff.1 hj).1
          exact this
        rw [← Nat.add_assoc]
        match i, hi with
        | 0, _ => simp at hj; rw [← hj]; exact c0
        | 1, _ => simp at hj; rw [← hj]; exact c1
        | 2, _ => simp at hj; rw [← hj]; exact d0
        | 3, _ => simp at hj; rw [← hj]; exact d1
        | 4, _ => simp at hj; rw [← hj]; exact d2
        | 5, _ => simp at hj; rw [← hj]; exact d3
    · rcases List.mem_append.1 hu with hu | hu
      · exact h3 u hu
      · simp at hu
        rcases hu with rfl | rfl | rfl | rfl | rfl | rfl <;> rfl
theorem cntN_more (l : List Sn) : cntN (l ++ [⟨3, 1, NR⟩]) = cntN l + 1 := by
  rw [cntN, cntN, List.filter_append, List.length_append]
  have : hitN ⟨3, 1, NR⟩ = true := by unfold hitN; simp [cmpT_self]
  simp [this]
def endN (l : List Sn) : Nat := (l.filter (fun x => decide (x.kind = 3))).length
theorem endN_succ {l : List Sn} {j : Nat} (h : j < l.length) : endN (l.take (j + 1)) = endN (l.take j) + (if l[j].kind = 3 then 1 else 0) := by
  rw [endN, endN, List.take_succ_eq_append_getElem h, List.filter_append, List.length_append]
  congr 1
  by_cases h2 : l[j].kind = 3
  · rw [if_pos h2]; simp [h2]
  · rw [if_neg h2]; simp [h2]
theorem endN_take {l : List Sn} {j : Nat} (h : j ≤ l.length) : endN (l.take j) ≤ j := by
  have h1 := List.length_filter_le (fun x : Sn => decide (x.kind = 3)) (l.take j)
  rw [List.length_take] at h1
  rw [endN]; omega
theorem cnt_end (l : List Sn) : cntN l ≤ endN l := by
  induction l with
  | nil => exact Nat.le_refl _
  | cons x r ih =>
    rw [cntN, endN] at ih ⊢
    by_cases h : x.kind = 3
    · by_cases h2 : hitN x = true
      · simp [h, h2]; exact ih
      · simp [h, h2]; omega
    · have h2 : hitN x = false := by unfold hitN; simp [h]
      simp [h, h2]; exact ih
theorem sixOneN {a b k n : Int} {s : ByteArray} {ao : Option Addr} {len cap : Nat} : ∀ v ∈ ([.int .i64 a, .int .i64 b, .int .i64 k, .int .i64 n, .string s, .slice ao len cap] : List Value), v.oneCell' = true := fun v hv => by
  simp at hv
  rcases hv with rfl | rfl | rfl | rfl | rfl | rfl <;> rfl
theorem bigN_any (ao : Option Addr) (len cap : Nat) (w : World) (hm : len ≤ maxLen) :
    Calls Try.prog 5 #[.slice ao len cap] w fun e w' => e = .returned (.bool (decide (1048576 < len))) ∧ w' = w := by
  unfold maxLen at hm
  by_cases h : 1048576 < len
  · go_enter Try.func5, Try.ntmps5
    go_wp2_with fail
    go_ret
    exact ⟨by simp [h]; omega, rfl⟩
  · go_enter Try.func5, Try.ntmps5
    go_wp2_with fail
    go_ret
    exact ⟨by simp [h]; omega, rfl⟩

theorem cnt_ok {x : Sn} (h : SnOk x) : cntT x.t ≤ 1000000000 := by
  rcases h.2.2.2 with h | h
  · exact cnt_6 (by decide) h
  · rw [h, NR, cntT, cntL]; omega
theorem ok_more {l : List Sn} (hok : ∀ x ∈ l, SnOk x) : ∀ x ∈ l ++ [(⟨3, 1, NR⟩ : Sn)], SnOk x := fun x hx => by
  rcases List.mem_append.1 hx with hx | hx
  · exact hok x hx
  · have : x = ⟨3, 1, NR⟩ := by simpa using hx
    rw [this]; exact ⟨by show (1 : Int) ≤ 3; omega, by show (3 : Int) ≤ 3; omega, rfl, .inr rfl⟩
theorem specAt_any (l : List Sn) (C : Nat) (hC : C = cntN l) {c0 g0 : Nat} (hl : l.length ≤ 4 ∧ l.length ≤ c0) {w1 w11 : World} (hrd : RdN w1 (some ⟨g0, 0, none⟩) l) (hok : ∀ x ∈ l, SnOk x) (hb1 : Below w1.heap.size w1 w11) (N : Nat) (hN : N = l.length) :
    ∀ wc, Below w11.heap.size w11 wc → Calls Try.prog 8 #[.slice (some ⟨g0, 0, none⟩) N c0] wc fun e w' => e = .returned (.int .i64 C) ∧ Below w11.heap.size w11 w' := fun wc hb => by
  rw [hC, hN]
  refine (specNoRooms_any l _ c0 wc ((hrd.below hb1).below hb) hl.2 (by omega) hok).mono fun e w' h => ?_
  exact ⟨h.1, hb.trans (h.2.mono hb.size)⟩
theorem implMore_any (l : List Sn) (C : Nat) (hC : cntN (l ++ [⟨3, 1, NR⟩]) = C + 1) (hl : l.length ≤ 4) (hok : ∀ x ∈ l, SnOk x) (a10 : Option Addr) (c10 : Nat) (w11 : World) (hrd : RdN w11 a10 (l ++ [⟨3, 1, NR⟩])) (hlc : (l ++ [(⟨3, 1, NR⟩ : Sn)]).length ≤ c10) (v10 : Value) (hv : v10 = .slice a10 (l ++ [(⟨3, 1, NR⟩ : Sn)]).length c10) :
    ∀ wc, Below w11.heap.size w11 wc → Calls Try.prog 7 #[v10] wc fun e w' => e = .returned (.int .i64 ((C : Int) + 1)) ∧ Below w11.heap.size w11 w' := fun wc hb => by
  have e9 : ((C : Int) + 1) = ((cntN (l ++ [⟨3, 1, NR⟩]) : Nat) : Int) := by rw [hC]; omega
  rw [e9, hv]
  have h9 : (l ++ [(⟨3, 1, NR⟩ : Sn)]).length ≤ 1048576 := by rw [List.length_append, List.length_singleton]; omega
  have h8 := ok_more hok
  have h7 := hrd.below hb
  have h6 : ∀ x ∈ l ++ [(⟨3, 1, NR⟩ : Sn)], cntT x.t ≤ 1000000000 := fun x hx => cnt_ok (h8 x hx)
  clear h8 hC hok hrd hl hv e9
  revert h7 h6 hlc h9
  generalize l ++ [(⟨3, 1, NR⟩ : Sn)] = L
  intro hlc h9 h7 h6
  refine (implNoRooms_any L a10 c10 wc h7 hlc h9 h6).mono fun e w' h => ?_
  exact ⟨h.1, hb.trans (h.2.mono hb.size)⟩

set_option maxRecDepth 100000 in
set_option maxHeartbeats 4000000 in
theorem noRooms_law (w : World) (ao : Option Addr) (len cap : Nat) (zs : List Int) (hr : IsRow w ao len cap zs) (hlc : len ≤ cap) (hcm : cap ≤ maxLen) :
    Calls Try.prog 3 #[.slice ao len cap] w fun e w' => e = .returned (.bool true) ∧ Below w.heap.size w w' := by
  have HR : Hid (IsRow w ao len cap zs) := hr
  have HBG : Hid (∀ w', Calls Try.prog 5 #[.slice ao len cap] w' fun e w'' => e = .returned (.bool (decide (1048576 < len))) ∧ w'' = w') := fun w' => bigN_any ao len cap w' (Nat.le_trans hlc hcm)
  clear hr hlc hcm
  by_cases hbig : 1048576 < len
  · have hd : decide (1048576 < len) = true := by simpa using hbig
    rw [hd] at HBG
    go_enter Try.func3, Try.ntmps3
    go_wp2_with (go_at_call 5; refine (HBG.out _).mono ?_; rintro e w' ⟨rfl, rfl⟩)
    go_ret
    exact ⟨rfl, Below.refl _ _⟩
  · have hd : decide (1048576 < len) = false := by simpa using hbig
    rw [hd] at HBG
    have HSM : Hid (len ≤ 1048576) := by show _ ≤ _; omega
    clear hd hbig
    go_enter Try.func3, Try.ntmps3
    go_wp2_with (go_at_call 5; refine (HBG.out _).mono ?_; rintro e w' ⟨rfl, hw'⟩; obtain rfl := hw'.symm)
    refine (drawNoRooms_any w ao len cap zs HR.out HSM.out).mono ?_
    rintro e w1 ⟨l, g0, c0, rfl, hlc, hcm, hl4, hrd, hok, hb1⟩
    have HB1 : Hid (Below w.heap.size w w1) := hb1
    have HRD : Hid (RdN w1 (some ⟨g0, 0, none⟩) l ∧ ∀ x ∈ l, SnOk x) := ⟨hrd, hok⟩
    have HCT : Hid (∀ x ∈ l, cntT x.t ≤ 1000000000) := fun x hx => cnt_ok (hok x hx)
    have HIM : Hid (∀ wc, Below w1.heap.size w1 wc → Calls Try.prog 7 #[.slice (some ⟨g0, 0, none⟩) l.length c0] wc fun e w' => e = .returned (.int .i64 (cntN l)) ∧ Below w1.heap.size w1 w') := fun wc hb =>
      (implNoRooms_any l _ c0 wc (HRD.out.1.below hb) hlc (by omega) HCT.out).mono fun e w' h => ⟨h.1, hb.trans (h.2.mono hb.size)⟩
    have HSP : Hid (∀ wc, Below w1.heap.size w1 wc → Calls Try.prog 8 #[.slice (some ⟨g0, 0, none⟩) l.length c0] wc fun e w' => e = .returned (.int .i64 (cntN l)) ∧ Below w1.heap.size w1 w') := fun wc hb =>
      (specNoRooms_any l _ c0 wc (HRD.out.1.below hb) hlc (by omega) HRD.out.2).mono fun e w' h => ⟨h.1, hb.trans (h.2.mono hb.size)⟩
    have HCM : Hid (cntN (l ++ [⟨3, 1, NR⟩]) = cntN l + 1 ∧ cntN l ≤ endN l) := ⟨cntN_more l, cnt_end l⟩
    obtain ⟨C, hC⟩ : ∃ C, C = cntN l := ⟨_, rfl⟩
    rw [← hC] at HIM HSP HCM
    have HC9 : Hid (C = cntN l) := hC
    have hlc4 : Hid (l.length ≤ 4 ∧ l.length ≤ c0) := ⟨hl4, hlc⟩
    have hC4 : C ≤ 4 := by rw [hC]; have := cntN_take (l := l) (j := l.length) (Nat.le_refl _); rw [List.take_length] at this; omega
    obtain ⟨N, hN⟩ : ∃ N, N = l.length := ⟨_, rfl⟩
    have HN : Hid (N = l.length) := hN
    rw [← hN] at HIM HSP hlc hl4 ⊢
    clear hrd hok hb1 hC hN HCT
    go_wp2_with fail
    refine (HIM.out w1 (Below.refl _ _)).mono ?_
    rintro e w2 ⟨rfl, hb2⟩
    have HB2 : Hid (Below w1.heap.size w1 w2) := hb2
    clear hb2
    go_wp2_with fail
    go_loopw [5, 6] (fun n i wr => ∃ j : Nat, j ≤ N ∧ n = .int .i64 (endN (l.take j)) ∧ i = .int .i64 j ∧ wr = w2) (fun n i _ => N - (intOf i).toNat)
    case atStart => exact ⟨0, Nat.zero_le _, rfl, rfl, rfl⟩
    case round =>
      obtain ⟨j, hj, rfl, rfl, hwr⟩ := hrel
      have HWR : Hid (wr = w2) := hwr
      by_cases hlt : j < N
      · have hlt1 : j < l.length := by have := HN.out; omega
        have hbx : BxN wr g0 (j * 6) l[j] := by
          rw [hwr]
          rcases HRD.out.1.below HB2.out with h | ⟨b, o, h1, h2⟩
          · rw [h] at hlt1; exact absurd hlt1 (Nat.not_lt_zero _)
          · cases h1
            have := h2 j hlt1
            rw [Nat.zero_add] at this
            exact this
        have HX : Hid (endN (l.take (j + 1)) = endN (l.take j) + (if l[j].kind = 3 then 1 else 0)) := endN_succ hlt1
        have hct := endN_take (l := l) (j := j) (by omega)
        obtain ⟨c, hc9⟩ : ∃ c, c = endN (l.take j) := ⟨_, rfl⟩
        rw [← hc9] at HX hct ⊢
        clear hc9 hwr
        obtain ⟨cc0, _, _⟩ := hbx
        generalize l[j].kind = K at cc0 HX
        by_cases hk : K = 3
        · subst hk
          have HF : Hid (endN (l.take (j + 1)) = c + 1) := by show _ = _; rw [HX.out]; simp
          clear HX
          go_wp2_with fail
          go_roundw
          case rel => exact ⟨j + 1, by omega, by rw [HF.out]; go_num, by go_num, HWR.out⟩
          case measure => simp [intOf]; omega
        · have HF : Hid (endN (l.take (j + 1)) = c) := by show _ = _; rw [HX.out]; simp [hk]
          have e1 : (K == 3) = false := beq_eq_false_iff_ne.2 hk
          clear HX hk
          go_wp2_with fail
          go_roundw
          case rel => exact ⟨j + 1, by omega, by rw [HF.out], by go_num, HWR.out⟩
          case measure => simp [intOf]; omega
      · have hjN : j = N := by omega
        have HF : Hid (l.take j = l) := List.take_of_length_le (by have := HN.out; omega)
        rw [HF.out]
        obtain ⟨E, hE⟩ : ∃ E, E = endN l := ⟨_, rfl⟩
        have hCE : C ≤ E := by rw [hE]; exact HCM.out.2
        have hE4 : E ≤ 4 := by rw [hE]; have := endN_take (l := l) (j := l.length) (Nat.le_refl _); rw [List.take_length] at this; have := HN.out; omega
        rw [← hE]
        clear hE
        subst hwr
        have hrd2 := HRD.out.1.below HB2.out
        obtain ⟨xs, hxs, hcell, hone⟩ : ∃ xs, RowN (fun x => x < wr.heap.size) wr l xs ∧ (∀ j u, xs[j]? = some u → wr.cell? ⟨g0, j, none⟩ = some u) ∧ ∀ u ∈ xs, u.oneCell' = true := by
          rcases hrd2 with h | ⟨b, o, h1, h2⟩
          · rw [h]; exact ⟨[], RowN.nil _ _, fun j u hj => by simp at hj, fun u hu => by simp at hu⟩
          · cases h1
            obtain ⟨xs, h3, h4, h5⟩ := news_any h2 l.length (Nat.le_refl _)
            rw [List.take_length] at h3
            exact ⟨xs, h3, fun j u hj => by have := h4 j u hj; rw [Nat.zero_add] at this; exact this, h5⟩
        obtain ⟨i0, hi, hzz⟩ := Option.map_eq_some_iff.1 infoSaid
        simp only [Prod.mk.injEq] at hzz
        obtain ⟨hzz0, hzz1, hzz2⟩ := hzz
        have HXS : Hid (RowN (fun x => x < wr.heap.size) wr l xs ∧ (∀ u ∈ xs, u.oneCell' = true) ∧ xs.length = N * 6) := ⟨hxs, hone, by rw [hxs.1, HN.out]⟩
        have HCE : Hid (∀ O, ∀ j u, xs[j]? = some u → (wr.alloc O).cell? ((⟨g0, 0, none⟩ : Addr).add j) = some u) := fun O j u hj => by
          have h1 := hcell j u hj
          have e : (⟨g0, 0, none⟩ : Addr).add j = ⟨g0, j, none⟩ := by rw [Addr.add_lit, Nat.zero_add]
          rw [e, World.cell?_alloc_lt (h := World.block_lt_of_cell? wr _ h1)]; exact h1
        have HOW : Hid ((wr.alloc (.cells #[] 31)).ownsRow wr.heap.size 31 6 (.slice (some ⟨wr.heap.size, 0, none⟩) 0 0) 0 []) := World.ownsRow_made (e := 31) (size := 6) wr #[] 0 (Nat.le_refl _) (Nat.zero_le _) rfl
        clear hrd2 hxs hcell hone hlt hj
        go_wp2_with (first
          | (at_builtin; refine wpList_append_own_at _ rfl _ _ 24 rfl wr.heap.size 31 i0 (.agg #[.int .i64 0, .int .i64 0, .int .i64 0, .int .i64 0, .string ⟨#[]⟩, .slice none 0 0]) 6 72 undSaidS hi hzz0 hzz1 hzz2 rfl (by decide) (.slice (some ⟨wr.heap.size, 0, none⟩) 0 0) 0 [] rfl HOW.out ⟨g0, 0, none⟩ N c0 xs rfl HXS.out.2.2 (HCE.out _) HXS.out.2.1 (by unfold maxLen; omega) (by omega) (by rw [World.size_alloc]; omega) ?_; intro v8 w9 hown8 hgr8 hnn8 hat8; rw [Nat.zero_add, List.nil_append] at hown8; have HO9 : Hid (w9.ownsRow wr.heap.size 31 6 v8 N xs) := hown8; have HB9 : Hid (Below wr.heap.size wr w9) := ((Below.refl _ _).alloc (Nat.le_refl _) _).grown hgr8 (by rw [World.size_alloc]; omega) (fun k hk => (HOW.out.lt k hk).1); clear hown8 hgr8 hnn8 hat8 HOW HCE)
          | (at_builtin; refine wpList_append_own_at _ rfl _ _ 24 rfl wr.heap.size 31 i0 (.agg #[.int .i64 0, .int .i64 0, .int .i64 0, .int .i64 0, .string ⟨#[]⟩, .slice none 0 0]) 6 72 undSaidS hi hzz0 hzz1 hzz2 rfl (by decide) v8 N xs rfl (HO9.out.alloc _) ⟨w9.heap.size, 0, none⟩ 1 1 [.int .i64 3, .int .i64 1, .int .i64 2, .int .i64 0, .string ⟨#[110, 111, 114, 111, 111, 109]⟩, .slice none 0 0] rfl rfl sixNews sixOneN (by unfold maxLen; omega) (by omega) (by rw [World.size_alloc]; have := HB9.out.size; omega) ?_; intro v10 w11 hown10 hgr10 hnn10 hat10; have HO11 : Hid (w11.ownsRow wr.heap.size 31 6 v10 (N + 1) (xs ++ [.int .i64 3, .int .i64 1, .int .i64 2, .int .i64 0, .string ⟨#[110, 111, 114, 111, 111, 109]⟩, .slice none 0 0])) := hown10; have HB11 : Hid (Below wr.heap.size wr w11) := (HB9.out.alloc HB9.out.size _).grown hgr10 (by rw [World.size_alloc]; have := HB9.out.size; omega) (fun k hk => (HO9.out.lt k hk).1); clear hown10 hgr10 hnn10 hat10))
        have hrw : RowN (fun _ => True) w11 (l ++ [⟨3, 1, NR⟩]) (xs ++ [.int .i64 3, .int .i64 1, .int .i64 2, .int .i64 0, .string ⟨#[110, 111, 114, 111, 111, 109]⟩, .slice none 0 0]) :=
          (HXS.out.1.move (S' := fun _ => True) (fun p o v hp hc => ⟨trivial, by rw [HB11.out.cell (p := ⟨p, o, none⟩) hp]; exact hc⟩)).snoc (x := ⟨3, 1, NR⟩) ⟨none, 0, rfl, by decide, Nat.le_refl _, Nat.zero_le _, by rw [RpL]; trivial⟩
        obtain ⟨a10, c10, hv10, hl10, hm10, hrd10⟩ := hrw.rd HO11.out (by rw [List.length_append, HN.out]; rfl)
        have HB12 : Hid (Below w1.heap.size w1 w11) := HB2.out.trans (HB11.out.mono HB2.out.size)
        have HSQ : Hid (∀ wc, Below w11.heap.size w11 wc → Calls Try.prog 8 #[.slice (some ⟨g0, 0, none⟩) N c0] wc fun e w' => e = .returned (.int .i64 C) ∧ Below w11.heap.size w11 w') := specAt_any l C HC9.out hlc4.out HRD.out.1 HRD.out.2 HB12.out N HN.out
        have HON : Hid (∀ wc, Below w11.heap.size w11 wc → Calls Try.prog 7 #[v10] wc fun e w' => e = .returned (.int .i64 ((C : Int) + 1)) ∧ Below w11.heap.size w11 w') := implMore_any l C HCM.out.1 (by have := HN.out; omega) HRD.out.2 a10 c10 w11 hrd10 hl10 v10 hv10
        have HNI : Hid (∀ wc a, Below w11.heap.size w11 wc → Calls Try.prog 7 #[.slice a 0 0] wc fun e w' => e = .returned (.int .i64 0) ∧ Below w11.heap.size w11 w') := fun wc a hb =>
          (implNoRooms_any [] a 0 wc (.inl rfl) (Nat.le_refl _) (by decide) (fun x hx => by simp at hx)).mono fun e w' h => ⟨h.1, hb.trans (h.2.mono hb.size)⟩
        clear hrw hrd10 HO11 HXS HO9 HB9 hv10 hl10 hm10 hi hzz0 hzz1 hzz2
        refine (HSQ.out w11 (Below.refl _ _)).mono ?_
        rintro e w12 ⟨rfl, hb12⟩
        have HB14 : Hid (Below w11.heap.size w11 w12) := hb12
        clear hb12
        go_wp2_with fail
        refine (HNI.out (w12.alloc (.cells #[] 31)) _ ?_).mono ?_
        · exact HB14.out.alloc HB14.out.size _
        rintro e w13 ⟨rfl, hb14⟩
        have HB15 : Hid (Below w11.heap.size w11 w13) := hb14
        clear hb14
        go_wp2_with fail
        refine (HON.out w13 HB15.out).mono ?_
        rintro e w14 ⟨rfl, hb15⟩
        have HB16 : Hid (Below w11.heap.size w11 w14) := hb15
        clear hb15
        go_wp2_with fail
        go_ret
        have hB : Below w1.heap.size w1 w14 := HB12.out.trans (HB16.out.mono HB12.out.size)
        exact ⟨rfl, HB1.out.trans (hB.mono HB1.out.size)⟩
end Go.Proofs.Ytnfncdoiabgdjaa.Nr
