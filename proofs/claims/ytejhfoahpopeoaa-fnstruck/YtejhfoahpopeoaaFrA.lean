/-
  The law of a new arena.
-/
import Derived.Test.YtejhfoahpopeoaaDaA
import Derived.Test.YtejhfoahpopeoaaUkA
import Derived.Test.YtejhfoahpopeoaaItD
import Derived.Deep.RegionLaw
import Derived.Deep.CutRange
namespace Go.Proofs.Ytejhfoahpopeoaa
open Go.RowKit
set_option linter.unusedVariables false

set_option maxHeartbeats 1000000 in
set_option maxRecDepth 100000 in
theorem drawNew_any (w : World) (ao : Option Addr) (len cap : Nat) (zs : List Int) (hr : IsRow w ao len cap zs) (hsm : len ≤ 1048576) :
    Calls Try.prog 17 #[.slice ao len cap] w fun e w' => ∃ x : Int, e = .returned (.int .i64 x) ∧ x ∈ [(4 : Int), 5, 40, 3, 4000, 4001, -1] ∧ Below w.heap.size w w' := by
  have HR : Hid (IsRow w ao len cap zs) := hr
  clear hr
  go_enter Try.func17, Try.ntmps17
  go_wp2_with fail
  refine (new_any _ ao len cap zs HR.out hsm).mono ?_
  rintro e w1 ⟨rfl, hc1, hb1, hz1⟩
  have HC1 : Hid (Cur w.heap.size ao len cap zs w1) := hc1
  have HB1 : Hid (Below w.heap.size w w1 ∧ w1.heap.size = w.heap.size + 1) := ⟨hb1, hz1⟩
  clear hc1 hb1 hz1
  go_wp2_with fail
  have hz := HB1.out.2
  have hbn := (Below.refl w1.heap.size w1).alloc (Nat.le_refl _) (.cells #[.int .i64 4, .int .i64 5, .int .i64 40, .int .i64 3, .int .i64 4000, .int .i64 4001, .int .i64 (-1)] 3)
  refine (int_any w.heap.size ao len cap zs _ (HC1.out.below hbn) w1.heap.size [4, 5, 40, 3, 4000, 4001, -1] (by omega) (by simp) (by simp) (news_ints w1 [4, 5, 40, 3, 4000, 4001, -1] _)).mono ?_
  rintro e w2 ⟨x, rfl, hx, hd⟩
  have HX : Hid (x ∈ [(4 : Int), 5, 40, 3, 4000, 4001, -1]) := hx
  have HB2 : Hid (Below w.heap.size w w2) := Turn.below (below_join HB1.out.1 hbn) (by rw [World.size_alloc]; omega) hd.2 (Nat.le_refl _)
  clear hx hd hbn hz
  go_wp2_with fail
  go_ret
  exact ⟨x, rfl, HX.out, HB2.out⟩

theorem fresh_bk (n : Nat) (h4 : 4 ≤ n) (hn : n ≤ 4000) : bk (freshF n) n 0 = [(0, n - 3, false)] := (fresh_seg n h4 hn).all

theorem run_fieldW (a : Option Addr) (n c : Nat) (w : World) : (Instr.field 26 (.agg #[.slice a n c]) 0).run Try.prog w = .ok (.slice a n c) w := by kernel_rfl
/-- What the law has in hand: the new arena in its box. -/
structure Fr (w1 wx : World) (B n : Nat) (ga : Option Addr) (F : Nat → Int) : Prop where
  below : Below w1.heap.size w1 wx
  box : wx.cell? ⟨B, 0, none⟩ = some (.slice ga n n)
  rd : Rd wx ga n F
theorem Fr.call {w1 wx wy : World} {B n : Nat} {ga : Option Addr} {F : Nat → Int} (s : Fr w1 wx B n ga F) (hb : Below wx.heap.size wx wy) : Fr w1 wy B n ga F :=
  ⟨below_join s.below hb, (hb.cell (p := ⟨B, 0, none⟩) (World.block_lt_of_cell? wx _ s.box)).trans s.box, s.rd.below hb⟩
theorem implBlocksF (ga : Option Addr) (N cap : Nat) (f : Nat → Int) (w : World) (L : Nat) (hL : (bls f N 0).length = L) (hr : Rd w ga N f) (hN : N ≤ 1048576) (hcap : N ≤ cap) :
    Calls Try.prog 20 #[.agg #[.slice ga N cap]] w fun e w' => ∃ sa sc, e = .returned (.slice sa L sc) ∧ Below w.heap.size w w' := by
  refine (implBlocks_any ga N cap f w hr hN hcap).mono ?_
  rintro e w' ⟨v, rfl, hpl, hb⟩
  obtain ⟨sa, sc, rfl, _, _, _, hrl⟩ := hpl.slice
  rw [hL]
  exact ⟨sa, sc, rfl, hb⟩
theorem implUsedF (ga : Option Addr) (N cap : Nat) (f : Nat → Int) (w : World) (L : Nat) (hL : (usd (bk f N 0)).length = L) (hr : Rd w ga N f) (hN : N ≤ 1048576) (hcap : N ≤ cap) :
    Calls Try.prog 13 #[.agg #[.slice ga N cap]] w fun e w' => ∃ sa sc, e = .returned (.slice sa L sc) ∧ Below w.heap.size w w' := by
  refine (implUsed_any ga N cap f w hr hN hcap).mono ?_
  rintro e w' ⟨v, rfl, hpl, hb⟩
  obtain ⟨sa, sc, rfl, _, _, _, hrl⟩ := hpl.slice
  rw [hL]
  exact ⟨sa, sc, rfl, hb⟩
theorem implAtF (ga : Option Addr) (N cap : Nat) (f : Nat → Int) (p n : Nat) (u : Bool) (hB : blkO f N p = some (n, u)) (w : World) (hr : Rd w ga N f) (hN : N ≤ 1048576) (hcap : N ≤ cap) :
    Calls Try.prog 14 #[.agg #[.slice ga N cap], .int .i64 p] w fun e w' => e = .returned (.tuple #[.int .i64 n, .bool u, .bool true]) ∧ Below w.heap.size w w' := by
  have := implAt_any ga N cap f p w hr hN hcap
  rw [hB] at this
  exact this
theorem implAuditF (ga : Option Addr) (N cap : Nat) (f : Nat → Int) (y : Int) (hy : aud f N 0 false = y) (w : World) (hr : Rd w ga N f) (hN : N ≤ 1048576) (hcap : N ≤ cap) :
    Calls Try.prog 11 #[.agg #[.slice ga N cap]] w fun e w' => e = .returned (.int .i64 y) ∧ Below w.heap.size w w' := by
  have := implAudit_any ga N cap f w hr hN hcap
  rw [hy] at this
  exact this
theorem implFreeF (ga : Option Addr) (N cap : Nat) (f : Nat → Int) (y : Nat) (hy : fsum (fk f N) = y) (w : World) (hr : Rd w ga N f) (hN : N ≤ 1048576) (hcap : N ≤ cap) :
    Calls Try.prog 21 #[.agg #[.slice ga N cap]] w fun e w' => e = .returned (.int .i64 (y : Nat)) ∧ Below w.heap.size w w' := by
  have := implFree_any ga N cap f w hr hN hcap
  rw [hy] at this
  exact this

set_option maxHeartbeats 8000000 in
set_option maxRecDepth 100000 in
theorem fresh_walk (w : World) (ao : Option Addr) (len cap : Nat) (zs : List Int) (hr : IsRow w ao len cap zs) (hlc : len ≤ cap) (hcm : cap ≤ maxLen) :
    Calls Try.prog 4 #[.slice ao len cap] w fun e w' => e = .returned (.bool true) ∧ Below w.heap.size w w' := by
  have HR : Hid (IsRow w ao len cap zs) := hr
  have HL : Hid (len ≤ maxLen) := Nat.le_trans hlc hcm
  clear hr
  by_cases hbig : 1048576 < len
  · go_enter Try.func4, Try.ntmps4
    go_wp2_with fail
    refine (big_any ao len cap HL.out _).mono ?_
    rintro e w1 ⟨rfl, rfl⟩
    go_wp2_with fail
    go_ret
    exact ⟨rfl, Below.refl _ _⟩
  · go_enter Try.func4, Try.ntmps4
    go_wp2_with fail
    refine (big_any ao len cap HL.out _).mono ?_
    rintro e w1 ⟨rfl, rfl⟩
    go_wp2_with fail
    refine (drawNew_any _ ao len cap zs HR.out (by omega)).mono ?_
    rintro e w2 ⟨x, rfl, hx, hb2⟩
    have HB2 : Hid (Below w1.heap.size w1 w2) := hb2
    clear hb2 HR HL hlc hcm hbig hx
    go_wp2_with fail
    by_cases h : 4 ≤ x ∧ x ≤ 4000
    · obtain ⟨n, rfl⟩ : ∃ n : Nat, x = n := ⟨x.toNat, by omega⟩
      have h4 : 4 ≤ n := by omega
      have hn : n ≤ 4000 := by omega
      clear h
      refine (implNew_any n h4 hn _).mono ?_
      rintro e w3 ⟨g, rfl, hg, hb3, hi3⟩
      have hgl := hi3.lt (by omega)
      have hbn := (Below.refl w3.heap.size w3).alloc (Nat.le_refl _) (.cells #[.slice (some ⟨g, 0, none⟩) n n] 26)
      have HF4 : Hid (Fr w1 (w3.alloc (.cells #[.slice (some ⟨g, 0, none⟩) n n] 26)) w3.heap.size n (some ⟨g, 0, none⟩) (freshF n)) :=
        ⟨below_join (below_join HB2.out hb3) hbn, World.cell?_alloc_new w3 _ _ 0, hi3.rd.below hbn⟩
      have b4 := HF4.out.box
      have HK1 : Hid (blkO (freshF n) n 0 = some (n - 3, false)) := blkO_some (fresh_seg n h4 hn).2.1
      have HK2 : Hid ((bls (freshF n) n 0).length = 1) := by show _ = _; rw [bls_is, fresh_bk n h4 hn]; rfl
      have HK3 : Hid ((usd (bk (freshF n) n 0)).length = 0) := by show _ = _; rw [fresh_bk n h4 hn]; rfl
      have HK4 : Hid (fsum (fk (freshF n) n) = n - 3) := by show _ = _; unfold fk; rw [fresh_bk n h4 hn]; simp [fsum, isFree]
      have HK5 : Hid (aud (freshF n) n 0 false = -1) := fresh_whole n h4 hn
      have hnb : n ≤ 1048576 := by omega
      have HNL : Hid (n ≤ n) := Nat.le_refl n
      clear hg hb3 hi3 hgl hbn
      go_wp2_with fail
      generalize (w3.alloc (.cells #[.slice (some ⟨g, 0, none⟩) n n] 26)) = w4 at HF4 b4 ⊢
      generalize w3.heap.size = B at HF4 b4 ⊢
      go_cut [21] from 14 to 20 (fun v wx => v = .bool false ∧ Fr w1 wx B n (some ⟨g, 0, none⟩) (freshF n))
      case first =>
        have K4 : Hid (∀ w5, Below w4.drew.heap.size w4.drew w5 → Fr w1 w5 B n (some ⟨g, 0, none⟩) (freshF n)) := fun w5 h => HF4.out.call (below_undrew h)
        have hfl := run_fieldW
        go_region_law (go_simp; go_wp2_with (first
          | (go_at_call 19; refine (specNew_any n h4 hn w4.drew).mono ?_; rintro e w5 ⟨g5, rfl, hg5, hb5, hi5⟩; have HF5 : Hid (Fr w1 w5 B n (some ⟨g, 0, none⟩) (freshF n)) := K4.out w5 hb5; have b5 := HF5.out.box; clear hg5 hb5 hi5)))
        all_goals
          go_wp2_with fail
          try go_simp
          go_meet
          case rel => exact ⟨by simp, HF5.out⟩
      case rest =>
        obtain ⟨rfl, hf⟩ := hcut
        have HFc : Hid (Fr w1 wc B n (some ⟨g, 0, none⟩) (freshF n)) := hf
        have bc := hf.box
        clear hf HF4 b4
        have V1 : (n : Int) - 3 = ((n - 3 : Nat) : Int) := by omega
        have V2 : IntKind.i64.wrap ((n : Int) - 3) = ((n - 3 : Nat) : Int) := by rw [IntKind.wrap_i64]; omega
        have V3 : ((n : Int) == 0) = false := by simp; omega
        go_wp2_with (first
          | (go_at_call 14; refine (implAtF (some ⟨g, 0, none⟩) n n (freshF n) 0 (n - 3) false HK1.out wc HFc.out.rd hnb HNL.out).mono ?_; rintro e w5 ⟨rfl, hb5⟩; have HF5 : Hid (Fr w1 w5 B n (some ⟨g, 0, none⟩) (freshF n)) := HFc.out.call hb5; have b5 := HF5.out.box; clear hb5)
          | (go_at_call 21; refine (implFreeF (some ⟨g, 0, none⟩) n n (freshF n) (n - 3) HK4.out w5 HF5.out.rd hnb HNL.out).mono ?_; rintro e w6 ⟨rfl, hb6⟩; have HF6 : Hid (Fr w1 w6 B n (some ⟨g, 0, none⟩) (freshF n)) := HF5.out.call hb6; have b6 := HF6.out.box; clear hb6)
          | (go_at_call 20; refine (implBlocksF (some ⟨g, 0, none⟩) n n (freshF n) w6 1 HK2.out HF6.out.rd hnb HNL.out).mono ?_; rintro e w7 ⟨sa, sc, rfl, hb7⟩; have HF7 : Hid (Fr w1 w7 B n (some ⟨g, 0, none⟩) (freshF n)) := HF6.out.call hb7; have b7 := HF7.out.box; clear hb7)
          | (go_at_call 13; refine (implUsedF (some ⟨g, 0, none⟩) n n (freshF n) w7 0 HK3.out HF7.out.rd hnb HNL.out).mono ?_; rintro e w8 ⟨ua, uc, rfl, hb8⟩; have HF8 : Hid (Fr w1 w8 B n (some ⟨g, 0, none⟩) (freshF n)) := HF7.out.call hb8; have b8 := HF8.out.box; clear hb8)
          | (go_at_call 11; refine (implAuditF (some ⟨g, 0, none⟩) n n (freshF n) (-1) HK5.out w8 HF8.out.rd hnb HNL.out).mono ?_; rintro e w9 ⟨rfl, hb9⟩; have HF9 : Hid (Fr w1 w9 B n (some ⟨g, 0, none⟩) (freshF n)) := HF8.out.call hb9; clear hb9))
        go_ret
        exact ⟨rfl, HF9.out.below⟩
    · refine (implNew_none x h _).mono ?_
      rintro e w3 ⟨rfl, hb3⟩
      have hbn := (Below.refl w3.heap.size w3).alloc (Nat.le_refl _) (.cells #[.slice none 0 0] 26)
      have HF4 : Hid (Fr w1 (w3.alloc (.cells #[.slice none 0 0] 26)) w3.heap.size 0 none (fun _ => 0)) :=
        ⟨below_join (below_join HB2.out hb3) hbn, World.cell?_alloc_new w3 _ _ 0, Rd.nil _ _ _⟩
      have b4 := HF4.out.box
      have HK2 : Hid ((bls (fun _ => 0) 0 0).length = 0) := by show _ = _; rw [bls_nil (blkO_end (by omega))]; rfl
      have HK5 : Hid (aud (fun _ => 0) 0 0 false = -1) := aud_end (by omega)
      have h0b : (0 : Nat) ≤ 1048576 := by omega
      have HNL : Hid ((0 : Nat) ≤ 0) := Nat.le_refl 0
      clear hb3 hbn
      go_wp2_with fail
      generalize (w3.alloc (.cells #[.slice none 0 0] 26)) = w4 at HF4 b4 ⊢
      generalize w3.heap.size = B at HF4 b4 ⊢
      go_cut [21] from 14 to 20 (fun v wx => v = .bool false ∧ Fr w1 wx B 0 none (fun _ => 0))
      case first =>
        have K4 : Hid (∀ w5, Below w4.drew.heap.size w4.drew w5 → Fr w1 w5 B 0 none (fun _ => 0)) := fun w5 h => HF4.out.call (below_undrew h)
        have HX : Hid (¬ (4 ≤ x ∧ x ≤ 4000)) := h
        clear h
        have hfl := run_fieldW
        go_region_law (go_simp; go_wp2_with (first
          | (go_at_call 19; refine (specNew_none x HX.out w4.drew).mono ?_; rintro e w5 ⟨rfl, hb5⟩; have HF5 : Hid (Fr w1 w5 B 0 none (fun _ => 0)) := K4.out w5 hb5; have b5 := HF5.out.box; clear hb5)))
        all_goals
          go_wp2_with fail
          try go_simp
          go_meet
          case rel => exact ⟨by simp, HF5.out⟩
      case rest =>
        obtain ⟨rfl, hf⟩ := hcut
        have HFc : Hid (Fr w1 wc B 0 none (fun _ => 0)) := hf
        have bc := hf.box
        clear hf HF4 b4 h
        go_wp2_with (first
          | (go_at_call 11; refine (implAuditF none 0 0 (fun _ => 0) (-1) HK5.out wc HFc.out.rd h0b HNL.out).mono ?_; rintro e w5 ⟨rfl, hb5⟩; have HF5 : Hid (Fr w1 w5 B 0 none (fun _ => 0)) := HFc.out.call hb5; have b5 := HF5.out.box; clear hb5)
          | (go_at_call 20; refine (implBlocksF none 0 0 (fun _ => 0) w5 0 HK2.out HF5.out.rd h0b HNL.out).mono ?_; rintro e w7 ⟨sa, sc, rfl, hb7⟩; have HF7 : Hid (Fr w1 w7 B 0 none (fun _ => 0)) := HF5.out.call hb7; clear hb7))
        go_ret
        exact ⟨rfl, HF7.out.below⟩
end Go.Proofs.Ytejhfoahpopeoaa
