/-
  What DrawPutNum and DrawGetNum draw.
-/
import Derived.Test.YtelnnmjnfdjbmaaByI
namespace Go.Proofs.Ytelnnmjnfdjbmaa.By
open Go.RowKit
set_option linter.unusedVariables false

set_option maxHeartbeats 2000000 in
set_option maxRecDepth 100000 in
theorem drawPut_any (ao : Option Addr) (len cap : Nat) (zs : List Int) (w : World) (hr : IsRow w ao len cap zs) (hsm : len ≤ 1048576) :
    Calls Try.prog 7 #[.slice ao len cap] w fun e w' => ∃ (g c : Nat) (B : List UInt8) (n : Int), e = .returned (.tuple #[.slice (some ⟨g, 0, none⟩) B.length c, .int .i64 n]) ∧ B.length ≤ 2 ∧ OwB w' w.heap.size (.slice (some ⟨g, 0, none⟩) B.length c) B ∧ Below w.heap.size w w' := by
  have HR : Hid (IsRow w ao len cap zs) := hr
  clear hr
  go_enter Try.func7, Try.ntmps7
  go_wp2_with fail
  refine (new_any w ao len cap zs HR.out hsm).mono ?_
  rintro e w1 ⟨rfl, hc1, hb1, hs1⟩
  have HC1 : Hid (Cur w.heap.size ao len cap zs w1) := hc1
  have HB1 : Hid (Below w.heap.size w w1 ∧ w1.heap.size = w.heap.size + 1) := ⟨hb1, hs1⟩
  clear hc1 hb1 hs1
  go_wp2_with fail
  refine (below_any w.heap.size ao len cap zs w1 HC1.out 3 (by decide) (by decide)).mono ?_
  rintro e w2 ⟨x, rfl, hx0, hx1, hd2⟩
  have HD2 : Hid (Drawn w.heap.size ao len cap zs w1 w2) := hd2
  clear hd2
  obtain ⟨m, rfl⟩ : ∃ m : Nat, x = m := ⟨x.toNat, by omega⟩
  go_wp2_with fail
  refine (l1Bytes_any w.heap.size ao len cap zs w2 HD2.out.1 m (by omega)).mono ?_
  rintro e w3 ⟨g, c, B, rfl, hB, hd3⟩
  have HD3 : Hid (DrB w.heap.size ao len cap zs w2 w3 (.slice (some ⟨g, 0, none⟩) B.length c) B ∧ B.length = m) := ⟨hd3, hB⟩
  have HCB : Hid (w.heap.size < w2.heap.size) := by have := HD2.out.2.size; have := HB1.out.2; show _ < _; omega
  clear hd3 hB
  go_wp2_with fail
  refine (belowBig_any w.heap.size ao len cap zs w3 HD3.out.1.cur).mono ?_
  rintro e w4 ⟨y, rfl, hd4⟩
  have hd5 := HD3.out.1.drawn HCB.out hd4
  have HD4 : Hid (DrB w.heap.size ao len cap zs w2 w4 (.slice (some ⟨g, 0, none⟩) B.length c) B) := hd5
  obtain ⟨l, hl⟩ : ∃ l : List Int, l = [0, 1, -1, 63, 64, -65, 1000000, -1000000, 1000001, -9223372036854775808, 9223372036854775807, y] := ⟨_, rfl⟩
  have hnew := news_ints w4 l 3
  have hcur := hd5.cur.alloc (.cells (l.map (Value.int .i64)).toArray 3)
  have hll : l.length = 12 := by rw [hl]; rfl
  have hcbl : w.heap.size < w4.heap.size := Nat.lt_of_lt_of_le HCB.out hd5.turn.size
  have HIC : Hid (Calls Try.prog 21 #[.pointer (some ⟨w.heap.size, 0, none⟩), .slice (some ⟨w4.heap.size, 0, none⟩) l.length l.length] (w4.alloc (.cells (l.map (Value.int .i64)).toArray 3)) _) := int_any w.heap.size ao len cap zs _ hcur w4.heap.size l (by omega) (by omega) (by omega) hnew
  clear hd4 hd5 hnew hcur hcbl hll
  subst hl
  go_wp2_with fail
  refine HIC.out.mono ?_
  rintro e w6 ⟨z, rfl, _, hd6⟩
  have hda : DrB w.heap.size ao len cap zs w2 (w4.alloc (.cells ([0, 1, -1, 63, 64, -65, 1000000, -1000000, 1000001, -9223372036854775808, 9223372036854775807, y].map (Value.int .i64)).toArray 3)) (.slice (some ⟨g, 0, none⟩) B.length c) B := ⟨HD4.out.own.below ((Below.refl _ _).alloc (Nat.le_refl _) _), HD4.out.cur.alloc _, HD4.out.turn.alloc _⟩
  have hd7 := hda.drawn HCB.out hd6
  have HF : Hid (OwB w6 w.heap.size (.slice (some ⟨g, 0, none⟩) B.length c) B ∧ Below w.heap.size w w6 ∧ B.length ≤ 2) := by
    refine ⟨?_, ?_, by have := HD3.out.2; omega⟩
    · refine ⟨hd7.own.1, ?_⟩
      rcases hd7.own.2 with h | ⟨g2, cc, cur, e, hb, rest⟩
      · exact .inl h
      · exact .inr ⟨g2, cc, cur, e, Nat.le_trans (Nat.le_of_lt HCB.out) hb, rest⟩
    · exact Turn.below (HB1.out.1) HB1.out.1.size (HD2.out.2.trans hd7.turn) (Nat.le_refl _)
  clear hd6 hda hd7 HIC HD4
  go_wp2_with fail
  refine bodyPost_ret (v := .tuple #[.slice (some ⟨g, 0, none⟩) B.length c, .int .i64 z]) (by simp [results, Try.results7, go_sem]) rfl ⟨g, c, B, z, rfl, HF.out.2.2, HF.out.1, HF.out.2.1⟩
end Go.Proofs.Ytelnnmjnfdjbmaa.By
