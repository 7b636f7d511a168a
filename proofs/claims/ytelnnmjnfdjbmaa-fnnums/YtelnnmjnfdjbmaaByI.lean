/-
  What is drawn for the law FnNums: bytes and a number; bytes and a place.
-/
import Derived.Test.YtelnnmjnfdjbmaaByD
import Derived.Test.YtelnnmjnfdjbmaaByG
namespace Go.Proofs.Ytelnnmjnfdjbmaa.By
open Go.RowKit
set_option linter.unusedVariables false

theorem bigB_any (ao : Option Addr) (len cap : Nat) (w : World) (hm : len ≤ maxLen) :
    Calls Try.prog 6 #[.slice ao len cap] w fun e w' => e = .returned (.bool (decide (1048576 < len))) ∧ w' = w := by
  unfold maxLen at hm
  by_cases h : 1048576 < len
  · go_enter Try.func6, Try.ntmps6
    go_wp2_with fail
    go_ret
    exact ⟨by simp [h]; omega, rfl⟩
  · go_enter Try.func6, Try.ntmps6
    go_wp2_with fail
    go_ret
    exact ⟨by simp [h]; omega, rfl⟩

set_option maxHeartbeats 1000000 in
theorem belowBig_any (cb : Nat) (ao : Option Addr) (len cap : Nat) (zs : List Int) (w : World) (hc : Cur cb ao len cap zs w) :
    Calls Try.prog 20 #[.pointer (some ⟨cb, 0, none⟩), .int .i64 10000] w fun e w' => ∃ x : Int, e = .returned (.int .i64 x) ∧ Drawn cb ao len cap zs w w' := by
  have HC : Hid (Cur cb ao len cap zs w) := hc
  clear hc
  go_enter Try.func20, Try.ntmps20
  go_wp2_with fail
  refine (byte_any cb ao len cap zs _ HC.out).mono ?_
  rintro e w1 ⟨x, rfl, hx0, hx1, hc1, ht1⟩
  have HD1 : Hid (Drawn cb ao len cap zs w w1) := ⟨hc1, ht1⟩
  clear hc1 ht1
  go_wp2_with fail
  refine (byte_any cb ao len cap zs _ HD1.out.1).mono ?_
  rintro e w2 ⟨y, rfl, hy0, hy1, hc1, ht1⟩
  have HD2 : Hid (Drawn cb ao len cap zs w w2) := ⟨hc1, HD1.out.2.trans ht1⟩
  clear hc1 ht1
  go_wp2_with fail
  refine (byte_any cb ao len cap zs _ HD2.out.1).mono ?_
  rintro e w3 ⟨z, rfl, hz0, hz1, hc1, ht1⟩
  have HD3 : Hid (Drawn cb ao len cap zs w w3) := ⟨hc1, HD2.out.2.trans ht1⟩
  clear hc1 ht1
  go_wp2_with fail
  go_ret
  exact ⟨_, rfl, HD3.out⟩

/-- A row of bytes drawn: it lies behind the cursor. -/
structure DrB (cb : Nat) (ao : Option Addr) (len cap : Nat) (zs : List Int) (w wr : World) (v : Value) (B : List UInt8) : Prop where
  own : OwB wr w.heap.size v B
  cur : Cur cb ao len cap zs wr
  turn : Turn cb w wr
theorem turn_grownR {cb : Nat} {a w w' : World} {row : Option Nat} (h : Turn cb a w) (hg : w.grownBy w' row) (hr : ∀ k, row = some k → a.heap.size ≤ k) : Turn cb a w' :=
  ⟨hg.os.trans h.os, hg.tape.trans h.tape, hg.output.trans h.output, Nat.le_trans h.size hg.size, fun k hk hn => (hg.block k (Nat.lt_of_lt_of_le hk h.size) (fun e => by have := hr k e.symm; omega)).trans (h.block k hk hn)⟩
theorem cur_kept {cb : Nat} {ao : Option Addr} {len cap : Nat} {zs : List Int} {w w' : World} (h : Cur cb ao len cap zs w) (hs : ∀ b, b ≤ cb → w'.heap[b]? = w.heap[b]?) : Cur cb ao len cap zs w' := by
  have e : ∀ b o v, b ≤ cb → w.cell? ⟨b, o, none⟩ = some v → w'.cell? ⟨b, o, none⟩ = some v := fun b o v hb hc => by
    rw [World.cell?_of_block (w := w) (hs b hb)]; exact hc
  obtain ⟨i, hi, h1⟩ := h.c1
  obtain ⟨x, h2⟩ := h.c2
  refine ⟨e _ _ _ (Nat.le_refl _) h.c0, ⟨i, hi, e _ _ _ (Nat.le_refl _) h1⟩, ⟨x, e _ _ _ (Nat.le_refl _) h2⟩, fun o => by rw [World.frozen?_of_block (w := w) (hs cb (Nat.le_refl _))]; exact h.free o, fun hn => ?_, h.rng, h.small⟩
  obtain ⟨b, off, e1, e2, e3⟩ := h.code hn
  exact ⟨b, off, e1, e2, fun j hj => e _ _ _ (Nat.le_of_lt e2) (e3 j hj)⟩
theorem DrB.more {cb : Nat} {ao : Option Addr} {len cap : Nat} {zs : List Int} {w wr w3 : World} {v v3 : Value} {B : List UInt8} {x : Int} {c : UInt8} (h : DrB cb ao len cap zs w wr v B) (hcb : cb < w.heap.size) (hx : x = ((c.toNat : Nat) : Int))
    (hown : w3.ownsRow w.heap.size 5 1 v3 (B.length + 1) (bcs B ++ [.int .u8 x])) (hgr : (wr.alloc (.cells #[.int .u8 x] 5)).grownBy w3 v.ownBlock) : DrB cb ao len cap zs w w3 v3 (B ++ [c]) := by
  have hs := h.turn.size
  refine ⟨owB_byte hown hx, ?_, turn_grownR (h.turn.alloc _) hgr (fun k hk => (World.ownsRow.lt h.own k hk).1)⟩
  refine cur_kept h.cur fun b hb => ?_
  rw [hgr.block b (by rw [World.size_alloc]; omega) (fun e => by have := (World.ownsRow.lt h.own b e.symm).1; omega)]
  show (wr.heap.push _)[b]? = _
  rw [Array.getElem?_push, if_neg (by omega)]
theorem DrB.drawn {cb : Nat} {ao : Option Addr} {len cap : Nat} {zs : List Int} {w wr w2 : World} {v : Value} {B : List UInt8} (h : DrB cb ao len cap zs w wr v B) (hcb : cb < w.heap.size) (hd : Drawn cb ao len cap zs wr w2) : DrB cb ao len cap zs w w2 v B := by
  refine ⟨?_, hd.1, h.turn.trans hd.2⟩
  refine World.ownsRow.kept (row := some cb) h.own ⟨hd.2.os, hd.2.tape, hd.2.output, hd.2.size, fun k hk hn => hd.2.block k hk (fun e => hn (by rw [e]))⟩ ?_
  cases hv : v.ownBlock with
  | none => exact .inl rfl
  | some k => exact .inr (fun e => by injection e with e; have := (World.ownsRow.lt h.own k hv).1; omega)
theorem byte_of {x : Int} (h0 : 0 ≤ x) (h1 : x ≤ 255) : x = (((UInt8.ofNat x.toNat).toNat : Nat) : Int) := by rw [toNat_of (by omega)]; omega

set_option maxHeartbeats 1000000 in
theorem l1Bytes_any (cb : Nat) (ao : Option Addr) (len cap : Nat) (zs : List Int) (w : World) (hc : Cur cb ao len cap zs w) (n : Nat) (hn : n ≤ 100) :
    Calls Try.prog 19 #[.pointer (some ⟨cb, 0, none⟩), .int .i64 n] w fun e w' => ∃ g c B, e = .returned (.slice (some ⟨g, 0, none⟩) B.length c) ∧ B.length = n ∧ DrB cb ao len cap zs w w' (.slice (some ⟨g, 0, none⟩) B.length c) B := by
  obtain ⟨i0, hi, hz0, hz1, hz2⟩ := parts8 infoU8
  have HI : Hid (Try.prog.info? 5 = some i0 ∧ i0.zero = some (.int .u8 0) ∧ i0.size = 1 ∧ i0.bytes = 1) := ⟨hi, hz0, hz1, hz2⟩
  clear hi hz0 hz1 hz2
  have hcb : cb < w.heap.size := World.block_lt_of_cell? w _ hc.c0
  have HD0 : Hid (DrB cb ao len cap zs w (w.alloc (.cells #[] 5)) (.slice (some ⟨w.heap.size, 0, none⟩) ([] : List UInt8).length 0) []) := ⟨World.ownsRow_made (base := w.heap.size) (e := 5) (size := 1) w #[] 0 (Nat.le_refl _) (Nat.zero_le _) rfl, hc.alloc _, (Turn.refl _ _).alloc _⟩
  have HCB : Hid (cb < w.heap.size) := hcb
  clear hc hcb
  go_enter Try.func19, Try.ntmps19
  go_wp2_with fail
  go_loopw [5, 6] (fun v iv wr => ∃ (i : Nat) (B : List UInt8) (g c : Nat), i ≤ n ∧ iv = .int .i64 i ∧ B.length = i ∧ v = .slice (some ⟨g, 0, none⟩) B.length c ∧ DrB cb ao len cap zs w wr (.slice (some ⟨g, 0, none⟩) B.length c) B) (fun _ iv _ => n - (intOf iv).toNat)
  case atStart => exact ⟨0, [], w.heap.size, 0, Nat.zero_le _, rfl, rfl, rfl, HD0.out⟩
  case round =>
    obtain ⟨i, B, g, c, hi, rfl, hB, rfl, hd⟩ := hrel
    have HD : Hid (DrB cb ao len cap zs w wr (.slice (some ⟨g, 0, none⟩) B.length c) B) := hd
    have HBL : Hid (B.length = i) := hB
    clear hd hB
    by_cases hlt : i < n
    · go_wp2_with fail
      refine (byte_any cb ao len cap zs wr HD.out.cur).mono ?_
      rintro e w2 ⟨x, rfl, hx0, hx1, hc1, ht1⟩
      have HD2 : Hid (DrB cb ao len cap zs w w2 (.slice (some ⟨g, 0, none⟩) B.length c) B) := HD.out.drawn HCB.out ⟨hc1, ht1⟩
      have D3 : Hid (B.length + 1 ≤ maxLen) := by have := HBL.out; show _ ≤ _; unfold maxLen; omega
      have D4 : Hid ((B.length + 1) * 1 ≤ 140737488355328) := by have := HBL.out; show _ ≤ _; omega
      have D5 : Hid (∀ x, w.heap.size ≤ (w2.alloc (.cells #[x] 5)).heap.size) := fun x => by rw [World.size_alloc]; have := HD2.out.turn.size; omega
      clear hc1 ht1
      go_wp2_with (at_builtin; refine wpList_append_own_at _ rfl _ _ 22 rfl w.heap.size 5 i0 (.int .u8 0) 1 1 undU8 HI.out.1 HI.out.2.1 HI.out.2.2.1 HI.out.2.2.2 rfl Nat.zero_lt_one _ B.length _ rfl (World.ownsRow.alloc HD2.out.own _) ⟨_, 0, none⟩ 1 1 [.int .u8 x] rfl rfl (cell_one_new _ _ _) (oneB _ _) D3.out D4.out (D5.out _) ?_; intro v3 w3 hown3 hgr3 hnn3 hat3)
      have hd3 : DrB cb ao len cap zs w w3 v3 (B ++ [UInt8.ofNat x.toNat]) := HD2.out.more HCB.out (byte_of hx0 hx1) hown3 hgr3
      obtain ⟨g3, c3, rfl⟩ := hd3.own.some (fun e => by have := (hnn3.1 e).1; cases this)
      have HD3 : Hid (DrB cb ao len cap zs w w3 (.slice (some ⟨g3, 0, none⟩) (B ++ [UInt8.ofNat x.toNat]).length c3) (B ++ [UInt8.ofNat x.toNat])) := hd3
      have HL3 : Hid ((B ++ [UInt8.ofNat x.toNat]).length = i + 1) := by have := HBL.out; show _ = _; rw [List.length_append]; simp; omega
      clear hd3 hown3 hgr3 hnn3 hat3
      go_roundw
      case rel => exact ⟨i + 1, _, g3, c3, by omega, by go_num, HL3.out, rfl, HD3.out⟩
      case measure => simp [intOf]; omega
    · have hin : i = n := by omega
      subst hin
      go_wp2_with fail
      go_ret
      exact ⟨g, c, B, rfl, HBL.out, HD.out⟩
end Go.Proofs.Ytelnnmjnfdjbmaa.By
