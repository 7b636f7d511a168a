/-
  What DrawGetNum draws: some bytes and some place.
-/
import Derived.Test.YtelnnmjnfdjbmaaByJ
namespace Go.Proofs.Ytelnnmjnfdjbmaa.By
open Go.RowKit
set_option linter.unusedVariables false

/-- Bytes behind the cursor, read. -/
structure DrR (cb : Nat) (ao : Option Addr) (len cap : Nat) (zs : List Int) (w wr : World) (g c : Nat) (B : List UInt8) : Prop where
  rd : BAt wr g 0 B
  free : ∀ x, wr.frozen? ⟨g, x, none⟩ = false
  fit : B.length ≤ c
  ge : w.heap.size ≤ g
  lt : g < wr.heap.size
  cur : Cur cb ao len cap zs wr
  turn : Turn cb w wr
theorem DrB.read {cb : Nat} {ao : Option Addr} {len cap : Nat} {zs : List Int} {w wr : World} {g c : Nat} {B : List UInt8} (h : DrB cb ao len cap zs w wr (.slice (some ⟨g, 0, none⟩) B.length c) B) : DrR cb ao len cap zs w wr g c B := by
  obtain ⟨h1, h2, h3, h4⟩ := h.own.at
  refine ⟨h1, h4, ?_, h2, h3, h.cur, h.turn⟩
  rcases h.own.2 with ⟨e, _⟩ | ⟨g2, cc, cur, e, _, _, hl, _⟩
  · cases e
  · injection e with _ _ e; omega
theorem DrR.drawn {cb : Nat} {ao : Option Addr} {len cap : Nat} {zs : List Int} {w wr w2 : World} {g c : Nat} {B : List UInt8} (h : DrR cb ao len cap zs w wr g c B) (hcb : cb < w.heap.size) (hd : Drawn cb ao len cap zs wr w2) : DrR cb ao len cap zs w w2 g c B := by
  have := h.ge
  exact ⟨h.rd.turn hd.2 (by omega), fun x => by rw [hd.2.frozen (by omega) h.lt]; exact h.free x, h.fit, h.ge, Nat.lt_of_lt_of_le h.lt hd.2.size, hd.1, h.turn.trans hd.2⟩
theorem DrR.alloc {cb : Nat} {ao : Option Addr} {len cap : Nat} {zs : List Int} {w wr : World} {g c : Nat} {B : List UInt8} (h : DrR cb ao len cap zs w wr g c B) (o : Obj) : DrR cb ao len cap zs w (wr.alloc o) g c B := by
  have hb : Below wr.heap.size wr (wr.alloc o) := (Below.refl _ _).alloc (Nat.le_refl _) o
  exact ⟨h.rd.below hb, fun x => by rw [hb.frozen (p := ⟨g, x, none⟩) h.lt]; exact h.free x, h.fit, h.ge, Nat.lt_of_lt_of_le h.lt hb.size, h.cur.alloc o, h.turn.alloc o⟩
theorem DrR.set {cb : Nat} {ao : Option Addr} {len cap : Nat} {zs : List Int} {w wr : World} {g c : Nat} {B : List UInt8} (h : DrR cb ao len cap zs w wr g c B) (hcb : cb < w.heap.size) (j : Nat) (hj : j < B.length) (b : UInt8) (x : Int) (hx : x = ((b.toNat : Nat) : Int)) : DrR cb ao len cap zs w (wr.setCell ⟨g, j, none⟩ (.int .u8 x)) g c (B.set j b) := by
  subst hx
  have hge := h.ge
  have hbl : ∀ k, k ≠ g → (wr.setCell ⟨g, j, none⟩ (.int .u8 ((b.toNat : Nat) : Int))).heap[k]? = wr.heap[k]? := fun k hk => Below.heap_setCell wr ⟨g, j, none⟩ _ k hk
  refine ⟨fun k hk => ?_, fun y => by rw [World.frozen?_setCell]; exact h.free y, by rw [List.length_set]; exact h.fit, hge, by rw [World.size_setCell]; exact h.lt, cur_kept h.cur fun k hk => hbl k (by omega), ?_⟩
  · rw [List.length_set] at hk
    rw [Nat.zero_add]
    have h0 := h.rd k hk
    rw [Nat.zero_add] at h0
    by_cases e : k = j
    · subst e
      rw [World.cell?_setCell_same wr _ _ h0, List.getElem_set_self]
    · rw [World.cell?_setCell_other (h := fun q => by simp at q; try omega), h0, List.getElem_set_ne (by omega)]
  · have t := h.turn
    exact ⟨t.os, t.tape, t.output, by rw [World.size_setCell]; exact t.size, fun k hk hn => (hbl k (by omega)).trans (t.block k hk hn)⟩

theorem nn_of {v5 v : Value} {m n c : Nat} {a : Addr} (h : v5 = .slice none 0 0 ↔ v = .slice none 0 0 ∧ m = 0) (hv : v = .slice (some a) n c) : v5 ≠ .slice none 0 0 := fun e => by
  have := (h.1 e).1
  rw [hv] at this
  cases this
theorem tail_any (cb : Nat) (ao : Option Addr) (len cap : Nat) (zs : List Int) (w wr : World) (g c : Nat) (B : List UInt8) (h : DrR cb ao len cap zs w wr g c B) (hcb : cb < w.heap.size) (l : List Int) (h0 : 1 ≤ l.length) (h1 : l.length ≤ 256) (gb : Nat) (hgb : gb = wr.heap.size) :
    Calls Try.prog 21 #[.pointer (some ⟨cb, 0, none⟩), .slice (some ⟨gb, 0, none⟩) l.length l.length] (wr.alloc (.cells (l.map (Value.int .i64)).toArray 3)) fun e w' => ∃ z, e = .returned (.int .i64 z) ∧ z ∈ l ∧ DrR cb ao len cap zs w w' g c B := by
  have hcb2 : cb < wr.heap.size := Nat.lt_of_lt_of_le hcb h.turn.size
  subst hgb
  refine (int_any cb ao len cap zs _ (h.cur.alloc _) wr.heap.size l (by omega) h0 h1 (news_ints wr l 3)).mono ?_
  rintro e w' ⟨z, rfl, hz, hd⟩
  exact ⟨z, rfl, hz, (h.alloc _).drawn hcb hd⟩

set_option maxHeartbeats 2000000 in
set_option maxRecDepth 100000 in
theorem drawGet_any (ao : Option Addr) (len cap : Nat) (zs : List Int) (w : World) (hr : IsRow w ao len cap zs) (hsm : len ≤ 1048576) :
    Calls Try.prog 10 #[.slice ao len cap] w fun e w' => ∃ (g c : Nat) (B : List UInt8) (n : Int), e = .returned (.tuple #[.slice (some ⟨g, 0, none⟩) B.length c, .int .i64 n]) ∧ B.length ≤ 8 ∧ B.length ≤ c ∧ BAt w' g 0 B ∧ Below w.heap.size w w' := by
  have HR : Hid (IsRow w ao len cap zs) := hr
  clear hr
  obtain ⟨i0, hi, hz0, hz1, hz2⟩ := parts8 infoU8
  have HI : Hid (Try.prog.info? 5 = some i0 ∧ i0.zero = some (.int .u8 0) ∧ i0.size = 1 ∧ i0.bytes = 1) := ⟨hi, hz0, hz1, hz2⟩
  clear hi hz0 hz1 hz2
  go_enter Try.func10, Try.ntmps10
  go_wp2_with fail
  refine (drawPut_any ao len cap zs w HR.out hsm).mono ?_
  rintro e w1 ⟨g1, c1, B1, n, rfl, _, _, hb1⟩
  have HB1 : Hid (Below w.heap.size w w1) := hb1
  clear hb1
  go_wp2_with fail
  refine (new_any w1 ao len cap zs (HR.out.below HB1.out) hsm).mono ?_
  rintro e w2 ⟨rfl, hc2, hb2, hs2⟩
  have HC2 : Hid (Cur w1.heap.size ao len cap zs w2) := hc2
  have HCB : Hid (w1.heap.size < w2.heap.size) := by show _ < _; omega
  have HB2 : Hid (Below w.heap.size w w2) := join8 HB1.out hb2
  have HG1 : Hid (w.heap.size ≤ w1.heap.size) := HB1.out.size
  clear hc2 hb2 hs2 HB1
  generalize w1.heap.size = cb at *
  go_wp2_with fail
  refine (specPut_any w2.heap.size 0 0 [] n (w2.alloc (.cells #[] 5)) (fun j hj => by simp at hj) (by simp)).mono ?_
  rintro e w3 ⟨g, c, rfl, ho3, hb3⟩
  obtain ⟨B, hBB⟩ : ∃ B, [] ++ numB n = B := ⟨_, rfl⟩
  have hBl : 1 ≤ B.length ∧ B.length ≤ 4 := by rw [← hBB, List.nil_append]; exact num_len n
  rw [hBB] at ho3 ⊢
  clear hBB
  have HD3 : Hid (DrB cb ao len cap zs w2 w3 (.slice (some ⟨g, 0, none⟩) B.length c) B) := by
    refine ⟨?_, (HC2.out.alloc _).below hb3, ((Turn.refl _ _).alloc _).trans (Turn.of_below hb3)⟩
    refine ⟨ho3.1, ?_⟩
    rcases ho3.2 with h | ⟨g2, cc, cur, e, hb, rest⟩
    · exact .inl h
    · exact .inr ⟨g2, cc, cur, e, by rw [World.size_alloc] at hb; omega, rest⟩
  clear ho3 hb3
  obtain ⟨hB1, hB4⟩ := hBl
  go_wp2_with fail
  refine (below_any cb ao len cap zs w3 HD3.out.cur 4 (by decide) (by decide)).mono ?_
  rintro e w4 ⟨x, rfl, hx0, hx1, hd4⟩
  have HD4 : Hid (DrB cb ao len cap zs w2 w4 (.slice (some ⟨g, 0, none⟩) B.length c) B) := HD3.out.drawn HCB.out hd4
  clear hd4 HD3
  have HT : Hid (∀ (wr : World) (g c : Nat) (B : List UInt8), DrR cb ao len cap zs w2 wr g c B → Below w.heap.size w wr) := fun wr g c B h => Turn.below HB2.out HB2.out.size h.turn HG1.out
  by_cases hx : x = 0
  · subst hx
    go_wp2_with fail
    refine (below_any cb ao len cap zs w4 HD4.out.cur (B.length : Int) (by omega) (by omega)).mono ?_
    rintro e w5 ⟨j, rfl, hj0, hj1, hd5⟩
    have HD5 : Hid (DrR cb ao len cap zs w2 w5 g c B) := (HD4.out.drawn HCB.out hd5).read
    clear hd5
    obtain ⟨j, rfl⟩ : ∃ k : Nat, j = k := ⟨j.toNat, by omega⟩
    have hj2 : j < B.length := by omega
    go_wp2_with fail
    refine (tail_any cb ao len cap zs w2 w5 g c B HD5.out HCB.out [0, 127, 128, 255] (by decide) (by decide) _ rfl).mono ?_
    rintro e w6 ⟨y, rfl, hy, hd6⟩
    have hyb : 0 ≤ y ∧ y ≤ 255 := by simp at hy; omega
    obtain ⟨hy0, hy1⟩ := hyb
    have q := hd6.rd j hj2
    have fr := hd6.free
    rw [Nat.zero_add] at q
    have HD6 : Hid (DrR cb ao len cap zs w2 (w6.setCell ⟨g, j, none⟩ (.int .u8 y)) g c (B.set j (UInt8.ofNat y.toNat))) := hd6.set HCB.out j hj2 _ y (byte_of hy0 hy1)
    have hlen : (B.set j (UInt8.ofNat y.toNat)).length = B.length := List.length_set
    clear hy hd6
    have HLE : Hid ((B.set j (UInt8.ofNat y.toNat)).length = B.length) := hlen
    generalize B.set j (UInt8.ofNat y.toNat) = B' at *
    clear hlen
    go_wp2_with fail
    refine (tail_any cb ao len cap zs w2 _ g c B' HD6.out HCB.out [0, 0, 0, (B.length : Int), -1, 9223372036854775807] (by simp) (by simp) w6.heap.size (by rw [World.size_setCell])).mono ?_
    rintro e w7 ⟨z, rfl, _, hd7⟩
    have HD7 : Hid (DrR cb ao len cap zs w2 w7 g c B') := hd7
    clear hd7
    go_wp2_with fail
    refine bodyPost_ret (v := .tuple #[.slice (some ⟨g, 0, none⟩) B.length c, .int .i64 z]) (by simp [results, Try.results10, go_sem]) rfl ⟨g, c, B', z, by rw [HLE.out], by have := HLE.out; omega, HD7.out.fit, HD7.out.rd, HT.out _ _ _ _ HD7.out⟩
  · by_cases hx2 : x = 1
    · subst hx2
      have D3 : Hid (B.length + 1 ≤ maxLen) := by show _ ≤ _; unfold maxLen; omega
      have D4 : Hid ((B.length + 1) * 1 ≤ 140737488355328) := by show _ ≤ _; omega
      have D5 : Hid (∀ x, w2.heap.size ≤ (w4.alloc (.cells #[x] 5)).heap.size) := fun x => by rw [World.size_alloc]; have := HD4.out.turn.size; omega
      obtain ⟨B', hB'⟩ : ∃ B', B ++ [3] = B' := ⟨_, rfl⟩
      have HL5 : Hid (B ++ [3] = B') := hB'
      have hB'l : B'.length = B.length + 1 := by rw [← hB', List.length_append]; rfl
      have HL6 : Hid (B'.length = B.length + 1) := hB'l
      clear hx hB' hB'l
      go_wp2_with (at_builtin; refine wpList_append_own_at _ rfl _ _ 22 rfl w2.heap.size 5 i0 (.int .u8 0) 1 1 undU8 HI.out.1 HI.out.2.1 HI.out.2.2.1 HI.out.2.2.2 rfl Nat.zero_lt_one _ B.length _ rfl (World.ownsRow.alloc HD4.out.own _) ⟨_, 0, none⟩ 1 1 [.int .u8 3] rfl rfl (cell_one_new _ _ _) (oneB _ _) D3.out D4.out (D5.out _) ?_; intro v5 w5 hown5 hgr5 hnn5 hat5; have hd5 : DrB cb ao len cap zs w2 w5 v5 (B ++ [3]) := HD4.out.more HCB.out rfl hown5 hgr5; rw [HL5.out] at hd5; obtain ⟨g5, c5, rfl⟩ := hd5.own.some (nn_of hnn5 rfl); have HD5 : Hid (DrR cb ao len cap zs w2 w5 g5 c5 B') := hd5.read; clear hd5 hown5 hgr5 hnn5 hat5)
      refine (tail_any cb ao len cap zs w2 _ g5 c5 B' HD5.out HCB.out [0, 0, 0, (B'.length : Int), -1, 9223372036854775807] (by simp) (by simp) _ rfl).mono ?_
      rintro e w7 ⟨z, rfl, _, hd7⟩
      have HD7 : Hid (DrR cb ao len cap zs w2 w7 g5 c5 B') := hd7
      clear hd7
      go_wp2_with fail
      refine bodyPost_ret (v := .tuple #[.slice (some ⟨g5, 0, none⟩) B'.length c5, .int .i64 z]) (by simp [results, Try.results10, go_sem]) rfl ⟨g5, c5, B', z, rfl, by have := HL6.out; omega, HD7.out.fit, HD7.out.rd, HT.out _ _ _ _ HD7.out⟩
    · have hb0 : (x == 0) = false := by simpa using hx
      have hb1 : (x == 1) = false := by simpa using hx2
      clear hx hx2
      go_wp2_with fail
      refine (tail_any cb ao len cap zs w2 _ g c B HD4.out.read HCB.out [0, 0, 0, (B.length : Int), -1, 9223372036854775807] (by simp) (by simp) _ rfl).mono ?_
      rintro e w7 ⟨z, rfl, _, hd7⟩
      have HD7 : Hid (DrR cb ao len cap zs w2 w7 g c B) := hd7
      clear hd7
      go_wp2_with fail
      refine bodyPost_ret (v := .tuple #[.slice (some ⟨g, 0, none⟩) B.length c, .int .i64 z]) (by simp [results, Try.results10, go_sem]) rfl ⟨g, c, B, z, rfl, by omega, HD7.out.fit, HD7.out.rd, HT.out _ _ _ _ HD7.out⟩
end Go.Proofs.Ytelnnmjnfdjbmaa.By
