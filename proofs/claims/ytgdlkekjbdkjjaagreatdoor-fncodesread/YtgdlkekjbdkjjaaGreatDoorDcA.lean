/-
  An instruction that is drawn: the specification's l8Draw answers one that is right.
-/
import Derived.Test.YtgdlkekjbdkjjaaGreatDoorCoM
import Derived.Test.YtgdlkekjbdkjjaaGreatDoorCkA
import Derived.Test.YtgdlkekjbdkjjaaGreatDoorPaD
import Derived.Test.YtgdlkekjbdkjjaaGreatDoorTuA
import Derived.Test.YtgdlkekjbdkjjaaGreatDoorStrA
namespace Go.Proofs.YtgdlkekjbdkjjaaGreatDoor.Code
open Go.RowKit
open Go.Proofs.YtgdlkekjbdkjjaaGreatDoor.Atom
set_option linter.unusedVariables false

section
variable {cb : Nat} {ao : Option Addr} {len cap : Nat} {zs : List Int}

/-- What l8Draw has in hand: the cursor, the answer's block R, the instruction y in the block X. -/
structure Dx (cb : Nat) (ao : Option Addr) (len cap : Nat) (zs : List Int) (w wr : World) (R X : Nat) (y : I) : Prop where
  cur : Cur cb ao len cap zs wr
  trn : Turn cb w wr
  res : wr.heap[R]? = some (.cells (insV zeroI) 47 (0, 0))
  ins : wr.heap[X]? = some (.cells (insV y) 47 (0, 0))
theorem Dx.call {w wr w' : World} {R X : Nat} {y : I} (h : Dx cb ao len cap zs w wr R X y) (hR : R ≠ cb) (hX : X ≠ cb) (d : Drawn cb ao len cap zs wr w') : Dx cb ao len cap zs w w' R X y :=
  ⟨d.1, h.trn.trans d.2, (d.2.block _ (blk_lt h.res) hR).trans h.res, (d.2.block _ (blk_lt h.ins) hX).trans h.ins⟩
theorem Dx.below {w wr w' : World} {R X : Nat} {y : I} (h : Dx cb ao len cap zs w wr R X y) (hb : Below wr.heap.size wr w') : Dx cb ao len cap zs w w' R X y :=
  ⟨h.cur.below hb, h.trn.trans (Turn.of_below hb), (hb.block _ (blk_lt h.res)).trans h.res, (hb.block _ (blk_lt h.ins)).trans h.ins⟩
theorem Dx.set {w wr : World} {R X : Nat} {y z : I} (h : Dx cb ao len cap zs w wr R X y) (hc : cb < X) (hX : w.heap.size ≤ X) (hR : R ≠ X) (i : Nat) (v : Value) (hz : (insV y).setIfInBounds i v = insV z) : Dx cb ao len cap zs w (wr.setCell ⟨X, i, none⟩ v) R X z := by
  have ho : ∀ b, b ≠ X → (wr.setCell ⟨X, i, none⟩ v).heap[b]? = wr.heap[b]? := fun b hb => Below.heap_setCell wr ⟨X, i, none⟩ v b hb
  refine ⟨h.cur.same fun b hb => ho b (by omega), ⟨h.trn.os, h.trn.tape, h.trn.output, by simp [World.setCell]; exact h.trn.size, fun k hk hn => (ho k (by omega)).trans (h.trn.block k hk hn)⟩, (ho R hR).trans h.res, ?_⟩
  rw [set_blk h.ins, hz]
theorem Dx.cell {w wr : World} {R X : Nat} {y : I} (h : Dx cb ao len cap zs w wr R X y) (i : Nat) : wr.cell? ⟨X, i, none⟩ = (insV y)[i]? := blk_at h.ins i
theorem Dx.free {w wr : World} {R X : Nat} {y : I} (h : Dx cb ao len cap zs w wr R X y) (i : Nat) : wr.frozen? ⟨X, i, none⟩ = false := blk_free h.ins i
end
theorem cur_lt {cb : Nat} {ao : Option Addr} {len cap : Nat} {zs : List Int} {w : World} (h : Cur cb ao len cap zs w) : cb < w.heap.size := World.block_lt_of_cell? w _ h.c0
/-- An instruction whose numbers and text are small. -/
structure Wee (x : I) : Prop where
  op : -2000000 ≤ x.op ∧ x.op ≤ 2000000
  a : -2000000 ≤ x.a ∧ x.a ≤ 2000000
  b : -2000000 ≤ x.b ∧ x.b ≤ 2000000
  c : -2000000 ≤ x.c ∧ x.c ≤ 2000000
  n : -2000000 ≤ x.n ∧ x.n ≤ 2000000
  s : x.s.size ≤ 1000
/-- The k-th instruction under way, of which Q holds. -/
def Mid (Q : Int → Int → Int → Int → ByteArray → Prop) (cb : Nat) (ao : Option Addr) (len cap : Nat) (zs : List Int) (w : World) (R X k : Nat) (wx : World) : Prop :=
  ∃ (a b c n : Int) (s : ByteArray), Dx cb ao len cap zs w wx R X ⟨(k : Int) + 1, a, b, c, n, s⟩ ∧ Q a b c n s
section
variable {Q P : Int → Int → Int → Int → ByteArray → Prop} {cb : Nat} {ao : Option Addr} {len cap : Nat} {zs : List Int} {w wr w' : World} {R X k : Nat}
theorem Mid.call (h : Mid Q cb ao len cap zs w R X k wr) (hR : R ≠ cb) (hX : X ≠ cb) (d : Drawn cb ao len cap zs wr w') : Mid Q cb ao len cap zs w R X k w' := by
  obtain ⟨a, b, c, n, s, h1, h2⟩ := h
  exact ⟨a, b, c, n, s, h1.call hR hX d, h2⟩
theorem Mid.below (h : Mid Q cb ao len cap zs w R X k wr) (hb : Below wr.heap.size wr w') : Mid Q cb ao len cap zs w R X k w' := by
  obtain ⟨a, b, c, n, s, h1, h2⟩ := h
  exact ⟨a, b, c, n, s, h1.below hb, h2⟩
theorem Mid.cur (h : Mid Q cb ao len cap zs w R X k wr) : Cur cb ao len cap zs wr := by
  obtain ⟨a, b, c, n, s, h1, h2⟩ := h
  exact h1.cur
theorem Mid.free (h : Mid Q cb ao len cap zs w R X k wr) (i : Nat) : wr.frozen? ⟨X, i, none⟩ = false := by
  obtain ⟨a, b, c, n, s, h1, h2⟩ := h
  exact h1.free i
theorem Mid.op (h : Mid Q cb ao len cap zs w R X k wr) : wr.cell? ⟨X, 0, none⟩ = some (.int .i64 ((k : Int) + 1)) := by
  obtain ⟨a, b, c, n, s, h1, h2⟩ := h
  exact h1.cell 0
theorem Mid.cells (h : Mid Q cb ao len cap zs w R X k wr) :
    (∃ v : Int, wr.cell? ⟨X, 1, none⟩ = some (.int .i64 v)) ∧ (∃ v : Int, wr.cell? ⟨X, 2, none⟩ = some (.int .i64 v)) ∧ (∃ v : Int, wr.cell? ⟨X, 3, none⟩ = some (.int .i64 v)) ∧ (∃ v : Int, wr.cell? ⟨X, 4, none⟩ = some (.int .i64 v)) ∧ (∃ v, wr.cell? ⟨X, 5, none⟩ = some (.string v)) := by
  obtain ⟨a, b, c, n, s, h1, h2⟩ := h
  exact ⟨⟨_, h1.cell 1⟩, ⟨_, h1.cell 2⟩, ⟨_, h1.cell 3⟩, ⟨_, h1.cell 4⟩, ⟨_, h1.cell 5⟩⟩
theorem Mid.imp (h : Mid Q cb ao len cap zs w R X k wr) (hq : ∀ a b c n s, Q a b c n s → P a b c n s) : Mid P cb ao len cap zs w R X k wr := by
  obtain ⟨a, b, c, n, s, h1, h2⟩ := h
  exact ⟨a, b, c, n, s, h1, hq _ _ _ _ _ h2⟩
theorem Mid.put1 (h : Mid Q cb ao len cap zs w R X k wr) (hc : cb < X) (hX : w.heap.size ≤ X) (hR : R ≠ X) (v : Int) (hq : ∀ a b c n s, Q a b c n s → P v b c n s) : Mid P cb ao len cap zs w R X k (wr.setCell ⟨X, 1, none⟩ (.int .i64 v)) := by
  obtain ⟨a, b, c, n, s, hd, hw⟩ := h
  exact ⟨v, b, c, n, s, hd.set hc hX hR 1 _ rfl, hq _ _ _ _ _ hw⟩
theorem Mid.put2 (h : Mid Q cb ao len cap zs w R X k wr) (hc : cb < X) (hX : w.heap.size ≤ X) (hR : R ≠ X) (v : Int) (hq : ∀ a b c n s, Q a b c n s → P a v c n s) : Mid P cb ao len cap zs w R X k (wr.setCell ⟨X, 2, none⟩ (.int .i64 v)) := by
  obtain ⟨a, b, c, n, s, hd, hw⟩ := h
  exact ⟨a, v, c, n, s, hd.set hc hX hR 2 _ rfl, hq _ _ _ _ _ hw⟩
theorem Mid.put3 (h : Mid Q cb ao len cap zs w R X k wr) (hc : cb < X) (hX : w.heap.size ≤ X) (hR : R ≠ X) (v : Int) (hq : ∀ a b c n s, Q a b c n s → P a b v n s) : Mid P cb ao len cap zs w R X k (wr.setCell ⟨X, 3, none⟩ (.int .i64 v)) := by
  obtain ⟨a, b, c, n, s, hd, hw⟩ := h
  exact ⟨a, b, v, n, s, hd.set hc hX hR 3 _ rfl, hq _ _ _ _ _ hw⟩
theorem Mid.put4 (h : Mid Q cb ao len cap zs w R X k wr) (hc : cb < X) (hX : w.heap.size ≤ X) (hR : R ≠ X) (v : Int) (hq : ∀ a b c n s, Q a b c n s → P a b c v s) : Mid P cb ao len cap zs w R X k (wr.setCell ⟨X, 4, none⟩ (.int .i64 v)) := by
  obtain ⟨a, b, c, n, s, hd, hw⟩ := h
  exact ⟨a, b, c, v, s, hd.set hc hX hR 4 _ rfl, hq _ _ _ _ _ hw⟩
theorem Mid.putS (h : Mid Q cb ao len cap zs w R X k wr) (hc : cb < X) (hX : w.heap.size ≤ X) (hR : R ≠ X) (v : ByteArray) (hq : ∀ a b c n s, Q a b c n s → P a b c n v) : Mid P cb ao len cap zs w R X k (wr.setCell ⟨X, 5, none⟩ (.string v)) := by
  obtain ⟨a, b, c, n, s, hd, hw⟩ := h
  exact ⟨a, b, c, n, v, hd.set hc hX hR 5 _ rfl, hq _ _ _ _ _ hw⟩
end
theorem reg_in {u : List UInt8} {ch r : Int} (h0 : 0 ≤ r) (h1 : r < 4) (hl : letB u ch = true) : regB u ch r = true := by
  unfold regB; rw [if_pos hl]; exact decide_eq_true (by omega)
theorem reg_out {u : List UInt8} {ch : Int} (hl : letB u ch = false) : regB u ch 0 = true := by
  unfold regB; rw [hl]; rfl
/-- The three registers are right, and nothing else is there. -/
def Q0 (a b c n : Int) (s : ByteArray) : Prop := a = 0 ∧ b = 0 ∧ c = 0 ∧ n = 0 ∧ s = ⟨#[]⟩
def Q1 (k : Nat) (a b c n : Int) (s : ByteArray) : Prop := regB (useT (k + 1)).data.toList 65 a = true ∧ b = 0 ∧ c = 0 ∧ n = 0 ∧ s = ⟨#[]⟩
def Q2 (k : Nat) (a b c n : Int) (s : ByteArray) : Prop := regB (useT (k + 1)).data.toList 65 a = true ∧ (regB (useT (k + 1)).data.toList 66 b = true ∧ 0 ≤ b ∧ b < 4) ∧ c = 0 ∧ n = 0 ∧ s = ⟨#[]⟩
def Q3 (k : Nat) (a b c n : Int) (s : ByteArray) : Prop := regB (useT (k + 1)).data.toList 65 a = true ∧ (regB (useT (k + 1)).data.toList 66 b = true ∧ 0 ≤ b ∧ b < 4) ∧ regB (useT (k + 1)).data.toList 67 c = true ∧ n = 0 ∧ s = ⟨#[]⟩
/-- The instruction is right in code of N. -/
def QR (k : Nat) (N : Int) (a b c n : Int) (s : ByteArray) : Prop := specOk ⟨(k : Int) + 1, a, b, c, n, s⟩ N = true
theorem qr_of {k : Nat} {N a b c n : Int} {s : ByteArray} (hk : k < 20) (h0 : 1 ≤ N) (h1 : N ≤ 200) (ha : regB (useT (k + 1)).data.toList 65 a = true) (hc : regB (useT (k + 1)).data.toList 67 c = true)
    (hb : (if (k : Int) + 1 = 11 then Atom.inB b 1 6 else regB (useT (k + 1)).data.toList 66 b) = true) (hs : (if (k : Int) + 1 = 2 then atomB s else s.data.toList.isEmpty) = true) (hn : numB ⟨(k : Int) + 1, a, b, c, n, s⟩ N = true) : QR k N a b c n s := by
  unfold QR specOk
  have e : uses ((⟨(k : Int) + 1, a, b, c, n, s⟩ : I).op).toNat = (useT (k + 1)).data.toList := by
    show uses ((k : Int) + 1).toNat = _
    rw [show ((k : Int) + 1).toNat = k + 1 by omega]; rfl
  simp only [Bool.and_eq_true, e]
  exact ⟨decide_eq_true ⟨h0, h1⟩, decide_eq_true (by omega), ha, hc, hb, hs, hn⟩
theorem reg_wee {u : List UInt8} {ch r : Int} (h : regB u ch r = true) : 0 ≤ r ∧ r ≤ 7 := by
  unfold regB at h
  split at h
  · exact of_decide_eq_true h
  · have : r = 0 := by simpa using h
    omega
theorem wee_of {x : I} {N : Int} (h : specOk x N = true) : Wee x := by
  unfold specOk at h
  simp only [Bool.and_eq_true] at h
  obtain ⟨h1, h2, h3, h4, h5, h6, h7⟩ := h
  have hN : 1 ≤ N ∧ N ≤ 200 := of_decide_eq_true h1
  have ho : 1 ≤ x.op ∧ x.op ≤ 20 := of_decide_eq_true h2
  have ha := reg_wee h3
  have hc := reg_wee h4
  have hb : 0 ≤ x.b ∧ x.b ≤ 7 := by
    split at h5
    · have : 1 ≤ x.b ∧ x.b ≤ 6 := of_decide_eq_true h5
      omega
    · exact reg_wee h5
  refine ⟨by omega, by omega, by omega, by omega, ?_, ?_⟩
  · unfold numB at h7
    split at h7
    · have : -1000000 ≤ x.n ∧ x.n ≤ 1000000 := of_decide_eq_true h7
      omega
    split at h7
    · simp only [Bool.and_eq_true] at h7
      have : 0 ≤ x.n ∧ x.n ≤ 8 := of_decide_eq_true h7.1
      omega
    split at h7
    · have : 0 ≤ x.n ∧ x.n ≤ 7 := of_decide_eq_true h7
      omega
    split at h7
    · have := of_decide_eq_true h7
      omega
    · have : x.n = 0 := by simpa using h7
      omega
  · split at h6
    · unfold atomB at h6
      simp only [Bool.and_eq_true] at h6
      have := of_decide_eq_true h6.2
      omega
    · have : x.s.data.toList = [] := List.isEmpty_iff.1 h6
      have h0 : x.s.data.toList.length = 0 := by rw [this]; rfl
      have : x.s.size = 0 := by simpa using h0
      omega
theorem drawn_put {cb : Nat} {ao : Option Addr} {len cap : Nat} {zs : List Int} {w wr : World} {R : Nat} (h : Drawn cb ao len cap zs w wr) (hc : cb < R) (hR : w.heap.size ≤ R) (i : Nat) (v : Value) : Drawn cb ao len cap zs w (wr.setCell ⟨R, i, none⟩ v) := by
  have ho : ∀ b, b ≠ R → (wr.setCell ⟨R, i, none⟩ v).heap[b]? = wr.heap[b]? := fun b hb => Below.heap_setCell wr ⟨R, i, none⟩ v b hb
  exact ⟨h.1.same fun b hb => ho b (by omega), ⟨h.2.os, h.2.tape, h.2.output, by simp [World.setCell]; exact h.2.size, fun k hk hn => (ho k (by omega)).trans (h.2.block k hk hn)⟩⟩
theorem Mid.drawn {Q : Int → Int → Int → Int → ByteArray → Prop} {cb : Nat} {ao : Option Addr} {len cap : Nat} {zs : List Int} {w wr : World} {R X k : Nat} (h : Mid Q cb ao len cap zs w R X k wr) : Drawn cb ao len cap zs w wr := by
  obtain ⟨a, b, c, n, s, h1, h2⟩ := h
  exact ⟨h1.cur, h1.trn⟩

set_option maxHeartbeats 4000000 in
theorem draw_any (cb : Nat) (ao : Option Addr) (len cap : Nat) (zs : List Int) (N : Int) (hN0 : 1 ≤ N) (hN1 : N ≤ 200) (w : World) (hc : Cur cb ao len cap zs w) (hcb : cb < w.heap.size) :
    Calls Tryz.prog 40 #[.pointer (some ⟨cb, 0, none⟩), .int .i64 N] w fun e w' => (∃ (op a b c n : Int) (s : ByteArray), e = .returned (.agg #[.int .i64 op, .int .i64 a, .int .i64 b, .int .i64 c, .int .i64 n, .string s]) ∧ specOk ⟨op, a, b, c, n, s⟩ N = true) ∧ Drawn cb ao len cap zs w w' := by
  have HC1 : Hid (Cur cb ao len cap zs (w.alloc (.cells #[.int .i64 0, .int .i64 0, .int .i64 0, .int .i64 0, .int .i64 0, .string ⟨#[]⟩] 47))) := hc.alloc _
  have HRS : Hid ((w.alloc (.cells #[.int .i64 0, .int .i64 0, .int .i64 0, .int .i64 0, .int .i64 0, .string ⟨#[]⟩] 47)).heap[w.heap.size]? = some (.cells (insV zeroI) 47 (0, 0))) := by show (w.heap.push _)[w.heap.size]? = _; simp; rfl
  go_enter Tryz.func40, Tryz.ntmps40
  go_wp2_with (go_at_call 18; fail)
  refine (below_any cb ao len cap zs _ HC1.out 20 (by omega) (by omega)).mono ?_
  rintro e w1 ⟨x, rfl, hx0, hx1, hd1⟩
  obtain ⟨k, rfl⟩ : ∃ k : Nat, x = (k : Int) := ⟨x.toNat, by omega⟩
  have hk : k < 20 := by omega
  have hki : (k : Int) < 20 := by omega
  have HR1 : Hid (w1.heap[w.heap.size]? = some (.cells (insV zeroI) 47 (0, 0)) ∧ Turn cb w w1 ∧ w.heap.size < w1.heap.size ∧ Cur cb ao len cap zs w1) := by
    have h1 := blk_lt HRS.out
    have h2 := hd1.2.size
    refine ⟨(hd1.2.block _ h1 (by omega)).trans HRS.out, ((Turn.refl cb w).alloc _).trans hd1.2, by omega, hd1.1⟩
  clear hd1 HC1 HRS hx0 hx1 hc
  have e0 : IntKind.i64.wrap (1 + (k : Int)) = (k : Int) + 1 := by rw [IntKind.wrap_i64]; omega
  have e0' : (1 : Int) + (k : Int) = (k : Int) + 1 := by omega
  have HDX : Hid (Dx cb ao len cap zs w (w1.alloc (.cells #[.int .i64 ((k : Int) + 1), .int .i64 0, .int .i64 0, .int .i64 0, .int .i64 0, .string ⟨#[]⟩] 47)) w.heap.size w1.heap.size ⟨(k : Int) + 1, 0, 0, 0, 0, ⟨#[]⟩⟩) := by
    have hb := (Below.refl w1.heap.size w1).alloc (Nat.le_refl _) (.cells #[.int .i64 ((k : Int) + 1), .int .i64 0, .int .i64 0, .int .i64 0, .int .i64 0, .string ⟨#[]⟩] 47)
    refine ⟨HR1.out.2.2.2.below hb, HR1.out.2.1.trans (Turn.of_below hb), (hb.block _ HR1.out.2.2.1).trans HR1.out.1, ?_⟩
    show (w1.heap.push _)[w1.heap.size]? = _; simp; rfl
  have HNE : Hid (w.heap.size ≠ cb ∧ w1.heap.size ≠ cb ∧ cb < w1.heap.size ∧ w.heap.size ≤ w1.heap.size ∧ w.heap.size ≠ w1.heap.size) := by
    have h1 := HR1.out.2.2.1
    exact ⟨by omega, by omega, by omega, by omega, by omega⟩
  have HM : Hid (Mid Q0 cb ao len cap zs w w.heap.size w1.heap.size k (w1.alloc (.cells #[.int .i64 ((k : Int) + 1), .int .i64 0, .int .i64 0, .int .i64 0, .int .i64 0, .string ⟨#[]⟩] 47))) :=
    ⟨0, 0, 0, 0, ⟨#[]⟩, HDX.out, rfl, rfl, rfl, rfl, rfl⟩
  clear HDX
  go_wp2_with fail
  generalize (w1.alloc (.cells #[.int .i64 ((k : Int) + 1), .int .i64 0, .int .i64 0, .int .i64 0, .int .i64 0, .string ⟨#[]⟩] 47)) = w2 at HM ⊢
  clear HR1
  generalize w1.heap.size = X at HM HNE ⊢
  obtain ⟨R, hR⟩ : ∃ R, R = w.heap.size := ⟨_, rfl⟩
  rw [← hR] at HM ⊢
  have HNE2 : Hid (R ≠ cb ∧ X ≠ cb ∧ cb < X ∧ w.heap.size ≤ X ∧ R ≠ X ∧ cb < R ∧ w.heap.size ≤ R) := by have := HNE.out; show _ ∧ _; rw [hR]; exact ⟨this.1, this.2.1, this.2.2.1, this.2.2.2.1, this.2.2.2.2, hcb, Nat.le_refl _⟩
  clear HNE hR
  have HNE := HNE2
  clear HNE2
  have e1 : IntKind.i64.wrap ((k : Int) + 1 - 1) = (k : Int) := by rw [IntKind.wrap_i64]; omega
  have e2 : IntKind.i64.wrap (k : Int) = (k : Int) := by rw [IntKind.wrap_i64]; omega
  have hU : (useT (k + 1)).size ≤ maxLen := Nat.le_trans (use_len _) (by unfold maxLen; omega)
  clear e0 e0'
  go_cut [6] from 11 to 16 (fun v wx => v = .string (useT (k + 1)) ∧ Mid Q0 cb ao len cap zs w R X k wx)
  case first =>
    have b0 := HM.out.op
    have K4 : Hid (∀ w5, Below w2.drew.heap.size w2.drew w5 → Mid Q0 cb ao len cap zs w R X k w5) := fun w5 h => HM.out.below (below_undrew h)
    go_region_law (go_simp; go_wp2_with (go_at_call 46; refine (uses_any _).mono ?_; rintro e w5 ⟨rfl, hb5, _, hc5⟩; have HF5 := K4.out w5 hb5; have b5 := HF5.op; have hc5' : w5.cell? ⟨w2.heap.size, k, none⟩ = some (.string (useT (k + 1))) := hc5 k hk; have HF6 : Hid (Mid Q0 cb ao len cap zs w R X k w5) := HF5; clear hc5 hb5 HF5))
    all_goals
      go_wp2_with fail
      try go_simp
      go_meet
      case rel => exact ⟨by simp, HF6.out⟩
  case rest =>
  obtain ⟨rfl, hM2⟩ := hcut
  have HM2 : Hid (Mid Q0 cb ao len cap zs w R X k wc) := hM2
  clear hM2 HM e1 e2
  have HM := HM2
  clear HM2
  go_upto_if 18 with (go_at_call 64; refine (letter_any _ _ _ hU).mono ?_; rintro e w' ⟨rfl, rfl⟩)
  go_cut [] from 17 to 21 (fun wx => Mid (Q1 k) cb ao len cap zs w R X k wx)
  case first =>
    cases hl : letB (useT (k + 1)).data.toList 65
    · have HO : Hid (Mid (Q1 k) cb ao len cap zs w R X k w') := HM.out.imp fun a b c n s h => ⟨by rw [h.1]; exact reg_out hl, h.2⟩
      clear hl
      go_wp2_with fail
      go_meet
      case rel => exact HO.out
    · have HL : Hid (letB (useT (k + 1)).data.toList 65 = true) := hl
      clear hl
      go_wp2_with (go_at_call 18; fail)
      refine (below_any cb ao len cap zs _ HM.out.cur 4 (by decide) (by decide)).mono ?_
      rintro e w5 ⟨y, rfl, hy0, hy1, hd5⟩
      have HM5 : Hid (Mid Q0 cb ao len cap zs w R X k w5) := HM.out.call HNE.out.1 HNE.out.2.1 hd5
      have HM6 : Hid (Mid (Q1 k) cb ao len cap zs w R X k (w5.setCell ⟨X, 1, none⟩ (.int .i64 y))) := HM5.out.put1 HNE.out.2.2.1 HNE.out.2.2.2.1 HNE.out.2.2.2.2.1 _ fun a b c n s h => (have hl := HL.out; ⟨reg_in hy0 hy1 hl, h.2⟩)
      clear hd5
      obtain ⟨⟨v1, c1⟩, ⟨v2, c2⟩, ⟨v3, c3⟩, ⟨v4, c4⟩, ⟨v5, c5⟩⟩ := HM5.out.cells
      have f5 := fun i => HM5.out.free i
      go_wp2_with fail
      go_meet
      case rel => exact HM6.out
  case rest =>
  have HM2 : Hid (Mid (Q1 k) cb ao len cap zs w R X k wc) := hcut
  clear hcut HM
  have HM := HM2
  clear HM2
  go_upto_if 23 with (go_at_call 64; refine (letter_any _ _ _ hU).mono ?_; rintro e w' ⟨rfl, rfl⟩)
  go_cut [] from 22 to 26 (fun wx => Mid (Q2 k) cb ao len cap zs w R X k wx)
  case first =>
    cases hl : letB (useT (k + 1)).data.toList 66
    · have HO : Hid (Mid (Q2 k) cb ao len cap zs w R X k w') := HM.out.imp fun a b c n s h => ⟨h.1, ⟨by rw [h.2.1]; exact reg_out hl, by rw [h.2.1]; decide, by rw [h.2.1]; decide⟩, h.2.2⟩
      clear hl
      go_wp2_with fail
      go_meet
      case rel => exact HO.out
    · have HL : Hid (letB (useT (k + 1)).data.toList 66 = true) := hl
      clear hl
      go_wp2_with (go_at_call 18; fail)
      refine (below_any cb ao len cap zs _ HM.out.cur 4 (by decide) (by decide)).mono ?_
      rintro e w5 ⟨y, rfl, hy0, hy1, hd5⟩
      have HM5 : Hid (Mid (Q1 k) cb ao len cap zs w R X k w5) := HM.out.call HNE.out.1 HNE.out.2.1 hd5
      have HM6 : Hid (Mid (Q2 k) cb ao len cap zs w R X k (w5.setCell ⟨X, 2, none⟩ (.int .i64 y))) := HM5.out.put2 HNE.out.2.2.1 HNE.out.2.2.2.1 HNE.out.2.2.2.2.1 _ fun a b c n s h => (have hl := HL.out; ⟨h.1, ⟨reg_in hy0 hy1 hl, hy0, hy1⟩, h.2.2⟩)
      clear hd5
      obtain ⟨⟨v1, c1⟩, ⟨v2, c2⟩, ⟨v3, c3⟩, ⟨v4, c4⟩, ⟨v5, c5⟩⟩ := HM5.out.cells
      have f5 := fun i => HM5.out.free i
      go_wp2_with fail
      go_meet
      case rel => exact HM6.out
  case rest =>
  have HM2 : Hid (Mid (Q2 k) cb ao len cap zs w R X k wc) := hcut
  clear hcut HM
  have HM := HM2
  clear HM2
  go_upto_if 28 with (go_at_call 64; refine (letter_any _ _ _ hU).mono ?_; rintro e w' ⟨rfl, rfl⟩)
  go_cut [] from 27 to 31 (fun wx => Mid (Q3 k) cb ao len cap zs w R X k wx)
  case first =>
    cases hl : letB (useT (k + 1)).data.toList 67
    · have HO : Hid (Mid (Q3 k) cb ao len cap zs w R X k w') := HM.out.imp fun a b c n s h => ⟨h.1, h.2.1, by rw [h.2.2.1]; exact reg_out hl, h.2.2.2⟩
      clear hl
      go_wp2_with fail
      go_meet
      case rel => exact HO.out
    · have HL : Hid (letB (useT (k + 1)).data.toList 67 = true) := hl
      clear hl
      go_wp2_with (go_at_call 18; fail)
      refine (below_any cb ao len cap zs _ HM.out.cur 4 (by decide) (by decide)).mono ?_
      rintro e w5 ⟨y, rfl, hy0, hy1, hd5⟩
      have HM5 : Hid (Mid (Q2 k) cb ao len cap zs w R X k w5) := HM.out.call HNE.out.1 HNE.out.2.1 hd5
      have HM6 : Hid (Mid (Q3 k) cb ao len cap zs w R X k (w5.setCell ⟨X, 3, none⟩ (.int .i64 y))) := HM5.out.put3 HNE.out.2.2.1 HNE.out.2.2.2.1 HNE.out.2.2.2.2.1 _ fun a b c n s h => (have hl := HL.out; ⟨h.1, h.2.1, reg_in hy0 hy1 hl, h.2.2.2⟩)
      clear hd5
      obtain ⟨⟨v1, c1⟩, ⟨v2, c2⟩, ⟨v3, c3⟩, ⟨v4, c4⟩, ⟨v5, c5⟩⟩ := HM5.out.cells
      have f5 := fun i => HM5.out.free i
      go_wp2_with fail
      go_meet
      case rel => exact HM6.out
  case rest =>
  have HM2 : Hid (Mid (Q3 k) cb ao len cap zs w R X k wc) := hcut
  clear hcut HM
  have HM := HM2
  clear HM2
  clear hU
  by_cases k0 : k = 0
  · subst k0
    · have b0 : wc.cell? ⟨X, 0, none⟩ = some (.int .i64 1) := HM.out.op
      go_wp2_with (go_at_call 26; fail)
      refine (int_any cb ao len cap zs (wc.alloc (.cells #[.int .i64 0, .int .i64 1, .int .i64 (-1), .int .i64 1000000] 3)) (HM.out.cur.alloc _) wc.heap.size [0, 1, -1, 1000000] (by have := cur_lt HM.out.cur; omega) (by simp) (by simp) ?_).mono ?_
      · intro j hj
        rw [World.cell?_alloc_new]
        rcases (show j = 0 ∨ j = 1 ∨ j = 2 ∨ j = 3 by simp at hj; omega) with rfl | rfl | rfl | rfl <;> rfl
      rintro e w5 ⟨y, rfl, hy, hd5⟩
      have HM5 : Hid (Mid (Q3 0) cb ao len cap zs w R X 0 w5) := (HM.out.below ((Below.refl _ wc).alloc (Nat.le_refl _) _)).call HNE.out.1 HNE.out.2.1 hd5
      have HM6 : Hid (Mid (QR 0 N) cb ao len cap zs w R X 0 (w5.setCell ⟨X, 4, none⟩ (.int .i64 y))) := HM5.out.put4 HNE.out.2.2.1 HNE.out.2.2.2.1 HNE.out.2.2.2.2.1 _ fun a b c n s h => qr_of (by decide) hN0 hN1 h.1 h.2.2.1 h.2.1.1 (by rw [h.2.2.2.2]; rfl) (by show decide (-1000000 ≤ y ∧ y ≤ 1000000) = true; simp at hy; exact decide_eq_true (by omega))
      clear hy
      clear hd5
      obtain ⟨⟨v1, c1⟩, ⟨v2, c2⟩, ⟨v3, c3⟩, ⟨v4, c4⟩, ⟨v5, c5⟩⟩ := HM5.out.cells
      have f5 := fun i => HM5.out.free i
      go_upto_region 24 with fail
      generalize (w5.setCell ⟨X, 4, none⟩ (.int .i64 y)) = w6 at HM6 ⊢
      obtain ⟨a, b, c, n, s, hd, hw⟩ := HM6.out
      have HD : Hid (Dx cb ao len cap zs w w6 R X ⟨_, a, b, c, n, s⟩) := hd
      have HW : Hid (specOk ⟨_, a, b, c, n, s⟩ N = true) := hw
      have HDR : Hid (Drawn cb ao len cap zs w w6) := ⟨hd.cur, hd.trn⟩
      clear hd hw HM HM6
      have x0 := HD.out.cell 0
      have x1 := HD.out.cell 1
      have x2 := HD.out.cell 2
      have x3 := HD.out.cell 3
      have x4 := HD.out.cell 4
      have x5 := HD.out.cell 5
      have r0 := blk_at HD.out.res 0
      have r1 := blk_at HD.out.res 1
      have r2 := blk_at HD.out.res 2
      have r3 := blk_at HD.out.res 3
      have r4 := blk_at HD.out.res 4
      have r5 := blk_at HD.out.res 5
      have rf := fun i => blk_free HD.out.res i
      simp only [insV, zeroI, List.getElem?_toArray, List.getElem?_cons_zero, List.getElem?_cons_succ] at x0 x1 x2 x3 x4 x5 r0 r1 r2 r3 r4 r5
      have HWF : Hid (∀ (a b c d e g : Value), ((((((w6.setCell ⟨R, 0, none⟩ a).setCell ⟨R, 1, none⟩ b).setCell ⟨R, 2, none⟩ c).setCell ⟨R, 3, none⟩ d).setCell ⟨R, 4, none⟩ e).setCell ⟨R, 5, none⟩ g).heap[R]? = some (.cells #[a, b, c, d, e, g] 47 (0, 0))) := fun a b c d e g => set_blk6 HD.out.res a b c d e g
      go_wp2_with fail
      refine bodyPost_ret (res_ins Tryz.results40 (HWF.out _ _ _ _ _ _) rfl) rfl ⟨⟨_, _, _, _, _, _, rfl, HW.out⟩, ?_⟩
      have c1 := HNE.out.2.2.2.2.2.1
      have c2 := HNE.out.2.2.2.2.2.2
      exact drawn_put (drawn_put (drawn_put (drawn_put (drawn_put (drawn_put HDR.out c1 c2 _ _) c1 c2 _ _) c1 c2 _ _) c1 c2 _ _) c1 c2 _ _) c1 c2 _ _
  by_cases k1 : k = 1
  · subst k1
    · have b0 : wc.cell? ⟨X, 0, none⟩ = some (.int .i64 2) := HM.out.op
      go_wp2_with (go_at_call 19; fail)
      refine (str_any cb ao len cap zs (wc.alloc (.cells #[.string ⟨#[111, 107]⟩, .string ⟨#[97]⟩, .string ⟨#[98, 97, 100]⟩] 9)) (HM.out.cur.alloc _) wc.heap.size [⟨#[111, 107]⟩, ⟨#[97]⟩, ⟨#[98, 97, 100]⟩] (by have := cur_lt HM.out.cur; omega) (by simp) (by simp) ?_).mono ?_
      · intro j hj
        rw [World.cell?_alloc_new]
        rcases (show j = 0 ∨ j = 1 ∨ j = 2 by simp at hj; omega) with rfl | rfl | rfl <;> rfl
      rintro e w5 ⟨y, rfl, hy, hd5⟩
      have HM5 : Hid (Mid (Q3 1) cb ao len cap zs w R X 1 w5) := (HM.out.below ((Below.refl _ wc).alloc (Nat.le_refl _) _)).call HNE.out.1 HNE.out.2.1 hd5
      have HM6 : Hid (Mid (QR 1 N) cb ao len cap zs w R X 1 (w5.setCell ⟨X, 5, none⟩ (.string y))) := HM5.out.putS HNE.out.2.2.1 HNE.out.2.2.2.1 HNE.out.2.2.2.2.1 _ fun a b c n s h => qr_of (by decide) hN0 hN1 h.1 h.2.2.1 h.2.1.1 (by simp only [List.mem_cons, List.not_mem_nil, or_false] at hy; rcases hy with rfl | rfl | rfl <;> decide) (by rw [h.2.2.2.1]; rfl)
      clear hy
      clear hd5
      obtain ⟨⟨v1, c1⟩, ⟨v2, c2⟩, ⟨v3, c3⟩, ⟨v4, c4⟩, ⟨v5, c5⟩⟩ := HM5.out.cells
      have f5 := fun i => HM5.out.free i
      go_upto_region 24 with fail
      generalize (w5.setCell ⟨X, 5, none⟩ (.string y)) = w6 at HM6 ⊢
      obtain ⟨a, b, c, n, s, hd, hw⟩ := HM6.out
      have HD : Hid (Dx cb ao len cap zs w w6 R X ⟨_, a, b, c, n, s⟩) := hd
      have HW : Hid (specOk ⟨_, a, b, c, n, s⟩ N = true) := hw
      have HDR : Hid (Drawn cb ao len cap zs w w6) := ⟨hd.cur, hd.trn⟩
      clear hd hw HM HM6
      have x0 := HD.out.cell 0
      have x1 := HD.out.cell 1
      have x2 := HD.out.cell 2
      have x3 := HD.out.cell 3
      have x4 := HD.out.cell 4
      have x5 := HD.out.cell 5
      have r0 := blk_at HD.out.res 0
      have r1 := blk_at HD.out.res 1
      have r2 := blk_at HD.out.res 2
      have r3 := blk_at HD.out.res 3
      have r4 := blk_at HD.out.res 4
      have r5 := blk_at HD.out.res 5
      have rf := fun i => blk_free HD.out.res i
      simp only [insV, zeroI, List.getElem?_toArray, List.getElem?_cons_zero, List.getElem?_cons_succ] at x0 x1 x2 x3 x4 x5 r0 r1 r2 r3 r4 r5
      have HWF : Hid (∀ (a b c d e g : Value), ((((((w6.setCell ⟨R, 0, none⟩ a).setCell ⟨R, 1, none⟩ b).setCell ⟨R, 2, none⟩ c).setCell ⟨R, 3, none⟩ d).setCell ⟨R, 4, none⟩ e).setCell ⟨R, 5, none⟩ g).heap[R]? = some (.cells #[a, b, c, d, e, g] 47 (0, 0))) := fun a b c d e g => set_blk6 HD.out.res a b c d e g
      go_wp2_with fail
      refine bodyPost_ret (res_ins Tryz.results40 (HWF.out _ _ _ _ _ _) rfl) rfl ⟨⟨_, _, _, _, _, _, rfl, HW.out⟩, ?_⟩
      have c1 := HNE.out.2.2.2.2.2.1
      have c2 := HNE.out.2.2.2.2.2.2
      exact drawn_put (drawn_put (drawn_put (drawn_put (drawn_put (drawn_put HDR.out c1 c2 _ _) c1 c2 _ _) c1 c2 _ _) c1 c2 _ _) c1 c2 _ _) c1 c2 _ _
  by_cases k3 : k = 3
  · subst k3
    · have b0 : wc.cell? ⟨X, 0, none⟩ = some (.int .i64 4) := HM.out.op
      go_wp2_with (go_at_call 18; fail)
      refine (below_any cb ao len cap zs _ HM.out.cur 4 (by omega) (by omega)).mono ?_
      rintro e w5 ⟨y, rfl, hy0, hy1, hd5⟩
      have HM5 : Hid (Mid (Q3 3) cb ao len cap zs w R X 3 w5) := HM.out.call HNE.out.1 HNE.out.2.1 hd5
      have HM6 : Hid (Mid (QR 3 N) cb ao len cap zs w R X 3 (w5.setCell ⟨X, 4, none⟩ (.int .i64 y))) := HM5.out.put4 HNE.out.2.2.1 HNE.out.2.2.2.1 HNE.out.2.2.2.2.1 _ fun a b c n s h => qr_of (by decide) hN0 hN1 h.1 h.2.2.1 h.2.1.1 (by rw [h.2.2.2.2]; rfl) (by have hb := h.2.1.2; show (decide (0 ≤ y ∧ y ≤ 8) && decide (wrap64 (b + y) ≤ 8)) = true; rw [decide_eq_true (by omega), decide_eq_true (by unfold wrap64; omega)]; rfl)
      clear hd5
      obtain ⟨⟨v1, c1⟩, ⟨v2, c2⟩, ⟨v3, c3⟩, ⟨v4, c4⟩, ⟨v5, c5⟩⟩ := HM5.out.cells
      have f5 := fun i => HM5.out.free i
      go_upto_region 24 with fail
      generalize (w5.setCell ⟨X, 4, none⟩ (.int .i64 y)) = w6 at HM6 ⊢
      obtain ⟨a, b, c, n, s, hd, hw⟩ := HM6.out
      have HD : Hid (Dx cb ao len cap zs w w6 R X ⟨_, a, b, c, n, s⟩) := hd
      have HW : Hid (specOk ⟨_, a, b, c, n, s⟩ N = true) := hw
      have HDR : Hid (Drawn cb ao len cap zs w w6) := ⟨hd.cur, hd.trn⟩
      clear hd hw HM HM6
      have x0 := HD.out.cell 0
      have x1 := HD.out.cell 1
      have x2 := HD.out.cell 2
      have x3 := HD.out.cell 3
      have x4 := HD.out.cell 4
      have x5 := HD.out.cell 5
      have r0 := blk_at HD.out.res 0
      have r1 := blk_at HD.out.res 1
      have r2 := blk_at HD.out.res 2
      have r3 := blk_at HD.out.res 3
      have r4 := blk_at HD.out.res 4
      have r5 := blk_at HD.out.res 5
      have rf := fun i => blk_free HD.out.res i
      simp only [insV, zeroI, List.getElem?_toArray, List.getElem?_cons_zero, List.getElem?_cons_succ] at x0 x1 x2 x3 x4 x5 r0 r1 r2 r3 r4 r5
      have HWF : Hid (∀ (a b c d e g : Value), ((((((w6.setCell ⟨R, 0, none⟩ a).setCell ⟨R, 1, none⟩ b).setCell ⟨R, 2, none⟩ c).setCell ⟨R, 3, none⟩ d).setCell ⟨R, 4, none⟩ e).setCell ⟨R, 5, none⟩ g).heap[R]? = some (.cells #[a, b, c, d, e, g] 47 (0, 0))) := fun a b c d e g => set_blk6 HD.out.res a b c d e g
      go_wp2_with fail
      refine bodyPost_ret (res_ins Tryz.results40 (HWF.out _ _ _ _ _ _) rfl) rfl ⟨⟨_, _, _, _, _, _, rfl, HW.out⟩, ?_⟩
      have c1 := HNE.out.2.2.2.2.2.1
      have c2 := HNE.out.2.2.2.2.2.2
      exact drawn_put (drawn_put (drawn_put (drawn_put (drawn_put (drawn_put HDR.out c1 c2 _ _) c1 c2 _ _) c1 c2 _ _) c1 c2 _ _) c1 c2 _ _) c1 c2 _ _
  by_cases k5 : k = 5
  · subst k5
    · have b0 : wc.cell? ⟨X, 0, none⟩ = some (.int .i64 6) := HM.out.op
      go_wp2_with (go_at_call 18; fail)
      refine (below_any cb ao len cap zs _ HM.out.cur 4 (by omega) (by omega)).mono ?_
      rintro e w5 ⟨y, rfl, hy0, hy1, hd5⟩
      have HM5 : Hid (Mid (Q3 5) cb ao len cap zs w R X 5 w5) := HM.out.call HNE.out.1 HNE.out.2.1 hd5
      have HM6 : Hid (Mid (QR 5 N) cb ao len cap zs w R X 5 (w5.setCell ⟨X, 4, none⟩ (.int .i64 y))) := HM5.out.put4 HNE.out.2.2.1 HNE.out.2.2.2.1 HNE.out.2.2.2.2.1 _ fun a b c n s h => qr_of (by decide) hN0 hN1 h.1 h.2.2.1 h.2.1.1 (by rw [h.2.2.2.2]; rfl) (by show decide (0 ≤ y ∧ y ≤ 7) = true; exact decide_eq_true (by omega))
      clear hd5
      obtain ⟨⟨v1, c1⟩, ⟨v2, c2⟩, ⟨v3, c3⟩, ⟨v4, c4⟩, ⟨v5, c5⟩⟩ := HM5.out.cells
      have f5 := fun i => HM5.out.free i
      go_upto_region 24 with fail
      generalize (w5.setCell ⟨X, 4, none⟩ (.int .i64 y)) = w6 at HM6 ⊢
      obtain ⟨a, b, c, n, s, hd, hw⟩ := HM6.out
      have HD : Hid (Dx cb ao len cap zs w w6 R X ⟨_, a, b, c, n, s⟩) := hd
      have HW : Hid (specOk ⟨_, a, b, c, n, s⟩ N = true) := hw
      have HDR : Hid (Drawn cb ao len cap zs w w6) := ⟨hd.cur, hd.trn⟩
      clear hd hw HM HM6
      have x0 := HD.out.cell 0
      have x1 := HD.out.cell 1
      have x2 := HD.out.cell 2
      have x3 := HD.out.cell 3
      have x4 := HD.out.cell 4
      have x5 := HD.out.cell 5
      have r0 := blk_at HD.out.res 0
      have r1 := blk_at HD.out.res 1
      have r2 := blk_at HD.out.res 2
      have r3 := blk_at HD.out.res 3
      have r4 := blk_at HD.out.res 4
      have r5 := blk_at HD.out.res 5
      have rf := fun i => blk_free HD.out.res i
      simp only [insV, zeroI, List.getElem?_toArray, List.getElem?_cons_zero, List.getElem?_cons_succ] at x0 x1 x2 x3 x4 x5 r0 r1 r2 r3 r4 r5
      have HWF : Hid (∀ (a b c d e g : Value), ((((((w6.setCell ⟨R, 0, none⟩ a).setCell ⟨R, 1, none⟩ b).setCell ⟨R, 2, none⟩ c).setCell ⟨R, 3, none⟩ d).setCell ⟨R, 4, none⟩ e).setCell ⟨R, 5, none⟩ g).heap[R]? = some (.cells #[a, b, c, d, e, g] 47 (0, 0))) := fun a b c d e g => set_blk6 HD.out.res a b c d e g
      go_wp2_with fail
      refine bodyPost_ret (res_ins Tryz.results40 (HWF.out _ _ _ _ _ _) rfl) rfl ⟨⟨_, _, _, _, _, _, rfl, HW.out⟩, ?_⟩
      have c1 := HNE.out.2.2.2.2.2.1
      have c2 := HNE.out.2.2.2.2.2.2
      exact drawn_put (drawn_put (drawn_put (drawn_put (drawn_put (drawn_put HDR.out c1 c2 _ _) c1 c2 _ _) c1 c2 _ _) c1 c2 _ _) c1 c2 _ _) c1 c2 _ _
  by_cases k9 : k = 9
  · subst k9
    · have b0 : wc.cell? ⟨X, 0, none⟩ = some (.int .i64 10) := HM.out.op
      go_wp2_with (go_at_call 18; fail)
      refine (below_any cb ao len cap zs _ HM.out.cur N (by omega) (by omega)).mono ?_
      rintro e w5 ⟨y, rfl, hy0, hy1, hd5⟩
      have HM5 : Hid (Mid (Q3 9) cb ao len cap zs w R X 9 w5) := HM.out.call HNE.out.1 HNE.out.2.1 hd5
      have HM6 : Hid (Mid (QR 9 N) cb ao len cap zs w R X 9 (w5.setCell ⟨X, 4, none⟩ (.int .i64 y))) := HM5.out.put4 HNE.out.2.2.1 HNE.out.2.2.2.1 HNE.out.2.2.2.2.1 _ fun a b c n s h => qr_of (by decide) hN0 hN1 h.1 h.2.2.1 h.2.1.1 (by rw [h.2.2.2.2]; rfl) (by show decide (0 ≤ y ∧ y < N) = true; exact decide_eq_true (by omega))
      clear hd5
      obtain ⟨⟨v1, c1⟩, ⟨v2, c2⟩, ⟨v3, c3⟩, ⟨v4, c4⟩, ⟨v5, c5⟩⟩ := HM5.out.cells
      have f5 := fun i => HM5.out.free i
      go_upto_region 24 with fail
      generalize (w5.setCell ⟨X, 4, none⟩ (.int .i64 y)) = w6 at HM6 ⊢
      obtain ⟨a, b, c, n, s, hd, hw⟩ := HM6.out
      have HD : Hid (Dx cb ao len cap zs w w6 R X ⟨_, a, b, c, n, s⟩) := hd
      have HW : Hid (specOk ⟨_, a, b, c, n, s⟩ N = true) := hw
      have HDR : Hid (Drawn cb ao len cap zs w w6) := ⟨hd.cur, hd.trn⟩
      clear hd hw HM HM6
      have x0 := HD.out.cell 0
      have x1 := HD.out.cell 1
      have x2 := HD.out.cell 2
      have x3 := HD.out.cell 3
      have x4 := HD.out.cell 4
      have x5 := HD.out.cell 5
      have r0 := blk_at HD.out.res 0
      have r1 := blk_at HD.out.res 1
      have r2 := blk_at HD.out.res 2
      have r3 := blk_at HD.out.res 3
      have r4 := blk_at HD.out.res 4
      have r5 := blk_at HD.out.res 5
      have rf := fun i => blk_free HD.out.res i
      simp only [insV, zeroI, List.getElem?_toArray, List.getElem?_cons_zero, List.getElem?_cons_succ] at x0 x1 x2 x3 x4 x5 r0 r1 r2 r3 r4 r5
      have HWF : Hid (∀ (a b c d e g : Value), ((((((w6.setCell ⟨R, 0, none⟩ a).setCell ⟨R, 1, none⟩ b).setCell ⟨R, 2, none⟩ c).setCell ⟨R, 3, none⟩ d).setCell ⟨R, 4, none⟩ e).setCell ⟨R, 5, none⟩ g).heap[R]? = some (.cells #[a, b, c, d, e, g] 47 (0, 0))) := fun a b c d e g => set_blk6 HD.out.res a b c d e g
      go_wp2_with fail
      refine bodyPost_ret (res_ins Tryz.results40 (HWF.out _ _ _ _ _ _) rfl) rfl ⟨⟨_, _, _, _, _, _, rfl, HW.out⟩, ?_⟩
      have c1 := HNE.out.2.2.2.2.2.1
      have c2 := HNE.out.2.2.2.2.2.2
      exact drawn_put (drawn_put (drawn_put (drawn_put (drawn_put (drawn_put HDR.out c1 c2 _ _) c1 c2 _ _) c1 c2 _ _) c1 c2 _ _) c1 c2 _ _) c1 c2 _ _
  by_cases k11 : k = 11
  · subst k11
    · have b0 : wc.cell? ⟨X, 0, none⟩ = some (.int .i64 12) := HM.out.op
      go_wp2_with (go_at_call 18; fail)
      refine (below_any cb ao len cap zs _ HM.out.cur N (by omega) (by omega)).mono ?_
      rintro e w5 ⟨y, rfl, hy0, hy1, hd5⟩
      have HM5 : Hid (Mid (Q3 11) cb ao len cap zs w R X 11 w5) := HM.out.call HNE.out.1 HNE.out.2.1 hd5
      have HM6 : Hid (Mid (QR 11 N) cb ao len cap zs w R X 11 (w5.setCell ⟨X, 4, none⟩ (.int .i64 y))) := HM5.out.put4 HNE.out.2.2.1 HNE.out.2.2.2.1 HNE.out.2.2.2.2.1 _ fun a b c n s h => qr_of (by decide) hN0 hN1 h.1 h.2.2.1 h.2.1.1 (by rw [h.2.2.2.2]; rfl) (by show decide (0 ≤ y ∧ y < N) = true; exact decide_eq_true (by omega))
      clear hd5
      obtain ⟨⟨v1, c1⟩, ⟨v2, c2⟩, ⟨v3, c3⟩, ⟨v4, c4⟩, ⟨v5, c5⟩⟩ := HM5.out.cells
      have f5 := fun i => HM5.out.free i
      go_upto_region 24 with fail
      generalize (w5.setCell ⟨X, 4, none⟩ (.int .i64 y)) = w6 at HM6 ⊢
      obtain ⟨a, b, c, n, s, hd, hw⟩ := HM6.out
      have HD : Hid (Dx cb ao len cap zs w w6 R X ⟨_, a, b, c, n, s⟩) := hd
      have HW : Hid (specOk ⟨_, a, b, c, n, s⟩ N = true) := hw
      have HDR : Hid (Drawn cb ao len cap zs w w6) := ⟨hd.cur, hd.trn⟩
      clear hd hw HM HM6
      have x0 := HD.out.cell 0
      have x1 := HD.out.cell 1
      have x2 := HD.out.cell 2
      have x3 := HD.out.cell 3
      have x4 := HD.out.cell 4
      have x5 := HD.out.cell 5
      have r0 := blk_at HD.out.res 0
      have r1 := blk_at HD.out.res 1
      have r2 := blk_at HD.out.res 2
      have r3 := blk_at HD.out.res 3
      have r4 := blk_at HD.out.res 4
      have r5 := blk_at HD.out.res 5
      have rf := fun i => blk_free HD.out.res i
      simp only [insV, zeroI, List.getElem?_toArray, List.getElem?_cons_zero, List.getElem?_cons_succ] at x0 x1 x2 x3 x4 x5 r0 r1 r2 r3 r4 r5
      have HWF : Hid (∀ (a b c d e g : Value), ((((((w6.setCell ⟨R, 0, none⟩ a).setCell ⟨R, 1, none⟩ b).setCell ⟨R, 2, none⟩ c).setCell ⟨R, 3, none⟩ d).setCell ⟨R, 4, none⟩ e).setCell ⟨R, 5, none⟩ g).heap[R]? = some (.cells #[a, b, c, d, e, g] 47 (0, 0))) := fun a b c d e g => set_blk6 HD.out.res a b c d e g
      go_wp2_with fail
      refine bodyPost_ret (res_ins Tryz.results40 (HWF.out _ _ _ _ _ _) rfl) rfl ⟨⟨_, _, _, _, _, _, rfl, HW.out⟩, ?_⟩
      have c1 := HNE.out.2.2.2.2.2.1
      have c2 := HNE.out.2.2.2.2.2.2
      exact drawn_put (drawn_put (drawn_put (drawn_put (drawn_put (drawn_put HDR.out c1 c2 _ _) c1 c2 _ _) c1 c2 _ _) c1 c2 _ _) c1 c2 _ _) c1 c2 _ _
  by_cases k15 : k = 15
  · subst k15
    · have b0 : wc.cell? ⟨X, 0, none⟩ = some (.int .i64 16) := HM.out.op
      go_wp2_with (go_at_call 18; fail)
      refine (below_any cb ao len cap zs _ HM.out.cur N (by omega) (by omega)).mono ?_
      rintro e w5 ⟨y, rfl, hy0, hy1, hd5⟩
      have HM5 : Hid (Mid (Q3 15) cb ao len cap zs w R X 15 w5) := HM.out.call HNE.out.1 HNE.out.2.1 hd5
      have HM6 : Hid (Mid (QR 15 N) cb ao len cap zs w R X 15 (w5.setCell ⟨X, 4, none⟩ (.int .i64 y))) := HM5.out.put4 HNE.out.2.2.1 HNE.out.2.2.2.1 HNE.out.2.2.2.2.1 _ fun a b c n s h => qr_of (by decide) hN0 hN1 h.1 h.2.2.1 h.2.1.1 (by rw [h.2.2.2.2]; rfl) (by show decide (0 ≤ y ∧ y < N) = true; exact decide_eq_true (by omega))
      clear hd5
      obtain ⟨⟨v1, c1⟩, ⟨v2, c2⟩, ⟨v3, c3⟩, ⟨v4, c4⟩, ⟨v5, c5⟩⟩ := HM5.out.cells
      have f5 := fun i => HM5.out.free i
      go_upto_region 24 with fail
      generalize (w5.setCell ⟨X, 4, none⟩ (.int .i64 y)) = w6 at HM6 ⊢
      obtain ⟨a, b, c, n, s, hd, hw⟩ := HM6.out
      have HD : Hid (Dx cb ao len cap zs w w6 R X ⟨_, a, b, c, n, s⟩) := hd
      have HW : Hid (specOk ⟨_, a, b, c, n, s⟩ N = true) := hw
      have HDR : Hid (Drawn cb ao len cap zs w w6) := ⟨hd.cur, hd.trn⟩
      clear hd hw HM HM6
      have x0 := HD.out.cell 0
      have x1 := HD.out.cell 1
      have x2 := HD.out.cell 2
      have x3 := HD.out.cell 3
      have x4 := HD.out.cell 4
      have x5 := HD.out.cell 5
      have r0 := blk_at HD.out.res 0
      have r1 := blk_at HD.out.res 1
      have r2 := blk_at HD.out.res 2
      have r3 := blk_at HD.out.res 3
      have r4 := blk_at HD.out.res 4
      have r5 := blk_at HD.out.res 5
      have rf := fun i => blk_free HD.out.res i
      simp only [insV, zeroI, List.getElem?_toArray, List.getElem?_cons_zero, List.getElem?_cons_succ] at x0 x1 x2 x3 x4 x5 r0 r1 r2 r3 r4 r5
      have HWF : Hid (∀ (a b c d e g : Value), ((((((w6.setCell ⟨R, 0, none⟩ a).setCell ⟨R, 1, none⟩ b).setCell ⟨R, 2, none⟩ c).setCell ⟨R, 3, none⟩ d).setCell ⟨R, 4, none⟩ e).setCell ⟨R, 5, none⟩ g).heap[R]? = some (.cells #[a, b, c, d, e, g] 47 (0, 0))) := fun a b c d e g => set_blk6 HD.out.res a b c d e g
      go_wp2_with fail
      refine bodyPost_ret (res_ins Tryz.results40 (HWF.out _ _ _ _ _ _) rfl) rfl ⟨⟨_, _, _, _, _, _, rfl, HW.out⟩, ?_⟩
      have c1 := HNE.out.2.2.2.2.2.1
      have c2 := HNE.out.2.2.2.2.2.2
      exact drawn_put (drawn_put (drawn_put (drawn_put (drawn_put (drawn_put HDR.out c1 c2 _ _) c1 c2 _ _) c1 c2 _ _) c1 c2 _ _) c1 c2 _ _) c1 c2 _ _
  by_cases k10 : k = 10
  · subst k10
    · have b0 : wc.cell? ⟨X, 0, none⟩ = some (.int .i64 11) := HM.out.op
      go_wp2_with (go_at_call 18; fail)
      refine (below_any cb ao len cap zs _ HM.out.cur 6 (by omega) (by omega)).mono ?_
      rintro e w3 ⟨z, rfl, hz0, hz1, hd3⟩
      have HM3 : Hid (Mid (Q3 10) cb ao len cap zs w R X 10 w3) := HM.out.call HNE.out.1 HNE.out.2.1 hd3
      have ez : IntKind.i64.wrap (1 + z) = 1 + z := by rw [IntKind.wrap_i64]; omega
      have HM4 : Hid (Mid (fun a b c n s => regB (useT 11).data.toList 65 a = true ∧ Atom.inB b 1 6 = true ∧ regB (useT 11).data.toList 67 c = true ∧ n = 0 ∧ s = ⟨#[]⟩) cb ao len cap zs w R X 10 (w3.setCell ⟨X, 2, none⟩ (.int .i64 (1 + z)))) := HM3.out.put2 HNE.out.2.2.1 HNE.out.2.2.2.1 HNE.out.2.2.2.2.1 _ fun a b c n s h => ⟨h.1, decide_eq_true (by omega), h.2.2⟩
      clear hd3
      obtain ⟨⟨v1, c1⟩, ⟨v2, c2⟩, ⟨v3, c3⟩, ⟨v4, c4⟩, ⟨v5, c5⟩⟩ := HM3.out.cells
      have f5 := fun i => HM3.out.free i
      go_upto_region 19 with fail
      clear c1 c2 c3 c4 c5 f5 HM3
      generalize (w3.setCell ⟨X, 2, none⟩ (.int .i64 (1 + z))) = w4 at HM4 ⊢
      go_wp2_with (go_at_call 18; fail)
      refine (below_any cb ao len cap zs _ HM4.out.cur N (by omega) (by omega)).mono ?_
      rintro e w5 ⟨y, rfl, hy0, hy1, hd5⟩
      have HM5 : Hid (Mid (fun a b c n s => regB (useT 11).data.toList 65 a = true ∧ Atom.inB b 1 6 = true ∧ regB (useT 11).data.toList 67 c = true ∧ n = 0 ∧ s = ⟨#[]⟩) cb ao len cap zs w R X 10 w5) := HM4.out.call HNE.out.1 HNE.out.2.1 hd5
      have HM6 : Hid (Mid (QR 10 N) cb ao len cap zs w R X 10 (w5.setCell ⟨X, 4, none⟩ (.int .i64 y))) := HM5.out.put4 HNE.out.2.2.1 HNE.out.2.2.2.1 HNE.out.2.2.2.2.1 _ fun a b c n s h => qr_of (by decide) hN0 hN1 h.1 h.2.2.1 h.2.1 (by rw [h.2.2.2.2]; rfl) (by show decide (0 ≤ y ∧ y < N) = true; exact decide_eq_true (by omega))
      clear hd5
      obtain ⟨⟨v1, c1⟩, ⟨v2, c2⟩, ⟨v3, c3⟩, ⟨v4, c4⟩, ⟨v5, c5⟩⟩ := HM5.out.cells
      have f5 := fun i => HM5.out.free i
      go_upto_region 24 with fail
      generalize (w5.setCell ⟨X, 4, none⟩ (.int .i64 y)) = w6 at HM6 ⊢
      obtain ⟨a, b, c, n, s, hd, hw⟩ := HM6.out
      have HD : Hid (Dx cb ao len cap zs w w6 R X ⟨_, a, b, c, n, s⟩) := hd
      have HW : Hid (specOk ⟨_, a, b, c, n, s⟩ N = true) := hw
      have HDR : Hid (Drawn cb ao len cap zs w w6) := ⟨hd.cur, hd.trn⟩
      clear hd hw HM HM6
      have x0 := HD.out.cell 0
      have x1 := HD.out.cell 1
      have x2 := HD.out.cell 2
      have x3 := HD.out.cell 3
      have x4 := HD.out.cell 4
      have x5 := HD.out.cell 5
      have r0 := blk_at HD.out.res 0
      have r1 := blk_at HD.out.res 1
      have r2 := blk_at HD.out.res 2
      have r3 := blk_at HD.out.res 3
      have r4 := blk_at HD.out.res 4
      have r5 := blk_at HD.out.res 5
      have rf := fun i => blk_free HD.out.res i
      simp only [insV, zeroI, List.getElem?_toArray, List.getElem?_cons_zero, List.getElem?_cons_succ] at x0 x1 x2 x3 x4 x5 r0 r1 r2 r3 r4 r5
      have HWF : Hid (∀ (a b c d e g : Value), ((((((w6.setCell ⟨R, 0, none⟩ a).setCell ⟨R, 1, none⟩ b).setCell ⟨R, 2, none⟩ c).setCell ⟨R, 3, none⟩ d).setCell ⟨R, 4, none⟩ e).setCell ⟨R, 5, none⟩ g).heap[R]? = some (.cells #[a, b, c, d, e, g] 47 (0, 0))) := fun a b c d e g => set_blk6 HD.out.res a b c d e g
      go_wp2_with fail
      refine bodyPost_ret (res_ins Tryz.results40 (HWF.out _ _ _ _ _ _) rfl) rfl ⟨⟨_, _, _, _, _, _, rfl, HW.out⟩, ?_⟩
      have c1 := HNE.out.2.2.2.2.2.1
      have c2 := HNE.out.2.2.2.2.2.2
      exact drawn_put (drawn_put (drawn_put (drawn_put (drawn_put (drawn_put HDR.out c1 c2 _ _) c1 c2 _ _) c1 c2 _ _) c1 c2 _ _) c1 c2 _ _) c1 c2 _ _
  · have b0 := HM.out.op
    have q1 : ((k : Int) + 1 == 1) = false := beq_eq_false_iff_ne.2 (by omega)
    have q2 : ((k : Int) + 1 == 2) = false := beq_eq_false_iff_ne.2 (by omega)
    have q4 : ((k : Int) + 1 == 4) = false := beq_eq_false_iff_ne.2 (by omega)
    have q6 : ((k : Int) + 1 == 6) = false := beq_eq_false_iff_ne.2 (by omega)
    have q11 : ((k : Int) + 1 == 11) = false := beq_eq_false_iff_ne.2 (by omega)
    have q10 : ((k : Int) + 1 == 10) = false := beq_eq_false_iff_ne.2 (by omega)
    have q12 : ((k : Int) + 1 == 12) = false := beq_eq_false_iff_ne.2 (by omega)
    have q16 : ((k : Int) + 1 == 16) = false := beq_eq_false_iff_ne.2 (by omega)
    · have HM6 : Hid (Mid (QR k N) cb ao len cap zs w R X k wc) := HM.out.imp fun a b c n s h => qr_of hk hN0 hN1 h.1 h.2.2.1 (by rw [if_neg (by omega)]; exact h.2.1.1) (by rw [if_neg (by omega), h.2.2.2.2]; rfl) (by
        unfold numB
        rw [if_neg (show ¬ ((k : Int) + 1 = 1) by omega), if_neg (show ¬ ((k : Int) + 1 = 4) by omega), if_neg (show ¬ ((k : Int) + 1 = 6) by omega), if_neg (show ¬ ((k : Int) + 1 = 10 ∨ (k : Int) + 1 = 11 ∨ (k : Int) + 1 = 12 ∨ (k : Int) + 1 = 16) by omega), h.2.2.2.1]; rfl)
      go_upto_region 24 with fail
      generalize wc = w6 at HM6 ⊢
      obtain ⟨a, b, c, n, s, hd, hw⟩ := HM6.out
      have HD : Hid (Dx cb ao len cap zs w w6 R X ⟨_, a, b, c, n, s⟩) := hd
      have HW : Hid (specOk ⟨_, a, b, c, n, s⟩ N = true) := hw
      have HDR : Hid (Drawn cb ao len cap zs w w6) := ⟨hd.cur, hd.trn⟩
      clear hd hw HM HM6
      have x0 := HD.out.cell 0
      have x1 := HD.out.cell 1
      have x2 := HD.out.cell 2
      have x3 := HD.out.cell 3
      have x4 := HD.out.cell 4
      have x5 := HD.out.cell 5
      have r0 := blk_at HD.out.res 0
      have r1 := blk_at HD.out.res 1
      have r2 := blk_at HD.out.res 2
      have r3 := blk_at HD.out.res 3
      have r4 := blk_at HD.out.res 4
      have r5 := blk_at HD.out.res 5
      have rf := fun i => blk_free HD.out.res i
      simp only [insV, zeroI, List.getElem?_toArray, List.getElem?_cons_zero, List.getElem?_cons_succ] at x0 x1 x2 x3 x4 x5 r0 r1 r2 r3 r4 r5
      have HWF : Hid (∀ (a b c d e g : Value), ((((((w6.setCell ⟨R, 0, none⟩ a).setCell ⟨R, 1, none⟩ b).setCell ⟨R, 2, none⟩ c).setCell ⟨R, 3, none⟩ d).setCell ⟨R, 4, none⟩ e).setCell ⟨R, 5, none⟩ g).heap[R]? = some (.cells #[a, b, c, d, e, g] 47 (0, 0))) := fun a b c d e g => set_blk6 HD.out.res a b c d e g
      go_wp2_with fail
      refine bodyPost_ret (res_ins Tryz.results40 (HWF.out _ _ _ _ _ _) rfl) rfl ⟨⟨_, _, _, _, _, _, rfl, HW.out⟩, ?_⟩
      have c1 := HNE.out.2.2.2.2.2.1
      have c2 := HNE.out.2.2.2.2.2.2
      exact drawn_put (drawn_put (drawn_put (drawn_put (drawn_put (drawn_put HDR.out c1 c2 _ _) c1 c2 _ _) c1 c2 _ _) c1 c2 _ _) c1 c2 _ _) c1 c2 _ _
end Go.Proofs.YtgdlkekjbdkjjaaGreatDoor.Code
