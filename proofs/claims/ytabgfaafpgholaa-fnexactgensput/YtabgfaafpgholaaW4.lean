/-
  What a turn of one block leaves.
  (Ahead of it, in this text: The cursor of a draw: what l1Byte, l1Below, l1Once and l1Int answer (which number is drawn is left open). Rows of strings: where one stands first; what both kinds of AtomAt answer; how the laws compare two rows. A row of numbers in a block, and how it turns; what l2Lay leaves.)
-/
import Derived.Test.YtabgfaafpgholaaW1
import Derived.WalkSmall
import Derived.BigQuiet
import Derived.OpenShut
import Derived.Deep.OwnRows
namespace Go.Proofs.Ytabgfaafpgholaa
open Go.RowKit
set_option linter.unusedVariables false

/-- Of what was there the block cb alone has turned. -/
structure Turn (cb : Nat) (w w' : World) : Prop where
  os : w'.os = w.os
  tape : w'.tape = w.tape
  output : w'.output = w.output
  size : w.heap.size ≤ w'.heap.size
  block : ∀ k, k < w.heap.size → k ≠ cb → w'.heap[k]? = w.heap[k]?

theorem Turn.refl (cb : Nat) (w : World) : Turn cb w w := ⟨rfl, rfl, rfl, Nat.le_refl _, fun _ _ _ => rfl⟩
theorem Turn.trans {cb : Nat} {a b c : World} (h : Turn cb a b) (k : Turn cb b c) : Turn cb a c :=
  ⟨k.os.trans h.os, k.tape.trans h.tape, k.output.trans h.output, Nat.le_trans h.size k.size, fun i hi hn => (k.block i (Nat.lt_of_lt_of_le hi h.size) hn).trans (h.block i hi hn)⟩
theorem Turn.of_below {cb : Nat} {w w' : World} (h : Below w.heap.size w w') : Turn cb w w' := ⟨h.os, h.tape, h.output, h.size, fun k hk _ => h.block k hk⟩
theorem Turn.set {cb : Nat} {a w : World} (h : Turn cb a w) (o : Nat) (v : Value) : Turn cb a (w.setCell ⟨cb, o, none⟩ v) :=
  ⟨h.os, h.tape, h.output, by rw [World.size_setCell]; exact h.size, fun k hk hn => (Below.heap_setCell w ⟨cb, o, none⟩ v k hn).trans (h.block k hk hn)⟩
theorem Turn.drewN {cb : Nat} {a w : World} (h : Turn cb a w) (n : Nat) : Turn cb a (w.drewN n) := ⟨h.os, h.tape, h.output, h.size, h.block⟩
theorem Turn.below {cb B : Nat} {W w w' : World} (h : Below B W w) (hB : B ≤ w.heap.size) (t : Turn cb w w') (hcb : B ≤ cb) : Below B W w' :=
  ⟨t.os.trans h.os, t.tape.trans h.tape, t.output.trans h.output, Nat.le_trans h.size t.size, fun k hk => (t.block k (Nat.lt_of_lt_of_le hk hB) (by omega)).trans (h.block k hk)⟩
theorem Turn.cell {cb : Nat} {w w' : World} (t : Turn cb w w') {b o : Nat} {v : Value} (hn : b ≠ cb) (hc : w.cell? ⟨b, o, none⟩ = some v) : w'.cell? ⟨b, o, none⟩ = some v := by
  have hb := World.block_lt_of_cell? w _ hc
  rw [World.cell?_of_block (w := w) (t.block b hb hn)]; exact hc

/-- The cursor in the block cb over the bytes zs of a slice that lies below it. -/
structure Cur (cb : Nat) (ao : Option Addr) (len cap : Nat) (zs : List Int) (w : World) : Prop where
  c0 : w.cell? ⟨cb, 0, none⟩ = some (.slice ao len cap)
  c1 : ∃ i : Nat, i ≤ len ∧ w.cell? ⟨cb, 1, none⟩ = some (.int .i64 i)
  c2 : ∃ h : Int, w.cell? ⟨cb, 2, none⟩ = some (.int .i64 h)
  free : ∀ o, w.frozen? ⟨cb, o, none⟩ = false
  code : len ≠ 0 → ∃ b off, ao = some ⟨b, off, none⟩ ∧ b < cb ∧ ∀ j, j < len → w.cell? ⟨b, off + j, none⟩ = some (.int .u8 (zs.getD j 0))
  rng : ∀ j, 0 ≤ zs.getD j 0 ∧ zs.getD j 0 ≤ 255
  small : len ≤ 1048576

theorem Cur.below {cb : Nat} {ao : Option Addr} {len cap : Nat} {zs : List Int} {w w' : World} (h : Cur cb ao len cap zs w) (hb : Below w.heap.size w w') : Cur cb ao len cap zs w' := by
  have hlt := World.block_lt_of_cell? w _ h.c0
  have e : ∀ b o v, w.cell? ⟨b, o, none⟩ = some v → w'.cell? ⟨b, o, none⟩ = some v := fun b o v hc => by
    rw [hb.cell (p := ⟨b, o, none⟩) (World.block_lt_of_cell? w _ hc)]; exact hc
  obtain ⟨i, hi, h1⟩ := h.c1
  obtain ⟨x, h2⟩ := h.c2
  refine ⟨e _ _ _ h.c0, ⟨i, hi, e _ _ _ h1⟩, ⟨x, e _ _ _ h2⟩, fun o => by rw [hb.frozen (p := ⟨cb, o, none⟩) hlt]; exact h.free o, fun hn => ?_, h.rng, h.small⟩
  obtain ⟨b, off, e1, e2, e3⟩ := h.code hn
  exact ⟨b, off, e1, e2, fun j hj => e _ _ _ (e3 j hj)⟩
theorem Cur.set1 {cb : Nat} {ao : Option Addr} {len cap : Nat} {zs : List Int} {w : World} (h : Cur cb ao len cap zs w) (i : Nat) (hi : i ≤ len) (y : Int) (hy : y = i) : Cur cb ao len cap zs (w.setCell ⟨cb, 1, none⟩ (.int .i64 y)) := by
  subst hy
  obtain ⟨j, _, h1⟩ := h.c1
  obtain ⟨x, h2⟩ := h.c2
  refine ⟨?_, ⟨i, hi, World.cell?_setCell_same w _ _ h1⟩, ⟨x, ?_⟩, fun o => by rw [World.frozen?_setCell]; exact h.free o, fun hn => ?_, h.rng, h.small⟩
  · rw [World.cell?_setCell_other (h := by simp)]; exact h.c0
  · rw [World.cell?_setCell_other (h := by simp)]; exact h2
  · obtain ⟨b, off, e1, e2, e3⟩ := h.code hn
    exact ⟨b, off, e1, e2, fun j hj => by rw [World.cell?_setCell_other (h := fun e => by simp at e; try omega)]; exact e3 j hj⟩
theorem Cur.set2 {cb : Nat} {ao : Option Addr} {len cap : Nat} {zs : List Int} {w : World} (h : Cur cb ao len cap zs w) (x : Int) : Cur cb ao len cap zs (w.setCell ⟨cb, 2, none⟩ (.int .i64 x)) := by
  obtain ⟨j, hj, h1⟩ := h.c1
  obtain ⟨y, h2⟩ := h.c2
  refine ⟨?_, ⟨j, hj, ?_⟩, ⟨x, World.cell?_setCell_same w _ _ h2⟩, fun o => by rw [World.frozen?_setCell]; exact h.free o, fun hn => ?_, h.rng, h.small⟩
  · rw [World.cell?_setCell_other (h := by simp)]; exact h.c0
  · rw [World.cell?_setCell_other (h := by simp)]; exact h1
  · obtain ⟨b, off, e1, e2, e3⟩ := h.code hn
    exact ⟨b, off, e1, e2, fun j hj => by rw [World.cell?_setCell_other (h := fun e => by simp at e; try omega)]; exact e3 j hj⟩
theorem Cur.drewN {cb : Nat} {ao : Option Addr} {len cap : Nat} {zs : List Int} {w : World} (h : Cur cb ao len cap zs w) (n : Nat) : Cur cb ao len cap zs (w.drewN n) :=
  h.below (below_drewN (Below.refl _ _) n)

theorem and255 (n : Int) : bits .and .i64 n 255 = n % 256 := by
  have h255 : (BitVec.ofInt 64 255).toNat = 2 ^ 8 - 1 := by decide
  have key : (BitVec.ofInt 64 n &&& BitVec.ofInt 64 255).toNat = (n % ((2 ^ 64 : Nat) : Int)).toNat % 2 ^ 8 := by
    rw [BitVec.toNat_and, BitVec.toNat_ofInt, h255, Nat.and_two_pow_sub_one_eq_mod]
  show IntKind.i64.wrap ((BitVec.ofInt 64 n &&& BitVec.ofInt 64 255).toNat : Nat) = n % 256
  rw [key, IntKind.wrap_i64]
  omega

set_option maxRecDepth 100000 in
set_option maxHeartbeats 1000000 in
theorem byte_any (cb : Nat) (ao : Option Addr) (len cap : Nat) (zs : List Int) (w : World) (hc : Cur cb ao len cap zs w) :
    Calls Try.prog 74 #[.pointer (some ⟨cb, 0, none⟩)] w fun e w' => ∃ x : Int, e = .returned (.int .i64 x) ∧ 0 ≤ x ∧ x ≤ 255 ∧ Cur cb ao len cap zs w' ∧ Turn cb w w' := by
  have HC : Hid (Cur cb ao len cap zs w) := hc
  have q0 := hc.c0
  obtain ⟨i, hi, q1⟩ := hc.c1
  obtain ⟨h, q2⟩ := hc.c2
  have f2 := hc.free 2
  have f1 := hc.free 1
  have ha := and255
  have hsm := hc.small
  clear hc
  by_cases hlt : i < len
  · obtain ⟨b, off, rfl, hb, hcell⟩ := HC.out.code (by omega)
    have q3 := hcell i hlt
    have hr := HC.out.rng i
    have hne : ¬ b = cb := by omega
    clear hcell
    go_enter Try.func74, Try.ntmps74
    go_wp2_with fail
    go_quiet (fail)
    go_wp2_with fail
    go_quiet (fail)
    go_wp2_with fail
    go_quiet (fail)
    go_wp2_with fail
    go_ret
    refine ⟨_, rfl, Int.emod_nonneg _ (by decide), Int.le_of_lt_add_one (Int.emod_lt_of_pos _ (by decide)), ?_, ?_⟩
    · exact Cur.set1 ((HC.out.set2 _).drewN _) (i + 1) (by omega) _ (by omega)
    · exact Turn.set (((Turn.refl _ _).set 2 _).drewN _) 1 _
  · go_enter Try.func74, Try.ntmps74
    go_wp2_with fail
    go_quiet (fail)
    go_wp2_with fail
    go_quiet (fail)
    go_wp2_with fail
    go_ret
    refine ⟨_, rfl, Int.emod_nonneg _ (by decide), Int.le_of_lt_add_one (Int.emod_lt_of_pos _ (by decide)), ?_, ?_⟩
    · exact ((HC.out.set2 _).drewN _).drewN _
    · exact (((Turn.refl _ _).set 2 _).drewN _).drewN _

/-- What a draw does: the cursor stays one, and nothing but it turns. -/
def Drawn (cb : Nat) (ao : Option Addr) (len cap : Nat) (zs : List Int) (w w' : World) : Prop := Cur cb ao len cap zs w' ∧ Turn cb w w'

set_option maxHeartbeats 1000000 in
theorem below_any (cb : Nat) (ao : Option Addr) (len cap : Nat) (zs : List Int) (w : World) (hc : Cur cb ao len cap zs w) (n : Int) (h0 : 1 ≤ n) (h1 : n ≤ 256) :
    Calls Try.prog 55 #[.pointer (some ⟨cb, 0, none⟩), .int .i64 n] w fun e w' => ∃ x : Int, e = .returned (.int .i64 x) ∧ 0 ≤ x ∧ x < n ∧ Drawn cb ao len cap zs w w' := by
  have HC : Hid (Cur cb ao len cap zs w) := hc
  clear hc
  go_enter Try.func55, Try.ntmps55
  go_wp2_with fail
  refine (byte_any cb ao len cap zs _ HC.out).mono ?_
  rintro e w1 ⟨x, rfl, hx0, hx1, hc1, ht1⟩
  have HD : Hid (Drawn cb ao len cap zs w w1) := ⟨hc1, ht1⟩
  clear hc1 ht1
  go_wp2_with fail
  go_ret
  exact ⟨_, rfl, Int.emod_nonneg _ (by omega), Int.emod_lt_of_pos _ (by omega), HD.out⟩

set_option maxHeartbeats 1000000 in
theorem once_any (cb : Nat) (ao : Option Addr) (len cap : Nat) (zs : List Int) (w : World) (hc : Cur cb ao len cap zs w) (n : Int) (h0 : 1 ≤ n) (h1 : n ≤ 256) :
    Calls Try.prog 54 #[.pointer (some ⟨cb, 0, none⟩), .int .i64 n] w fun e w' => ∃ x : Bool, e = .returned (.bool x) ∧ Drawn cb ao len cap zs w w' := by
  have HC : Hid (Cur cb ao len cap zs w) := hc
  clear hc
  go_enter Try.func54, Try.ntmps54
  go_wp2_with fail
  refine (below_any cb ao len cap zs _ HC.out n h0 h1).mono ?_
  rintro e w1 ⟨x, rfl, hx0, hx1, hd⟩
  have HD : Hid (Drawn cb ao len cap zs w w1) := hd
  clear hd
  go_wp2_with fail
  go_ret
  exact ⟨_, rfl, HD.out⟩

set_option maxHeartbeats 1000000 in
theorem int_any (cb : Nat) (ao : Option Addr) (len cap : Nat) (zs : List Int) (w : World) (hc : Cur cb ao len cap zs w) (g : Nat) (l : List Int) (hg : g ≠ cb) (hl0 : 1 ≤ l.length) (hl1 : l.length ≤ 256) (hcell : ∀ j, j < l.length → w.cell? ⟨g, j, none⟩ = some (.int .i64 (l.getD j 0))) :
    Calls Try.prog 102 #[.pointer (some ⟨cb, 0, none⟩), .slice (some ⟨g, 0, none⟩) l.length l.length] w fun e w' => ∃ x, e = .returned (.int .i64 x) ∧ x ∈ l ∧ Drawn cb ao len cap zs w w' := by
  have HC : Hid (Cur cb ao len cap zs w) := hc
  have HL : Hid (∀ j, j < l.length → w.cell? ⟨g, j, none⟩ = some (.int .i64 (l.getD j 0))) := hcell
  clear hc hcell
  go_enter Try.func102, Try.ntmps102
  go_wp2_with fail
  refine (below_any cb ao len cap zs _ HC.out l.length (by omega) (by omega)).mono ?_
  rintro e w1 ⟨x, rfl, hx0, hx1, hd⟩
  have HD : Hid (Drawn cb ao len cap zs w w1) := hd
  clear hd
  obtain ⟨j, rfl⟩ : ∃ j : Nat, x = j := ⟨x.toNat, by omega⟩
  have hj : j < l.length := by omega
  have q := HD.out.2.cell hg (HL.out j hj)
  have HM : Hid (l.getD j 0 ∈ l) := by
    show l.getD j 0 ∈ l
    rw [List.getD_eq_getElem?_getD, List.getElem?_eq_getElem hj]; exact List.getElem_mem hj
  generalize l.getD j 0 = y at *
  go_wp2_with fail
  go_ret
  exact ⟨_, rfl, HM.out, HD.out⟩

/-- What the law is told of its bytes. -/
def IsRow (w : World) (a : Option Addr) (len cap : Nat) (zs : List Int) : Prop :=
  (a = none ∧ len = 0 ∧ cap = 0 ∧ zs = []) ∨
  ∃ x, a = some x ∧ len ≤ cap ∧ cap ≤ maxLen ∧ zs.length = cap ∧ (∀ i, i < zs.length → w.cell? (x.add i) = some (.int .u8 (zs.getD i 0))) ∧ ∀ n ∈ zs, (Lit.int .u8 n).wf = true

theorem IsRow.at {w : World} {a : Option Addr} {len cap : Nat} {zs : List Int} (h : IsRow w a len cap zs) (hn : len ≠ 0) : ∃ b off, a = some ⟨b, off, none⟩ ∧ ∀ j, j < len → w.cell? ⟨b, off + j, none⟩ = some (.int .u8 (zs.getD j 0)) := by
  rcases h with ⟨_, h0, _, _⟩ | ⟨⟨b, off, spot⟩, rfl, hl, hc, hz, hcell, hw⟩
  · exact absurd h0 hn
  · have h0 := hcell 0 (by omega)
    have hs : spot = none := by simpa [Addr.add] using World.cell?_spot h0
    subst hs
    refine ⟨b, off, rfl, fun j hj => ?_⟩
    have := hcell j (by omega)
    rw [Addr.add_lit] at this
    exact this
theorem IsRow.rng {w : World} {a : Option Addr} {len cap : Nat} {zs : List Int} (h : IsRow w a len cap zs) : ∀ j, 0 ≤ zs.getD j 0 ∧ zs.getD j 0 ≤ 255 := by
  intro j
  rcases h with ⟨_, _, _, rfl⟩ | ⟨_, _, _, _, _, _, hw⟩
  · simp
  · by_cases hj : j < zs.length
    · have hm : zs.getD j 0 ∈ zs := by rw [List.getD_eq_getElem?_getD, List.getElem?_eq_getElem hj]; exact List.getElem_mem hj
      have := bounds_u8 (hw _ hm)
      omega
    · rw [List.getD_eq_getElem?_getD, List.getElem?_eq_none (by omega)]; simp

/-- The cursor in a new block. -/
theorem Cur.new {w : World} {ao : Option Addr} {len cap : Nat} {zs : List Int} (hr : IsRow w ao len cap zs) (hsm : len ≤ 1048576) (x : Int) :
    Cur w.heap.size ao len cap zs (w.alloc (.cells #[.slice ao len cap, .int .i64 0, .int .i64 x] 106)) := by
  refine ⟨by rw [World.cell?_alloc_new]; rfl, ⟨0, Nat.zero_le _, by rw [World.cell?_alloc_new]; rfl⟩, ⟨x, by rw [World.cell?_alloc_new]; rfl⟩, fun o => World.frozen?_alloc_new w _ _ o, fun hn => ?_, hr.rng, hsm⟩
  obtain ⟨b, off, rfl, hcell⟩ := hr.at hn
  have hb : b < w.heap.size := World.block_lt_of_cell? w _ (hcell 0 (by omega))
  exact ⟨b, off, rfl, hb, fun j hj => by rw [World.cell?_alloc_lt (h := hb)]; exact hcell j hj⟩

set_option maxRecDepth 100000 in
set_option maxHeartbeats 1000000 in
theorem new_any (w : World) (ao : Option Addr) (len cap : Nat) (zs : List Int) (hr : IsRow w ao len cap zs) (hsm : len ≤ 1048576) :
    Calls Try.prog 52 #[.slice ao len cap] w fun e w' => e = .returned (.pointer (some ⟨w.heap.size, 0, none⟩)) ∧ Cur w.heap.size ao len cap zs w' ∧ Below w.heap.size w w' ∧ w'.heap.size = w.heap.size + 1 := by
  have HR : Hid (IsRow w ao len cap zs) := hr
  clear hr
  go_enter Try.func52, Try.ntmps52
  go_wp2_with fail
  go_loop [3, 4] (fun h i => ∃ (k : Nat) (x : Int), k ≤ len ∧ i = .int .i64 k ∧ h = .int .i64 x) (fun _ i => len - (intOf i).toNat)
  case atStart => exact ⟨0, _, Nat.zero_le _, rfl, rfl⟩
  case round =>
    obtain ⟨k, x, hk, rfl, rfl⟩ := hrel
    by_cases hlt : k < len
    · obtain ⟨b, off, rfl, hcell⟩ := HR.out.at (by omega)
      have q := hcell k hlt
      by_cases h4 : (k : Int) < 4000
      · go_wp2_with fail
        go_round
        case rel => exact ⟨k + 1, _, by omega, rfl, rfl⟩
        case measure => simp [intOf]; omega
      · go_wp2_with fail
        go_ret
        exact ⟨rfl, Cur.new HR.out hsm x, (Below.refl _ _).alloc (Nat.le_refl _) _, World.size_alloc _ _⟩
    · go_wp2_with fail
      go_ret
      exact ⟨rfl, Cur.new HR.out hsm x, (Below.refl _ _).alloc (Nat.le_refl _) _, World.size_alloc _ _⟩

theorem Turn.frozen {cb : Nat} {w w' : World} (t : Turn cb w w') {b o : Nat} (hn : b ≠ cb) (hb : b < w.heap.size) : w'.frozen? ⟨b, o, none⟩ = w.frozen? ⟨b, o, none⟩ := World.frozen?_of_block (t.block b hb hn)
theorem Turn.alloc {cb : Nat} {w w1 : World} (h : Turn cb w w1) (o : Obj) : Turn cb w (w1.alloc o) :=
  ⟨h.os, h.tape, h.output, Nat.le_trans h.size (by rw [World.size_alloc]; omega), fun k hk hn => by
    show (w1.heap.push _)[k]? = _
    rw [Array.getElem?_push, if_neg (by have := h.size; omega)]; exact h.block k hk hn⟩
theorem Cur.alloc {cb : Nat} {ao : Option Addr} {len cap : Nat} {zs : List Int} {w : World} (h : Cur cb ao len cap zs w) (o : Obj) : Cur cb ao len cap zs (w.alloc o) :=
  h.below ((Below.refl _ _).alloc (Nat.le_refl _) o)
theorem Cur.drew {cb : Nat} {ao : Option Addr} {len cap : Nat} {zs : List Int} {w : World} (h : Cur cb ao len cap zs w) : Cur cb ao len cap zs w.drew := h.below ((Below.refl _ _).drew)
theorem Drawn.drew {cb : Nat} {ao : Option Addr} {len cap : Nat} {zs : List Int} {w w1 : World} (h : Drawn cb ao len cap zs w.drew w1) : Drawn cb ao len cap zs w w1 := ⟨h.1, ⟨h.2.os, h.2.tape, h.2.output, h.2.size, h.2.block⟩⟩
theorem IsRow.below {w w' : World} {ao : Option Addr} {len cap : Nat} {zs : List Int} (h : IsRow w ao len cap zs) (hb : Below w.heap.size w w') : IsRow w' ao len cap zs := by
  rcases h with h | ⟨x, h1, h2, h3, h4, h5, h6⟩
  · exact Or.inl h
  · refine Or.inr ⟨x, h1, h2, h3, h4, fun i hi => ?_, h6⟩
    have := h5 i hi
    rw [hb.cell (World.block_lt_of_cell? w _ this)]; exact this
/-- A list of numbers that is written out. -/
theorem news_ints (w : World) (l : List Int) (t : TypeId) : ∀ j, j < l.length → (w.alloc (.cells (l.map (Value.int .i64)).toArray t)).cell? ⟨w.heap.size, j, none⟩ = some (.int .i64 (l.getD j 0)) := by
  intro j hj
  rw [World.cell?_alloc_new]
  simp [hj]
end Go.Proofs.Ytabgfaafpgholaa
namespace Go.Proofs.Ytabgfaafpgholaa
open Go.RowKit
set_option linter.unusedVariables false

/-- The strings L stand in the block b from o on. -/
def Txt (w : World) (b o : Nat) (L : List ByteArray) : Prop := ∀ j (h : j < L.length), w.cell? ⟨b, o + j, none⟩ = some (.string L[j])
theorem Txt.below {w w' : World} {b o : Nat} {L : List ByteArray} (h : Txt w b o L) (hb : Below w.heap.size w w') : Txt w' b o L := fun j hj => by
  rw [hb.cell (p := ⟨b, o + j, none⟩) (World.block_lt_of_cell? w _ (h j hj))]; exact h j hj
theorem Txt.turn {cb : Nat} {w w' : World} {b o : Nat} {L : List ByteArray} (h : Txt w b o L) (t : Turn cb w w') (hn : b ≠ cb) : Txt w' b o L := fun j hj => t.cell hn (h j hj)

/-- Where s stands first among the first n; -1: nowhere. -/
def idx (L : List ByteArray) (s : ByteArray) : Int := match L with
  | [] => -1
  | x :: l => if x = s then 0 else if idx l s = -1 then -1 else idx l s + 1
theorem idx_ge (L : List ByteArray) (s : ByteArray) : -1 ≤ idx L s := by
  induction L with
  | nil => simp [idx]
  | cons x l ih => rw [idx]; repeat (first | omega | split)
theorem idx_none {L : List ByteArray} {s : ByteArray} (h : ∀ j (hj : j < L.length), L[j] ≠ s) : idx L s = -1 := by
  induction L with
  | nil => rfl
  | cons x l ih =>
    have h0 : x ≠ s := h 0 (by simp)
    have hl := ih (fun j hj => h (j + 1) (by simp; omega))
    rw [idx, if_neg h0, if_pos hl]
theorem idx_at {L : List ByteArray} {s : ByteArray} (m : Nat) (hm : m < L.length) (he : L[m] = s) (h : ∀ j (hj : j < m), L[j] ≠ s) : idx L s = m := by
  induction L generalizing m with
  | nil => simp at hm
  | cons x l ih =>
    cases m with
    | zero => rw [idx, if_pos (show x = s from he)]; rfl
    | succ k =>
      have h0 : x ≠ s := h 0 (by omega)
      have hl := ih k (by simpa using hm) (by simpa using he) (fun j hj => h (j + 1) (by omega))
      rw [idx, if_neg h0, hl, if_neg (by omega)]; omega
/-- Either it stands nowhere, or there is a first place. -/
theorem idx_cases (L : List ByteArray) (s : ByteArray) : (idx L s = -1 ∧ ∀ j (hj : j < L.length), L[j] ≠ s) ∨ ∃ m, ∃ hm : m < L.length, idx L s = m ∧ L[m] = s ∧ ∀ j (hj : j < m), L[j] ≠ s := by
  induction L with
  | nil => exact .inl ⟨rfl, fun j hj => absurd hj (by simp)⟩
  | cons x l ih =>
    by_cases h0 : x = s
    · exact .inr ⟨0, by simp, by rw [idx, if_pos h0]; rfl, h0, fun j hj => absurd hj (by omega)⟩
    · rcases ih with ⟨h1, h2⟩ | ⟨m, hm, h1, h2, h3⟩
      · refine .inl ⟨by rw [idx, if_neg h0, if_pos h1], fun j hj => ?_⟩
        cases j with
        | zero => exact h0
        | succ k => exact h2 k (by simpa using hj)
      · refine .inr ⟨m + 1, by simp; omega, by rw [idx, if_neg h0, h1, if_neg (by omega)]; omega, h2, fun j hj => ?_⟩
        cases j with
        | zero => exact h0
        | succ k => exact h3 k (by omega)
theorem idx_lt (L : List ByteArray) (s : ByteArray) : idx L s < L.length ∨ idx L s = -1 := by
  rcases idx_cases L s with ⟨h, _⟩ | ⟨m, hm, h, _⟩
  · exact .inr h
  · exact .inl (by omega)
theorem idx_mem {L : List ByteArray} {s : ByteArray} (h : 0 ≤ idx L s) : s ∈ L := by
  rcases idx_cases L s with ⟨h1, _⟩ | ⟨m, hm, h1, h2, _⟩
  · omega
  · rw [← h2]; exact List.getElem_mem hm


theorem toList_ne {a b : ByteArray} (h : a ≠ b) : (a.toList == b.toList) = false := by
  rw [beq_eq_false_iff_ne]
  intro e
  rw [ByteArray.toList_eq, ByteArray.toList_eq] at e
  apply h
  cases a; cases b
  simpa using e

set_option maxHeartbeats 1000000 in
theorem specAtomAt_any (b o cap : Nat) (L : List ByteArray) (s : ByteArray) (w : World) (hr : Txt w b o L) (hN : L.length ≤ 1048576) :
    Calls Try.prog 91 #[.slice (some ⟨b, o, none⟩) L.length cap, .string s] w fun e w' => e = .returned (.int .i64 (idx L s)) ∧ w' = w := by
  have HR : Hid (Txt w b o L) := hr
  clear hr
  go_enter Try.func91, Try.ntmps91
  go_wp2_with fail
  go_loop [5] (fun i => ∃ m : Nat, m ≤ L.length ∧ i = .int .i64 m ∧ ∀ j (hj : j < m) (h : j < L.length), L[j] ≠ s) (fun i => L.length - (intOf i).toNat)
  case atStart => exact ⟨0, Nat.zero_le _, rfl, fun j hj => absurd hj (by omega)⟩
  case round =>
    obtain ⟨m, hm, rfl, ha⟩ := hrel
    have HA : Hid (∀ j (hj : j < m) (h : j < L.length), L[j] ≠ s) := ha
    clear ha
    by_cases hlt : m < L.length
    · have q := HR.out m hlt
      by_cases he : L[m] = s
      · have HI : Hid (idx L s = m) := idx_at m hlt he (fun j hj => HA.out j hj (by omega))
        rw [he] at q
        clear he
        go_wp2_with fail
        go_ret
        exact ⟨ret_int HI.out.symm, rfl⟩
      · have HE : Hid (L[m] ≠ s) := he
        generalize hx : L[m] = x at *
        have HX : Hid (L[m] = x) := hx
        clear hx
        have hne := toList_ne he
        go_wp2_with fail
        go_round
        case rel =>
          refine ⟨m + 1, by omega, by go_num, fun j hj h => ?_⟩
          by_cases e : j = m
          · subst e; rw [HX.out]; exact HE.out
          · exact HA.out j (by omega) h
        case measure => simp [intOf]; omega
    · have HI : Hid (idx L s = -1) := idx_none (fun j hj => HA.out j (by omega) hj)
      go_wp2_with fail
      go_ret
      exact ⟨ret_int HI.out.symm, rfl⟩

set_option maxHeartbeats 1000000 in
theorem index_any (b o cap : Nat) (L : List ByteArray) (s : ByteArray) (w : World) (hr : Txt w b o L) (hN : L.length ≤ 1048576) :
    Calls Try.prog 105 #[.slice (some ⟨b, o, none⟩) L.length cap, .string s] w fun e w' => e = .returned (.int .i64 (idx L s)) ∧ w' = w := by
  have HR : Hid (Txt w b o L) := hr
  clear hr
  go_enter Try.func105, Try.ntmps105
  go_wp2_with fail
  go_loop [8] (fun i => ∃ m : Nat, m ≤ L.length ∧ i = .int .i64 m ∧ ∀ j (hj : j < m) (h : j < L.length), L[j] ≠ s) (fun i => L.length - (intOf i).toNat)
  case atStart => exact ⟨0, Nat.zero_le _, rfl, fun j hj => absurd hj (by omega)⟩
  case round =>
    obtain ⟨m, hm, rfl, ha⟩ := hrel
    have HA : Hid (∀ j (hj : j < m) (h : j < L.length), L[j] ≠ s) := ha
    clear ha
    by_cases hlt : m < L.length
    · have q := HR.out m hlt
      by_cases he : L[m] = s
      · have HI : Hid (idx L s = m) := idx_at m hlt he (fun j hj => HA.out j hj (by omega))
        rw [he] at q
        clear he
        go_wp2_with fail
        go_ret
        exact ⟨ret_int HI.out.symm, rfl⟩
      · have HE : Hid (L[m] ≠ s) := he
        generalize hx : L[m] = x at *
        have HX : Hid (L[m] = x) := hx
        clear hx
        have hne := toList_ne (fun e : s = x => he e.symm)
        go_wp2_with fail
        go_round
        case rel =>
          refine ⟨m + 1, by omega, by go_num, fun j hj h => ?_⟩
          by_cases e : j = m
          · subst e; rw [HX.out]; exact HE.out
          · exact HA.out j (by omega) h
        case measure => simp [intOf]; omega
    · have HI : Hid (idx L s = -1) := idx_none (fun j hj => HA.out j (by omega) hj)
      go_wp2_with fail
      go_ret
      exact ⟨ret_int HI.out.symm, rfl⟩

theorem implAtomAt_any (b o cap : Nat) (L : List ByteArray) (s : ByteArray) (w : World) (hr : Txt w b o L) (hN : L.length ≤ 1048576) :
    Calls Try.prog 77 #[.slice (some ⟨b, o, none⟩) L.length cap, .string s] w fun e w' => e = .returned (.int .i64 (idx L s)) ∧ w' = w := by
  have HR : Hid (Txt w b o L) := hr
  clear hr
  go_enter Try.func77, Try.ntmps77
  go_wp2_with fail
  refine (index_any b o cap L s _ HR.out hN).mono ?_
  rintro e w' ⟨rfl, rfl⟩
  go_wp2_with fail
  go_ret
  exact ⟨rfl, rfl⟩
end Go.Proofs.Ytabgfaafpgholaa
namespace Go.Proofs.Ytabgfaafpgholaa
open Go.RowKit
set_option linter.unusedVariables false

/-- The N numbers f stand in the block b from o on, and may be written. -/
structure Ints (w : World) (b o N : Nat) (f : Nat → Int) : Prop where
  cell : ∀ j, j < N → w.cell? ⟨b, o + j, none⟩ = some (.int .i64 (f j))
  free : ∀ x, w.frozen? ⟨b, x, none⟩ = false

def upd (f : Nat → Int) (i : Nat) (x : Int) : Nat → Int := fun j => if j = i then x else f j
theorem upd_same (f : Nat → Int) (i : Nat) (x : Int) : upd f i x i = x := by simp [upd]
theorem upd_other (f : Nat → Int) {i j : Nat} (x : Int) (h : j ≠ i) : upd f i x j = f j := by simp [upd, h]

theorem Ints.congr {w : World} {b o N : Nat} {f g : Nat → Int} (h : Ints w b o N f) (e : ∀ j, j < N → f j = g j) : Ints w b o N g :=
  ⟨fun j hj => by rw [← e j hj]; exact h.cell j hj, h.free⟩
theorem Ints.set {w : World} {b o N : Nat} {f : Nat → Int} (h : Ints w b o N f) (i : Nat) (hi : i < N) (x : Int) : Ints (w.setCell ⟨b, o + i, none⟩ (.int .i64 x)) b o N (upd f i x) := by
  refine ⟨fun j hj => ?_, fun y => by rw [World.frozen?_setCell]; exact h.free y⟩
  by_cases e : j = i
  · subst e
    rw [upd_same]
    exact World.cell?_setCell_same w _ _ (h.cell j hj)
  · rw [upd_other f x e, World.cell?_setCell_other (h := fun q => by simp at q; try omega)]
    exact h.cell j hj
theorem Ints.below {w w' : World} {b o N : Nat} {f : Nat → Int} (h : Ints w b o N f) (hb : Below w.heap.size w w') (hlt : b < w.heap.size) : Ints w' b o N f :=
  ⟨fun j hj => by rw [hb.cell (p := ⟨b, o + j, none⟩) hlt]; exact h.cell j hj, fun x => by rw [hb.frozen (p := ⟨b, x, none⟩) hlt]; exact h.free x⟩
theorem Ints.turn {cb : Nat} {w w' : World} {b o N : Nat} {f : Nat → Int} (h : Ints w b o N f) (t : Turn cb w w') (hn : b ≠ cb) (hlt : b < w.heap.size) : Ints w' b o N f :=
  ⟨fun j hj => t.cell hn (h.cell j hj), fun x => by rw [t.frozen hn hlt]; exact h.free x⟩
theorem Ints.lt {w : World} {b o N : Nat} {f : Nat → Int} (h : Ints w b o N f) (hN : 0 < N) : b < w.heap.size := World.block_lt_of_cell? w _ (h.cell 0 hN)

/-- A block of n words for its holder, laid at p: the holder's words ahead of m stand. -/
def midF (f : Nat → Int) (p n : Nat) (u : Bool) (m : Nat) : Nat → Int := fun j =>
  if j = p then gw p n u 1000 else if j = p + 1 then n else if p + 2 ≤ j ∧ j < m then (if u then 0 else pois j) else f j
def layF (f : Nat → Int) (p n : Nat) (u : Bool) : Nat → Int := upd (midF f p n u (p + 2 + n)) (p + 2 + n) (gw p n u 1001)

theorem mid_start (f : Nat → Int) (p n : Nat) (u : Bool) : ∀ j, upd (upd f p (gw p n u 1000)) (p + 1) n j = midF f p n u (p + 2) j := by
  intro j
  unfold midF upd
  by_cases h1 : j = p + 1
  · subst h1; simp
  · by_cases h2 : j = p
    · subst h2; simp
    · rw [if_neg h1, if_neg h2, if_neg h2, if_neg h1, if_neg (by omega)]
theorem mid_step (f : Nat → Int) (p n : Nat) (u : Bool) (m : Nat) (hm : p + 2 ≤ m) (x : Int) (hx : x = if u then 0 else pois m) : ∀ j, upd (midF f p n u m) m x j = midF f p n u (m + 1) j := by
  intro j
  unfold midF upd
  dsimp only
  by_cases h1 : j = m
  · subst h1
    rw [if_pos rfl, if_neg (by omega), if_neg (by omega), if_pos (by omega)]; exact hx
  · rw [if_neg h1]
    by_cases h2 : j = p
    · rw [if_pos h2, if_pos h2]
    · by_cases h3 : j = p + 1
      · rw [if_neg h2, if_neg h2, if_pos h3, if_pos h3]
      · rw [if_neg h2, if_neg h2, if_neg h3, if_neg h3]
        by_cases h4 : p + 2 ≤ j ∧ j < m
        · have h5 : p + 2 ≤ j ∧ j < m + 1 := by omega
          rw [if_pos h4, if_pos h5]
        · have h5 : ¬ (p + 2 ≤ j ∧ j < m + 1) := by omega
          rw [if_neg h4, if_neg h5]
theorem upd_upd (f : Nat → Int) (i : Nat) (x y : Int) : ∀ j, upd (upd f i x) i y j = upd f i y j := by
  intro j
  unfold upd
  by_cases h : j = i <;> simp [h]

end Go.Proofs.Ytabgfaafpgholaa
namespace Go.Proofs.Ytabgfaafpgholaa
open Go.RowKit
set_option linter.unusedVariables false

theorem Turn.grown {cb : Nat} {w w' : World} (t : Turn cb w w') : w.grownBy w' (some cb) := ⟨t.os, t.tape, t.output, t.size, fun k hk hn => t.block k hk (fun e => hn (by rw [e]))⟩


theorem Cur.same {cb : Nat} {ao : Option Addr} {len cap : Nat} {zs : List Int} {w w' : World} (h : Cur cb ao len cap zs w) (hs : ∀ b, b ≤ cb → w'.heap[b]? = w.heap[b]?) : Cur cb ao len cap zs w' := by
  have e : ∀ b o, b ≤ cb → w'.cell? ⟨b, o, none⟩ = w.cell? ⟨b, o, none⟩ := fun b o hb => World.cell?_of_block (w := w) (hs b hb)
  obtain ⟨i, hi, h1⟩ := h.c1
  obtain ⟨x, h2⟩ := h.c2
  refine ⟨by rw [e _ _ (Nat.le_refl _)]; exact h.c0, ⟨i, hi, by rw [e _ _ (Nat.le_refl _)]; exact h1⟩, ⟨x, by rw [e _ _ (Nat.le_refl _)]; exact h2⟩, fun o => by rw [World.frozen?_of_block (w := w) (hs cb (Nat.le_refl _))]; exact h.free o, fun hn => ?_, h.rng, h.small⟩
  obtain ⟨b, off, e1, e2, e3⟩ := h.code hn
  exact ⟨b, off, e1, e2, fun j hj => by rw [e _ _ (Nat.le_of_lt e2)]; exact e3 j hj⟩


end Go.Proofs.Ytabgfaafpgholaa
