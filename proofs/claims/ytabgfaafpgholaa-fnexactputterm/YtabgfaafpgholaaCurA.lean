/-
  The cursor of a draw: what l1Byte, l1Below, l1Once and l1Int answer (which number is drawn is left open).
-/
import Derived.Test.YtabgfaafpgholaaGuA
import Derived.WalkSmall
import Derived.BigQuiet
import Derived.OpenShut
namespace Go.Proofs.Ytabgfaafpgholaa
open Go.RowKit
set_option linter.unusedVariables false

/-- Of what was there the block cb alone has turned. -/
structure Turn (cb : Nat) (w w' : World) : Prop where
  os : w'.os = w.os
  tape : w'.tape = w.tape
  output : w'.output = w.output
  size : w.heap.size ≤ w'.heap.size
  block : ∀ k, k < w.heap.size → k ≠ cb → w'.heap[k]? = w.heap[k]?

theorem Turn.refl (cb : Nat) (w : World) : Turn cb w w := ⟨rfl, rfl, rfl, Nat.le_refl _, fun _ _ _ => rfl⟩
theorem Turn.trans {cb : Nat} {a b c : World} (h : Turn cb a b) (k : Turn cb b c) : Turn cb a c :=
  ⟨k.os.trans h.os, k.tape.trans h.tape, k.output.trans h.output, Nat.le_trans h.size k.size, fun i hi hn => (k.block i (Nat.lt_of_lt_of_le hi h.size) hn).trans (h.block i hi hn)⟩
theorem Turn.of_below {cb : Nat} {w w' : World} (h : Below w.heap.size w w') : Turn cb w w' := ⟨h.os, h.tape, h.output, h.size, fun k hk _ => h.block k hk⟩
theorem Turn.set {cb : Nat} {a w : World} (h : Turn cb a w) (o : Nat) (v : Value) : Turn cb a (w.setCell ⟨cb, o, none⟩ v) :=
  ⟨h.os, h.tape, h.output, by rw [World.size_setCell]; exact h.size, fun k hk hn => (Below.heap_setCell w ⟨cb, o, none⟩ v k hn).trans (h.block k hk hn)⟩
theorem Turn.drewN {cb : Nat} {a w : World} (h : Turn cb a w) (n : Nat) : Turn cb a (w.drewN n) := ⟨h.os, h.tape, h.output, h.size, h.block⟩
theorem Turn.below {cb B : Nat} {W w w' : World} (h : Below B W w) (hB : B ≤ w.heap.size) (t : Turn cb w w') (hcb : B ≤ cb) : Below B W w' :=
  ⟨t.os.trans h.os, t.tape.trans h.tape, t.output.trans h.output, Nat.le_trans h.size t.size, fun k hk => (t.block k (Nat.lt_of_lt_of_le hk hB) (by omega)).trans (h.block k hk)⟩
theorem Turn.cell {cb : Nat} {w w' : World} (t : Turn cb w w') {b o : Nat} {v : Value} (hn : b ≠ cb) (hc : w.cell? ⟨b, o, none⟩ = some v) : w'.cell? ⟨b, o, none⟩ = some v := by
  have hb := World.block_lt_of_cell? w _ hc
  rw [World.cell?_of_block (w := w) (t.block b hb hn)]; exact hc

/-- The cursor in the block cb over the bytes zs of a slice that lies below it. -/
structure Cur (cb : Nat) (ao : Option Addr) (len cap : Nat) (zs : List Int) (w : World) : Prop where
  c0 : w.cell? ⟨cb, 0, none⟩ = some (.slice ao len cap)
  c1 : ∃ i : Nat, i ≤ len ∧ w.cell? ⟨cb, 1, none⟩ = some (.int .i64 i)
  c2 : ∃ h : Int, w.cell? ⟨cb, 2, none⟩ = some (.int .i64 h)
  free : ∀ o, w.frozen? ⟨cb, o, none⟩ = false
  code : len ≠ 0 → ∃ b off, ao = some ⟨b, off, none⟩ ∧ b < cb ∧ ∀ j, j < len → w.cell? ⟨b, off + j, none⟩ = some (.int .u8 (zs.getD j 0))
  rng : ∀ j, 0 ≤ zs.getD j 0 ∧ zs.getD j 0 ≤ 255
  small : len ≤ 1048576

theorem Cur.below {cb : Nat} {ao : Option Addr} {len cap : Nat} {zs : List Int} {w w' : World} (h : Cur cb ao len cap zs w) (hb : Below w.heap.size w w') : Cur cb ao len cap zs w' := by
  have hlt := World.block_lt_of_cell? w _ h.c0
  have e : ∀ b o v, w.cell? ⟨b, o, none⟩ = some v → w'.cell? ⟨b, o, none⟩ = some v := fun b o v hc => by
    rw [hb.cell (p := ⟨b, o, none⟩) (World.block_lt_of_cell? w _ hc)]; exact hc
  obtain ⟨i, hi, h1⟩ := h.c1
  obtain ⟨x, h2⟩ := h.c2
  refine ⟨e _ _ _ h.c0, ⟨i, hi, e _ _ _ h1⟩, ⟨x, e _ _ _ h2⟩, fun o => by rw [hb.frozen (p := ⟨cb, o, none⟩) hlt]; exact h.free o, fun hn => ?_, h.rng, h.small⟩
  obtain ⟨b, off, e1, e2, e3⟩ := h.code hn
  exact ⟨b, off, e1, e2, fun j hj => e _ _ _ (e3 j hj)⟩
theorem Cur.set1 {cb : Nat} {ao : Option Addr} {len cap : Nat} {zs : List Int} {w : World} (h : Cur cb ao len cap zs w) (i : Nat) (hi : i ≤ len) (y : Int) (hy : y = i) : Cur cb ao len cap zs (w.setCell ⟨cb, 1, none⟩ (.int .i64 y)) := by
  subst hy
  obtain ⟨j, _, h1⟩ := h.c1
  obtain ⟨x, h2⟩ := h.c2
  refine ⟨?_, ⟨i, hi, World.cell?_setCell_same w _ _ h1⟩, ⟨x, ?_⟩, fun o => by rw [World.frozen?_setCell]; exact h.free o, fun hn => ?_, h.rng, h.small⟩
  · rw [World.cell?_setCell_other (h := by simp)]; exact h.c0
  · rw [World.cell?_setCell_other (h := by simp)]; exact h2
  · obtain ⟨b, off, e1, e2, e3⟩ := h.code hn
    exact ⟨b, off, e1, e2, fun j hj => by rw [World.cell?_setCell_other (h := fun e => by simp at e; try omega)]; exact e3 j hj⟩
theorem Cur.set2 {cb : Nat} {ao : Option Addr} {len cap : Nat} {zs : List Int} {w : World} (h : Cur cb ao len cap zs w) (x : Int) : Cur cb ao len cap zs (w.setCell ⟨cb, 2, none⟩ (.int .i64 x)) := by
  obtain ⟨j, hj, h1⟩ := h.c1
  obtain ⟨y, h2⟩ := h.c2
  refine ⟨?_, ⟨j, hj, ?_⟩, ⟨x, World.cell?_setCell_same w _ _ h2⟩, fun o => by rw [World.frozen?_setCell]; exact h.free o, fun hn => ?_, h.rng, h.small⟩
  · rw [World.cell?_setCell_other (h := by simp)]; exact h.c0
  · rw [World.cell?_setCell_other (h := by simp)]; exact h1
  · obtain ⟨b, off, e1, e2, e3⟩ := h.code hn
    exact ⟨b, off, e1, e2, fun j hj => by rw [World.cell?_setCell_other (h := fun e => by simp at e; try omega)]; exact e3 j hj⟩
theorem Cur.drewN {cb : Nat} {ao : Option Addr} {len cap : Nat} {zs : List Int} {w : World} (h : Cur cb ao len cap zs w) (n : Nat) : Cur cb ao len cap zs (w.drewN n) :=
  h.below (below_drewN (Below.refl _ _) n)

theorem and255 (n : Int) : bits .and .i64 n 255 = n % 256 := by
  have h255 : (BitVec.ofInt 64 255).toNat = 2 ^ 8 - 1 := by decide
  have key : (BitVec.ofInt 64 n &&& BitVec.ofInt 64 255).toNat = (n % ((2 ^ 64 : Nat) : Int)).toNat % 2 ^ 8 := by
    rw [BitVec.toNat_and, BitVec.toNat_ofInt, h255, Nat.and_two_pow_sub_one_eq_mod]
  show IntKind.i64.wrap ((BitVec.ofInt 64 n &&& BitVec.ofInt 64 255).toNat : Nat) = n % 256
  rw [key, IntKind.wrap_i64]
  omega

set_option maxRecDepth 100000 in
set_option maxHeartbeats 1000000 in
theorem byte_any (cb : Nat) (ao : Option Addr) (len cap : Nat) (zs : List Int) (w : World) (hc : Cur cb ao len cap zs w) :
    Calls Try.prog 74 #[.pointer (some ⟨cb, 0, none⟩)] w fun e w' => ∃ x : Int, e = .returned (.int .i64 x) ∧ 0 ≤ x ∧ x ≤ 255 ∧ Cur cb ao len cap zs w' ∧ Turn cb w w' := by
  have HC : Hid (Cur cb ao len cap zs w) := hc
  have q0 := hc.c0
  obtain ⟨i, hi, q1⟩ := hc.c1
  obtain ⟨h, q2⟩ := hc.c2
  have f2 := hc.free 2
  have f1 := hc.free 1
  have ha := and255
  have hsm := hc.small
  clear hc
  by_cases hlt : i < len
  · obtain ⟨b, off, rfl, hb, hcell⟩ := HC.out.code (by omega)
    have q3 := hcell i hlt
    have hr := HC.out.rng i
    have hne : ¬ b = cb := by omega
    clear hcell
    go_enter Try.func74, Try.ntmps74
    go_wp2_with fail
    go_quiet (fail)
    go_wp2_with fail
    go_quiet (fail)
    go_wp2_with fail
    go_quiet (fail)
    go_wp2_with fail
    go_ret
    refine ⟨_, rfl, Int.emod_nonneg _ (by decide), Int.le_of_lt_add_one (Int.emod_lt_of_pos _ (by decide)), ?_, ?_⟩
    · exact Cur.set1 ((HC.out.set2 _).drewN _) (i + 1) (by omega) _ (by omega)
    · exact Turn.set (((Turn.refl _ _).set 2 _).drewN _) 1 _
  · go_enter Try.func74, Try.ntmps74
    go_wp2_with fail
    go_quiet (fail)
    go_wp2_with fail
    go_quiet (fail)
    go_wp2_with fail
    go_ret
    refine ⟨_, rfl, Int.emod_nonneg _ (by decide), Int.le_of_lt_add_one (Int.emod_lt_of_pos _ (by decide)), ?_, ?_⟩
    · exact ((HC.out.set2 _).drewN _).drewN _
    · exact (((Turn.refl _ _).set 2 _).drewN _).drewN _

/-- What a draw does: the cursor stays one, and nothing but it turns. -/
def Drawn (cb : Nat) (ao : Option Addr) (len cap : Nat) (zs : List Int) (w w' : World) : Prop := Cur cb ao len cap zs w' ∧ Turn cb w w'

set_option maxHeartbeats 1000000 in
theorem below_any (cb : Nat) (ao : Option Addr) (len cap : Nat) (zs : List Int) (w : World) (hc : Cur cb ao len cap zs w) (n : Int) (h0 : 1 ≤ n) (h1 : n ≤ 256) :
    Calls Try.prog 55 #[.pointer (some ⟨cb, 0, none⟩), .int .i64 n] w fun e w' => ∃ x : Int, e = .returned (.int .i64 x) ∧ 0 ≤ x ∧ x < n ∧ Drawn cb ao len cap zs w w' := by
  have HC : Hid (Cur cb ao len cap zs w) := hc
  clear hc
  go_enter Try.func55, Try.ntmps55
  go_wp2_with fail
  refine (byte_any cb ao len cap zs _ HC.out).mono ?_
  rintro e w1 ⟨x, rfl, hx0, hx1, hc1, ht1⟩
  have HD : Hid (Drawn cb ao len cap zs w w1) := ⟨hc1, ht1⟩
  clear hc1 ht1
  go_wp2_with fail
  go_ret
  exact ⟨_, rfl, Int.emod_nonneg _ (by omega), Int.emod_lt_of_pos _ (by omega), HD.out⟩

set_option maxHeartbeats 1000000 in
theorem once_any (cb : Nat) (ao : Option Addr) (len cap : Nat) (zs : List Int) (w : World) (hc : Cur cb ao len cap zs w) (n : Int) (h0 : 1 ≤ n) (h1 : n ≤ 256) :
    Calls Try.prog 54 #[.pointer (some ⟨cb, 0, none⟩), .int .i64 n] w fun e w' => ∃ x : Bool, e = .returned (.bool x) ∧ Drawn cb ao len cap zs w w' := by
  have HC : Hid (Cur cb ao len cap zs w) := hc
  clear hc
  go_enter Try.func54, Try.ntmps54
  go_wp2_with fail
  refine (below_any cb ao len cap zs _ HC.out n h0 h1).mono ?_
  rintro e w1 ⟨x, rfl, hx0, hx1, hd⟩
  have HD : Hid (Drawn cb ao len cap zs w w1) := hd
  clear hd
  go_wp2_with fail
  go_ret
  exact ⟨_, rfl, HD.out⟩

set_option maxHeartbeats 1000000 in
theorem int_any (cb : Nat) (ao : Option Addr) (len cap : Nat) (zs : List Int) (w : World) (hc : Cur cb ao len cap zs w) (g : Nat) (l : List Int) (hg : g ≠ cb) (hl0 : 1 ≤ l.length) (hl1 : l.length ≤ 256) (hcell : ∀ j, j < l.length → w.cell? ⟨g, j, none⟩ = some (.int .i64 (l.getD j 0))) :
    Calls Try.prog 102 #[.pointer (some ⟨cb, 0, none⟩), .slice (some ⟨g, 0, none⟩) l.length l.length] w fun e w' => ∃ x, e = .returned (.int .i64 x) ∧ x ∈ l ∧ Drawn cb ao len cap zs w w' := by
  have HC : Hid (Cur cb ao len cap zs w) := hc
  have HL : Hid (∀ j, j < l.length → w.cell? ⟨g, j, none⟩ = some (.int .i64 (l.getD j 0))) := hcell
  clear hc hcell
  go_enter Try.func102, Try.ntmps102
  go_wp2_with fail
  refine (below_any cb ao len cap zs _ HC.out l.length (by omega) (by omega)).mono ?_
  rintro e w1 ⟨x, rfl, hx0, hx1, hd⟩
  have HD : Hid (Drawn cb ao len cap zs w w1) := hd
  clear hd
  obtain ⟨j, rfl⟩ : ∃ j : Nat, x = j := ⟨x.toNat, by omega⟩
  have hj : j < l.length := by omega
  have q := HD.out.2.cell hg (HL.out j hj)
  have HM : Hid (l.getD j 0 ∈ l) := by
    show l.getD j 0 ∈ l
    rw [List.getD_eq_getElem?_getD, List.getElem?_eq_getElem hj]; exact List.getElem_mem hj
  generalize l.getD j 0 = y at *
  go_wp2_with fail
  go_ret
  exact ⟨_, rfl, HM.out, HD.out⟩

/-- What the law is told of its bytes. -/
def IsRow (w : World) (a : Option Addr) (len cap : Nat) (zs : List Int) : Prop :=
  (a = none ∧ len = 0 ∧ cap = 0 ∧ zs = []) ∨
  ∃ x, a = some x ∧ len ≤ cap ∧ cap ≤ maxLen ∧ zs.length = cap ∧ (∀ i, i < zs.length → w.cell? (x.add i) = some (.int .u8 (zs.getD i 0))) ∧ ∀ n ∈ zs, (Lit.int .u8 n).wf = true

theorem IsRow.at {w : World} {a : Option Addr} {len cap : Nat} {zs : List Int} (h : IsRow w a len cap zs) (hn : len ≠ 0) : ∃ b off, a = some ⟨b, off, none⟩ ∧ ∀ j, j < len → w.cell? ⟨b, off + j, none⟩ = some (.int .u8 (zs.getD j 0)) := by
  rcases h with ⟨_, h0, _, _⟩ | ⟨⟨b, off, spot⟩, rfl, hl, hc, hz, hcell, hw⟩
  · exact absurd h0 hn
  · have h0 := hcell 0 (by omega)
    have hs : spot = none := by simpa [Addr.add] using World.cell?_spot h0
    subst hs
    refine ⟨b, off, rfl, fun j hj => ?_⟩
    have := hcell j (by omega)
    rw [Addr.add_lit] at this
    exact this
theorem IsRow.rng {w : World} {a : Option Addr} {len cap : Nat} {zs : List Int} (h : IsRow w a len cap zs) : ∀ j, 0 ≤ zs.getD j 0 ∧ zs.getD j 0 ≤ 255 := by
  intro j
  rcases h with ⟨_, _, _, rfl⟩ | ⟨_, _, _, _, _, _, hw⟩
  · simp
  · by_cases hj : j < zs.length
    · have hm : zs.getD j 0 ∈ zs := by rw [List.getD_eq_getElem?_getD, List.getElem?_eq_getElem hj]; exact List.getElem_mem hj
      have := bounds_u8 (hw _ hm)
      omega
    · rw [List.getD_eq_getElem?_getD, List.getElem?_eq_none (by omega)]; simp

/-- The cursor in a new block. -/
theorem Cur.new {w : World} {ao : Option Addr} {len cap : Nat} {zs : List Int} (hr : IsRow w ao len cap zs) (hsm : len ≤ 1048576) (x : Int) :
    Cur w.heap.size ao len cap zs (w.alloc (.cells #[.slice ao len cap, .int .i64 0, .int .i64 x] 106)) := by
  refine ⟨by rw [World.cell?_alloc_new]; rfl, ⟨0, Nat.zero_le _, by rw [World.cell?_alloc_new]; rfl⟩, ⟨x, by rw [World.cell?_alloc_new]; rfl⟩, fun o => World.frozen?_alloc_new w _ _ o, fun hn => ?_, hr.rng, hsm⟩
  obtain ⟨b, off, rfl, hcell⟩ := hr.at hn
  have hb : b < w.heap.size := World.block_lt_of_cell? w _ (hcell 0 (by omega))
  exact ⟨b, off, rfl, hb, fun j hj => by rw [World.cell?_alloc_lt (h := hb)]; exact hcell j hj⟩

set_option maxRecDepth 100000 in
set_option maxHeartbeats 1000000 in
theorem new_any (w : World) (ao : Option Addr) (len cap : Nat) (zs : List Int) (hr : IsRow w ao len cap zs) (hsm : len ≤ 1048576) :
    Calls Try.prog 52 #[.slice ao len cap] w fun e w' => e = .returned (.pointer (some ⟨w.heap.size, 0, none⟩)) ∧ Cur w.heap.size ao len cap zs w' ∧ Below w.heap.size w w' ∧ w'.heap.size = w.heap.size + 1 := by
  have HR : Hid (IsRow w ao len cap zs) := hr
  clear hr
  go_enter Try.func52, Try.ntmps52
  go_wp2_with fail
  go_loop [3, 4] (fun h i => ∃ (k : Nat) (x : Int), k ≤ len ∧ i = .int .i64 k ∧ h = .int .i64 x) (fun _ i => len - (intOf i).toNat)
  case atStart => exact ⟨0, _, Nat.zero_le _, rfl, rfl⟩
  case round =>
    obtain ⟨k, x, hk, rfl, rfl⟩ := hrel
    by_cases hlt : k < len
    · obtain ⟨b, off, rfl, hcell⟩ := HR.out.at (by omega)
      have q := hcell k hlt
      by_cases h4 : (k : Int) < 4000
      · go_wp2_with fail
        go_round
        case rel => exact ⟨k + 1, _, by omega, rfl, rfl⟩
        case measure => simp [intOf]; omega
      · go_wp2_with fail
        go_ret
        exact ⟨rfl, Cur.new HR.out hsm x, (Below.refl _ _).alloc (Nat.le_refl _) _, World.size_alloc _ _⟩
    · go_wp2_with fail
      go_ret
      exact ⟨rfl, Cur.new HR.out hsm x, (Below.refl _ _).alloc (Nat.le_refl _) _, World.size_alloc _ _⟩

theorem Turn.frozen {cb : Nat} {w w' : World} (t : Turn cb w w') {b o : Nat} (hn : b ≠ cb) (hb : b < w.heap.size) : w'.frozen? ⟨b, o, none⟩ = w.frozen? ⟨b, o, none⟩ := World.frozen?_of_block (t.block b hb hn)
theorem Turn.alloc {cb : Nat} {w w1 : World} (h : Turn cb w w1) (o : Obj) : Turn cb w (w1.alloc o) :=
  ⟨h.os, h.tape, h.output, Nat.le_trans h.size (by rw [World.size_alloc]; omega), fun k hk hn => by
    show (w1.heap.push _)[k]? = _
    rw [Array.getElem?_push, if_neg (by have := h.size; omega)]; exact h.block k hk hn⟩
theorem Cur.alloc {cb : Nat} {ao : Option Addr} {len cap : Nat} {zs : List Int} {w : World} (h : Cur cb ao len cap zs w) (o : Obj) : Cur cb ao len cap zs (w.alloc o) :=
  h.below ((Below.refl _ _).alloc (Nat.le_refl _) o)
theorem Cur.drew {cb : Nat} {ao : Option Addr} {len cap : Nat} {zs : List Int} {w : World} (h : Cur cb ao len cap zs w) : Cur cb ao len cap zs w.drew := h.below ((Below.refl _ _).drew)
theorem Drawn.drew {cb : Nat} {ao : Option Addr} {len cap : Nat} {zs : List Int} {w w1 : World} (h : Drawn cb ao len cap zs w.drew w1) : Drawn cb ao len cap zs w w1 := ⟨h.1, ⟨h.2.os, h.2.tape, h.2.output, h.2.size, h.2.block⟩⟩
theorem IsRow.below {w w' : World} {ao : Option Addr} {len cap : Nat} {zs : List Int} (h : IsRow w ao len cap zs) (hb : Below w.heap.size w w') : IsRow w' ao len cap zs := by
  rcases h with h | ⟨x, h1, h2, h3, h4, h5, h6⟩
  · exact Or.inl h
  · refine Or.inr ⟨x, h1, h2, h3, h4, fun i hi => ?_, h6⟩
    have := h5 i hi
    rw [hb.cell (World.block_lt_of_cell? w _ this)]; exact this
/-- A list of numbers that is written out. -/
theorem news_ints (w : World) (l : List Int) (t : TypeId) : ∀ j, j < l.length → (w.alloc (.cells (l.map (Value.int .i64)).toArray t)).cell? ⟨w.heap.size, j, none⟩ = some (.int .i64 (l.getD j 0)) := by
  intro j hj
  rw [World.cell?_alloc_new]
  simp [hj]
end Go.Proofs.Ytabgfaafpgholaa
