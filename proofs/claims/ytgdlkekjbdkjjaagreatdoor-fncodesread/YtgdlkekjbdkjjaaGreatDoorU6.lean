/-
  The program's readIns: it answers lineQ.
-/
import Derived.Test.YtgdlkekjbdkjjaaGreatDoorU4
import Derived.WalkSmall
namespace Go.Proofs.YtgdlkekjbdkjjaaGreatDoor.Code
open Go.RowKit
open Go.Proofs.YtgdlkekjbdkjjaaGreatDoor.Atom
set_option linter.unusedVariables false

def cutA (s : ByteArray) (c : UInt8) : ByteArray := ⟨(Lib.cut (dat s) [c]).1.toArray⟩
def cutB (s : ByteArray) (c : UInt8) : ByteArray := ⟨(Lib.cut (dat s) [c]).2.1.toArray⟩
def cutQ (s : ByteArray) (c : UInt8) : Bool := (Lib.cut (dat s) [c]).2.2
theorem cut_len (l : List UInt8) (c : UInt8) : (Lib.cut l [c]).1.length ≤ l.length ∧ (Lib.cut l [c]).2.1.length ≤ l.length := by
  unfold Lib.cut
  split
  · simp; omega
  · simp
theorem cutA_size (s : ByteArray) (c : UInt8) : (cutA s c).size ≤ s.size := by
  have := (cut_len (dat s) c).1
  rw [dat_len] at this
  show (Lib.cut (dat s) [c]).1.toArray.size ≤ s.size
  rw [List.size_toArray]; exact this
theorem cutB_size (s : ByteArray) (c : UInt8) : (cutB s c).size ≤ s.size := by
  have := (cut_len (dat s) c).2
  rw [dat_len] at this
  show (Lib.cut (dat s) [c]).2.1.toArray.size ≤ s.size
  rw [List.size_toArray]; exact this
theorem cut_any (s : ByteArray) (c : UInt8) (w : World) (hG : Glo w) (hs : s.size ≤ 1048576) :
    Calls Tryz.prog 42 #[.string s, .string ⟨#[c]⟩] w fun e w' => e = .returned (.tuple #[.string (cutA s c), .string (cutB s c), .bool (cutQ s c)]) ∧ Below w.heap.size w w' := by
  obtain ⟨m, hm⟩ := hG.mx
  refine (Tryz.strings_Cut s ⟨#[c]⟩ m w (by omega) hm).mono ?_
  rintro e w' ⟨rfl, n, rfl⟩
  exact ⟨rfl, below_drewN (Below.refl _ w) n⟩
/-- What SplitN gives at a byte. -/
def splA (s : ByteArray) (c : UInt8) (n : Nat) : List ByteArray := Lib.splitB ⟨#[c]⟩ 0 (min n (s.size + 1) - 1) s
theorem splA_dat (s : ByteArray) (c : UInt8) (n : Nat) : (splA s c n).map dat = Lib.splitN (dat s) [c] n := by
  unfold splA Lib.splitN
  rw [dat_len]
  exact Lib.splitB_data ⟨#[c]⟩ 0 _ s
theorem splitB_small (c : UInt8) : ∀ (k : Nat) (s t : ByteArray), t ∈ Lib.splitB ⟨#[c]⟩ 0 k s → t.size ≤ s.size
  | 0, s, t, h => by
    rw [Lib.splitB_zero, List.mem_singleton] at h
    rw [h]; exact Nat.le_refl _
  | k + 1, s, t, h => by
    rw [Lib.splitB] at h
    split at h
    · rw [List.mem_singleton] at h
      rw [h]; exact Nat.le_refl _
    · rcases List.mem_cons.1 h with rfl | h
      · rw [ByteArray.size_extract]; omega
      · have := splitB_small c k _ t h
        rw [ByteArray.size_extract] at this
        omega
theorem splA_small (s : ByteArray) (c : UInt8) (n : Nat) : ∀ t ∈ splA s c n, t.size ≤ s.size := fun t h => splitB_small c _ s t h
theorem splitN_any (s : ByteArray) (c : UInt8) (n : Nat) (ni : Int) (hni : ni = (n : Int)) (h1 : 1 ≤ n) (h9 : n ≤ 9) (w : World) (hG : Glo w) (hs : s.size ≤ 1048576) :
    Calls Tryz.prog 68 #[.string s, .string ⟨#[c]⟩, .int .i64 ni] w fun e w' => (∃ vc : Nat, (splA s c n).length ≤ vc ∧ vc ≤ 9 ∧ e = .returned (.slice (some ⟨w.heap.size, 0, none⟩) (splA s c n).length vc)) ∧ Below w.heap.size w w' ∧ ∀ j (hj : j < (splA s c n).length), w'.cell? ⟨w.heap.size, j, none⟩ = some (.string ((splA s c n)[j])) := by
  subst hni
  obtain ⟨m, hm⟩ := hG.mx
  refine (Tryz.strings_SplitN s ⟨#[c]⟩ n m w (by omega) hm (Nat.le_refl 1) h1 (by omega)).mono ?_
  rintro e w' ⟨rfl, rfl⟩
  have hl : (splA s c n).length ≤ min n (s.size + 1) := by
    have := Lib.splitB_length_le ⟨#[c]⟩ 0 (min n (s.size + 1) - 1) s
    unfold splA; omega
  refine ⟨⟨_, hl, by omega, rfl⟩, (Below.refl _ w).alloc (Nat.le_refl _) _, fun j hj => ?_⟩
  rw [World.cell?_alloc_new]
  show (Lib.cellsOf (splA s c n) (min n (s.size + 1)))[j]? = _
  unfold Lib.cellsOf
  rw [List.getElem?_toArray, List.getElem?_append_left (by simpa using hj), List.getElem?_map, List.getElem?_eq_getElem hj]
  rfl

theorem res_insE {w : World} {R : Nat} {a b c d e g : Value} {tmps : Array Value} {fn : Func} {t : TypeId} {p : Value} (hf : fn.results = #[.cell 2 47, .tmp 3]) (h : w.heap[R]? = some (.cells #[a, b, c, d, e, g] 47 (0, 0)))
    (h4 : tmps.getD 2 undef = .pointer (some ⟨R, 0, none⟩)) (h5 : tmps.getD 3 undef = .iface t p) : (results fn tmps).run Tryz.prog w = .ok (.tuple #[.agg #[a, b, c, d, e, g], .iface t p]) w := by
  rw [results_cell_tmp hf, h4, h5]
  simp [asAddr, Result.andThen, run_loadVar_row w R 47 47 #[a, b, c, d, e, g] (0, 0) _ h Tryz.underlying47 rfl (by kernel_rfl)]
theorem res_insN {w : World} {R : Nat} {a b c d e g : Value} {tmps : Array Value} {fn : Func} (hf : fn.results = #[.cell 2 47, .tmp 3]) (h : w.heap[R]? = some (.cells #[a, b, c, d, e, g] 47 (0, 0)))
    (h4 : tmps.getD 2 undef = .pointer (some ⟨R, 0, none⟩)) (h5 : tmps.getD 3 undef = .nilIface) : (results fn tmps).run Tryz.prog w = .ok (.tuple #[.agg #[a, b, c, d, e, g], .nilIface]) w := by
  rw [results_cell_tmp hf, h4, h5]
  simp [asAddr, Result.andThen, run_loadVar_row w R 47 47 #[a, b, c, d, e, g] (0, 0) _ h Tryz.underlying47 rfl (by kernel_rfl)]

/-- What the loop of readIns has in hand. -/
structure Lo (w wr : World) (R X B Wd : Nat) (l : List Nat) (P : List ByteArray) (y : I) : Prop where
  bel : Below w.heap.size w wr
  res : wr.heap[R]? = some (.cells (insV zeroI) 47 (0, 0))
  ins : wr.heap[X]? = some (.cells (insV y) 47 (0, 0))
  row : ∀ j (hj : j < l.length), wr.cell? ⟨B, j, none⟩ = some (.int .i64 (l[j] : Nat))
  wds : ∀ j (hj : j < P.length), wr.cell? ⟨Wd, j, none⟩ = some (.string P[j])
theorem Lo.turn {w wr w' : World} {R X B Wd : Nat} {l : List Nat} {P : List ByteArray} {y y' : I} (h : Lo w wr R X B Wd l P y) (t : Turn X wr w') (hX : w.heap.size ≤ X) (hR : R ≠ X) (hB : B ≠ X) (hW : Wd ≠ X) (hn : w'.heap[X]? = some (.cells (insV y') 47 (0, 0))) : Lo w w' R X B Wd l P y' := by
  refine ⟨Turn.below h.bel h.bel.size t hX, (t.block _ (blk_lt h.res) hR).trans h.res, hn, fun j hj => ?_, fun j hj => ?_⟩
  · have := h.row j hj
    rw [World.cell?_of_block (w := wr) (t.block _ (World.block_lt_of_cell? wr _ this) hB)]; exact this
  · have := h.wds j hj
    rw [World.cell?_of_block (w := wr) (t.block _ (World.block_lt_of_cell? wr _ this) hW)]; exact this

/-- What readIns answers. -/
def RinP (line : ByteArray) (w : World) (e : Ending) (w' : World) : Prop :=
  ((∃ (op a b c n : Int) (s : ByteArray), lineQ (dat line) = some ⟨op, a, b, c, n, s⟩ ∧ e = .returned (.tuple #[.agg #[.int .i64 op, .int .i64 a, .int .i64 b, .int .i64 c, .int .i64 n, .string s], .nilIface]))
    ∨ (lineQ (dat line) = none ∧ ∃ (op a b c n : Int) (s t : ByteArray), e = .returned (.tuple #[.agg #[.int .i64 op, .int .i64 a, .int .i64 b, .int .i64 c, .int .i64 n, .string s], .iface 81 (.string t)]))) ∧ Below w.heap.size w w'

set_option maxHeartbeats 4000000 in
theorem readIns_any (line : ByteArray) (w : World) (hS : Shp w) (hG : Glo w) (hs : line.size ≤ 1048576) :
    Calls Tryz.prog 43 #[.string line] w (RinP line w) := by
  have hbA := (Below.refl w.heap.size w).alloc (Nat.le_refl _) (.cells #[.int .i64 0, .int .i64 0, .int .i64 0, .int .i64 0, .int .i64 0, .string ⟨#[]⟩] 47)
  have HA : Hid (Shp (w.alloc (.cells #[.int .i64 0, .int .i64 0, .int .i64 0, .int .i64 0, .int .i64 0, .string ⟨#[]⟩] 47)) ∧ Glo (w.alloc (.cells #[.int .i64 0, .int .i64 0, .int .i64 0, .int .i64 0, .int .i64 0, .string ⟨#[]⟩] 47)) ∧ Below w.heap.size w (w.alloc (.cells #[.int .i64 0, .int .i64 0, .int .i64 0, .int .i64 0, .int .i64 0, .string ⟨#[]⟩] 47)) ∧ (w.alloc (.cells #[.int .i64 0, .int .i64 0, .int .i64 0, .int .i64 0, .int .i64 0, .string ⟨#[]⟩] 47)).heap[w.heap.size]? = some (.cells (insV zeroI) 47 (0, 0))) :=
    ⟨hS.below hbA, hG.below hbA, hbA, by show (w.heap.push _)[w.heap.size]? = _; simp; rfl⟩
  have HG : Hid (Glo w) := hG
  clear hbA hS hG
  go_enter Tryz.func43, Tryz.ntmps43
  go_wp2_with (go_at_call 42; fail)
  generalize (w.alloc (.cells #[.int .i64 0, .int .i64 0, .int .i64 0, .int .i64 0, .int .i64 0, .string ⟨#[]⟩] 47)) = wA at HA ⊢
  refine (cut_any line 32 wA HA.out.2.1 hs).mono ?_
  rintro e w1 ⟨rfl, hb1⟩
  have HB : Hid (Shp w1 ∧ Glo w1 ∧ Below w.heap.size w w1 ∧ w1.heap[w.heap.size]? = some (.cells (insV zeroI) 47 (0, 0))) :=
    ⟨HA.out.1.below hb1, HA.out.2.1.below hb1, HA.out.2.2.1.trans (hb1.mono HA.out.2.2.1.size), (hb1.block _ (blk_lt HA.out.2.2.2)).trans HA.out.2.2.2⟩
  clear hb1 HA
  have hW0 := Nat.le_trans (cutA_size line 32) hs
  have hW1 := Nat.le_trans (cutB_size line 32) hs
  have HLQ : Hid (lineQ (dat line) = match findW (dat (cutA line 32)) 0 20 with
    | none => none
    | some k => if ((splA (cutB line 32) 32 ((names (k + 1)).length + 1)).map dat).length = (names (k + 1)).length then slotsQ (opI k) (names (k + 1)) ((splA (cutB line 32) 32 ((names (k + 1)).length + 1)).map dat) else none) := by
    show _ = _
    have ea : dat (cutA line 32) = (Lib.cut (dat line) [32]).1 := by simp [dat, cutA]
    have eb : dat (cutB line 32) = (Lib.cut (dat line) [32]).2.1 := by simp [dat, cutB]
    unfold lineQ
    rw [ea]
    cases findW (Lib.cut (dat line) [32]).1 0 20 with
    | none => rfl
    | some k => simp only [splA_dat, eb]
  generalize cutA line 32 = W0 at hW0 HLQ ⊢
  generalize cutB line 32 = W1 at hW1 HLQ ⊢
  generalize cutQ line 32 = qq
  go_wp2_with (go_at_call 66; fail)
  refine (shapeWord_any W0 w1 HB.out.1 (by unfold maxLen; omega)).mono ?_
  rintro e w2 ⟨hcase, hb2⟩
  have HC : Hid (Shp w2 ∧ Glo w2 ∧ Below w.heap.size w w2 ∧ w2.heap[w.heap.size]? = some (.cells (insV zeroI) 47 (0, 0))) :=
    ⟨HB.out.1.below hb2, HB.out.2.1.below hb2, HB.out.2.2.1.trans (hb2.mono HB.out.2.2.1.size), (hb2.block _ (blk_lt HB.out.2.2.2)).trans HB.out.2.2.2⟩
  clear hb2 HB
  rcases hcase with ⟨k, hk, hfw, rfl⟩ | ⟨hfw, rfl⟩
  · have HLK : Hid (lineQ (dat line) = if ((splA W1 32 ((names (k + 1)).length + 1)).map dat).length = (names (k + 1)).length then slotsQ (opI k) (names (k + 1)) ((splA W1 32 ((names (k + 1)).length + 1)).map dat) else none) := by show _ = _; rw [HLQ.out, hfw]
    clear HLQ hfw
    go_wp2_with (go_at_call 60; fail)
    refine (slots_any k hk _).mono ?_
    rintro e w3 ⟨rfl, hb3, hrow⟩
    have hA3 := (Below.refl w2.heap.size w2).alloc (Nat.le_refl _) (.cells #[.int .i64 ((k : Int) + 1), .string (wordT (k + 1)), .int .i64 (nm (k + 1) 0), .int .i64 (nm (k + 1) 1), .int .i64 (nm (k + 1) 2)] 98)
    have hC3 : Below w2.heap.size w2 w3 := hA3.trans (hb3.mono hA3.size)
    have HC3 : Hid (Glo w3 ∧ Below w.heap.size w w3 ∧ w3.heap[w.heap.size]? = some (.cells (insV zeroI) 47 (0, 0)) ∧ ∀ j (hj : j < (names (k + 1)).length), w3.cell? ⟨w2.heap.size + 1 + 1, j, none⟩ = some (.int .i64 ((names (k + 1))[j] : Nat))) :=
      ⟨HC.out.2.1.below hC3, HC.out.2.2.1.trans (hC3.mono HC.out.2.2.1.size), (hC3.block _ (blk_lt HC.out.2.2.2)).trans HC.out.2.2.2, fun j hj => by simpa using hrow j hj⟩
    have HOP : Hid (w3.cell? ⟨w2.heap.size, 0, none⟩ = some (.int .i64 ((k : Int) + 1)) ∧ w2.heap.size < w3.heap.size) := by
      have h1 : (w2.alloc (.cells #[.int .i64 ((k : Int) + 1), .string (wordT (k + 1)), .int .i64 (nm (k + 1) 0), .int .i64 (nm (k + 1) 1), .int .i64 (nm (k + 1) 2)] 98)).cell? ⟨w2.heap.size, 0, none⟩ = some (.int .i64 ((k : Int) + 1)) := by rw [World.cell?_alloc_new]; rfl
      have h2 := (hb3.cell (World.block_lt_of_cell? _ _ h1)).trans h1
      exact ⟨h2, World.block_lt_of_cell? _ _ h2⟩
    have HLN : Hid ((∀ j (hj : j < (names (k + 1)).length), 1 ≤ (names (k + 1))[j] ∧ (names (k + 1))[j] ≤ 9) ∧ 1 ≤ (names (k + 1)).length ∧ (names (k + 1)).length ≤ 3) := ⟨names_in k hk, names_len k hk⟩
    have HWS : Hid (w.heap.size ≤ w2.heap.size) := HC.out.2.2.1.size
    clear hb3 hrow hA3 hC3 HC
    generalize names (k + 1) = l at HLK HC3 HLN ⊢
    have hl1 : 1 ≤ l.length := HLN.out.2.1
    have hl3 : l.length ≤ 3 := HLN.out.2.2
    have e1 : IntKind.i64.wrap ((l.length : Int) + 1) = ((l.length + 1 : Nat) : Int) := by rw [IntKind.wrap_i64]; omega
    go_wp2_with (go_at_call 68; fail)
    refine (splitN_any W1 32 (l.length + 1) _ (by omega) (by omega) (by omega) w3 HC3.out.1 hW1).mono ?_
    rintro e w4 ⟨⟨vc, hvc, hvc9, rfl⟩, hb4, hwds⟩
    have HC4 : Hid (Below w.heap.size w w4 ∧ w4.heap[w.heap.size]? = some (.cells (insV zeroI) 47 (0, 0)) ∧ (∀ j (hj : j < l.length), w4.cell? ⟨w2.heap.size + 1 + 1, j, none⟩ = some (.int .i64 (l[j] : Nat))) ∧ w3.heap.size ≤ w4.heap.size) :=
      ⟨HC3.out.2.1.trans (hb4.mono HC3.out.2.1.size), (hb4.block _ (blk_lt HC3.out.2.2.1)).trans HC3.out.2.2.1, fun j hj => (hb4.cell (World.block_lt_of_cell? w3 _ (HC3.out.2.2.2 j hj))).trans (HC3.out.2.2.2 j hj), hb4.size⟩
    have HSM : Hid (∀ t ∈ splA W1 32 (l.length + 1), t.size ≤ 1048576) := fun t ht => Nat.le_trans (splA_small W1 32 _ t ht) hW1
    have op4 := (hb4.cell (World.block_lt_of_cell? w3 _ HOP.out.1)).trans HOP.out.1
    have HWD : Hid (∀ j (hj : j < (splA W1 32 (l.length + 1)).length), w4.cell? ⟨w3.heap.size, j, none⟩ = some (.string (splA W1 32 (l.length + 1))[j])) := hwds
    have HNE : Hid (w2.heap.size + 1 + 1 < w4.heap.size ∧ w3.heap.size < w4.heap.size ∨ (splA W1 32 (l.length + 1)).length = 0) := by
      by_cases h0 : (splA W1 32 (l.length + 1)).length = 0
      · exact .inr h0
      · exact .inl ⟨World.block_lt_of_cell? w4 _ (HC4.out.2.2.1 0 (by omega)), World.block_lt_of_cell? w4 _ (hwds 0 (by omega))⟩
    clear hb4 hwds HC3 e1
    generalize splA W1 32 (l.length + 1) = P at HLK HSM HWD HNE hvc ⊢
    by_cases hpl : P.length = l.length
    rotate_left
    · have HNO : Hid (lineQ (dat line) = none) := by show _ = _; rw [HLK.out, if_neg (by simpa using hpl)]
      have hpl' : ¬ (P.length : Int) = (l.length : Int) := by omega
      have hplb : ((P.length : Int) != (l.length : Int)) = true := by simp; omega
      have r0 := blk_at HC4.out.2.1 0
      have r1 := blk_at HC4.out.2.1 1
      have r2 := blk_at HC4.out.2.1 2
      have r3 := blk_at HC4.out.2.1 3
      have r4 := blk_at HC4.out.2.1 4
      have r5 := blk_at HC4.out.2.1 5
      have rf := fun i => blk_free HC4.out.2.1 i
      simp only [insV, zeroI, List.getElem?_toArray, List.getElem?_cons_zero, List.getElem?_cons_succ] at r0 r1 r2 r3 r4 r5
      have HWF : Hid (∀ (a b c d e g : Value), ((((((w4.setCell ⟨w.heap.size, 0, none⟩ a).setCell ⟨w.heap.size, 1, none⟩ b).setCell ⟨w.heap.size, 2, none⟩ c).setCell ⟨w.heap.size, 3, none⟩ d).setCell ⟨w.heap.size, 4, none⟩ e).setCell ⟨w.heap.size, 5, none⟩ g).heap[w.heap.size]? = some (.cells #[a, b, c, d, e, g] 47 (0, 0))) := fun a b c d e g => set_blk6 HC4.out.2.1 a b c d e g
      go_wp2_with fail
      refine bodyPost_ret (res_insE Tryz.results43 (HWF.out _ _ _ _ _ _) rfl rfl) rfl ⟨.inr ⟨HNO.out, _, _, _, _, _, _, _, rfl⟩, ?_⟩
      exact ((((((HC4.out.1).setCell (Nat.le_refl _) _).setCell (Nat.le_refl _) _).setCell (Nat.le_refl _) _).setCell (Nat.le_refl _) _).setCell (Nat.le_refl _) _).setCell (Nat.le_refl _) _
    · have HLK2 : Hid (lineQ (dat line) = slotsQ (opI k) l (P.map dat)) := by show _ = _; rw [HLK.out, if_pos (by simpa using hpl)]
      have HPL : Hid (P.length = l.length) := hpl
      have hpli : (P.length : Int) = (l.length : Int) := by omega
      have HNN : Hid (w.heap.size ≠ w4.heap.size ∧ w2.heap.size + 1 + 1 ≠ w4.heap.size ∧ w3.heap.size ≠ w4.heap.size ∧ w.heap.size ≤ w4.heap.size) := by
        have h1 := blk_lt HC4.out.2.1
        rcases HNE.out with h | h
        · exact ⟨by omega, by omega, by omega, by omega⟩
        · omega
      have HLO : Hid (Lo w (w4.alloc (.cells #[.int .i64 ((k : Int) + 1), .int .i64 0, .int .i64 0, .int .i64 0, .int .i64 0, .string ⟨#[]⟩] 47)) w.heap.size w4.heap.size (w2.heap.size + 1 + 1) w3.heap.size l P (opI k)) := by
        have hb := (Below.refl w4.heap.size w4).alloc (Nat.le_refl _) (.cells #[.int .i64 ((k : Int) + 1), .int .i64 0, .int .i64 0, .int .i64 0, .int .i64 0, .string ⟨#[]⟩] 47)
        refine ⟨HC4.out.1.trans (hb.mono HC4.out.1.size), (hb.block _ (blk_lt HC4.out.2.1)).trans HC4.out.2.1, by show (w4.heap.push _)[w4.heap.size]? = _; simp; rfl, fun j hj => (hb.cell (World.block_lt_of_cell? w4 _ (HC4.out.2.2.1 j hj))).trans (HC4.out.2.2.1 j hj), fun j hj => (hb.cell (World.block_lt_of_cell? w4 _ (HWD.out j hj))).trans (HWD.out j hj)⟩
      clear HLK hpl HNE HOP HWS
      rw [HPL.out] at hvc ⊢
      clear hpli
      go_wp2_with fail
      clear op4
      generalize (w4.alloc (.cells #[.int .i64 ((k : Int) + 1), .int .i64 0, .int .i64 0, .int .i64 0, .int .i64 0, .string ⟨#[]⟩] 47)) = w5 at HLO ⊢
      clear HC4 HWD
      generalize w4.heap.size = X at HLO HNN ⊢
      generalize w3.heap.size = Wd at HLO HNN ⊢
      generalize w2.heap.size + 1 + 1 = B at HLO HNN ⊢
      go_loopw [54] (fun i wr => ∃ (j : Nat) (y : I), j ≤ l.length ∧ i = .int .i64 j ∧ Lo w wr w.heap.size X B Wd l P y ∧ slotsQ (opI k) l (P.map dat) = slotsQ y (l.drop j) ((P.map dat).drop j)) (fun i wr => l.length - (intOf i).toNat)
      case atStart => exact ⟨0, opI k, Nat.zero_le _, rfl, HLO.out, rfl⟩
      case round =>
        obtain ⟨j, y, hj, rfl, hlo, hsq⟩ := hrel
        have HL : Hid (Lo w wr w.heap.size X B Wd l P y) := hlo
        have HSQ : Hid (slotsQ (opI k) l (P.map dat) = slotsQ y (l.drop j) ((P.map dat).drop j)) := hsq
        clear hlo hsq HLO
        by_cases hlt : j < l.length
        · have hjp : j < P.length := by rw [HPL.out]; exact hlt
          have crow := HL.out.row j hlt
          have cwd := HL.out.wds j hjp
          have hlti : (j : Int) < (l.length : Int) := by omega
          have e2 : IntKind.i64.wrap (j : Int) = (j : Int) := by rw [IntKind.wrap_i64]; omega
          have HST : Hid (slotsQ y (l.drop j) ((P.map dat).drop j) = match setSl y l[j] (dat P[j]) with | some z => slotsQ z (l.drop (j + 1)) ((P.map dat).drop (j + 1)) | none => none) := by
            show _ = _
            rw [List.drop_eq_getElem_cons hlt, List.drop_eq_getElem_cons (show j < (P.map dat).length by simpa using hjp), slotsQ, List.getElem_map]
            rcases setSl y l[j] (dat P[j]) with _ | _ <;> rfl
          have hk1 := (HLN.out.1 j hlt).1
          have hk9 := (HLN.out.1 j hlt).2
          have hsz := HSM.out P[j] (List.getElem_mem hjp)
          have HRD : Hid (∀ w', w' = wr → Calls Tryz.prog 69 #[.int .i64 ((l[j] : Nat) : Int), .pointer (some ⟨X, 0, none⟩), .string P[j]] w' fun e w'' =>
              ((∃ z, setSl y l[j] (dat P[j]) = some z ∧ e = .returned .nilIface ∧ w''.heap[X]? = some (.cells (insV z) 47 (0, 0))) ∨ (setSl y l[j] (dat P[j]) = none ∧ (∃ t, e = .returned (.iface 81 (.string t))) ∧ w''.heap[X]? = some (.cells (insV y) 47 (0, 0)))) ∧ Turn X w' w'') := fun w' h => by
            subst h
            exact read_any l[j] hk1 hk9 X y P[j] w' (HG.out.below HL.out.bel) hsz HL.out.ins
          generalize P[j] = wd at cwd HRD HST
          generalize l[j] = sl at crow HRD HST
          clear hk1 hk9 hsz
          go_wp2_with (go_at_call 69; fail)
          refine (HRD.out _ rfl).mono ?_
          rintro e w6 ⟨hor, ht⟩
          rcases hor with ⟨z, hz, rfl, hn⟩ | ⟨hz, ⟨t, rfl⟩, hn⟩
          · have HL6 : Hid (Lo w w6 w.heap.size X B Wd l P z) := HL.out.turn ht HNN.out.2.2.2 HNN.out.1 HNN.out.2.1 HNN.out.2.2.1 hn
            have HS6 : Hid (slotsQ (opI k) l (P.map dat) = slotsQ z (l.drop (j + 1)) ((P.map dat).drop (j + 1))) := by show _ = _; rw [HSQ.out, HST.out, hz]
            clear hz hn ht HRD HST
            go_wp2_with fail
            go_roundw
            case rel => exact ⟨j + 1, z, by omega, by go_num, HL6.out, HS6.out⟩
            case measure => simp [intOf]; omega
          · have HL6 : Hid (Lo w w6 w.heap.size X B Wd l P y) := HL.out.turn ht HNN.out.2.2.2 HNN.out.1 HNN.out.2.1 HNN.out.2.2.1 hn
            have HNO : Hid (lineQ (dat line) = none) := by show _ = _; rw [HLK2.out, HSQ.out, HST.out, hz]
            clear hz hn ht HRD HST
            have r0 := blk_at HL6.out.res 0
            have r1 := blk_at HL6.out.res 1
            have r2 := blk_at HL6.out.res 2
            have r3 := blk_at HL6.out.res 3
            have r4 := blk_at HL6.out.res 4
            have r5 := blk_at HL6.out.res 5
            have rf := fun i => blk_free HL6.out.res i
            simp only [insV, zeroI, List.getElem?_toArray, List.getElem?_cons_zero, List.getElem?_cons_succ] at r0 r1 r2 r3 r4 r5
            have HWF : Hid (∀ (a b c d e g : Value), ((((((w6.setCell ⟨w.heap.size, 0, none⟩ a).setCell ⟨w.heap.size, 1, none⟩ b).setCell ⟨w.heap.size, 2, none⟩ c).setCell ⟨w.heap.size, 3, none⟩ d).setCell ⟨w.heap.size, 4, none⟩ e).setCell ⟨w.heap.size, 5, none⟩ g).heap[w.heap.size]? = some (.cells #[a, b, c, d, e, g] 47 (0, 0))) := fun a b c d e g => set_blk6 HL6.out.res a b c d e g
            go_wp2_with fail
            refine bodyPost_ret (res_insE Tryz.results43 (HWF.out _ _ _ _ _ _) rfl rfl) rfl ⟨.inr ⟨HNO.out, _, _, _, _, _, _, _, rfl⟩, ?_⟩
            exact ((((((HL6.out.bel).setCell (Nat.le_refl _) _).setCell (Nat.le_refl _) _).setCell (Nat.le_refl _) _).setCell (Nat.le_refl _) _).setCell (Nat.le_refl _) _).setCell (Nat.le_refl _) _
        · have hjl : j = l.length := by omega
          subst hjl
          obtain ⟨yo, ya, yb, yc, yn, ys⟩ := y
          have HYE : Hid (lineQ (dat line) = some ⟨yo, ya, yb, yc, yn, ys⟩) := by
            show _ = _
            rw [HLK2.out, HSQ.out, List.drop_length]; rfl
          have x0 := blk_at HL.out.ins 0
          have x1 := blk_at HL.out.ins 1
          have x2 := blk_at HL.out.ins 2
          have x3 := blk_at HL.out.ins 3
          have x4 := blk_at HL.out.ins 4
          have x5 := blk_at HL.out.ins 5
          simp only [insV, List.getElem?_toArray, List.getElem?_cons_zero, List.getElem?_cons_succ] at x0 x1 x2 x3 x4 x5
          have r0 := blk_at HL.out.res 0
          have r1 := blk_at HL.out.res 1
          have r2 := blk_at HL.out.res 2
          have r3 := blk_at HL.out.res 3
          have r4 := blk_at HL.out.res 4
          have r5 := blk_at HL.out.res 5
          have rf := fun i => blk_free HL.out.res i
          simp only [insV, zeroI, List.getElem?_toArray, List.getElem?_cons_zero, List.getElem?_cons_succ] at r0 r1 r2 r3 r4 r5
          have HWF : Hid (∀ (a b c d e g : Value), ((((((wr.setCell ⟨w.heap.size, 0, none⟩ a).setCell ⟨w.heap.size, 1, none⟩ b).setCell ⟨w.heap.size, 2, none⟩ c).setCell ⟨w.heap.size, 3, none⟩ d).setCell ⟨w.heap.size, 4, none⟩ e).setCell ⟨w.heap.size, 5, none⟩ g).heap[w.heap.size]? = some (.cells #[a, b, c, d, e, g] 47 (0, 0))) := fun a b c d e g => set_blk6 HL.out.res a b c d e g
          go_wp2_with fail
          refine bodyPost_ret (res_insN Tryz.results43 (HWF.out _ _ _ _ _ _) rfl rfl) rfl ⟨.inl ⟨yo, ya, yb, yc, yn, ys, HYE.out, rfl⟩, ?_⟩
          exact ((((((HL.out.bel).setCell (Nat.le_refl _) _).setCell (Nat.le_refl _) _).setCell (Nat.le_refl _) _).setCell (Nat.le_refl _) _).setCell (Nat.le_refl _) _).setCell (Nat.le_refl _) _
  · have HNO : Hid (lineQ (dat line) = none) := by show _ = _; rw [HLQ.out, hfw]
    clear HLQ hfw
    have HR : ∀ o, (w2.alloc o).heap[w.heap.size]? = some (.cells (insV zeroI) 47 (0, 0)) := fun o => (Below.heap_alloc _ _ _ (blk_lt HC.out.2.2.2)).trans HC.out.2.2.2
    have r0 := fun o => blk_at (HR o) 0
    have r1 := fun o => blk_at (HR o) 1
    have r2 := fun o => blk_at (HR o) 2
    have r3 := fun o => blk_at (HR o) 3
    have r4 := fun o => blk_at (HR o) 4
    have r5 := fun o => blk_at (HR o) 5
    have rf := fun o i => blk_free (HR o) i
    simp only [insV, zeroI, List.getElem?_toArray, List.getElem?_cons_zero, List.getElem?_cons_succ] at r0 r1 r2 r3 r4 r5
    have HWF : Hid (∀ (o : Obj) (a b c d e g : Value), (((((((w2.alloc o).setCell ⟨w.heap.size, 0, none⟩ a).setCell ⟨w.heap.size, 1, none⟩ b).setCell ⟨w.heap.size, 2, none⟩ c).setCell ⟨w.heap.size, 3, none⟩ d).setCell ⟨w.heap.size, 4, none⟩ e).setCell ⟨w.heap.size, 5, none⟩ g).heap[w.heap.size]? = some (.cells #[a, b, c, d, e, g] 47 (0, 0))) := fun o a b c d e g => set_blk6 (HR o) a b c d e g
    clear HR
    go_wp2_with fail
    refine bodyPost_ret (res_insE Tryz.results43 (HWF.out _ _ _ _ _ _ _) rfl rfl) rfl ⟨.inr ⟨HNO.out, _, _, _, _, _, _, _, rfl⟩, ?_⟩
    exact ((((((HC.out.2.2.1.alloc HC.out.2.2.1.size _).setCell (Nat.le_refl _) _).setCell (Nat.le_refl _) _).setCell (Nat.le_refl _) _).setCell (Nat.le_refl _) _).setCell (Nat.le_refl _) _).setCell (Nat.le_refl _) _
end Go.Proofs.YtgdlkekjbdkjjaaGreatDoor.Code
