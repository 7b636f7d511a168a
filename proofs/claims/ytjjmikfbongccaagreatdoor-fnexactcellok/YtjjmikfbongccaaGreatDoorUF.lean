/-
  The frame of a law over two lists: its measure, its copies, its comparisons.
  (Ahead of it, in this text: The program's guards of a block, and how a free block is made. How the exact laws over rows of strings measure, copy, compare, mark and hold them. What the laws mark of a term, and find marked. What is marked is found marked. The frame of laws over lists of numbers and texts, and over terms that are answered: measures, copies, comparisons, marks.)
-/
import Derived.Test.YtjjmikfbongccaaGreatDoorArB
import Derived.RegionTactic
import Derived.ChangeAlike
import Derived.Test.YtjjmikfbongccaaGreatDoorSgA
import Derived.Deep.RegionWith
import Derived.Laws.IdiomStrings
import Derived.Test.YtjjmikfbongccaaGreatDoorUT
import Derived.Test.YtjjmikfbongccaaGreatDoorTmI
import Derived.Test.YtjjmikfbongccaaGreatDoorInA
import Derived.Deep.RegionLaw
namespace Go.Proofs.YtjjmikfbongccaaGreatDoor
open Go.RowKit
set_option linter.unusedVariables false

theorem Turn.drew' {cb : Nat} {a w : World} (h : Turn cb a w) : Turn cb a w.drew := ⟨h.os, h.tape, h.output, h.size, h.block⟩
theorem Ints.drew' {w : World} {b o N : Nat} {f : Nat → Int} (h : Ints w b o N f) : Ints w.drew b o N f := ⟨h.cell, h.free⟩

/-- The guards about a row of N words that stands at the place p. -/
def setF (f : Nat → Int) (N : Nat) (p : Int) (u : Bool) : Nat → Int := fun j =>
  if j = 0 then gw p (N - 3 : Nat) u 1000 else if j = 1 then (N - 3 : Nat) else if j = N - 1 then gw p (N - 3 : Nat) u 1001 else f j

/-- The holder's words ahead of m + 2 are poison. -/
def freeK (f : Nat → Int) (N p m : Nat) : Nat → Int := fun j => if 2 ≤ j ∧ j < m + 2 then pois (p + j : Nat) else setF f N p false j
theorem freeK_step (f : Nat → Int) (N p m : Nat) : ∀ j, upd (freeK f N p m) (m + 2) (pois (p + (m + 2) : Nat)) j = freeK f N p (m + 1) j := by
  intro j
  unfold freeK upd
  dsimp only
  by_cases h1 : j = m + 2
  · subst h1
    rw [if_pos rfl, if_pos (by omega)]
  · rw [if_neg h1]
    by_cases h2 : 2 ≤ j ∧ j < m + 2
    · rw [if_pos h2, if_pos (by omega)]
    · rw [if_neg h2, if_neg (by omega)]

end Go.Proofs.YtjjmikfbongccaaGreatDoor
namespace Go.Proofs.YtjjmikfbongccaaGreatDoor
open Go.RowKit
set_option linter.unusedVariables false

/-- The N strings f stand in the block b from 0 on, and may be written. -/
structure Sts (w : World) (b N : Nat) (f : Nat → ByteArray) : Prop where
  cell : ∀ j, j < N → w.cell? ⟨b, j, none⟩ = some (.string (f j))
  free : ∀ x, w.frozen? ⟨b, x, none⟩ = false
def updS (f : Nat → ByteArray) (i : Nat) (x : ByteArray) : Nat → ByteArray := fun j => if j = i then x else f j
theorem Sts.congr {w : World} {b N : Nat} {f g : Nat → ByteArray} (h : Sts w b N f) (e : ∀ j, j < N → f j = g j) : Sts w b N g :=
  ⟨fun j hj => by rw [← e j hj]; exact h.cell j hj, h.free⟩
theorem Sts.set {w : World} {b N : Nat} {f : Nat → ByteArray} (h : Sts w b N f) (i : Nat) (hi : i < N) (x : ByteArray) : Sts (w.setCell ⟨b, i, none⟩ (.string x)) b N (updS f i x) := by
  refine ⟨fun j hj => ?_, fun y => by rw [World.frozen?_setCell]; exact h.free y⟩
  by_cases e : j = i
  · subst e
    rw [updS, if_pos rfl]
    exact World.cell?_setCell_same w _ _ (h.cell j hj)
  · rw [updS, if_neg e, World.cell?_setCell_other (h := fun q => by simp at q; try omega)]
    exact h.cell j hj
theorem Sts.below {w w' : World} {b N : Nat} {f : Nat → ByteArray} (h : Sts w b N f) (hb : Below w.heap.size w w') (hlt : b < w.heap.size) : Sts w' b N f :=
  ⟨fun j hj => by rw [hb.cell (p := ⟨b, j, none⟩) hlt]; exact h.cell j hj, fun x => by rw [hb.frozen (p := ⟨b, x, none⟩) hlt]; exact h.free x⟩
theorem Sts.turn {cb : Nat} {w w' : World} {b N : Nat} {f : Nat → ByteArray} (h : Sts w b N f) (t : Turn cb w w') (hn : b ≠ cb) (hlt : b < w.heap.size) : Sts w' b N f :=
  ⟨fun j hj => t.cell hn (h.cell j hj), fun x => by rw [t.frozen hn hlt]; exact h.free x⟩
def lf (L : List ByteArray) : Nat → ByteArray := fun j => L.getD j ByteArray.empty
theorem lf_at (L : List ByteArray) (j : Nat) (h : j < L.length) : lf L j = L[j] := by
  unfold lf; rw [List.getD_eq_getElem?_getD, List.getElem?_eq_getElem h]; rfl
theorem Sts.txt {w : World} {b : Nat} {L : List ByteArray} (h : Sts w b L.length (lf L)) : Txt w b 0 L := fun j hj => by
  rw [Nat.zero_add, ← lf_at L j hj]; exact h.cell j hj

/-- What a law is handed: L, wherever it lies; of nothing the place is open. -/
def RdT (w : World) (ao : Option Addr) (L : List ByteArray) : Prop := L.length ≠ 0 → ∃ b o, ao = some ⟨b, o, none⟩ ∧ Txt w b o L
theorem RdT.below {w w' : World} {ao : Option Addr} {L : List ByteArray} (h : RdT w ao L) (hb : Below w.heap.size w w') : RdT w' ao L := fun h0 => by
  obtain ⟨b, o, e, hc⟩ := h h0
  exact ⟨b, o, e, hc.below hb⟩
theorem Txt.rd {w : World} {b o : Nat} {L : List ByteArray} (h : Txt w b o L) : RdT w (some ⟨b, o, none⟩) L := fun _ => ⟨b, o, rfl, h⟩

set_option maxHeartbeats 1000000 in
theorem szStr_any (ao : Option Addr) (cap : Nat) (L : List ByteArray) (w : World) (hr : RdT w ao L) (hN : L.length ≤ maxLen) (hs : ∀ x ∈ L, x.size ≤ maxLen) :
    Calls Tryz.prog 7 #[.slice ao L.length cap, .int .i64 1048576] w fun e w' => ∃ y : Int, e = .returned (.int .i64 y) ∧ w' = w ∧ -1 ≤ y ∧ (0 ≤ y → L.length ≤ 1048576) := by
  have HR : Hid (RdT w ao L) := hr
  have HS : Hid (∀ x ∈ L, x.size ≤ maxLen) := hs
  clear hr hs
  unfold maxLen at hN
  by_cases hb : L.length ≤ 1048576
  · go_enter Tryz.func7, Tryz.ntmps7
    go_wp2_with fail
    go_loop [1, 5] (fun a i => ∃ (m : Nat) (c : Int), m ≤ L.length ∧ i = .int .i64 m ∧ a = .int .i64 c ∧ 0 ≤ c ∧ c ≤ 1048576) (fun _ i => L.length - (intOf i).toNat)
    case atStart => exact ⟨0, 1048576 - L.length, Nat.zero_le _, rfl, rfl, by omega, by omega⟩
    case round =>
      obtain ⟨m, c, hm, rfl, rfl, hc0, hc1⟩ := hrel
      by_cases hlt : m < L.length
      · obtain ⟨b, o, rfl, hc⟩ := HR.out (by omega)
        have q := hc m hlt
        have hsz := HS.out _ (List.getElem_mem hlt)
        unfold maxLen at hsz
        generalize L[m] = x at *
        clear hc
        by_cases hx : c - x.size < 0
        · go_wp2_with fail
          go_ret
          exact ⟨(-1 : Int), rfl, rfl, by omega⟩
        · go_wp2_with fail
          go_round
          case rel => exact ⟨m + 1, c - x.size, by omega, by go_num, rfl, by omega, by omega⟩
          case measure => simp [intOf]; omega
      · go_wp2_with fail
        go_ret
        exact ⟨c, rfl, rfl, by omega⟩
  · go_enter Tryz.func7, Tryz.ntmps7
    go_wp2_with fail
    go_ret
    exact ⟨_, rfl, rfl, by omega, fun h => absurd h (by omega)⟩

theorem infoStr : (Tryz.prog.info? 9).map (fun i => (i.zero, i.size, i.bytes)) = some (some (.string ByteArray.empty), 1, 16) := by kernel_rfl
theorem undStrs : Tryz.prog.underlying 28 = some (.slice 9) := by kernel_rfl
theorem run_strs (n : Nat) (hn : n ≤ 1048576) (w : World) :
    (Instr.makeSlice 28 (.int .i64 (n : Int)) (.int .i64 (n : Int))).run Tryz.prog w = .ok (.slice (some ⟨w.heap.size, 0, none⟩) n n) (w.alloc (.cells (madeCells #[.string ByteArray.empty] n) 9)) :=
  run_make_row' (P := Tryz.prog) 28 9 (.string ByteArray.empty) 16 undStrs infoStr rfl .i64 .i64 n (by omega) (by omega) w
theorem strs_made (w : World) (n : Nat) : Sts (w.alloc (.cells (madeCells #[.string ByteArray.empty] n) 9)) w.heap.size n (fun _ => ByteArray.empty) := by
  have h := World.rowIs_made w (.string ByteArray.empty) n 9
  exact ⟨fun j hj => h.cell hj, fun x => h.frozen x⟩

set_option maxHeartbeats 1000000 in
theorem toStr_any (ao : Option Addr) (cap : Nat) (L : List ByteArray) (w : World) (hr : RdT w ao L) (hN : L.length ≤ 1048576) :
    Calls Tryz.prog 12 #[.slice ao L.length cap] w fun e w' => e = .returned (.slice (some ⟨w.heap.size, 0, none⟩) L.length L.length) ∧ Sts w' w.heap.size L.length (lf L) ∧ w.heap.size < w'.heap.size ∧ Below w.heap.size w w' := by
  have HR : Hid (RdT w ao L) := hr
  clear hr
  have hmk := run_strs L.length hN
  go_enter Tryz.func12, Tryz.ntmps12
  go_wp2_with fail
  clear hmk
  have hst : Sts (w.alloc (.cells (madeCells #[.string ByteArray.empty] L.length) 9)) w.heap.size L.length (fun j => if j < 0 then lf L j else ByteArray.empty) := (strs_made w L.length).congr (fun j _ => by rw [if_neg (by omega)])
  have hb : Below w.heap.size w (w.alloc (.cells (madeCells #[.string ByteArray.empty] L.length) 9)) := (Below.refl _ _).alloc (Nat.le_refl _) _
  have hl : w.heap.size < (w.alloc (.cells (madeCells #[.string ByteArray.empty] L.length) 9)).heap.size := by simp
  have HS : Hid (Sts (w.alloc (.cells (madeCells #[.string ByteArray.empty] L.length) 9)) w.heap.size L.length (fun j => if j < 0 then lf L j else ByteArray.empty) ∧ Below w.heap.size w (w.alloc (.cells (madeCells #[.string ByteArray.empty] L.length) 9)) ∧ w.heap.size < (w.alloc (.cells (madeCells #[.string ByteArray.empty] L.length) 9)).heap.size) := ⟨hst, hb, hl⟩
  clear hst hb hl
  go_loopw [4] (fun i wr => ∃ m : Nat, m ≤ L.length ∧ i = .int .i64 m ∧ Sts wr w.heap.size L.length (fun j => if j < m then lf L j else ByteArray.empty) ∧ Below w.heap.size w wr ∧ w.heap.size < wr.heap.size) (fun i _ => L.length - (intOf i).toNat)
  case atStart => exact ⟨0, Nat.zero_le _, rfl, HS.out.1, HS.out.2.1, HS.out.2.2⟩
  case round =>
    obtain ⟨m, hm, rfl, hi, hb, hl⟩ := hrel
    have HI : Hid (Sts wr w.heap.size L.length (fun j => if j < m then lf L j else ByteArray.empty)) := hi
    have HB : Hid (Below w.heap.size w wr ∧ w.heap.size < wr.heap.size) := ⟨hb, hl⟩
    by_cases hlt : m < L.length
    · obtain ⟨b, o, rfl, hc⟩ := HR.out (by omega)
      have hbl : b < w.heap.size := World.block_lt_of_cell? w _ (hc m hlt)
      have cs := (hb.cell (p := ⟨b, o + m, none⟩) hbl).trans (hc m hlt)
      have cd := hi.cell m hlt
      have fr : ∀ x, wr.frozen? ⟨w.heap.size, x, none⟩ = false := hi.free
      have hne : ¬ b = w.heap.size := by omega
      have HX : Hid (lf L m = L[m]) := lf_at L m hlt
      generalize L[m] = x at *
      clear hi hb hl hc
      go_wp2_with fail
      go_roundw
      case rel =>
        have h := HI.out.set m hlt x
        refine ⟨m + 1, by omega, by go_num, h.congr fun j _ => ?_, HB.out.1.setCell (Nat.le_refl _) _, by rw [World.size_setCell]; exact HB.out.2⟩
        unfold updS
        by_cases e : j = m
        · subst e
          rw [if_pos rfl, if_pos (by omega)]; exact HX.out.symm
        · rw [if_neg e]
          dsimp only
          by_cases e2 : j < m
          · rw [if_pos e2, if_pos (by omega)]
          · rw [if_neg e2, if_neg (by omega)]
      case measure => simp [intOf]; omega
    · have hme : m = L.length := by omega
      subst hme
      clear hi hb hl
      go_wp2_with fail
      go_ret
      exact ⟨rfl, HI.out.congr (fun j hj => by rw [if_pos hj]), HB.out.2, HB.out.1⟩

set_option maxHeartbeats 1000000 in
theorem eqStr_same (ao bo : Option Addr) (ca cb : Nat) (L : List ByteArray) (w : World) (ha : RdT w ao L) (hb : RdT w bo L) (hN : L.length ≤ 1048577) :
    Calls Tryz.prog 17 #[.slice ao L.length ca, .slice bo L.length cb] w fun e w' => e = .returned (.bool true) ∧ Below w.heap.size w w' := by
  have HA : Hid (RdT w ao L) := ha
  have HB : Hid (RdT w bo L) := hb
  clear ha hb
  go_enter Tryz.func17, Tryz.ntmps17
  go_wp2_with fail
  go_loopw [5] (fun i w' => ∃ m : Nat, m ≤ L.length ∧ i = .int .i64 m ∧ Below w.heap.size w w') (fun i _ => L.length - (intOf i).toNat)
  case atStart => exact ⟨0, Nat.zero_le _, by simp, Below.refl _ _⟩
  case round =>
    obtain ⟨m, hm, rfl, hbl⟩ := hrel
    have HBL : Hid (Below w.heap.size w wr) := hbl
    by_cases hlt : m < L.length
    · obtain ⟨b1, o1, rfl, c1⟩ := HA.out.below hbl (by omega)
      obtain ⟨b2, o2, rfl, c2⟩ := HB.out.below hbl (by omega)
      have q1 := c1 m hlt
      have q2 := c2 m hlt
      clear c1 c2 hbl
      generalize L[m] = x at *
      go_wp2_with fail
      go_quiet (fail)
      go_wp2_with fail
      go_roundw
      case rel => exact ⟨m + 1, by omega, by go_num, by first | exact HBL.out.drew | exact below_drewN HBL.out _⟩
      case measure => simp [intOf]; omega
    · clear hbl
      go_wp2_with fail
      go_ret
      exact ⟨rfl, HBL.out⟩

/-- The text of a mark. -/
def mkGo (k : Nat) (out : ByteArray) : ByteArray := if h : k = 0 then out else mkGo (k / 10) (⟨#[UInt8.ofNat (48 + k % 10)]⟩ ++ out)
termination_by k
decreasing_by omega
def mkT (k : Nat) : ByteArray := ⟨#[109]⟩ ++ mkGo k ⟨#[]⟩

theorem conv1 (b : UInt8) (x : Int) (h : x = b.toNat) (W : World) (g : Nat) (hc : W.cell? ⟨g, 0, none⟩ = some (.int .u8 x)) :
    (convert 121 9 (.slice (some ⟨g, 0, none⟩) 1 1)).run Tryz.prog W = .ok (.string ⟨#[b]⟩) W := by
  have := run_convert_bytes_back (P := Tryz.prog) W 121 9 5 ⟨g, 0, none⟩ 1 [b] Tryz.underlying121 Tryz.underlying5 Tryz.underlying9 (fun j hj => by
    have : j = 0 := by simpa using hj
    subst this
    show W.cell? ((⟨g, 0, none⟩ : Addr).add 0) = some (.int .u8 (b.toNat : Int))
    rw [← h]
    simpa [Addr.add] using hc)
  exact this
theorem tm (u : Nat) : 48 + (u : Int) % 10 = ((UInt8.ofNat (48 + u % 10)).toNat : Int) := by
  simp; omega
theorem ret_str {a b : ByteArray} (h : a = b) : Ending.returned (.string a) = .returned (.string b) := by rw [h]
theorem pow_fit {m k u : Nat} (h : u * 10 ^ m ≤ k) (hk : k ≤ 4000000000) (hu : 1 ≤ u) : m ≤ 9 := by
  rcases Nat.lt_or_ge 9 m with h6 | h6
  · have h1 : 10 ^ 10 ≤ 10 ^ m := Nat.pow_le_pow_right (by omega) h6
    have h2 : 10 ^ m ≤ u * 10 ^ m := Nat.le_mul_of_pos_left _ hu
    have : (10 : Nat) ^ 10 = 10000000000 := by decide
    omega
  · exact h6
theorem size_cons (b : UInt8) (s : ByteArray) : ((⟨#[b]⟩ : ByteArray) ++ s).size = s.size + 1 := by
  rw [ByteArray.size_append]
  show 1 + s.size = s.size + 1
  omega
end Go.Proofs.YtjjmikfbongccaaGreatDoor
namespace Go.Proofs.YtjjmikfbongccaaGreatDoor
open Go.RowKit
set_option linter.unusedVariables false

mutual
def cT : Tm → Nat
  | .mk _ _ _ l => 3 + cL l
def cL : List Tm → Nat
  | [] => 0
  | t :: r => cT t + cL r
end
mutual
def mrT : Tm → Nat → Tm
  | .mk _ _ _ l, K => .mk K ((K : Int) + 1) (mkT (K + 2)) (mrL l (K + 3))
def mrL : List Tm → Nat → List Tm
  | [], _ => []
  | t :: r, K => mrT t K :: mrL r (K + cT t)
end
theorem mrL_len : ∀ (l : List Tm) (K : Nat), (mrL l K).length = l.length
  | [], K => by rw [mrL]
  | t :: r, K => by rw [mrL, List.length_cons, List.length_cons, mrL_len r]
theorem cL_take (l : List Tm) (i : Nat) (h : i < l.length) : cL (l.take (i + 1)) = cL (l.take i) + cT l[i] := by
  induction l generalizing i with
  | nil => simp at h
  | cons t r ih =>
    cases i with
    | zero => simp [cL]
    | succ j =>
      have := ih j (by simpa using h)
      rw [List.take_succ_cons, List.take_succ_cons, cL, cL, this]
      simp only [List.getElem_cons_succ]
      omega
theorem mrL_take (l : List Tm) (i K : Nat) (h : i < l.length) : mrL (l.take (i + 1)) K = mrL (l.take i) K ++ [mrT l[i] (K + cL (l.take i))] := by
  induction l generalizing i K with
  | nil => simp at h
  | cons t r ih =>
    cases i with
    | zero => simp [mrL, cL]
    | succ j =>
      have := ih j (K + cT t) (by simpa using h)
      rw [List.take_succ_cons, List.take_succ_cons, mrL, mrL, this, cL]
      simp only [List.getElem_cons_succ, List.cons_append]
      rw [Nat.add_assoc]
theorem cL_le (l : List Tm) (i : Nat) : cL (l.take i) ≤ cL l := by
  induction l generalizing i with
  | nil => simp [cL]
  | cons t r ih =>
    cases i with
    | zero => simp [cL]
    | succ j => rw [List.take_succ_cons, cL, cL]; have := ih j; omega
theorem mkGo_size : ∀ (k : Nat) (s : ByteArray), (mkGo k s).size ≤ s.size + k := by
  intro k
  induction k using Nat.strongRecOn with
  | ind k ih =>
    intro s
    rw [mkGo]
    split
    · omega
    · rename_i hk
      have h1 := ih (k / 10) (by omega) (⟨#[UInt8.ofNat (48 + k % 10)]⟩ ++ s)
      rw [size_cons] at h1
      omega
theorem mkT_size (k : Nat) (h : k ≤ 3999999999) : (mkT k).size ≤ maxLen := by
  unfold mkT
  rw [size_cons]
  have := mkGo_size k ⟨#[]⟩
  have e : (⟨#[]⟩ : ByteArray).size = 0 := rfl
  unfold maxLen
  omega

/-- What was outside of [lo, hi) is as it was. -/
structure Out (lo hi : Nat) (w w' : World) : Prop where
  os : w'.os = w.os
  tape : w'.tape = w.tape
  output : w'.output = w.output
  size : w.heap.size ≤ w'.heap.size
  block : ∀ b, b < w.heap.size → ¬ (lo ≤ b ∧ b < hi) → w'.heap[b]? = w.heap[b]?
theorem Out.refl (lo hi : Nat) (w : World) : Out lo hi w w := ⟨rfl, rfl, rfl, Nat.le_refl _, fun _ _ _ => rfl⟩
theorem Out.trans {lo hi : Nat} {a b c : World} (h : Out lo hi a b) (k : Out lo hi b c) : Out lo hi a c :=
  ⟨k.os.trans h.os, k.tape.trans h.tape, k.output.trans h.output, Nat.le_trans h.size k.size, fun x hx hn => (k.block x (Nat.lt_of_lt_of_le hx h.size) hn).trans (h.block x hx hn)⟩
theorem Out.wide {lo hi lo' hi' : Nat} {a b : World} (h : Out lo hi a b) (h1 : lo' ≤ lo) (h2 : hi ≤ hi') : Out lo' hi' a b := ⟨h.os, h.tape, h.output, h.size, fun x hx hn => h.block x hx (fun hh => hn (by omega))⟩
theorem Out.below {lo hi : Nat} {a b : World} (h : Below a.heap.size a b) : Out lo hi a b := ⟨h.os, h.tape, h.output, h.size, fun x hx _ => h.block x hx⟩
theorem Out.set {lo hi : Nat} {a b : World} (h : Out lo hi a b) {g : Nat} (h1 : lo ≤ g) (h2 : g < hi) (o : Nat) (v : Value) : Out lo hi a (b.setCell ⟨g, o, none⟩ v) :=
  ⟨h.os, h.tape, h.output, by rw [World.size_setCell]; exact h.size, fun x hx hn => by rw [Below.heap_setCell _ ⟨g, o, none⟩ _ x (by show x ≠ g; omega)]; exact h.block x hx hn⟩

theorem keepM {w w' : World} (h : Below w.heap.size w w') {b o : Nat} {v : Value} (hc : w.cell? ⟨b, o, none⟩ = some v) : w'.cell? ⟨b, o, none⟩ = some v := by
  rw [h.cell (p := ⟨b, o, none⟩) (World.block_lt_of_cell? w _ hc)]; exact hc
/-- The two first cells are written. -/
def two (wr : World) (g o : Nat) (x y : Value) : World := (wr.setCell ⟨g, o, none⟩ x).setCell ⟨g, o + 1, none⟩ y
theorem two_far1 {wr : World} {g o : Nat} {x y : Value} {b o' : Nat} (h : b ≠ g ∨ o' < o ∨ o + 1 < o') : (two wr g o x y).cell? ⟨b, o', none⟩ = wr.cell? ⟨b, o', none⟩ := by
  unfold two
  rw [World.cell?_setCell_other (h := fun e => by simp only [Addr.mk.injEq] at e; omega), World.cell?_setCell_other (h := fun e => by simp only [Addr.mk.injEq] at e; omega)]
theorem two_in {wr : World} {g o : Nat} {x y x0 y0 : Value} (h0 : wr.cell? ⟨g, o, none⟩ = some x0) (h1 : wr.cell? ⟨g, o + 1, none⟩ = some y0) : (two wr g o x y).cell? ⟨g, o, none⟩ = some x ∧ (two wr g o x y).cell? ⟨g, o + 1, none⟩ = some y := by
  unfold two
  refine ⟨?_, ?_⟩
  · rw [World.cell?_setCell_other (h := fun e => by simp only [Addr.mk.injEq] at e; omega)]
    exact World.cell?_setCell_same wr _ _ h0
  · refine World.cell?_setCell_same _ _ _ (u := y0) ?_
    rw [World.cell?_setCell_other (h := fun e => by simp only [Addr.mk.injEq] at e; omega)]
    exact h1
theorem two_block {wr : World} {g o : Nat} {x y : Value} {b : Nat} (h : b ≠ g) : (two wr g o x y).heap[b]? = wr.heap[b]? := by
  unfold two
  rw [Below.heap_setCell _ ⟨g, o + 1, none⟩ _ b h, Below.heap_setCell _ ⟨g, o, none⟩ _ b h]
theorem two_size {wr : World} {g o : Nat} {x y : Value} : (two wr g o x y).heap.size = wr.heap.size := by
  unfold two
  rw [World.size_setCell, World.size_setCell]
theorem two_frozen {wr : World} {g o : Nat} {x y : Value} (p : Addr) : (two wr g o x y).frozen? p = wr.frozen? p := by
  unfold two
  rw [World.frozen?_setCell, World.frozen?_setCell]
/-- One of a row is marked. -/
theorem mark_step {wr w3 w5 : World} {A B : List Tm} {g lo1 hi1 e a m i Q : Nat} {k0 n0 : Int} {s0 : ByteArray} {L0 : List Tm} {ao0 : Option Addr} {cap0 : Nat} (hAl : A.length = i)
    (hA : OwR wr A g lo1 e 0) (he : e ≤ a) (ham : a ≤ m) (hmh : m ≤ hi1) (hhw : hi1 ≤ wr.heap.size) (hgw : g < wr.heap.size) (hex : g < a ∨ m ≤ g) (hB : OwR wr B g m hi1 (i * 4 + 4)) (hQ : Q ≤ 3999999988)
    (h0 : wr.cell? ⟨g, i * 4, none⟩ = some (.int .i64 k0)) (h1 : wr.cell? ⟨g, i * 4 + 1, none⟩ = some (.int .i64 n0)) (h2 : wr.cell? ⟨g, i * 4 + 2, none⟩ = some (.string s0)) (h3 : wr.cell? ⟨g, i * 4 + 3, none⟩ = some (.slice ao0 L0.length cap0)) (hl0 : L0.length ≤ cap0) (hc0 : cap0 ≤ maxLen)
    (hb3 : Below (two wr g (i * 4) (.int .i64 Q) (.int .i64 ((Q : Int) + 1))).heap.size (two wr g (i * 4) (.int .i64 Q) (.int .i64 ((Q : Int) + 1))) w3)
    (hO5 : OwL w5 (mrL L0 (Q + 3)) a m ao0) (hout : Out a m (w3.setCell ⟨g, i * 4 + 2, none⟩ (.string (mkT (Q + 2)))) w5) :
    OwR w5 (A ++ mrT (.mk k0 n0 s0 L0) Q :: B) g lo1 hi1 0 ∧ (∀ o, wr.frozen? ⟨g, o, none⟩ = w5.frozen? ⟨g, o, none⟩) := by
  have s2 : (two wr g (i * 4) (.int .i64 Q) (.int .i64 ((Q : Int) + 1))).heap.size = wr.heap.size := two_size
  have s3 := hb3.size
  rw [s2] at s3
  have hg3 : g < (w3.setCell ⟨g, i * 4 + 2, none⟩ (.string (mkT (Q + 2)))).heap.size := by rw [World.size_setCell]; omega
  have hgb : w5.heap[g]? = (w3.setCell ⟨g, i * 4 + 2, none⟩ (.string (mkT (Q + 2)))).heap[g]? := hout.block g hg3 (by omega)
  have hgc : ∀ o, w5.cell? ⟨g, o, none⟩ = (w3.setCell ⟨g, i * 4 + 2, none⟩ (.string (mkT (Q + 2)))).cell? ⟨g, o, none⟩ := fun o => World.cell?_of_block hgb
  have hfar : ∀ o v, (o < i * 4 ∨ i * 4 + 2 < o) → wr.cell? ⟨g, o, none⟩ = some v → w5.cell? ⟨g, o, none⟩ = some v := fun o v ho hv => by
    rw [hgc, World.cell?_setCell_other (h := fun e => by simp only [Addr.mk.injEq] at e; omega)]
    exact keepM hb3 (by rw [two_far1 (by omega)]; exact hv)
  have hblk : ∀ b, b ≠ g → ¬ (a ≤ b ∧ b < m) → b < wr.heap.size → w5.heap[b]? = wr.heap[b]? := fun b hbg hbn hbl => by
    rw [hout.block b (by rw [World.size_setCell]; omega) hbn, Below.heap_setCell _ ⟨g, i * 4 + 2, none⟩ _ b hbg, hb3.block b (by rw [s2]; exact hbl), two_block hbg]
  obtain ⟨t0, t1⟩ := two_in (x := .int .i64 Q) (y := .int .i64 ((Q : Int) + 1)) h0 h1
  refine ⟨OwR.join (e := e) (a := a) (m := m) (OwR.keep A g lo1 e 0 (fun b hb1 hb2 hb3' hbl => hblk b hb3' (by omega) hbl) (fun o v _ ho hv => hfar o v (by omega) hv) hA) he ham hex ?_ ?_, fun o => ?_⟩
  · rw [hAl, Nat.zero_add, mrT, OwT]
    refine ⟨?_, ?_, ?_, mkT_size _ (by omega), ao0, cap0, ?_, by rw [mrL_len]; exact hl0, hc0, hO5⟩
    · rw [hgc, World.cell?_setCell_other (h := fun e => by simp only [Addr.mk.injEq] at e; omega)]
      exact keepM hb3 t0
    · rw [hgc, World.cell?_setCell_other (h := fun e => by simp only [Addr.mk.injEq] at e; omega)]
      exact keepM hb3 t1
    · rw [hgc]
      refine World.cell?_setCell_same _ _ _ (u := .string s0) ?_
      exact keepM hb3 (by rw [two_far1 (by omega)]; exact h2)
    · rw [mrL_len]
      exact hfar _ _ (by omega) h3
  · rw [hAl, Nat.zero_add]
    exact OwR.keep B g m hi1 (i * 4 + 4) (fun b hb1 hb2 hb3' hbl => hblk b hb3' (by omega) hbl) (fun o v ho _ hv => hfar o v (by omega) hv) hB
  · have f1 : w5.frozen? ⟨g, o, none⟩ = (w3.setCell ⟨g, i * 4 + 2, none⟩ (.string (mkT (Q + 2)))).frozen? ⟨g, o, none⟩ := World.frozen?_of_block hgb
    rw [f1, World.frozen?_setCell, hb3.frozen (p := ⟨g, o, none⟩) (by show g < _; rw [s2]; exact hgw), two_frozen]

end Go.Proofs.YtjjmikfbongccaaGreatDoor
namespace Go.Proofs.YtjjmikfbongccaaGreatDoor
open Go.RowKit
set_option linter.unusedVariables false

theorem mrL_get : ∀ (l : List Tm) (K i : Nat) (h : i < (mrL l K).length) (h' : i < l.length), (mrL l K)[i] = mrT l[i] (K + cL (l.take i))
  | [], K, i, h, h' => absurd h' (by simp)
  | t :: r, K, i, h, h' => by
    cases i with
    | zero => simp [mrL, cL]
    | succ j =>
      have hj : j < r.length := by simpa using h'
      have := mrL_get r (K + cT t) j (by rw [mrL_len]; exact hj) hj
      simp only [mrL, List.getElem_cons_succ, this, List.take_succ_cons, cL]
      rw [Nat.add_assoc]
theorem bundrewM {W w3 : World} (hb : Below W.drew.heap.size W.drew w3) : Below W.heap.size W w3 := ⟨hb.os, hb.tape, hb.output, hb.size, hb.block⟩
theorem repL_below {w w' : World} {l : List Tm} {ao : Option Addr} (h : RepL 0 w l ao) (hb : Below w.heap.size w w') : RepL 0 w' l ao := (Keeps.below hb 0).repL _ _ h

end Go.Proofs.YtjjmikfbongccaaGreatDoor
namespace Go.Proofs.YtjjmikfbongccaaGreatDoor
open Go.RowKit
set_option linter.unusedVariables false

set_option maxHeartbeats 1000000 in
theorem szStr2_any (ao : Option Addr) (cap : Nat) (L : List ByteArray) (w : World) (hr : RdT w ao L) (hN : L.length ≤ maxLen) (hs : ∀ x ∈ L, x.size ≤ maxLen) (lf0 : Int) (hl0 : 0 ≤ lf0) (hl1 : lf0 ≤ 1048576) :
    Calls Tryz.prog 7 #[.slice ao L.length cap, .int .i64 lf0] w fun e w' => ∃ y : Int, e = .returned (.int .i64 y) ∧ w' = w ∧ -1 ≤ y ∧ (0 ≤ y → L.length ≤ 1048576 ∧ ∀ x ∈ L, x.size ≤ 1048576) := by
  have HR : Hid (RdT w ao L) := hr
  have HS : Hid (∀ x ∈ L, x.size ≤ maxLen) := hs
  clear hr hs
  unfold maxLen at hN
  by_cases hb : (L.length : Int) ≤ lf0
  · go_enter Tryz.func7, Tryz.ntmps7
    go_wp2_with fail
    go_loop [1, 5] (fun a i => ∃ (m : Nat) (c : Int), m ≤ L.length ∧ i = .int .i64 m ∧ a = .int .i64 c ∧ 0 ≤ c ∧ c ≤ 1048576 ∧ ∀ x ∈ L.take m, x.size ≤ 1048576) (fun _ i => L.length - (intOf i).toNat)
    case atStart => exact ⟨0, lf0 - L.length, Nat.zero_le _, rfl, rfl, by omega, by omega, fun x hx => by simp at hx⟩
    case round =>
      obtain ⟨m, c, hm, rfl, rfl, hc0, hc1, htk⟩ := hrel
      have HTK : Hid (∀ x ∈ L.take m, x.size ≤ 1048576) := htk
      clear htk
      by_cases hlt : m < L.length
      · obtain ⟨b, o, rfl, hc⟩ := HR.out (by omega)
        have q := hc m hlt
        have hsz := HS.out _ (List.getElem_mem hlt)
        unfold maxLen at hsz
        have HNX : Hid (L[m].size ≤ 1048576 → ∀ x ∈ L.take (m + 1), x.size ≤ 1048576) := fun h x hx => by
          rw [List.take_add_one, List.getElem?_eq_getElem hlt] at hx
          rcases List.mem_append.mp hx with h1 | h1
          · exact HTK.out x h1
          · simp at h1; rw [h1]; exact h
        generalize L[m] = x at *
        clear hc
        by_cases hx : c - x.size < 0
        · go_wp2_with fail
          go_ret
          exact ⟨(-1 : Int), rfl, rfl, by omega, fun h => absurd h (by omega)⟩
        · go_wp2_with fail
          go_round
          case rel => exact ⟨m + 1, c - x.size, by omega, by go_num, rfl, by omega, by omega, HNX.out (by omega)⟩
          case measure => simp [intOf]; omega
      · go_wp2_with fail
        go_ret
        have e : m = L.length := by omega
        have h := HTK.out
        rw [e, List.take_length] at h
        exact ⟨c, rfl, rfl, by omega, fun _ => ⟨by omega, h⟩⟩
  · go_enter Tryz.func7, Tryz.ntmps7
    go_wp2_with fail
    go_ret
    exact ⟨_, rfl, rfl, by omega, fun h => absurd h (by omega)⟩


theorem keep0 {w w' : World} (h : Below w.heap.size w w') {b o : Nat} {v : Value} (hc : w.cell? ⟨b, o, none⟩ = some v) : w'.cell? ⟨b, o, none⟩ = some v := by
  rw [h.cell (p := ⟨b, o, none⟩) (World.block_lt_of_cell? w _ hc)]; exact hc
theorem bundrew2 {W w3 : World} (hb : Below W.drew.heap.size W.drew w3) : Below W.heap.size W w3 := ⟨hb.os, hb.tape, hb.output, hb.size, hb.block⟩

def rootsOf (n : Nat) (g : Nat → Int) : List Int := (List.range n).map g
theorem roots_len (n : Nat) (g : Nat → Int) : (rootsOf n g).length = n := by simp [rootsOf]

/-! ### What both answer, a term in each case -/
def tOf : Option Tm → Tm
  | some t => t
  | none => .mk 0 0 ByteArray.empty []
mutual
theorem look_cT : ∀ (t : Tm) (d m x : Nat), look t d m = some x → cT t + 3 * x ≤ 3 * m
  | .mk k n s l, d, m, x, h => by
    rw [look] at h
    split at h
    · cases h
    · rename_i hc
      have := look_cL l _ _ _ h
      rw [cT]
      omega
theorem look_cL : ∀ (l : List Tm) (d m x : Nat), lookL l d m = some x → cL l + 3 * x ≤ 3 * m
  | [], d, m, x, h => by rw [lookL] at h; cases h; rw [cL]; omega
  | t :: r, d, m, x, h => by
    rw [lookL] at h
    split at h
    · cases h
    · rename_i y hy
      have h1 := look_cT t d m y hy
      have h2 := look_cL r d y x h
      rw [cL]
      omega
end
theorem repV_below {w w' : World} {t : Tm} {v : Value} (h : RepV 0 w t v) (hb : Below w.heap.size w w') : RepV 0 w' t v := (Keeps.below hb 0).repV h
end Go.Proofs.YtjjmikfbongccaaGreatDoor
namespace Go.Proofs.YtjjmikfbongccaaGreatDoor
open Go.RowKit
set_option linter.unusedVariables false

/-- Both lists, each in a block of its own. -/
structure IG (w : World) (g y N M : Nat) (f h : Nat → Int) : Prop where
  o : Ints w g 0 N f
  i : Ints w y 0 M h
  lt : g < y
theorem IG.below {w w' : World} {g y N M : Nat} {f h : Nat → Int} (k : IG w g y N M f h) (hb : Below w.heap.size w w') (hy : y < w.heap.size) : IG w' g y N M f h := ⟨k.o.below hb (by have := k.lt; omega), k.i.below hb hy, k.lt⟩
def RdG (w : World) (ao : Option Addr) (N : Nat) (f : Nat → Int) (yo : Option Addr) (M : Nat) (h : Nat → Int) : Prop := RdI w ao N f ∧ RdI w yo M h
theorem RdG.below {w w' : World} {ao : Option Addr} {N : Nat} {f : Nat → Int} {yo : Option Addr} {M : Nat} {h : Nat → Int} (k : RdG w ao N f yo M h) (hb : Below w.heap.size w w') : RdG w' ao N f yo M h := ⟨k.1.below hb, k.2.below hb⟩
theorem keep3 {w w' : World} (h : Below w.heap.size w w') {b : Nat} {x y z : Value} (hc : ∀ o, w.cell? ⟨b, o, none⟩ = (#[x, y, z] : Array Value)[o]?) : ∀ o, w'.cell? ⟨b, o, none⟩ = (#[x, y, z] : Array Value)[o]? := fun o => by
  have hlt : b < w.heap.size := World.block_lt_of_cell? w ⟨b, 0, none⟩ (hc 0)
  rw [h.cell (p := ⟨b, o, none⟩) hlt]; exact hc o
/-- No more than a million of both together. -/
def Few (N M : Nat) : Prop := N ≤ 1048576 ∧ M ≤ 1048576 ∧ N + M ≤ 1048576
set_option maxRecDepth 100000 in
theorem szGens_any (ao : Option Addr) (N cap : Nat) (yo : Option Addr) (M ycap : Nat) (mk : Int) (left : Int) (hN : N ≤ maxLen) (hM : M ≤ maxLen) (h0 : left = 1048576) (w : World) :
    Calls Tryz.prog 6 #[.agg #[.slice ao N cap, .slice yo M ycap, .int .i64 mk], .int .i64 left] w fun e w' => ∃ y : Int, e = .returned (.int .i64 y) ∧ Below w.heap.size w w' ∧ -1 ≤ y ∧ (0 ≤ y → Few N M ∧ y ≤ 1048576) := by
  subst h0
  have HN : Hid (N ≤ maxLen) := hN
  have HM : Hid (M ≤ maxLen) := hM
  have hge := szI_ge N 1048576
  obtain ⟨y, hyy⟩ : ∃ y, szI N 1048576 = y := ⟨_, rfl⟩
  have HE : Hid (szI N 1048576 = y) := hyy
  have HY : Hid (0 ≤ y → N ≤ 1048576 ∧ y = 1048576 - N) := fun h => by
    unfold szI at hyy
    split at hyy <;> omega
  rw [hyy] at hge
  clear hyy hN hM
  go_enter Tryz.func6, Tryz.ntmps6
  go_wp2_with fail
  refine (szIntS_any ao N cap 1048576 HN.out (by decide) _).mono ?_
  rintro e w1 ⟨rfl, hw1⟩
  rw [HE.out]
  have hb1 : Below w.heap.size w w1 := by rw [hw1]; exact (Below.refl _ _).alloc (Nat.le_refl _) _
  have q1 : ∀ o, w1.cell? ⟨w.heap.size, o, none⟩ = (#[.slice ao N cap, .slice yo M ycap, .int .i64 mk] : Array Value)[o]? := fun o => by rw [hw1]; exact World.cell?_alloc_new w _ _ o
  have HB1 : Hid (Below w.heap.size w w1) := hb1
  clear hw1 hb1
  by_cases hy : y < 0
  · have e : y = -1 := by omega
    subst e
    go_wp2_with fail
    go_ret
    exact ⟨-1, rfl, HB1.out, by omega, fun h => absurd h (by decide)⟩
  · have hy0 : 0 ≤ y := by omega
    obtain ⟨hy1, hy2⟩ := HY.out hy0
    have HB2 : Hid (0 ≤ y ∧ y ≤ 1048576) := by show _ ∧ _; omega
    have hge2 := szI_ge M y
    obtain ⟨z, hzz⟩ : ∃ z, szI M y = z := ⟨_, rfl⟩
    have HZ : Hid (szI M y = z) := hzz
    have HFE : Hid (0 ≤ z → Few N M ∧ z ≤ 1048576) := fun h => by
      unfold szI at hzz
      unfold Few
      split at hzz <;> omega
    rw [hzz] at hge2
    clear hzz hy1 hy2
    go_wp2_with fail
    refine (szIntS_any yo M ycap y HM.out HB2.out _).mono ?_
    rintro e w2 ⟨rfl, hw2⟩
    obtain rfl := hw2.symm
    rw [HZ.out]
    by_cases hz : z < 0
    · have e : z = -1 := by omega
      subst e
      go_wp2_with fail
      go_ret
      exact ⟨-1, rfl, HB1.out, by omega, fun h => absurd h (by decide)⟩
    · go_wp2_with fail
      go_ret
      exact ⟨z, rfl, HB1.out, hge2, HFE.out⟩
set_option maxHeartbeats 2000000 in
set_option maxRecDepth 100000 in
theorem toGens_any (ao : Option Addr) (N cap : Nat) (f : Nat → Int) (yo : Option Addr) (M ycap : Nat) (h : Nat → Int) (mk : Int) (w : World) (hr : RdG w ao N f yo M h) (hF : Few N M) :
    Calls Tryz.prog 11 #[.agg #[.slice ao N cap, .slice yo M ycap, .int .i64 mk]] w fun e w' => ∃ g y, e = .returned (.agg #[.slice (some ⟨g, 0, none⟩) N N, .slice (some ⟨y, 0, none⟩) M M, .int .i64 mk]) ∧ w.heap.size ≤ g ∧ IG w' g y N M f h ∧ y < w'.heap.size ∧ Below w.heap.size w w' := by
  have HR : Hid (RdG w ao N f yo M h) := hr
  have HF : Hid (Few N M) := hF
  clear hr hF
  go_enter Tryz.func11, Tryz.ntmps11
  go_wp2_with fail
  generalize hA : w.alloc (.cells #[.slice ao N cap, .slice yo M ycap, .int .i64 mk] 27) = wa
  have hba : Below w.heap.size w wa := by rw [← hA]; exact (Below.refl _ _).alloc (Nat.le_refl _) _
  have hza : wa.heap.size = w.heap.size + 1 := by rw [← hA, World.size_alloc]
  have qa : ∀ o, wa.cell? ⟨w.heap.size, o, none⟩ = (#[.slice ao N cap, .slice yo M ycap, .int .i64 mk] : Array Value)[o]? := fun o => by rw [← hA]; exact World.cell?_alloc_new w _ _ o
  clear hA
  generalize hB : wa.alloc (.cells #[.slice none 0 0, .slice none 0 0, .int .i64 0] 38) = wb
  have hbb : Below wa.heap.size wa wb := by rw [← hB]; exact (Below.refl _ _).alloc (Nat.le_refl _) _
  have hzb : wb.heap.size = w.heap.size + 2 := by rw [← hB, World.size_alloc, hza]
  have qb : ∀ o, wb.cell? ⟨w.heap.size + 1, o, none⟩ = (#[.slice none 0 0, .slice none 0 0, .int .i64 0] : Array Value)[o]? := fun o => by rw [← hB, ← hza]; exact World.cell?_alloc_new wa _ _ o
  have fb : ∀ o, wb.frozen? ⟨w.heap.size + 1, o, none⟩ = false := fun o => by rw [← hB, ← hza]; exact World.frozen?_alloc_new wa _ _ o
  clear hB
  generalize hC : wb.alloc (.cells #[.slice none 0 0, .slice none 0 0, .int .i64 0] 38) = wc
  have hbc : Below wb.heap.size wb wc := by rw [← hC]; exact (Below.refl _ _).alloc (Nat.le_refl _) _
  have hzc : wc.heap.size = w.heap.size + 3 := by rw [← hC, World.size_alloc, hzb]
  have qc : ∀ o, wc.cell? ⟨w.heap.size + 1 + 1, o, none⟩ = (#[.slice none 0 0, .slice none 0 0, .int .i64 0] : Array Value)[o]? := fun o => by rw [← hC, show w.heap.size + 1 + 1 = wb.heap.size by omega]; exact World.cell?_alloc_new wb _ _ o
  have fc : ∀ o, wc.frozen? ⟨w.heap.size + 1 + 1, o, none⟩ = false := fun o => by rw [← hC, show w.heap.size + 1 + 1 = wb.heap.size by omega]; exact World.frozen?_alloc_new wb _ _ o
  clear hC
  have qa' := keep3 hbc (keep3 hbb qa)
  have qb' := keep3 hbc qb
  have fb' : ∀ o, wc.frozen? ⟨w.heap.size + 1, o, none⟩ = false := fun o => by rw [hbc.frozen (p := ⟨w.heap.size + 1, o, none⟩) (by show w.heap.size + 1 < _; omega)]; exact fb o
  have HBW : Hid (Below w.heap.size w wc) := below_join hba (below_join hbb hbc)
  clear qa qb fb hba hbb hbc
  obtain ⟨g, hg⟩ : ∃ g, g = wc.heap.size := ⟨_, rfl⟩
  refine (toIntS_any ao N cap f wc (HR.out.below HBW.out).1 HF.out.1).mono ?_
  rintro e w1 ⟨rfl, hi1, hl1, hb1⟩
  rw [← hg] at hi1 hl1 ⊢
  have qa1 := keep3 hb1 qa'
  have qb1 := keep3 hb1 qb'
  have qc1 := keep3 hb1 qc
  have fb1 : ∀ o, w1.frozen? ⟨w.heap.size + 1, o, none⟩ = false := fun o => by rw [hb1.frozen (p := ⟨w.heap.size + 1, o, none⟩) (by show w.heap.size + 1 < _; omega)]; exact fb' o
  have fc1 : ∀ o, w1.frozen? ⟨w.heap.size + 1 + 1, o, none⟩ = false := fun o => by rw [hb1.frozen (p := ⟨w.heap.size + 1 + 1, o, none⟩) (by show w.heap.size + 1 + 1 < _; omega)]; exact fc o
  have HI1 : Hid (Ints w1 g 0 N f) := hi1
  have HL1 : Hid (g < w1.heap.size ∧ g = w.heap.size + 3) := ⟨hl1, by omega⟩
  have HB1 : Hid (Below w.heap.size w w1) := below_join HBW.out hb1
  clear hi1 hl1 hb1 qa' qb' qc fb' fc hg hza hzb hzc
  go_wp2_with fail
  generalize hD : w1.setCell ⟨w.heap.size + 1 + 1, 0, none⟩ (.slice (some ⟨g, 0, none⟩) N N) = w2
  have hz2 : w2.heap.size = w1.heap.size := by rw [← hD, World.size_setCell]
  have hb2 : Below w.heap.size w w2 := by rw [← hD]; exact HB1.out.setCell (by show w.heap.size ≤ w.heap.size + 1 + 1; omega) _
  have hi2 : Ints w2 g 0 N f := by rw [← hD]; exact HI1.out.turn ((Turn.refl (w.heap.size + 1 + 1) _).set 0 _) (by have := HL1.out.2; omega) HL1.out.1
  have qa2 : ∀ o, w2.cell? ⟨w.heap.size, o, none⟩ = (#[.slice ao N cap, .slice yo M ycap, .int .i64 mk] : Array Value)[o]? := fun o => by rw [← hD, World.cell?_setCell_other (h := fun e => by simp only [Addr.mk.injEq] at e; omega)]; exact qa1 o
  have qb2 : ∀ o, w2.cell? ⟨w.heap.size + 1, o, none⟩ = (#[.slice none 0 0, .slice none 0 0, .int .i64 0] : Array Value)[o]? := fun o => by rw [← hD, World.cell?_setCell_other (h := fun e => by simp only [Addr.mk.injEq] at e; omega)]; exact qb1 o
  have k20 : w2.cell? ⟨w.heap.size + 1 + 1, 0, none⟩ = some (.slice (some ⟨g, 0, none⟩) N N) := by rw [← hD]; exact World.cell?_setCell_same w1 _ _ (qc1 0)
  have k21 : w2.cell? ⟨w.heap.size + 1 + 1, 1, none⟩ = some (.slice none 0 0) := by rw [← hD, World.cell?_setCell_other (h := fun e => by simp only [Addr.mk.injEq] at e; omega)]; exact qc1 1
  have k22 : w2.cell? ⟨w.heap.size + 1 + 1, 2, none⟩ = some (.int .i64 0) := by rw [← hD, World.cell?_setCell_other (h := fun e => by simp only [Addr.mk.injEq] at e; omega)]; exact qc1 2
  have fb2 : ∀ o, w2.frozen? ⟨w.heap.size + 1, o, none⟩ = false := fun o => by rw [← hD, World.frozen?_setCell]; exact fb1 o
  have fc2 : ∀ o, w2.frozen? ⟨w.heap.size + 1 + 1, o, none⟩ = false := fun o => by rw [← hD, World.frozen?_setCell]; exact fc1 o
  clear hD qa1 qb1 qc1 fb1 fc1
  have hgl2 : g < w2.heap.size := by rw [hz2]; exact HL1.out.1
  obtain ⟨y, hy⟩ : ∃ y, y = w2.heap.size := ⟨_, rfl⟩
  refine (toIntS_any yo M ycap h w2 (HR.out.below hb2).2 HF.out.2.1).mono ?_
  rintro e w3 ⟨rfl, hi3, hl3, hb3⟩
  rw [← hy] at hi3 hl3 ⊢
  have hg3 := HL1.out.2
  have qb3 := keep3 hb3 qb2
  have qa3 := keep3 hb3 qa2
  have k30 := keep0 hb3 k20
  have k31 := keep0 hb3 k21
  have k32 := keep0 hb3 k22
  have fb3 : ∀ o, w3.frozen? ⟨w.heap.size + 1, o, none⟩ = false := fun o => by rw [hb3.frozen (p := ⟨w.heap.size + 1, o, none⟩) (by show w.heap.size + 1 < _; omega)]; exact fb2 o
  have fc3 : ∀ o, w3.frozen? ⟨w.heap.size + 1 + 1, o, none⟩ = false := fun o => by rw [hb3.frozen (p := ⟨w.heap.size + 1 + 1, o, none⟩) (by show w.heap.size + 1 + 1 < _; omega)]; exact fc2 o
  have HB3 : Hid (Below w.heap.size w w3) := hb2.trans (hb3.mono hb2.size)
  have HIG : Hid (IG w3 g y N M f h) := ⟨hi2.below hb3 hgl2, hi3, by omega⟩
  have HYL : Hid (y < w3.heap.size ∧ w.heap.size + 3 ≤ g) := ⟨hl3, by omega⟩
  clear hi3 hl3 hb3 hb2 hi2 qa2 qb2 k20 k21 k22 fb2 fc2 hz2 hgl2 hy hg3
  go_wp2_with fail
  have hIG := HIG.out
  have hyl := HYL.out.1
  have hgl := HYL.out.2
  have hlt := hIG.lt
  have tn : ∀ (W : World) (c o : Nat) (v : Value), c ≠ g → c ≠ y → y < W.heap.size → IG W g y N M f h → IG (W.setCell ⟨c, o, none⟩ v) g y N M f h := fun W c o v h1 h2 hl k =>
    ⟨k.o.turn ((Turn.refl c _).set o _) (by omega) (by omega), k.i.turn ((Turn.refl c _).set o _) (by omega) hl, k.lt⟩
  have n1 : w.heap.size + 1 + 1 ≠ g ∧ w.heap.size + 1 + 1 ≠ y ∧ w.heap.size + 1 ≠ g ∧ w.heap.size + 1 ≠ y := by omega
  have j1 := tn w3 (w.heap.size + 1 + 1) 1 (.slice (some ⟨y, 0, none⟩) M M) n1.1 n1.2.1 hyl hIG
  have j2 := tn _ (w.heap.size + 1 + 1) 2 (.int .i64 mk) n1.1 n1.2.1 (by rw [World.size_setCell]; exact hyl) j1
  have j3 := tn _ (w.heap.size + 1) 0 (.slice (some ⟨g, 0, none⟩) N N) n1.2.2.1 n1.2.2.2 (by rw [World.size_setCell, World.size_setCell]; exact hyl) j2
  have j4 := tn _ (w.heap.size + 1) 1 (.slice (some ⟨y, 0, none⟩) M M) n1.2.2.1 n1.2.2.2 (by rw [World.size_setCell, World.size_setCell, World.size_setCell]; exact hyl) j3
  have j5 := tn _ (w.heap.size + 1) 2 (.int .i64 mk) n1.2.2.1 n1.2.2.2 (by rw [World.size_setCell, World.size_setCell, World.size_setCell, World.size_setCell]; exact hyl) j4
  have b1 : w.heap.size ≤ w.heap.size + 1 := by omega
  have b2 : w.heap.size ≤ w.heap.size + 1 + 1 := by omega
  have hbf := ((((HB3.out.setCell (p := ⟨w.heap.size + 1 + 1, 1, none⟩) b2 (.slice (some ⟨y, 0, none⟩) M M)).setCell (p := ⟨w.heap.size + 1 + 1, 2, none⟩) b2 (.int .i64 mk)).setCell (p := ⟨w.heap.size + 1, 0, none⟩) b1 (.slice (some ⟨g, 0, none⟩) N N)).setCell (p := ⟨w.heap.size + 1, 1, none⟩) b1 (.slice (some ⟨y, 0, none⟩) M M)).setCell (p := ⟨w.heap.size + 1, 2, none⟩) b1 (.int .i64 mk)
  exact bodyPost_ret (v := .agg #[.slice (some ⟨g, 0, none⟩) N N, .slice (some ⟨y, 0, none⟩) M M, .int .i64 mk]) (by simp [results, Tryz.results11, go_sem, qb3]) rfl ⟨g, y, rfl, by omega, j5, by rw [World.size_setCell, World.size_setCell, World.size_setCell, World.size_setCell, World.size_setCell]; exact hyl, hbf⟩
set_option maxHeartbeats 1000000 in
set_option maxRecDepth 100000 in
theorem eqGens_same (ao bo yo zo : Option Addr) (N ca cb M cy cz : Nat) (f h : Nat → Int) (mk : Int) (w : World) (ha : RdI w ao N f) (hb : RdI w bo N f) (hy : RdI w yo M h) (hz : RdI w zo M h) (hF : Few N M) :
    Calls Tryz.prog 16 #[.agg #[.slice ao N ca, .slice yo M cy, .int .i64 mk], .agg #[.slice bo N cb, .slice zo M cz, .int .i64 mk]] w fun e w' => e = .returned (.bool true) ∧ Below w.heap.size w w' := by
  have HA : Hid (RdI w ao N f) := ha
  have HB : Hid (RdI w bo N f) := hb
  have HY : Hid (RdI w yo M h) := hy
  have HZ : Hid (RdI w zo M h) := hz
  have HF : Hid (Few N M) := hF
  clear ha hb hy hz hF
  go_enter Tryz.func16, Tryz.ntmps16
  go_wp2_with fail
  generalize hA : w.alloc (.cells #[.slice ao N ca, .slice yo M cy, .int .i64 mk] 38) = wa
  have hba : Below w.heap.size w wa := by rw [← hA]; exact (Below.refl _ _).alloc (Nat.le_refl _) _
  have hza : wa.heap.size = w.heap.size + 1 := by rw [← hA, World.size_alloc]
  have qa : ∀ o, wa.cell? ⟨w.heap.size, o, none⟩ = (#[.slice ao N ca, .slice yo M cy, .int .i64 mk] : Array Value)[o]? := fun o => by rw [← hA]; exact World.cell?_alloc_new w _ _ o
  clear hA
  generalize hB : wa.alloc (.cells #[.slice bo N cb, .slice zo M cz, .int .i64 mk] 38) = wb
  have hbb : Below wa.heap.size wa wb := by rw [← hB]; exact (Below.refl _ _).alloc (Nat.le_refl _) _
  have qb : ∀ o, wb.cell? ⟨w.heap.size + 1, o, none⟩ = (#[.slice bo N cb, .slice zo M cz, .int .i64 mk] : Array Value)[o]? := fun o => by rw [← hB, ← hza]; exact World.cell?_alloc_new wa _ _ o
  clear hB
  have qab := keep3 hbb qa
  have hbw := below_join hba hbb
  have HBW : Hid (Below w.heap.size w wb) := hbw
  refine (eqIntS_same ao bo N ca cb f f wb (HA.out.below hbw) (HB.out.below hbw) (fun _ _ => rfl) HF.out.1).mono ?_
  rintro e w1 ⟨rfl, hb1⟩
  have qa1 := keep3 hb1 qab
  have qb1 := keep3 hb1 qb
  have HB1 : Hid (Below w.heap.size w w1) := below_join hbw hb1
  clear qa qb qab hba hbb hbw hb1 hza
  go_wp2_with fail
  refine (eqIntS_same yo zo M cy cz h h w1 (HY.out.below HB1.out) (HZ.out.below HB1.out) (fun _ _ => rfl) HF.out.2.1).mono ?_
  rintro e w2 ⟨rfl, hb2⟩
  have qa2 := keep3 hb2 qa1
  have qb2 := keep3 hb2 qb1
  have HB2 : Hid (Below w.heap.size w w2) := below_join HB1.out hb2
  clear qa1 qb1 hb2
  go_wp2_with fail
  go_ret
  exact ⟨rfl, HB2.out⟩
end Go.Proofs.YtjjmikfbongccaaGreatDoor
