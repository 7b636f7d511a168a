/-
  How the exact laws over bytes copy, compare, mark and hold them.
-/
import Derived.Test.YtcpodedmeeihhaaDoorByA
import Derived.Deep.OwnRows
import Derived.Deep.RegionWith
namespace Go.Proofs.YtcpodedmeeihhaaDoor.By
open Go.RowKit
set_option linter.unusedVariables false

/-- The N bytes f stand in the block b from 0 on, and may be written. -/
structure Bys (w : World) (b N : Nat) (f : Nat → Int) : Prop where
  cell : ∀ j, j < N → w.cell? ⟨b, j, none⟩ = some (.int .u8 (f j))
  free : ∀ x, w.frozen? ⟨b, x, none⟩ = false
def updB (f : Nat → Int) (i : Nat) (x : Int) : Nat → Int := fun j => if j = i then x else f j
theorem Bys.congr {w : World} {b N : Nat} {f g : Nat → Int} (h : Bys w b N f) (e : ∀ j, j < N → f j = g j) : Bys w b N g :=
  ⟨fun j hj => by rw [← e j hj]; exact h.cell j hj, h.free⟩
theorem Bys.set {w : World} {b N : Nat} {f : Nat → Int} (h : Bys w b N f) (i : Nat) (hi : i < N) (x : Int) : Bys (w.setCell ⟨b, i, none⟩ (.int .u8 x)) b N (updB f i x) := by
  refine ⟨fun j hj => ?_, fun y => by rw [World.frozen?_setCell]; exact h.free y⟩
  by_cases e : j = i
  · subst e
    rw [updB, if_pos rfl]
    exact World.cell?_setCell_same w _ _ (h.cell j hj)
  · rw [updB, if_neg e, World.cell?_setCell_other (h := fun q => by simp at q; try omega)]
    exact h.cell j hj
theorem Bys.below {w w' : World} {b N : Nat} {f : Nat → Int} (h : Bys w b N f) (hb : Below w.heap.size w w') (hlt : b < w.heap.size) : Bys w' b N f :=
  ⟨fun j hj => by rw [hb.cell (p := ⟨b, j, none⟩) hlt]; exact h.cell j hj, fun x => by rw [hb.frozen (p := ⟨b, x, none⟩) hlt]; exact h.free x⟩
theorem Bys.turn {cb : Nat} {w w' : World} {b N : Nat} {f : Nat → Int} (h : Bys w b N f) (t : Turn cb w w') (hn : b ≠ cb) (hlt : b < w.heap.size) : Bys w' b N f :=
  ⟨fun j hj => t.cell hn (h.cell j hj), fun x => by rw [t.frozen hn hlt]; exact h.free x⟩

/-- The bytes L, read from o of the block b on. -/
def BAt (w : World) (b o : Nat) (L : List UInt8) : Prop := ∀ j (h : j < L.length), w.cell? ⟨b, o + j, none⟩ = some (.int .u8 ((L[j].toNat : Nat) : Int))
theorem BAt.below {w w' : World} {b o : Nat} {L : List UInt8} (h : BAt w b o L) (hb : Below w.heap.size w w') : BAt w' b o L := fun j hj => by
  have := h j hj
  rw [hb.cell (p := ⟨b, o + j, none⟩) (World.block_lt_of_cell? w _ this)]; exact this
theorem BAt.turn {cb : Nat} {w w' : World} {b o : Nat} {L : List UInt8} (h : BAt w b o L) (t : Turn cb w w') (hn : b ≠ cb) : BAt w' b o L := fun j hj => t.cell hn (h j hj)
/-- What a law is handed: L, wherever it lies; of nothing the place is open. -/
def RdB (w : World) (ao : Option Addr) (L : List UInt8) : Prop := L.length ≠ 0 → ∃ b o, ao = some ⟨b, o, none⟩ ∧ BAt w b o L
theorem RdB.below {w w' : World} {ao : Option Addr} {L : List UInt8} (h : RdB w ao L) (hb : Below w.heap.size w w') : RdB w' ao L := fun h0 => by
  obtain ⟨b, o, e, hc⟩ := h h0
  exact ⟨b, o, e, hc.below hb⟩
theorem BAt.rd {w : World} {b o : Nat} {L : List UInt8} (h : BAt w b o L) : RdB w (some ⟨b, o, none⟩) L := fun _ => ⟨b, o, rfl, h⟩
def bf (L : List UInt8) : Nat → Int := fun j => ((L.getD j 0).toNat : Nat)
theorem bf_at (L : List UInt8) (j : Nat) (h : j < L.length) : bf L j = ((L[j].toNat : Nat) : Int) := by
  unfold bf; rw [List.getD_eq_getElem?_getD, List.getElem?_eq_getElem h]; rfl
theorem Bys.at {w : World} {b : Nat} {L : List UInt8} (h : Bys w b L.length (bf L)) : BAt w b 0 L := fun j hj => by
  rw [Nat.zero_add, ← bf_at L j hj]; exact h.cell j hj
theorem BAt.bys {w : World} {g : Nat} {L : List UInt8} (h : BAt w g 0 L) (hf : ∀ x, w.frozen? ⟨g, x, none⟩ = false) : Bys w g L.length (bf L) :=
  ⟨fun j hj => by rw [bf_at L j hj]; have := h j hj; rw [Nat.zero_add] at this; exact this, hf⟩

theorem infoU8 : (Tryd.prog.info? 5).map (fun i => (i.zero, i.size, i.bytes)) = some (some (.int .u8 0), 1, 1) := by kernel_rfl
theorem undU8 : Tryd.prog.underlying 24 = some (.slice 5) := by kernel_rfl
theorem parts8 {e : TypeId} {z : Value} {n b : Nat} (h : (Tryd.prog.info? e).map (fun i => (i.zero, i.size, i.bytes)) = some (some z, n, b)) : ∃ i, Tryd.prog.info? e = some i ∧ i.zero = some z ∧ i.size = n ∧ i.bytes = b := by
  cases hq : Tryd.prog.info? e with
  | none => rw [hq] at h; cases h
  | some i => rw [hq] at h; simp at h; exact ⟨i, rfl, h.1, h.2.1, h.2.2⟩
theorem join8 {a b c : World} (h : Below a.heap.size a b) (k : Below b.heap.size b c) : Below a.heap.size a c := h.trans (k.mono h.size)
theorem run_bytes (n : Nat) (hn : n ≤ 1048576) (w : World) :
    (Instr.makeSlice 24 (.int .i64 (n : Int)) (.int .i64 (n : Int))).run Tryd.prog w = .ok (.slice (some ⟨w.heap.size, 0, none⟩) n n) (w.alloc (.cells (madeCells #[.int .u8 0] n) 5)) :=
  run_make_row' (P := Tryd.prog) 24 5 (.int .u8 0) 1 undU8 infoU8 rfl .i64 .i64 n (by omega) (by omega) w
theorem bytes_made (w : World) (n : Nat) : Bys (w.alloc (.cells (madeCells #[.int .u8 0] n) 5)) w.heap.size n (fun _ => 0) := by
  have h := World.rowIs_made w (.int .u8 0) n 5
  refine ⟨fun j hj => ?_, fun x => h.frozen x⟩
  exact h.cell hj

set_option maxHeartbeats 1000000 in
theorem toB_any (ao : Option Addr) (cap : Nat) (L : List UInt8) (w : World) (hr : RdB w ao L) (hN : L.length ≤ 1048576) :
    Calls Tryd.prog 15 #[.slice ao L.length cap] w fun e w' => e = .returned (.slice (some ⟨w.heap.size, 0, none⟩) L.length L.length) ∧ Bys w' w.heap.size L.length (bf L) ∧ w.heap.size < w'.heap.size ∧ Below w.heap.size w w' := by
  have HR : Hid (RdB w ao L) := hr
  clear hr
  have hmk := run_bytes L.length hN
  go_enter Tryd.func15, Tryd.ntmps15
  go_wp2_with fail
  clear hmk
  have hst : Bys (w.alloc (.cells (madeCells #[.int .u8 0] L.length) 5)) w.heap.size L.length (fun j => if j < 0 then bf L j else 0) := (bytes_made w L.length).congr (fun j _ => by rw [if_neg (by omega)])
  have hb : Below w.heap.size w (w.alloc (.cells (madeCells #[.int .u8 0] L.length) 5)) := (Below.refl _ _).alloc (Nat.le_refl _) _
  have hl : w.heap.size < (w.alloc (.cells (madeCells #[.int .u8 0] L.length) 5)).heap.size := by simp
  have HS : Hid (Bys (w.alloc (.cells (madeCells #[.int .u8 0] L.length) 5)) w.heap.size L.length (fun j => if j < 0 then bf L j else 0) ∧ Below w.heap.size w (w.alloc (.cells (madeCells #[.int .u8 0] L.length) 5)) ∧ w.heap.size < (w.alloc (.cells (madeCells #[.int .u8 0] L.length) 5)).heap.size) := ⟨hst, hb, hl⟩
  clear hst hb hl
  go_loopw [4] (fun i wr => ∃ m : Nat, m ≤ L.length ∧ i = .int .i64 m ∧ Bys wr w.heap.size L.length (fun j => if j < m then bf L j else 0) ∧ Below w.heap.size w wr ∧ w.heap.size < wr.heap.size) (fun i _ => L.length - (intOf i).toNat)
  case atStart => exact ⟨0, Nat.zero_le _, rfl, HS.out.1, HS.out.2.1, HS.out.2.2⟩
  case round =>
    obtain ⟨m, hm, rfl, hi, hb, hl⟩ := hrel
    have HI : Hid (Bys wr w.heap.size L.length (fun j => if j < m then bf L j else 0)) := hi
    have HB : Hid (Below w.heap.size w wr ∧ w.heap.size < wr.heap.size) := ⟨hb, hl⟩
    by_cases hlt : m < L.length
    · obtain ⟨b, o, rfl, hc⟩ := HR.out (by omega)
      have hbl : b < w.heap.size := World.block_lt_of_cell? w _ (hc m hlt)
      have cs := (hb.cell (p := ⟨b, o + m, none⟩) hbl).trans (hc m hlt)
      have cd := hi.cell m hlt
      have fr : ∀ x, wr.frozen? ⟨w.heap.size, x, none⟩ = false := hi.free
      have hne : ¬ b = w.heap.size := by omega
      have HX : Hid (bf L m = ((L[m].toNat : Nat) : Int)) := bf_at L m hlt
      generalize ((L[m].toNat : Nat) : Int) = x at *
      clear hi hb hl hc
      go_wp2_with fail
      go_roundw
      case rel =>
        have h := HI.out.set m hlt x
        refine ⟨m + 1, by omega, by go_num, h.congr fun j _ => ?_, HB.out.1.setCell (Nat.le_refl _) _, by rw [World.size_setCell]; exact HB.out.2⟩
        unfold updB
        by_cases e : j = m
        · subst e
          rw [if_pos rfl, if_pos (by omega)]; exact HX.out.symm
        · rw [if_neg e]
          dsimp only
          by_cases e2 : j < m
          · rw [if_pos e2, if_pos (by omega)]
          · rw [if_neg e2, if_neg (by omega)]
      case measure => simp [intOf]; omega
    · have hme : m = L.length := by omega
      subst hme
      clear hi hb hl
      go_wp2_with fail
      go_ret
      exact ⟨rfl, HI.out.congr (fun j hj => by rw [if_pos hj]), HB.out.2, HB.out.1⟩

set_option maxHeartbeats 1000000 in
theorem eqB_same (ao bo : Option Addr) (ca cb : Nat) (L : List UInt8) (w : World) (ha : RdB w ao L) (hb : RdB w bo L) (hN : L.length ≤ 1048600) :
    Calls Tryd.prog 9 #[.slice ao L.length ca, .slice bo L.length cb] w fun e w' => e = .returned (.bool true) ∧ Below w.heap.size w w' := by
  have HA : Hid (RdB w ao L) := ha
  have HB : Hid (RdB w bo L) := hb
  clear ha hb
  go_enter Tryd.func9, Tryd.ntmps9
  go_wp2_with fail
  go_loopw [5] (fun i w' => ∃ m : Nat, m ≤ L.length ∧ i = .int .i64 m ∧ Below w.heap.size w w') (fun i _ => L.length - (intOf i).toNat)
  case atStart => exact ⟨0, Nat.zero_le _, by simp, Below.refl _ _⟩
  case round =>
    obtain ⟨m, hm, rfl, hbl⟩ := hrel
    have HBL : Hid (Below w.heap.size w wr) := hbl
    by_cases hlt : m < L.length
    · obtain ⟨b1, o1, rfl, c1⟩ := HA.out.below hbl (by omega)
      obtain ⟨b2, o2, rfl, c2⟩ := HB.out.below hbl (by omega)
      have q1 := c1 m hlt
      have q2 := c2 m hlt
      clear c1 c2 hbl
      generalize ((L[m].toNat : Nat) : Int) = x at *
      go_wp2_with fail
      go_quiet (fail)
      go_wp2_with fail
      go_roundw
      case rel => exact ⟨m + 1, by omega, by go_num, by first | exact HBL.out.drew | exact below_drewN HBL.out _⟩
      case measure => simp [intOf]; omega
    · clear hbl
      go_wp2_with fail
      go_ret
      exact ⟨rfl, HBL.out⟩

/-- The marks, from 1 on. -/
def mkB (j : Nat) : Int := ((1 + j : Nat) : Int) % 256
set_option maxHeartbeats 1000000 in
theorem markB_any (g N cap : Nat) (f : Nat → Int) (w : World) (hi : Bys w g N f) (hg : g < w.heap.size) (hN : N ≤ 1048600) :
    Calls Tryd.prog 12 #[.slice (some ⟨g, 0, none⟩) N cap, .int .i64 1] w fun e w' => e = .returned (.int .i64 ((1 + N : Nat) : Int)) ∧ Turn g w w' ∧ Bys w' g N mkB := by
  have HS : Hid (Bys w g N (fun j => if j < 0 then mkB j else f j)) := hi.congr (fun j _ => by rw [if_neg (by omega)])
  clear hi
  go_enter Tryd.func12, Tryd.ntmps12
  go_wp2_with fail
  go_loopw [1, 5] (fun k i wr => ∃ m : Nat, m ≤ N ∧ i = .int .i64 m ∧ k = .int .i64 ((1 + m : Nat) : Int) ∧ Bys wr g N (fun j => if j < m then mkB j else f j) ∧ Turn g w wr) (fun _ i _ => N - (intOf i).toNat)
  case atStart => exact ⟨0, Nat.zero_le _, rfl, rfl, HS.out, Turn.refl _ _⟩
  case round =>
    obtain ⟨m, hm, rfl, rfl, hi, ht⟩ := hrel
    have HI : Hid (Bys wr g N (fun j => if j < m then mkB j else f j)) := hi
    have HT : Hid (Turn g w wr) := ht
    by_cases hlt : m < N
    · have cd := hi.cell m hlt
      have fr : ∀ x, wr.frozen? ⟨g, x, none⟩ = false := hi.free
      generalize (if m < m then mkB m else f m) = y at *
      clear hi ht
      go_wp2_with fail
      go_roundw
      case rel =>
        have h := HI.out.set m hlt (mkB m)
        refine ⟨m + 1, by omega, by go_num, by go_num, ?_, HT.out.set _ _⟩
        refine Bys.congr (f := updB (fun j => if j < m then mkB j else f j) m (mkB m)) ?_ fun j _ => ?_
        · exact h
        · unfold updB
          by_cases e : j = m
          · subst e
            rw [if_pos rfl, if_pos (by omega)]
          · rw [if_neg e]
            dsimp only
            by_cases e2 : j < m
            · rw [if_pos e2, if_pos (by omega)]
            · rw [if_neg e2, if_neg (by omega)]
      case measure => simp [intOf]; omega
    · have hme : m = N := by omega
      subst hme
      clear hi ht
      go_wp2_with fail
      go_ret
      exact ⟨rfl, HT.out, HI.out.congr (fun j hj => by rw [if_pos hj])⟩

set_option maxHeartbeats 1000000 in
theorem heldB_any (g N cap : Nat) (w : World) (hi : Bys w g N mkB) (hN : N ≤ 1048600) :
    Calls Tryd.prog 13 #[.slice (some ⟨g, 0, none⟩) N cap, .int .i64 1] w fun e w' => e = .returned (.int .i64 ((1 + N : Nat) : Int)) ∧ Below w.heap.size w w' := by
  have HS : Hid (Bys w g N mkB) := hi
  clear hi
  go_enter Tryd.func13, Tryd.ntmps13
  go_wp2_with fail
  go_loopw [1, 5] (fun k i wr => ∃ m : Nat, m ≤ N ∧ i = .int .i64 m ∧ k = .int .i64 ((1 + m : Nat) : Int) ∧ Below w.heap.size w wr) (fun _ i _ => N - (intOf i).toNat)
  case atStart => exact ⟨0, Nat.zero_le _, rfl, rfl, Below.refl _ _⟩
  case round =>
    obtain ⟨m, hm, rfl, rfl, hb⟩ := hrel
    have HB : Hid (Below w.heap.size w wr) := hb
    by_cases hlt : m < N
    · have hlw := World.block_lt_of_cell? w _ (HS.out.cell m hlt)
      have cd := (hb.cell (p := ⟨g, m, none⟩) hlw).trans (HS.out.cell m hlt)
      unfold mkB at cd
      clear hb hlw
      go_wp2_with fail
      go_roundw
      case rel => exact ⟨m + 1, by omega, by go_num, by go_num, HB.out⟩
      case measure => simp [intOf]; omega
    · have hme : m = N := by omega
      subst hme
      clear hb
      go_wp2_with fail
      go_ret
      exact ⟨rfl, HB.out⟩
end Go.Proofs.YtcpodedmeeihhaaDoor.By
