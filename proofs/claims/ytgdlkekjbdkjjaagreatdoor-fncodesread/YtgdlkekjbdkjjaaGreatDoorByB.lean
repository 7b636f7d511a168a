/-
  How the exact laws over bytes copy, compare, mark and hold them.
-/
import Derived.Test.YtgdlkekjbdkjjaaGreatDoorByA
import Derived.Deep.OwnRows
import Derived.Deep.RegionWith
namespace Go.Proofs.YtgdlkekjbdkjjaaGreatDoor.By
open Go.RowKit
set_option linter.unusedVariables false

/-- The N bytes f stand in the block b from 0 on, and may be written. -/
structure Bys (w : World) (b N : Nat) (f : Nat → Int) : Prop where
  cell : ∀ j, j < N → w.cell? ⟨b, j, none⟩ = some (.int .u8 (f j))
  free : ∀ x, w.frozen? ⟨b, x, none⟩ = false
def updB (f : Nat → Int) (i : Nat) (x : Int) : Nat → Int := fun j => if j = i then x else f j
theorem Bys.congr {w : World} {b N : Nat} {f g : Nat → Int} (h : Bys w b N f) (e : ∀ j, j < N → f j = g j) : Bys w b N g :=
  ⟨fun j hj => by rw [← e j hj]; exact h.cell j hj, h.free⟩
theorem Bys.set {w : World} {b N : Nat} {f : Nat → Int} (h : Bys w b N f) (i : Nat) (hi : i < N) (x : Int) : Bys (w.setCell ⟨b, i, none⟩ (.int .u8 x)) b N (updB f i x) := by
  refine ⟨fun j hj => ?_, fun y => by rw [World.frozen?_setCell]; exact h.free y⟩
  by_cases e : j = i
  · subst e
    rw [updB, if_pos rfl]
    exact World.cell?_setCell_same w _ _ (h.cell j hj)
  · rw [updB, if_neg e, World.cell?_setCell_other (h := fun q => by simp at q; try omega)]
    exact h.cell j hj
theorem Bys.below {w w' : World} {b N : Nat} {f : Nat → Int} (h : Bys w b N f) (hb : Below w.heap.size w w') (hlt : b < w.heap.size) : Bys w' b N f :=
  ⟨fun j hj => by rw [hb.cell (p := ⟨b, j, none⟩) hlt]; exact h.cell j hj, fun x => by rw [hb.frozen (p := ⟨b, x, none⟩) hlt]; exact h.free x⟩
theorem Bys.turn {cb : Nat} {w w' : World} {b N : Nat} {f : Nat → Int} (h : Bys w b N f) (t : Turn cb w w') (hn : b ≠ cb) (hlt : b < w.heap.size) : Bys w' b N f :=
  ⟨fun j hj => t.cell hn (h.cell j hj), fun x => by rw [t.frozen hn hlt]; exact h.free x⟩

/-- The bytes L, read from o of the block b on. -/
def BAt (w : World) (b o : Nat) (L : List UInt8) : Prop := ∀ j (h : j < L.length), w.cell? ⟨b, o + j, none⟩ = some (.int .u8 ((L[j].toNat : Nat) : Int))
theorem BAt.below {w w' : World} {b o : Nat} {L : List UInt8} (h : BAt w b o L) (hb : Below w.heap.size w w') : BAt w' b o L := fun j hj => by
  have := h j hj
  rw [hb.cell (p := ⟨b, o + j, none⟩) (World.block_lt_of_cell? w _ this)]; exact this
theorem BAt.turn {cb : Nat} {w w' : World} {b o : Nat} {L : List UInt8} (h : BAt w b o L) (t : Turn cb w w') (hn : b ≠ cb) : BAt w' b o L := fun j hj => t.cell hn (h j hj)
/-- What a law is handed: L, wherever it lies; of nothing the place is open. -/
def RdB (w : World) (ao : Option Addr) (L : List UInt8) : Prop := L.length ≠ 0 → ∃ b o, ao = some ⟨b, o, none⟩ ∧ BAt w b o L
theorem RdB.below {w w' : World} {ao : Option Addr} {L : List UInt8} (h : RdB w ao L) (hb : Below w.heap.size w w') : RdB w' ao L := fun h0 => by
  obtain ⟨b, o, e, hc⟩ := h h0
  exact ⟨b, o, e, hc.below hb⟩
theorem BAt.rd {w : World} {b o : Nat} {L : List UInt8} (h : BAt w b o L) : RdB w (some ⟨b, o, none⟩) L := fun _ => ⟨b, o, rfl, h⟩
def bf (L : List UInt8) : Nat → Int := fun j => ((L.getD j 0).toNat : Nat)
theorem bf_at (L : List UInt8) (j : Nat) (h : j < L.length) : bf L j = ((L[j].toNat : Nat) : Int) := by
  unfold bf; rw [List.getD_eq_getElem?_getD, List.getElem?_eq_getElem h]; rfl
theorem Bys.at {w : World} {b : Nat} {L : List UInt8} (h : Bys w b L.length (bf L)) : BAt w b 0 L := fun j hj => by
  rw [Nat.zero_add, ← bf_at L j hj]; exact h.cell j hj
theorem BAt.bys {w : World} {g : Nat} {L : List UInt8} (h : BAt w g 0 L) (hf : ∀ x, w.frozen? ⟨g, x, none⟩ = false) : Bys w g L.length (bf L) :=
  ⟨fun j hj => by rw [bf_at L j hj]; have := h j hj; rw [Nat.zero_add] at this; exact this, hf⟩

theorem infoU8 : (Tryz.prog.info? 5).map (fun i => (i.zero, i.size, i.bytes)) = some (some (.int .u8 0), 1, 1) := by kernel_rfl
theorem undU8 : Tryz.prog.underlying 22 = some (.slice 5) := by kernel_rfl
theorem parts8 {e : TypeId} {z : Value} {n b : Nat} (h : (Tryz.prog.info? e).map (fun i => (i.zero, i.size, i.bytes)) = some (some z, n, b)) : ∃ i, Tryz.prog.info? e = some i ∧ i.zero = some z ∧ i.size = n ∧ i.bytes = b := by
  cases hq : Tryz.prog.info? e with
  | none => rw [hq] at h; cases h
  | some i => rw [hq] at h; simp at h; exact ⟨i, rfl, h.1, h.2.1, h.2.2⟩
theorem join8 {a b c : World} (h : Below a.heap.size a b) (k : Below b.heap.size b c) : Below a.heap.size a c := h.trans (k.mono h.size)
theorem run_bytes (n : Nat) (hn : n ≤ 1048576) (w : World) :
    (Instr.makeSlice 22 (.int .i64 (n : Int)) (.int .i64 (n : Int))).run Tryz.prog w = .ok (.slice (some ⟨w.heap.size, 0, none⟩) n n) (w.alloc (.cells (madeCells #[.int .u8 0] n) 5)) :=
  run_make_row' (P := Tryz.prog) 22 5 (.int .u8 0) 1 undU8 infoU8 rfl .i64 .i64 n (by omega) (by omega) w
theorem bytes_made (w : World) (n : Nat) : Bys (w.alloc (.cells (madeCells #[.int .u8 0] n) 5)) w.heap.size n (fun _ => 0) := by
  have h := World.rowIs_made w (.int .u8 0) n 5
  refine ⟨fun j hj => ?_, fun x => h.frozen x⟩
  exact h.cell hj

/-- The marks, from 1 on. -/
def mkB (j : Nat) : Int := ((1 + j : Nat) : Int) % 256
end Go.Proofs.YtgdlkekjbdkjjaaGreatDoor.By
