/-
  How the exact laws over rows of strings measure, copy, compare, mark and hold them.
-/
import Derived.Test.YtimnnedmpmlmdaaSgA
import Derived.Deep.RegionWith
import Derived.Laws.IdiomStrings
namespace Go.Proofs.Ytimnnedmpmlmdaa
open Go.RowKit
set_option linter.unusedVariables false

/-- The N strings f stand in the block b from 0 on, and may be written. -/
structure Sts (w : World) (b N : Nat) (f : Nat → ByteArray) : Prop where
  cell : ∀ j, j < N → w.cell? ⟨b, j, none⟩ = some (.string (f j))
  free : ∀ x, w.frozen? ⟨b, x, none⟩ = false
def updS (f : Nat → ByteArray) (i : Nat) (x : ByteArray) : Nat → ByteArray := fun j => if j = i then x else f j
theorem Sts.congr {w : World} {b N : Nat} {f g : Nat → ByteArray} (h : Sts w b N f) (e : ∀ j, j < N → f j = g j) : Sts w b N g :=
  ⟨fun j hj => by rw [← e j hj]; exact h.cell j hj, h.free⟩
theorem Sts.set {w : World} {b N : Nat} {f : Nat → ByteArray} (h : Sts w b N f) (i : Nat) (hi : i < N) (x : ByteArray) : Sts (w.setCell ⟨b, i, none⟩ (.string x)) b N (updS f i x) := by
  refine ⟨fun j hj => ?_, fun y => by rw [World.frozen?_setCell]; exact h.free y⟩
  by_cases e : j = i
  · subst e
    rw [updS, if_pos rfl]
    exact World.cell?_setCell_same w _ _ (h.cell j hj)
  · rw [updS, if_neg e, World.cell?_setCell_other (h := fun q => by simp at q; try omega)]
    exact h.cell j hj
theorem Sts.below {w w' : World} {b N : Nat} {f : Nat → ByteArray} (h : Sts w b N f) (hb : Below w.heap.size w w') (hlt : b < w.heap.size) : Sts w' b N f :=
  ⟨fun j hj => by rw [hb.cell (p := ⟨b, j, none⟩) hlt]; exact h.cell j hj, fun x => by rw [hb.frozen (p := ⟨b, x, none⟩) hlt]; exact h.free x⟩
theorem Sts.turn {cb : Nat} {w w' : World} {b N : Nat} {f : Nat → ByteArray} (h : Sts w b N f) (t : Turn cb w w') (hn : b ≠ cb) (hlt : b < w.heap.size) : Sts w' b N f :=
  ⟨fun j hj => t.cell hn (h.cell j hj), fun x => by rw [t.frozen hn hlt]; exact h.free x⟩
def lf (L : List ByteArray) : Nat → ByteArray := fun j => L.getD j ByteArray.empty
theorem lf_at (L : List ByteArray) (j : Nat) (h : j < L.length) : lf L j = L[j] := by
  unfold lf; rw [List.getD_eq_getElem?_getD, List.getElem?_eq_getElem h]; rfl
theorem Sts.txt {w : World} {b : Nat} {L : List ByteArray} (h : Sts w b L.length (lf L)) : Txt w b 0 L := fun j hj => by
  rw [Nat.zero_add, ← lf_at L j hj]; exact h.cell j hj

/-- What a law is handed: L, wherever it lies; of nothing the place is open. -/
def RdT (w : World) (ao : Option Addr) (L : List ByteArray) : Prop := L.length ≠ 0 → ∃ b o, ao = some ⟨b, o, none⟩ ∧ Txt w b o L
theorem RdT.below {w w' : World} {ao : Option Addr} {L : List ByteArray} (h : RdT w ao L) (hb : Below w.heap.size w w') : RdT w' ao L := fun h0 => by
  obtain ⟨b, o, e, hc⟩ := h h0
  exact ⟨b, o, e, hc.below hb⟩
theorem Txt.rd {w : World} {b o : Nat} {L : List ByteArray} (h : Txt w b o L) : RdT w (some ⟨b, o, none⟩) L := fun _ => ⟨b, o, rfl, h⟩

theorem infoStr : (Try.prog.info? 9).map (fun i => (i.zero, i.size, i.bytes)) = some (some (.string ByteArray.empty), 1, 16) := by kernel_rfl
theorem undStrs : Try.prog.underlying 111 = some (.slice 9) := by kernel_rfl
theorem run_strs (n : Nat) (hn : n ≤ 1048576) (w : World) :
    (Instr.makeSlice 111 (.int .i64 (n : Int)) (.int .i64 (n : Int))).run Try.prog w = .ok (.slice (some ⟨w.heap.size, 0, none⟩) n n) (w.alloc (.cells (madeCells #[.string ByteArray.empty] n) 9)) :=
  run_make_row' (P := Try.prog) 111 9 (.string ByteArray.empty) 16 undStrs infoStr rfl .i64 .i64 n (by omega) (by omega) w
theorem strs_made (w : World) (n : Nat) : Sts (w.alloc (.cells (madeCells #[.string ByteArray.empty] n) 9)) w.heap.size n (fun _ => ByteArray.empty) := by
  have h := World.rowIs_made w (.string ByteArray.empty) n 9
  exact ⟨fun j hj => h.cell hj, fun x => h.frozen x⟩

/-- The text of a mark. -/
def mkGo (k : Nat) (out : ByteArray) : ByteArray := if h : k = 0 then out else mkGo (k / 10) (⟨#[UInt8.ofNat (48 + k % 10)]⟩ ++ out)
termination_by k
decreasing_by omega
def mkT (k : Nat) : ByteArray := ⟨#[109]⟩ ++ mkGo k ⟨#[]⟩

theorem conv1 (b : UInt8) (x : Int) (h : x = b.toNat) (W : World) (g : Nat) (hc : W.cell? ⟨g, 0, none⟩ = some (.int .u8 x)) :
    (convert 22 9 (.slice (some ⟨g, 0, none⟩) 1 1)).run Try.prog W = .ok (.string ⟨#[b]⟩) W := by
  have := run_convert_bytes_back (P := Try.prog) W 22 9 5 ⟨g, 0, none⟩ 1 [b] Try.underlying22 Try.underlying5 Try.underlying9 (fun j hj => by
    have : j = 0 := by simpa using hj
    subst this
    show W.cell? ((⟨g, 0, none⟩ : Addr).add 0) = some (.int .u8 (b.toNat : Int))
    rw [← h]
    simpa [Addr.add] using hc)
  exact this
theorem tm (u : Nat) : 48 + (u : Int) % 10 = ((UInt8.ofNat (48 + u % 10)).toNat : Int) := by
  simp; omega
theorem ret_str {a b : ByteArray} (h : a = b) : Ending.returned (.string a) = .returned (.string b) := by rw [h]
theorem pow_fit {m k u : Nat} (h : u * 10 ^ m ≤ k) (hk : k ≤ 4000000000) (hu : 1 ≤ u) : m ≤ 9 := by
  rcases Nat.lt_or_ge 9 m with h6 | h6
  · have h1 : 10 ^ 10 ≤ 10 ^ m := Nat.pow_le_pow_right (by omega) h6
    have h2 : 10 ^ m ≤ u * 10 ^ m := Nat.le_mul_of_pos_left _ hu
    have : (10 : Nat) ^ 10 = 10000000000 := by decide
    omega
  · exact h6
theorem size_cons (b : UInt8) (s : ByteArray) : ((⟨#[b]⟩ : ByteArray) ++ s).size = s.size + 1 := by
  rw [ByteArray.size_append]
  show 1 + s.size = s.size + 1
  omega
end Go.Proofs.Ytimnnedmpmlmdaa
