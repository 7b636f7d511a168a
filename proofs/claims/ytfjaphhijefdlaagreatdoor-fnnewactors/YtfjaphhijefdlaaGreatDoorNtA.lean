/-
  A number's text: what l1Num answers.
-/
import Derived.Test.YtfjaphhijefdlaaGreatDoorAtB
import Derived.Lib.ItoaLen
import Derived.Deep.RegionWith
import Derived.BigQuiet
import Derived.Laws.IdiomStrings
namespace Go.Proofs.YtfjaphhijefdlaaGreatDoor.Num
open Go.RowKit
set_option linter.unusedVariables false

theorem conv1 (b : UInt8) (x : Int) (h : x = b.toNat) (W : World) (g : Nat) (hc : W.cell? ⟨g, 0, none⟩ = some (.int .u8 x)) :
    (convert 22 9 (.slice (some ⟨g, 0, none⟩) 1 1)).run Tryz.prog W = .ok (.string ⟨#[b]⟩) W := by
  have := run_convert_bytes_back (P := Tryz.prog) W 22 9 5 ⟨g, 0, none⟩ 1 [b] Tryz.underlying22 Tryz.underlying5 Tryz.underlying9 (fun j hj => by
    have : j = 0 := by simpa using hj
    subst this
    show W.cell? ((⟨g, 0, none⟩ : Addr).add 0) = some (.int .u8 (b.toNat : Int))
    rw [← h]
    simpa [Addr.add] using hc)
  exact this
theorem hq_of {w w1 : World} {x : Value} (hb : Below (w.alloc (.cells #[x] 5)).drew.heap.size (w.alloc (.cells #[x] 5)).drew w1) : w1.cell? ⟨w.heap.size, 0, none⟩ = some x := by
  rw [hb.cell (p := ⟨w.heap.size, 0, none⟩) (by show w.heap.size < (w.heap.push _).size; simp)]
  simp
theorem bel1 {w w1 : World} (hb : Below w.drew.heap.size w.drew w1) (o : Obj) : Below w.heap.size w (w1.alloc o) :=
  ((Below.refl _ _).drew.trans hb).alloc hb.size _
theorem bel2 {w w1 : World} {o : Obj} (hb : Below (w.alloc o).drew.heap.size (w.alloc o).drew w1) : Below w.heap.size w w1 :=
  (((Below.refl _ _).alloc (Nat.le_refl _) _).drew).trans (hb.mono (by show w.heap.size ≤ (w.heap.push _).size; simp))
theorem ret_str {a b : ByteArray} (h : a = b) : Ending.returned (.string a) = .returned (.string b) := by rw [h]

theorem tm (u : Nat) : IntKind.u8.wrap (IntKind.i64.wrap (48 + ((u : Int).tmod 10))) = ((UInt8.ofNat (48 + u % 10)).toNat : Int) := by
  have h : (u : Int).tmod 10 = ((u % 10 : Nat) : Int) := by
    rw [Int.tmod_eq_emod_of_nonneg (by omega)]; omega
  rw [h, IntKind.wrap_i64, IntKind.wrap_u8]
  simp; omega
theorem tq (u : Nat) (hm : u ≤ 9223372036854775807) : IntKind.i64.wrap ((u : Int) / 10) = ((u / 10 : Nat) : Int) := by
  rw [IntKind.wrap_i64]; omega

end Go.Proofs.YtfjaphhijefdlaaGreatDoor.Num
