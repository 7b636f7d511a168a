/-
  What DrawWriteWord answers.
-/
import Derived.Test.YtmongbpdbcbhlaaHoC
namespace Go.Proofs.Ytmongbpdbcbhlaa
open Go.RowKit
set_option linter.unusedVariables false

/-- What DrawWriteWord has in hand: the cursor, its result's box, the arena g in the box B. -/
structure Dx (ao : Option Addr) (len cap : Nat) (zs : List Int) (w wx : World) (B g M cc : Nat) (F : Nat → Int) : Prop where
  cur : Cur (w.heap.size + 1) ao len cap zs wx
  below : Below w.heap.size w wx
  sz : w.heap.size + 1 < wx.heap.size
  box : wx.cell? ⟨B, 0, none⟩ = some (.slice (some ⟨g, 0, none⟩) M cc)
  res : wx.cell? ⟨w.heap.size, 0, none⟩ = some (.slice none 0 0)
  resf : wx.frozen? ⟨w.heap.size, 0, none⟩ = false
  bw : w.heap.size + 1 < B
  gw : w.heap.size + 1 < g
  rd : Rd wx (some ⟨g, 0, none⟩) M F
theorem Dx.call {ao : Option Addr} {len cap : Nat} {zs : List Int} {w wx wy : World} {B g M cc : Nat} {F : Nat → Int} (d : Dx ao len cap zs w wx B g M cc F) (h : Drawn (w.heap.size + 1) ao len cap zs wx wy) : Dx ao len cap zs w wy B g M cc F := by
  have h1 := d.sz
  have h2 := d.bw
  have h3 := d.gw
  have h4 := h.2.size
  refine ⟨h.1, Turn.below d.below (by omega) h.2 (by omega), by omega, h.2.cell (by omega) d.box, h.2.cell (by omega) d.res, (h.2.frozen (b := w.heap.size) (o := 0) (by omega) (by omega)).trans d.resf, h2, h3, fun hn => ?_⟩
  obtain ⟨b, o, e, hc⟩ := d.rd hn
  cases e
  exact ⟨g, 0, rfl, fun j hj => h.2.cell (by omega) (hc j hj)⟩
theorem Dx.quiet {ao : Option Addr} {len cap : Nat} {zs : List Int} {w wx wy : World} {B g M cc : Nat} {F : Nat → Int} (d : Dx ao len cap zs w wx B g M cc F) (h : Below wx.heap.size wx wy) : Dx ao len cap zs w wy B g M cc F :=
  d.call ⟨d.cur.below h, Turn.of_below h⟩

end Go.Proofs.Ytmongbpdbcbhlaa
