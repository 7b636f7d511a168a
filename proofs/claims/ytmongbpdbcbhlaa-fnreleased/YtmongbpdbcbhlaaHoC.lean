/-
  The place that l3At draws; what DrawWriteWord answers.
-/
import Derived.Test.YtmongbpdbcbhlaaHoB
namespace Go.Proofs.Ytmongbpdbcbhlaa
open Go.RowKit
set_option linter.unusedVariables false

/-- A place that l3At may draw. -/
def Plc (f : Nat → Int) (N : Nat) (x : Int) : Prop := x ∈ [(0 : Int), 1, -1, 4000] ∨ ∃ p ∈ usd (bk f N 0), x = (p : Nat)

set_option maxHeartbeats 4000000 in
set_option maxRecDepth 100000 in
theorem l3At_any (cb : Nat) (ao : Option Addr) (len cap : Nat) (zs : List Int) (g o N cc : Nat) (f : Nat → Int) (w : World) (hc : Cur cb ao len cap zs w) (hcb : cb < w.heap.size) (hr : Rd w (some ⟨g, o, none⟩) N f) (hN : N ≤ 80) :
    Calls Try.prog 27 #[.pointer (some ⟨cb, 0, none⟩), .agg #[.slice (some ⟨g, o, none⟩) N cc]] w fun e w' => ∃ x, e = .returned (.int .i64 x) ∧ Plc f N x ∧ Drawn cb ao len cap zs w w' := by
  have HC : Hid (Cur cb ao len cap zs w) := hc
  have HR : Hid (Rd w (some ⟨g, o, none⟩) N f) := hr
  clear hc hr
  have hbA := (Below.refl w.heap.size w).alloc (Nat.le_refl _) (.cells #[.slice (some ⟨g, o, none⟩) N cc] 26)
  have HBA : Hid (Below w.heap.size w (w.alloc (.cells #[.slice (some ⟨g, o, none⟩) N cc] 26))) := hbA
  clear hbA
  go_enter Try.func27, Try.ntmps27
  go_wp2_with fail
  refine (specUsed_any (some ⟨g, o, none⟩) N cc f _ (HR.out.below HBA.out) (by omega)).mono ?_
  rintro e w1 ⟨v, rfl, hpl, hb1⟩
  have hll : (usd (bk f N 0)).length * 4 ≤ N := by have h1 := usd_len (bk f N 0); have h2 := bk_len4 f N; omega
  have HP : Hid (∀ x : Nat, x ∈ usd (bk f N 0) → Plc f N x) := fun x hx => .inr ⟨x, hx, rfl⟩
  have HP0 : Hid (∀ x : Int, x ∈ [(0 : Int), 1, -1, 4000] → Plc f N x) := fun x hx => .inl hx
  generalize usd (bk f N 0) = l at hpl hll HP
  obtain ⟨la, lc, rfl, hl1, hl2, hl3, hrl⟩ := hpl.slice
  have hz : (w.alloc (.cells #[.slice (some ⟨g, o, none⟩) N cc] 26)).heap.size = w.heap.size + 1 := World.size_alloc _ _
  have HD1 : Hid (Drawn cb ao len cap zs w w1 ∧ w.heap.size < w1.heap.size) := ⟨⟨HC.out.below (below_join HBA.out hb1), Turn.of_below (below_join HBA.out hb1)⟩, by have := hb1.size; omega⟩
  have HL1 : Hid (Rd w1 la l.length (fun j => (l.getD j 0 : Nat))) := hrl
  have HLA : Hid (∀ a, la = some a → a.block ≠ cb) := fun a ha => by have h1 := hl3 a ha; omega
  have HM : Hid (∀ j, j < l.length → l.getD j 0 ∈ l) := fun j hj => by rw [List.getD_eq_getElem?_getD, List.getElem?_eq_getElem hj]; exact List.getElem_mem hj
  clear hpl hb1 hl1 hl2 hl3 hrl hz HBA
  obtain ⟨L, hL⟩ : ∃ L, L = l.length := ⟨_, rfl⟩
  rw [← hL] at HL1 hll HM
  rw [← hL]
  clear hL
  by_cases hL0 : 0 < L
  · have V1 : (0 : Int) < (L : Int) := by omega
    go_wp2_with fail
    refine (once_any cb ao len cap zs _ HD1.out.1.1 4 (by decide) (by decide)).mono ?_
    rintro e w6 ⟨x, rfl, hd6⟩
    have HD6 : Hid (Drawn cb ao len cap zs w w6 ∧ w.heap.size < w6.heap.size) := ⟨⟨hd6.1, HD1.out.1.2.trans hd6.2⟩, by have := HD1.out.2; have := hd6.2.size; omega⟩
    obtain ⟨lb, lo, rfl, hcl⟩ := HL1.out (by omega)
    have HL6 : Hid (∀ j, j < L → w6.cell? ⟨lb, lo + j, none⟩ = some (.int .i64 (l.getD j 0 : Nat))) := fun j hj => hd6.2.cell (HLA.out _ rfl) (hcl j hj)
    clear hd6 hcl HL1 HD1
    cases x with
    | true =>
      go_wp2_with fail
      have hbn := (Below.refl w6.heap.size w6).alloc (Nat.le_refl _) (.cells #[.int .i64 0, .int .i64 1, .int .i64 (-1), .int .i64 4000] 3)
      refine (int_any cb ao len cap zs _ (HD6.out.1.1.below hbn) w6.heap.size [0, 1, -1, 4000] (by have h1 := HD6.out.2; omega) (by simp) (by simp) (fun j hj => news_ints w6 [0, 1, -1, 4000] _ j hj)).mono ?_
      rintro e w7 ⟨y, rfl, hy, hd7⟩
      have HD7 : Hid (Drawn cb ao len cap zs w w7 ∧ Plc f N y) := ⟨⟨hd7.1, (HD6.out.1.2.trans (Turn.of_below hbn)).trans hd7.2⟩, HP0.out y hy⟩
      clear hbn hy hd7
      go_wp2_with fail
      go_ret
      exact ⟨y, rfl, HD7.out.2, HD7.out.1⟩
    | false =>
      have hL1 : (1 : Int) ≤ (L : Int) := by omega
      have hL2 : (L : Int) ≤ 256 := by omega
      go_wp2_with fail
      refine (below_any cb ao len cap zs _ HD6.out.1.1 L hL1 hL2).mono ?_
      rintro e w7 ⟨y, rfl, hy0, hy1, hd7⟩
      obtain ⟨jj, rfl⟩ : ∃ jj : Nat, y = jj := ⟨y.toNat, by omega⟩
      have hjj : jj < L := by omega
      have r7 := hd7.2.cell (HLA.out _ rfl) (HL6.out jj hjj)
      have HD7 : Hid (Drawn cb ao len cap zs w w7 ∧ Plc f N (l.getD jj 0 : Nat)) := ⟨⟨hd7.1, HD6.out.1.2.trans hd7.2⟩, HP.out _ (HM.out jj hjj)⟩
      generalize l.getD jj 0 = q at r7 HD7
      clear hy0 hy1 hd7
      go_wp2_with fail
      go_ret
      exact ⟨q, rfl, HD7.out.2, HD7.out.1⟩
  · have V1 : ¬ (0 : Int) < (L : Int) := by omega
    go_wp2_with fail
    have hbn := (Below.refl w1.heap.size w1).alloc (Nat.le_refl _) (.cells #[.int .i64 0, .int .i64 1, .int .i64 (-1), .int .i64 4000] 3)
    refine (int_any cb ao len cap zs _ (HD1.out.1.1.below hbn) w1.heap.size [0, 1, -1, 4000] (by have h1 := HD1.out.2; omega) (by simp) (by simp) (fun j hj => news_ints w1 [0, 1, -1, 4000] _ j hj)).mono ?_
    rintro e w7 ⟨y, rfl, hy, hd7⟩
    have HD7 : Hid (Drawn cb ao len cap zs w w7 ∧ Plc f N y) := ⟨⟨hd7.1, (HD1.out.1.2.trans (Turn.of_below hbn)).trans hd7.2⟩, HP0.out y hy⟩
    clear hbn hy hd7
    go_wp2_with fail
    go_ret
    exact ⟨y, rfl, HD7.out.2, HD7.out.1⟩
end Go.Proofs.Ytmongbpdbcbhlaa
