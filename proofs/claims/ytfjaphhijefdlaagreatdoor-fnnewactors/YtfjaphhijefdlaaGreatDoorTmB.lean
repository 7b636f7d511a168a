/-
  The size of a term: what szTerm and szTermS answer.
-/
import Derived.Test.YtfjaphhijefdlaaGreatDoorGuA
import Derived.Test.YtfjaphhijefdlaaGreatDoorTmA
import Derived.WalkKit
import Derived.ProofKit
import Derived.Outline
namespace Go.Proofs.YtfjaphhijefdlaaGreatDoor
open Go.RowKit

theorem bcell {W w1 : World} (hb : Below W.heap.size W w1) : (∀ b o, b < W.heap.size → w1.cell? ⟨b, o, none⟩ = W.cell? ⟨b, o, none⟩) ∧ (∀ b o, b < W.heap.size → w1.frozen? ⟨b, o, none⟩ = W.frozen? ⟨b, o, none⟩) :=
  ⟨fun b o h => hb.cell (p := ⟨b, o, none⟩) h, fun b o h => hb.frozen (p := ⟨b, o, none⟩) h⟩
/-- The four cells, and the value that they are. -/
theorem RepT.cells {B : Nat} {w : World} {t : Tm} {b off : Nat} (h : RepT B w t b off) :
    ∃ k n s ao len cap, w.cell? ⟨b, off, none⟩ = some (.int .i64 k) ∧ w.cell? ⟨b, off + 1, none⟩ = some (.int .i64 n) ∧ w.cell? ⟨b, off + 2, none⟩ = some (.string s) ∧ w.cell? ⟨b, off + 3, none⟩ = some (.slice ao len cap) ∧
      RepV B w t (.agg #[.int .i64 k, .int .i64 n, .string s, .slice ao len cap]) := by
  obtain ⟨k, n, s, l⟩ := t
  rw [RepT] at h
  obtain ⟨h0, h1, h2, hs, ao, cap, h3, hl, hc, hr⟩ := h
  exact ⟨k, n, s, ao, l.length, cap, h0, h1, h2, h3, ao, cap, rfl, hs, hl, hc, hr⟩

theorem drop_go (l : List Tm) (k : Nat) (h : k < l.length) (c : Int) : szGo (l.drop k) c = if szT l[k] c < 0 then -1 else szGo (l.drop (k + 1)) (szT l[k] c) := by
  rw [List.drop_eq_getElem_cons h, szGo]

end Go.Proofs.YtfjaphhijefdlaaGreatDoor
