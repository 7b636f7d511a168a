/-
  The laws' own functions on rows of instructions: sizes, copies, comparison.
-/
import Derived.Test.YtfjaphhijefdlaaGreatDoorCkA
import Derived.Test.YtfjaphhijefdlaaGreatDoorCoM
import Derived.Laws.IdiomCopy
namespace Go.Proofs.YtfjaphhijefdlaaGreatDoor.Code
open Go.RowKit
open Go.Proofs.YtfjaphhijefdlaaGreatDoor.Atom
set_option linter.unusedVariables false

/-- A row that is being filled. -/
structure Made6 (w wr : World) (g : Nat) (l : List I) (k : Nat) : Prop where
  below : Below w.heap.size w wr
  lt : g < wr.heap.size
  some : ∀ j, j < l.length * 6 → (wr.cell? ⟨g, j, none⟩).isSome = true
  free : ∀ o, wr.frozen? ⟨g, o, none⟩ = false
  rep : ∀ i (hi : i < l.length), i < k → Bx6 wr g (i * 6) l[i]
theorem Made6.call {w wr w' : World} {g : Nat} {l : List I} {k : Nat} (h : Made6 w wr g l k) (hb : Below wr.heap.size wr w') : Made6 w w' g l k :=
  ⟨h.below.trans (hb.mono h.below.size), Nat.lt_of_lt_of_le h.lt hb.size, fun j hj => by rw [hb.cell (p := ⟨g, j, none⟩) h.lt]; exact h.some j hj,
    fun o => by rw [hb.frozen (p := ⟨g, o, none⟩) h.lt]; exact h.free o, fun i hi hik => (h.rep i hi hik).below hb⟩
theorem setCells_below {B : Nat} {b : Nat} (hB : B ≤ b) : ∀ (vs : List Value) (o : Nat) (a w : World), Below B a w → Below B a (w.setCells b o vs)
  | [], _, _, _, h => h
  | v :: r, o, a, w, h => by
    rw [World.setCells]
    exact setCells_below hB r (o + 1) a _ (h.setCell (p := ⟨b, o, none⟩) hB v)
theorem setCells_size (b : Nat) : ∀ (vs : List Value) (o : Nat) (w : World), (w.setCells b o vs).heap.size = w.heap.size
  | [], _, _ => rfl
  | v :: r, o, w => by rw [World.setCells, setCells_size b r]; simp [World.setCell]
def insL (x : I) : List Value := [.int .i64 x.op, .int .i64 x.a, .int .i64 x.b, .int .i64 x.c, .int .i64 x.n, .string x.s]
theorem Made6.store {w wr : World} {g : Nat} {l : List I} {k : Nat} (h : Made6 w wr g l k) (hg : w.heap.size ≤ g) (hk : k < l.length) : Made6 w (wr.setCells g (k * 6) (insL l[k])) g l (k + 1) := by
  have hin := World.cell?_setCells_in g (insL l[k]) (k * 6) wr (fun j hj => by
    have hj' : j < 6 := hj
    exact h.some (k * 6 + j) (by omega))
  have hout : ∀ i, (i < k * 6 ∨ k * 6 + 6 ≤ i) → (wr.setCells g (k * 6) (insL l[k])).cell? ⟨g, i, none⟩ = wr.cell? ⟨g, i, none⟩ := fun i hi =>
    World.cell?_setCells_out g (insL l[k]) (k * 6) wr ⟨g, i, none⟩ (fun _ _ => hi)
  refine ⟨setCells_below hg _ _ _ _ h.below, by rw [setCells_size]; exact h.lt, fun j hj => ?_, fun o => by rw [World.frozen?_setCells]; exact h.free o, fun i hi hik => ?_⟩
  · by_cases hj1 : j < k * 6 ∨ k * 6 + 6 ≤ j
    · rw [hout j hj1]; exact h.some j hj
    · obtain ⟨d, rfl⟩ : ∃ d, j = k * 6 + d := ⟨j - k * 6, by omega⟩
      rw [hin d (show d < 6 by omega)]; rfl
  · by_cases hlast : i = k
    · subst hlast
      exact ⟨hin 0 (show 0 < 6 by omega), hin 1 (show 1 < 6 by omega), hin 2 (show 2 < 6 by omega), hin 3 (show 3 < 6 by omega), hin 4 (show 4 < 6 by omega), hin 5 (show 5 < 6 by omega)⟩
    · have hx := h.rep i hi (by omega)
      exact ⟨(hout _ (.inl (by omega))).trans hx.c0, (hout _ (.inl (by omega))).trans hx.c1, (hout _ (.inl (by omega))).trans hx.c2, (hout _ (.inl (by omega))).trans hx.c3, (hout _ (.inl (by omega))).trans hx.c4, (hout _ (.inl (by omega))).trans hx.c5⟩

theorem infoIns : (Tryz.prog.info? 77).map (fun i => (i.zero, i.size, i.bytes)) = some (some (.agg #[.int .i64 0, .int .i64 0, .int .i64 0, .int .i64 0, .int .i64 0, .string ⟨#[]⟩]), 6, 56) := by kernel_rfl
theorem undInsS : Tryz.prog.underlying 35 = some (.slice 77) := by kernel_rfl
def zeros6 (n : Nat) : Array Value := madeCells #[.int .i64 0, .int .i64 0, .int .i64 0, .int .i64 0, .int .i64 0, .string ⟨#[]⟩] (n * 6)
theorem run_zeros6 (n : Nat) (hn : n ≤ 1048576) (w : World) :
    (Instr.makeSlice 35 (.int .i64 (n : Int)) (.int .i64 (n : Int))).run Tryz.prog w = .ok (.slice (some ⟨w.heap.size, 0, none⟩) n n) (w.alloc (.cells (zeros6 n) 77)) := by
  obtain ⟨i, hi, hzz⟩ := Option.map_eq_some_iff.1 infoIns
  simp only [Prod.mk.injEq] at hzz
  obtain ⟨hz, hs, hb⟩ := hzz
  have hr := run_make (P := Tryz.prog) w 35 77 i _ undInsS hi hz .i64 .i64 n n (by omega) (Int.le_refl _) (by rw [hb]; omega) (by omega)
  rw [hs] at hr
  simp only [Int.toNat_natCast] at hr
  exact hr
theorem made6_start (w : World) (l : List I) : Made6 w (w.alloc (.cells (zeros6 l.length) 77)) w.heap.size l 0 where
  below := (Below.refl _ _).alloc (Nat.le_refl _) _
  lt := by show w.heap.size < (w.heap.push _).size; simp
  some := fun j hj => by
    rw [World.cell?_alloc_new]
    have : j < (zeros6 l.length).size := by unfold zeros6; rw [size_madeCells]; exact hj
    simp [this]
  free := fun o => by simp
  rep := fun i _ h => absurd h (Nat.not_lt_zero _)

end Go.Proofs.YtfjaphhijefdlaaGreatDoor.Code
