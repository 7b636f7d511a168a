/-
  DrawHeapOk and DrawReadTerm.
-/
import Derived.Test.YthdoamdjhpkimaaPuN
import Derived.Test.YthdoamdjhpkimaaSpJ
namespace Go.Proofs.Ythdoamdjhpkimaa
open Go.RowKit
set_option linter.unusedVariables false

theorem bjoin {a b c : World} (h : Below a.heap.size a b) (k : Below b.heap.size b c) : Below a.heap.size a c := h.trans (k.mono h.size)
theorem big5_any (ao : Option Addr) (len cap : Nat) (hl : len ≤ maxLen) (w : World) :
    Calls Try.prog 9 #[.slice ao len cap] w fun e w' => e = .returned (.bool (decide (1048576 < len))) ∧ w' = w := by
  unfold maxLen at hl
  go_enter Try.func9, Try.ntmps9
  go_wp2
  go_ret
  exact ⟨by simp; try omega, rfl⟩
/-- Words, atoms and roots, as they are read. -/
structure Hp5 (w : World) (p : Option Addr) (b r : Nat) (xs : List Int) (ga : Nat) (A : List ByteArray) (gr : Nat) (ws : List Int) : Prop where
  lst : Gn.Lst p b 0 xs.length r
  wc : ∀ j (h : j < xs.length), w.cell? ⟨b, j, none⟩ = some (.int .i64 xs[j])
  tx : Txt w ga 0 A
  rt : ∀ j (h : j < ws.length), w.cell? ⟨gr, j, none⟩ = some (.int .i64 ws[j])
  xl : xs.length ≤ 2000
  al : A.length ≤ 501
  wl : ws.length ≤ 6
  wn : ws ≠ []
  bw : BW xs A ws
theorem E5.hp {cb : Nat} {ao : Option Addr} {len cap : Nat} {zs : List Int} {w wr : World} {p : Option Addr} {b r : Nat} {xs : List Int} {ga : Nat} {A : List ByteArray} {gr : Nat} {ws : List Int} (h : E5 cb ao len cap zs w wr p b r xs ga A gr ws) : Hp5 wr p b r xs ga A gr ws := ⟨h.lst, h.wc, h.tx, h.rt, h.xl, h.al, h.wl, h.wn, h.bw⟩
theorem Hp5.below {w w' : World} {p : Option Addr} {b r : Nat} {xs : List Int} {ga : Nat} {A : List ByteArray} {gr : Nat} {ws : List Int} (h : Hp5 w p b r xs ga A gr ws) (hb : Below w.heap.size w w') : Hp5 w' p b r xs ga A gr ws := by
  have e : ∀ b o v, w.cell? ⟨b, o, none⟩ = some v → w'.cell? ⟨b, o, none⟩ = some v := fun b o v hc => by
    rw [hb.cell (p := ⟨b, o, none⟩) (World.block_lt_of_cell? w _ hc)]; exact hc
  exact ⟨h.lst, fun j hj => e _ _ _ (h.wc j hj), h.tx.below hb, fun j hj => e _ _ _ (h.rt j hj), h.xl, h.al, h.wl, h.wn, h.bw⟩
/-- The environment that is read in. -/
def env5 (p : Option Addr) (b r : Nat) (xs : List Int) (ga ca : Nat) (A : List ByteArray) : Env := ⟨⟨xs.length, fun j => xs.getD j 0, A⟩, 0, p, b, 0, r, some ⟨ga, 0, none⟩, ga, 0, ca⟩
theorem Hp5.src {w : World} {p : Option Addr} {b r : Nat} {xs : List Int} {ga : Nat} {A : List ByteArray} {gr : Nat} {ws : List Int} (h : Hp5 w p b r xs ga A gr ws) (ca : Nat) : Src (env5 p b r xs ga ca A) w := by
  refine ⟨⟨by have := h.xl; show xs.length ≤ _; omega, by have := h.al; show A.length ≤ _; omega⟩, ?_, fun _ => rfl, ?_, h.tx, ?_, ?_, ?_⟩
  · intro hn
    rcases h.lst with ⟨e, _⟩ | ⟨_, e, _⟩
    · exact e
    · exact absurd e hn
  · intro j hj
    have hj' : j < xs.length := hj
    show w.cell? ⟨b, 0 + j, none⟩ = some (.int .i64 (xs.getD j 0))
    rw [Nat.zero_add, h.wc j hj']
    simp [hj']
  · show xs.length ≤ r
    rcases h.lst with ⟨_, e⟩ | ⟨_, e1, e2⟩ <;> omega
  · intro j
    show xs.getD j 0 ≤ _
    by_cases hj : j < xs.length
    · have e : xs.getD j 0 = xs[j] := by simp [hj]
      rw [e]
      have := h.bw.1 xs[j] (List.getElem_mem hj)
      omega
    · have e : xs.getD j 0 = 0 := by simp [hj]
      rw [e]; decide
  · intro s hs
    have := h.bw.2.1 s hs
    omega
theorem Hp5.roots {w : World} {p : Option Addr} {b r : Nat} {xs : List Int} {ga : Nat} {A : List ByteArray} {gr : Nat} {ws : List Int} (h : Hp5 w p b r xs ga A gr ws) : Roots w (some ⟨gr, 0, none⟩) ws := fun _ => ⟨gr, 0, rfl, fun j hj => by rw [Nat.zero_add]; exact h.rt j hj⟩
theorem Hp5.big {w : World} {p : Option Addr} {b r : Nat} {xs : List Int} {ga : Nat} {A : List ByteArray} {gr : Nat} {ws : List Int} (h : Hp5 w p b r xs ga A gr ws) : ∀ x ∈ ws, x ≤ 9223372036854775807 := fun x hx => by have := h.bw.2.2 x hx; omega
set_option maxHeartbeats 4000000 in
set_option maxRecDepth 100000 in
theorem drawHeapOk_any (w : World) (ao : Option Addr) (len cap : Nat) (zs : List Int) (hr : IsRow w ao len cap zs) (hsm : len ≤ 1048576) :
    Calls Try.prog 15 #[.slice ao len cap] w fun e w' => ∃ p b r xs ga ca A gr cr ws, e = .returned (.tuple #[.agg #[.slice p xs.length r], .slice (some ⟨ga, 0, none⟩) A.length ca, .slice (some ⟨gr, 0, none⟩) ws.length cr]) ∧ Hp5 w' p b r xs ga A gr ws ∧ Below w.heap.size w w' := by
  have HR : Hid (IsRow w ao len cap zs) := hr
  clear hr
  go_enter Try.func15, Try.ntmps15
  go_wp2_with fail
  generalize hW0 : w.alloc (.cells #[.slice none 0 0] 26) = w0
  have hb0 : Below w.heap.size w w0 := by rw [← hW0]; exact (Below.refl _ _).alloc (Nat.le_refl _) _
  have c0 : w0.cell? ⟨w.heap.size, 0, none⟩ = some (.slice none 0 0) := by rw [← hW0]; exact World.cell?_alloc_new w _ _ 0
  have f0 : w0.frozen? ⟨w.heap.size, 0, none⟩ = false := by rw [← hW0]; exact World.frozen?_alloc_new w _ _ 0
  have hz0 : w0.heap.size = w.heap.size + 1 := by rw [← hW0]; exact World.size_alloc _ _
  have HR0 : Hid (IsRow w0 ao len cap zs) := HR.out.below hb0
  have HB0 : Hid (Below w.heap.size w w0) := hb0
  clear hW0 hb0 HR
  refine (new_any _ ao len cap zs HR0.out hsm).mono ?_
  rintro e w1 ⟨rfl, hc1, hb1, hz1⟩
  obtain ⟨cb, hcb⟩ : ∃ cb, w0.heap.size = cb := ⟨_, rfl⟩
  rw [hcb] at hc1 hz1 ⊢
  have HC1 : Hid (Cur cb ao len cap zs w1) := hc1
  have HB1 : Hid (Below w.heap.size w w1) := bjoin HB0.out hb1
  have HZ : Hid (cb < w1.heap.size ∧ w.heap.size < cb) := ⟨by omega, by omega⟩
  have c1 : w1.cell? ⟨w.heap.size, 0, none⟩ = some (.slice none 0 0) := by rw [hb1.cell (p := ⟨w.heap.size, 0, none⟩) (by show w.heap.size < _; omega)]; exact c0
  have f1 : w1.frozen? ⟨w.heap.size, 0, none⟩ = false := by rw [hb1.frozen (p := ⟨w.heap.size, 0, none⟩) (by show w.heap.size < _; omega)]; exact f0
  clear hc1 hb1 hz1 hcb hz0 c0 f0
  go_wp2_with fail
  refine (any5_any cb ao len cap zs w1 HC1.out HZ.out.1).mono ?_
  rintro e w2 ⟨p, b, r, xs, ga, ca, A, gr, cr, ws, rfl, h5⟩
  have c2 := h5.dr.2.cell (by have := HZ.out.2; omega) c1
  have f2 : w2.frozen? ⟨w.heap.size, 0, none⟩ = false := by
    have hl : w.heap.size < w1.heap.size := World.block_lt_of_cell? _ _ c1
    rw [World.frozen?_of_block (w := w1) (h5.dr.2.block w.heap.size hl (by have := HZ.out.2; omega))]; exact f1
  have HF : Hid (∀ u, Hp5 (w2.setCell ⟨w.heap.size, 0, none⟩ u) p b r xs ga A gr ws ∧ Below w.heap.size w (w2.setCell ⟨w.heap.size, 0, none⟩ u)) := fun u => by
    have hl : w.heap.size < w1.heap.size := World.block_lt_of_cell? _ _ c1
    have hbb : Below w.heap.size w w2 := Turn.below HB1.out (by omega) h5.dr.2 (by have := HZ.out.2; omega)
    have e : ∀ k o v, k ≠ w.heap.size → w2.cell? ⟨k, o, none⟩ = some v → (w2.setCell ⟨w.heap.size, 0, none⟩ u).cell? ⟨k, o, none⟩ = some v := fun k o v hk hc => by
      rw [World.cell?_setCell_other (h := fun e => by simp only [Addr.mk.injEq] at e; omega)]; exact hc
    have lb := h5.lb
    have la := h5.la
    have lr := h5.lr
    exact ⟨⟨h5.lst, fun j hj => e _ _ _ (by omega) (h5.wc j hj), fun j hj => e _ _ _ (by omega) (h5.tx j hj), fun j hj => e _ _ _ (by omega) (h5.rt j hj), h5.xl, h5.al, h5.wl, h5.wn, h5.bw⟩, hbb.setCell (Nat.le_refl _) _⟩
  clear h5 c1 f1
  go_wp2_with fail
  exact bodyPost_ret (v := .tuple #[.agg #[.slice p xs.length r], .slice (some ⟨ga, 0, none⟩) A.length ca, .slice (some ⟨gr, 0, none⟩) ws.length cr]) (by simp [results, Try.results15, go_sem, World.cell?_setCell_same _ _ _ c2]) rfl ⟨p, b, r, xs, ga, ca, A, gr, cr, ws, rfl, HF.out _⟩
end Go.Proofs.Ythdoamdjhpkimaa
