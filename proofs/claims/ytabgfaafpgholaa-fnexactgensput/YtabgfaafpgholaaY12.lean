/-
  The specification's copy of two generations.
  spec.l6Copy.
-/
import Derived.Test.YtabgfaafpgholaaW13
import Derived.Deep.AppendLies
import Derived.Deep.RegionHeld3
namespace Go.Proofs.Ytabgfaafpgholaa
open Go.RowKit
set_option linter.unusedVariables false

theorem own_lowQ {w : World} {base base' : Nat} {e : TypeId} {v : Value} {n : Nat} {xs : List Value} (h : w.ownsRow base e 1 v n xs) (hb : base' ≤ base) : w.ownsRow base' e 1 v n xs := by
  refine ⟨h.1, ?_⟩
  rcases h.2 with h0 | ⟨g, cap, cur, h1, h2, h3⟩
  · exact .inl h0
  · exact .inr ⟨g, cap, cur, h1, by omega, h3⟩
theorem hidQ {p : Prop} (h : p) : Hid p := h
theorem WV.below {w w' : World} {v : Value} {xs : List Int} (h : WV w w.heap.size v xs) (hb : Below w.heap.size w w') : WV w' w'.heap.size v xs := by
  rcases h with h | ⟨b, c, h1, h2, h3⟩
  · exact .inl h
  · exact .inr ⟨b, c, h1, Nat.lt_of_lt_of_le h2 hb.size, fun j hj => by rw [hb.cell (p := ⟨b, j, none⟩) h2]; exact h3 j hj⟩
/-- Words, or none, appended to a row of nothing at a step of a region that draws its order. -/
theorem step_copy (w : World) {ops : Array Oper} {o : Oper} {a : Act} {K : Act → World → Prop} {Q : Exit → Act → World → Prop} {E : Prop} (hgd : o.guard = none) (s x : Operand)
    (ho : o.op = .call { callee := .builtin .append, args := #[s, x], argTypes := #[22, 22] }) (base G : Nat) (v : Value) (xs : List Int) (hs : a.eval s = .slice (some ⟨G, 0, none⟩) 0 0) (hx : a.eval x = v)
    (hown : w.ownsRow base 3 1 (.slice (some ⟨G, 0, none⟩) 0 0) 0 []) (hv : WV w w.heap.size v xs) (hl : xs.length ≤ 1048576) (hbase : base ≤ w.heap.size)
    (h : ∀ g c w', w'.ownsRow base 3 1 (.slice (some ⟨g, 0, none⟩) xs.length c) xs.length (xs.map (Value.int .i64)) → w.grownBy w' (some G) → (g = G ∨ g = w.heap.size) → K (a.put o.dst (.slice (some ⟨g, 0, none⟩) xs.length c)) w') :
    if Region.wanted o (yielded ops a.tmps) = true then Oper.wp Try.prog o a w K Q else E := by
  obtain ⟨i0, hi, hz0, hz1, hz2⟩ := infoParts infoInt
  have hw : Region.wanted o (yielded ops a.tmps) = true := by simp [Region.wanted, hgd]
  rcases hv with ⟨rfl, rfl⟩ | ⟨b, c, rfl, hb, hc⟩
  · rw [if_pos hw]
    have hr : (Builtin.append_ #[22, 22] o.type #[.slice (some ⟨G, 0, none⟩) 0 0, .slice none 0 0]).run Try.prog w = .ok (.slice (some ⟨G, 0, none⟩) 0 0) w := by
      simp [Builtin.append_, run_underlying undInts, sizeOf, typeInfo, hi, Builtin.lenOf, Builtin.firstCells, loadCells, loadCellsFrom, storeCells]
    unfold Oper.wp execOp
    simp only [ho, resolve, invoke, builtin, Sem.run_bind, Sem.run_pure, Result.andThen_ok, List.map_toArray, List.map_cons, List.map_nil, hs, hx, hr]
    exact h G 0 w hown ⟨rfl, rfl, rfl, Nat.le_refl _, fun _ _ _ => rfl⟩ (.inl rfl)
  · rcases Nat.eq_zero_or_pos xs.length with h0 | h0
    · obtain rfl : xs = [] := List.eq_nil_of_length_eq_zero h0
      rw [if_pos hw]
      have hr : (Builtin.append_ #[22, 22] o.type #[.slice (some ⟨G, 0, none⟩) 0 0, .slice (some ⟨b, 0, none⟩) 0 c]).run Try.prog w = .ok (.slice (some ⟨G, 0, none⟩) 0 0) w := by
        simp [Builtin.append_, run_underlying undInts, sizeOf, typeInfo, hi, Builtin.lenOf, Builtin.firstCells, loadCells, loadCellsFrom, storeCells]
      unfold Oper.wp execOp
      simp only [ho, resolve, invoke, builtin, Sem.run_bind, Sem.run_pure, Result.andThen_ok, List.map_toArray, List.map_cons, List.map_nil, hs, hx, List.length_nil, hr]
      exact h G 0 w hown ⟨rfl, rfl, rfl, Nat.le_refl _, fun _ _ _ => rfl⟩ (.inl rfl)
    · refine step_append_lies w hgd s x 22 ho base 3 i0 (.int .i64 0) 1 8 undInts hi hz0 hz1 hz2 rfl Nat.zero_lt_one _ 0 [] hs hown ⟨b, 0, none⟩ xs.length c (xs.map (Value.int .i64)) hx (by simp) (srcW hc) (oneW xs) h0 (by unfold maxLen; omega) (by omega) hbase w.heap.size rfl ?_
      intro g cap w' h1 h2 h3 h4
      rw [Nat.zero_add, List.nil_append] at h1
      rw [Nat.zero_add]
      exact h g cap w' h1 h2 (h3.imp (fun e => by simpa [Value.ownBlock, eq_comm] using e) id)
abbrev nilI : Obj := .cells #[] 3 (0, 0)
/-- Behind the first of the two copies. -/
def A1 (W X w6 : World) (G g c : Nat) (xs : List Int) : Prop := Below W.heap.size W w6 ∧ X.heap.size ≤ w6.heap.size ∧ w6.ownsRow W.heap.size 3 1 (.slice (some ⟨g, 0, none⟩) xs.length c) xs.length (xs.map (Value.int .i64)) ∧ (g = G ∨ g = X.heap.size) ∧ X.grownBy w6 (some G)
/-- Behind both. -/
def F2 (W wF : World) (g c : Nat) (xs : List Int) (g' c' : Nat) (ys : List Int) : Prop := Below W.heap.size W wF ∧ wF.ownsRow W.heap.size 3 1 (.slice (some ⟨g, 0, none⟩) xs.length c) xs.length (xs.map (Value.int .i64)) ∧ wF.ownsRow W.heap.size 3 1 (.slice (some ⟨g', 0, none⟩) ys.length c') ys.length (ys.map (Value.int .i64)) ∧ g ≠ g'
theorem F2.swap {W wF : World} {g c : Nat} {xs : List Int} {g' c' : Nat} {ys : List Int} (h : F2 W wF g c xs g' c' ys) : F2 W wF g' c' ys g c xs := ⟨h.1, h.2.2.1, h.2.1, fun e => h.2.2.2 e.symm⟩
theorem a1_of {W X w6 : World} {G g c : Nat} {xs : List Int} (hX : Below W.heap.size W X) (hG : W.heap.size ≤ G) (ho : w6.ownsRow W.heap.size 3 1 (.slice (some ⟨g, 0, none⟩) xs.length c) xs.length (xs.map (Value.int .i64))) (hg : X.grownBy w6 (some G)) (ha : g = G ∨ g = X.heap.size) : A1 W X w6 G g c xs :=
  ⟨hX.grown hg hX.size (fun k hk => by injection hk with hk; omega), hg.size, ho, ha, hg⟩
theorem f2_fresh {W X w6 w10 : World} {G g c g' c' : Nat} {xs ys : List Int} (h : A1 W X w6 G g c xs) (ho : w10.ownsRow W.heap.size 3 1 (.slice (some ⟨g', 0, none⟩) ys.length c') ys.length (ys.map (Value.int .i64))) (hg : (w6.alloc nilI).grownBy w10 (some w6.heap.size)) (ha : g' = w6.heap.size ∨ g' = (w6.alloc nilI).heap.size) : F2 W w10 g c xs g' c' ys := by
  obtain ⟨h1, h2, h3, h4, h5⟩ := h
  have hl := h3.lt g rfl
  have s : (w6.alloc nilI).heap.size = w6.heap.size + 1 := World.size_alloc _ _
  have b : Below w6.heap.size w6 (w6.alloc nilI) := (Below.refl _ _).alloc (Nat.le_refl _) _
  have b2 : Below w6.heap.size w6 w10 := b.grown hg b.size (fun k hk => by injection hk with hk; omega)
  exact ⟨h1.trans (b2.mono h1.size), h3.kept ⟨b2.os, b2.tape, b2.output, b2.size, fun k hk _ => b2.block k hk⟩ (row := none) (Or.inr (by simp [Value.ownBlock])), ho, by omega⟩
theorem pend {W X w6 : World} {G g c G2 : Nat} {xs : List Int} (h : A1 W X w6 G g c xs) (hn : G2 ≠ G) (ho : X.ownsRow W.heap.size 3 1 (.slice (some ⟨G2, 0, none⟩) 0 0) 0 []) : w6.ownsRow W.heap.size 3 1 (.slice (some ⟨G2, 0, none⟩) 0 0) 0 [] :=
  ho.kept h.2.2.2.2 (Or.inr (by simp [Value.ownBlock]; omega))
theorem f2_old {W X w6 w10 : World} {G g c G2 g' c' : Nat} {xs ys : List Int} (h : A1 W X w6 G g c xs) (hs : X.heap.size = W.heap.size + 2) (hG : G < W.heap.size + 2) (hn : G2 ≠ G) (hlo : W.heap.size ≤ G2) (hhi : G2 < W.heap.size + 2) (ho : w10.ownsRow W.heap.size 3 1 (.slice (some ⟨g', 0, none⟩) ys.length c') ys.length (ys.map (Value.int .i64))) (hg : w6.grownBy w10 (some G2)) (ha : g' = G2 ∨ g' = w6.heap.size) : F2 W w10 g c xs g' c' ys := by
  obtain ⟨h1, h2, h3, h4, h5⟩ := h
  have hl := h3.lt g rfl
  exact ⟨h1.grown hg h1.size (fun k hk => by injection hk with hk; omega), h3.kept hg (Or.inr (by simp [Value.ownBlock]; omega)), ho, by omega⟩
/-- What l6Copy answers. -/
def CopG (w : World) (xs ys : List Int) (m : Int) (e : Ending) (w' : World) : Prop :=
  ∃ g c g' c', e = .returned (.agg #[.slice (some ⟨g, 0, none⟩) xs.length c, .slice (some ⟨g', 0, none⟩) ys.length c', .int .i64 m]) ∧ w'.ownsRow w.heap.size 3 1 (.slice (some ⟨g, 0, none⟩) xs.length c) xs.length (xs.map (Value.int .i64)) ∧ w'.ownsRow w.heap.size 3 1 (.slice (some ⟨g', 0, none⟩) ys.length c') ys.length (ys.map (Value.int .i64)) ∧ g ≠ g' ∧ Below w.heap.size w w'
theorem nil1 (W : World) : (W.alloc nilI).ownsRow W.heap.size 3 1 (.slice (some ⟨W.heap.size, 0, none⟩) 0 0) 0 [] := World.ownsRow_made (e := 3) (size := 1) W #[] 0 (Nat.le_refl _) (Nat.zero_le _) rfl
theorem nil2 (W : World) : ((W.alloc nilI).alloc nilI).ownsRow W.heap.size 3 1 (.slice (some ⟨W.heap.size, 0, none⟩) 0 0) 0 [] := (nil1 W).alloc _
theorem nil3 (W : World) : ((W.alloc nilI).alloc nilI).ownsRow W.heap.size 3 1 (.slice (some ⟨W.heap.size + 1, 0, none⟩) 0 0) 0 [] := by
  have h := nil1 (W.alloc nilI)
  rw [World.size_alloc] at h
  exact own_lowQ h (by omega)
theorem nilB {W w6 : World} (h : Below W.heap.size W w6) : (w6.alloc nilI).ownsRow W.heap.size 3 1 (.slice (some ⟨w6.heap.size, 0, none⟩) 0 0) 0 [] := own_lowQ (nil1 w6) h.size
theorem belA {W X : World} {n : Nat} (h : Below n W X) (hn : n ≤ X.heap.size) (o : Obj) : Below n W (X.alloc o) := h.alloc hn o
theorem bel1 (W : World) : Below W.heap.size W (W.alloc nilI) := (Below.refl _ _).alloc (Nat.le_refl _) _
theorem bel2 (W : World) : Below W.heap.size W ((W.alloc nilI).alloc nilI) := (bel1 W).alloc (bel1 W).size _
theorem belU {W w6 : World} (h : Below W.heap.size W w6) : Below W.heap.size W (w6.alloc nilI) := h.alloc h.size _
theorem siz2 (W : World) : ((W.alloc nilI).alloc nilI).heap.size = W.heap.size + 2 := by simp only [World.size_alloc]
theorem fin_copy {w W wF wE : World} {g c g' c' : Nat} {xs ys : List Int} {m : Int} (hW : Below w.heap.size w W) (h : F2 W wF g c xs g' c' ys) (hB : w.heap.size + 1 < W.heap.size) (t : Turn (w.heap.size + 1) wF wE) : CopG w xs ys m (.returned (.agg #[.slice (some ⟨g, 0, none⟩) xs.length c, .slice (some ⟨g', 0, none⟩) ys.length c', .int .i64 m])) wE := by
  obtain ⟨h1, h2, h3, h4⟩ := h
  have l1 := h2.lt g rfl
  have l2 := h3.lt g' rfl
  have s := hW.size
  have s1 := h1.size
  refine ⟨g, c, g', c', rfl, own_lowQ (h2.kept t.grown (Or.inr (by simp [Value.ownBlock]; omega))) s, own_lowQ (h3.kept t.grown (Or.inr (by simp [Value.ownBlock]; omega))) s, h4, ?_⟩
  exact ((hW.trans (h1.mono s))).trans ⟨t.os, t.tape, t.output, t.size, fun k hk => t.block k (by omega) (by omega)⟩
end Go.Proofs.Ytabgfaafpgholaa
