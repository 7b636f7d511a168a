/-
  The specification's copy of a heap's words.
-/
import Derived.Test.YthdoamdjhpkimaaPuB
namespace Go.Proofs.Ythdoamdjhpkimaa
open Go.RowKit
set_option linter.unusedVariables false

/-- Words that stand somewhere below B, or none. -/
def WV (w : World) (B : Nat) (v : Value) (xs : List Int) : Prop :=
  (v = .slice none 0 0 ∧ xs = []) ∨ ∃ b c, v = .slice (some ⟨b, 0, none⟩) xs.length c ∧ b < B ∧ ∀ j (h : j < xs.length), w.cell? ⟨b, j, none⟩ = some (.int .i64 xs[j])
theorem srcW {w : World} {b : Nat} {xs : List Int} (h : ∀ j (h : j < xs.length), w.cell? ⟨b, j, none⟩ = some (.int .i64 xs[j])) : ∀ j u, (xs.map (Value.int .i64))[j]? = some u → w.cell? ((⟨b, 0, none⟩ : Addr).add j) = some u := fun j u hu => by
  rw [Addr.add_lit, Nat.zero_add]
  rw [List.getElem?_map] at hu
  by_cases hj : j < xs.length
  · rw [List.getElem?_eq_getElem hj] at hu
    simp only [Option.map_some, Option.some.injEq] at hu
    rw [h j hj, hu]
  · rw [List.getElem?_eq_none (by omega)] at hu
    cases hu
theorem oneW (xs : List Int) : ∀ u ∈ xs.map (Value.int .i64), u.oneCell' = true := fun u hu => by
  obtain ⟨x, _, rfl⟩ := List.mem_map.1 hu
  rfl
theorem ownForm {w : World} {base : Nat} {e : TypeId} {v : Value} {n : Nat} {xs : List Value} (h : w.ownsRow base e 1 v n xs) (hn : v ≠ .slice none 0 0) : ∃ g c, v = .slice (some ⟨g, 0, none⟩) n c := by
  rcases h.2 with ⟨h0, _⟩ | ⟨g, cap, cur, h1, _⟩
  · exact absurd h0 hn
  · exact ⟨g, cap, h1⟩
def Cop (w : World) (xs : List Int) (e : Ending) (w' : World) : Prop :=
  ∃ g c, e = .returned (.agg #[.slice (some ⟨g, 0, none⟩) xs.length c]) ∧ w'.ownsRow w.heap.size 3 1 (.slice (some ⟨g, 0, none⟩) xs.length c) xs.length (xs.map (Value.int .i64)) ∧ Below w.heap.size w w'
set_option maxHeartbeats 4000000 in
set_option maxRecDepth 100000 in
theorem copy_any (w : World) (v : Value) (xs : List Int) (hv : WV w w.heap.size v xs) (hx : xs.length ≤ 1000000) : Calls Try.prog 107 #[.agg #[v]] w (Cop w xs) := by
  obtain ⟨i0, hi, hz0, hz1, hz2⟩ := infoParts infoInt
  have HI : Hid (Try.prog.info? 3 = some i0 ∧ i0.zero = some (.int .i64 0) ∧ i0.size = 1 ∧ i0.bytes = 8) := ⟨hi, hz0, hz1, hz2⟩
  clear hi hz0 hz1 hz2
  have hW2 : ∀ o1 o2 : Obj, Below w.heap.size w (((w.alloc o1).alloc o2).alloc (.cells #[] 3)) ∧ (((w.alloc o1).alloc o2).alloc (.cells #[] 3)).ownsRow w.heap.size 3 1 (.slice (some ⟨w.heap.size + 1 + 1, 0, none⟩) 0 0) 0 [] := fun o1 o2 => by
    have b1 : Below w.heap.size w ((w.alloc o1).alloc o2) := ((Below.refl _ _).alloc (Nat.le_refl _) o1).alloc (by rw [World.size_alloc]; omega) o2
    have h := World.ownsRow_made (e := 3) (size := 1) ((w.alloc o1).alloc o2) #[] 0 (Nat.le_refl _) (Nat.zero_le _) rfl
    have e : ((w.alloc o1).alloc o2).heap.size = w.heap.size + 1 + 1 := by rw [World.size_alloc, World.size_alloc]
    rw [e] at h
    refine ⟨b1.alloc b1.size _, h.1, ?_⟩
    rcases h.2 with h0 | ⟨g, cap, cur, h1, h2, h3⟩
    · exact .inl h0
    · exact .inr ⟨g, cap, cur, h1, by omega, h3⟩
  have HW2 : Hid (∀ o1 o2 : Obj, Below w.heap.size w (((w.alloc o1).alloc o2).alloc (.cells #[] 3)) ∧ (((w.alloc o1).alloc o2).alloc (.cells #[] 3)).ownsRow w.heap.size 3 1 (.slice (some ⟨w.heap.size + 1 + 1, 0, none⟩) 0 0) 0 []) := hW2
  clear hW2
  rcases hv with ⟨rfl, rfl⟩ | ⟨b, c, rfl, hb, hc⟩
  · go_enter Try.func107, Try.ntmps107
    go_wp2_with fail
    have h2 := HW2.out (.cells #[.slice none 0 0] 26) (.cells #[.slice (some ⟨w.heap.size + 1 + 1, 0, none⟩) 0 0] 26)
    have hfin : Cop w [] (.returned (.agg #[.slice (some ⟨w.heap.size + 1 + 1, 0, none⟩) 0 0])) _ := ⟨_, 0, rfl, h2.2, h2.1⟩
    exact bodyPost_ret (v := .agg #[.slice (some ⟨w.heap.size + 1 + 1, 0, none⟩) 0 0]) (by simp [results, Try.results107, go_sem]) rfl hfin
  · have HO : Hid ((((w.alloc (.cells #[.slice (some ⟨b, 0, none⟩) xs.length c] 26)).alloc (.cells #[.slice none 0 0] 26)).alloc (.cells #[] 3)).ownsRow w.heap.size 3 1 (.slice (some ⟨w.heap.size + 1 + 1, 0, none⟩) 0 0) 0 []) := (HW2.out _ _).2
    have HB : Hid (Below w.heap.size w (((w.alloc (.cells #[.slice (some ⟨b, 0, none⟩) xs.length c] 26)).alloc (.cells #[.slice none 0 0] 26)).alloc (.cells #[] 3))) := (HW2.out _ _).1
    have HL : Hid ((xs.map (Value.int .i64)).length = xs.length * 1) := by show _ = _; simp
    have HC : Hid (∀ j u, (xs.map (Value.int .i64))[j]? = some u → (((w.alloc (.cells #[.slice (some ⟨b, 0, none⟩) xs.length c] 26)).alloc (.cells #[.slice none 0 0] 26)).alloc (.cells #[] 3)).cell? ((⟨b, 0, none⟩ : Addr).add j) = some u) := srcW fun j hj => by rw [HB.out.cell (p := ⟨b, j, none⟩) hb]; exact hc j hj
    have C3 : Hid (0 + xs.length ≤ maxLen) := by show _ ≤ _; unfold maxLen; omega
    have C4 : Hid ((0 + xs.length) * 8 ≤ 140737488355328) := by show _ ≤ _; omega
    have HQ : Hid (∀ w2, (((w.alloc (.cells #[.slice (some ⟨b, 0, none⟩) xs.length c] 26)).alloc (.cells #[.slice none 0 0] 26)).alloc (.cells #[] 3)).grownBy w2 (some (w.heap.size + 1 + 1)) → w2.cell? ⟨w.heap.size + 1, 0, none⟩ = some (.slice none 0 0) ∧ w2.frozen? ⟨w.heap.size + 1, 0, none⟩ = false ∧ Below w.heap.size w w2) := by
      intro w2 hg
      have hlt : w.heap.size + 1 < (((w.alloc (.cells #[.slice (some ⟨b, 0, none⟩) xs.length c] 26)).alloc (.cells #[.slice none 0 0] 26)).alloc (.cells #[] 3)).heap.size := by simp only [World.size_alloc]; omega
      have hne : some (w.heap.size + 1) ≠ some (w.heap.size + 1 + 1) := by simp
      rw [hg.cell_far ⟨w.heap.size + 1, 0, none⟩ hlt hne, hg.frozen_far ⟨w.heap.size + 1, 0, none⟩ hlt hne]
      refine ⟨by go_simp, by go_simp, HB.out.grown hg HB.out.size (fun k hk => by injection hk with hk; omega)⟩
    clear hc hx
    go_enter Try.func107, Try.ntmps107
    go_wp2_with (at_builtin; refine wpList_append_own_at _ rfl _ _ 24 rfl w.heap.size 3 i0 (.int .i64 0) 1 8 undInts HI.out.1 HI.out.2.1 HI.out.2.2.1 HI.out.2.2.2 rfl Nat.zero_lt_one (.slice (some ⟨w.heap.size + 1 + 1, 0, none⟩) 0 0) 0 [] rfl HO.out ⟨b, 0, none⟩ xs.length c (xs.map (Value.int .i64)) rfl HL.out HC.out (oneW xs) C3.out C4.out HB.out.size ?_; intro v2 w2 hown2 hgr2 hnn2 hat2; obtain ⟨q1, q2, q3⟩ := HQ.out _ hgr2; have HB3 : Hid (Below w.heap.size w w2) := q3; rw [Nat.zero_add, List.nil_append] at hown2; obtain ⟨g2, c2, rfl⟩ := ownForm hown2 (fun e => by have := (hnn2.1 e).1; cases this); clear q3)
    have hgn : w.heap.size + 1 ≠ g2 := by
      rcases hat2 with e | e
      · simp only [Value.ownBlock, Option.some.injEq] at e; omega
      · simp only [Value.ownBlock, Option.some.injEq, World.size_alloc] at e; omega
    have hfin : Cop w xs (.returned (.agg #[.slice (some ⟨g2, 0, none⟩) xs.length c2])) (w2.setCell ⟨w.heap.size + 1, 0, none⟩ (.slice (some ⟨g2, 0, none⟩) xs.length c2)) := ⟨g2, c2, rfl, own_other hown2 hgn _, HB3.out.setCell (by show w.heap.size ≤ w.heap.size + 1; omega) _⟩
    have hcell : (w2.setCell ⟨w.heap.size + 1, 0, none⟩ (.slice (some ⟨g2, 0, none⟩) xs.length c2)).cell? ⟨w.heap.size + 1, 0, none⟩ = some (.slice (some ⟨g2, 0, none⟩) xs.length c2) := World.cell?_setCell_same _ _ _ q1
    exact bodyPost_ret (v := .agg #[.slice (some ⟨g2, 0, none⟩) xs.length c2]) (by simp [results, Try.results107, go_sem, hcell]) rfl hfin
end Go.Proofs.Ythdoamdjhpkimaa
