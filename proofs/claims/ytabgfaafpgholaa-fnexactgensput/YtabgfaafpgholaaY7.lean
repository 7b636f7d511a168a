/-
  The frame of a law over two lists, atoms and a term: measures, copies, comparisons, marks.
-/
import Derived.Test.YtabgfaafpgholaaY5
import Derived.Deep.RegionLaw
namespace Go.Proofs.Ytabgfaafpgholaa
open Go.RowKit
set_option linter.unusedVariables false

structure IG (w : World) (g y N M : Nat) (f h : Nat → Int) : Prop where
  o : Ints w g 0 N f
  i : Ints w y 0 M h
  lt : g < y
theorem IG.below {w w' : World} {g y N M : Nat} {f h : Nat → Int} (k : IG w g y N M f h) (hb : Below w.heap.size w w') (hy : y < w.heap.size) : IG w' g y N M f h := ⟨k.o.below hb (by have := k.lt; omega), k.i.below hb hy, k.lt⟩
def RdG (w : World) (ao : Option Addr) (N : Nat) (f : Nat → Int) (yo : Option Addr) (M : Nat) (h : Nat → Int) : Prop := RdI w ao N f ∧ RdI w yo M h
theorem RdG.below {w w' : World} {ao : Option Addr} {N : Nat} {f : Nat → Int} {yo : Option Addr} {M : Nat} {h : Nat → Int} (k : RdG w ao N f yo M h) (hb : Below w.heap.size w w') : RdG w' ao N f yo M h := ⟨k.1.below hb, k.2.below hb⟩
theorem keep3Q {w w' : World} (h : Below w.heap.size w w') {b : Nat} {x y z : Value} (hc : ∀ o, w.cell? ⟨b, o, none⟩ = (#[x, y, z] : Array Value)[o]?) : ∀ o, w'.cell? ⟨b, o, none⟩ = (#[x, y, z] : Array Value)[o]? := fun o => by
  have hlt : b < w.heap.size := World.block_lt_of_cell? w ⟨b, 0, none⟩ (hc 0)
  rw [h.cell (p := ⟨b, o, none⟩) hlt]; exact hc o
theorem keep0Q {w w' : World} (h : Below w.heap.size w w') {b o : Nat} {v : Value} (hc : w.cell? ⟨b, o, none⟩ = some v) : w'.cell? ⟨b, o, none⟩ = some v := by
  rw [h.cell (p := ⟨b, o, none⟩) (World.block_lt_of_cell? w _ hc)]; exact hc
/-- No more than a million of each. -/
def FewQ (N M : Nat) : Prop := N ≤ 1048576 ∧ M ≤ 1048576
set_option maxRecDepth 100000 in
theorem szGens_L (ao : Option Addr) (N cap : Nat) (yo : Option Addr) (M ycap : Nat) (mk : Int) (left : Int) (hN : N ≤ maxLen) (hM : M ≤ maxLen) (h0 : 0 ≤ left ∧ left ≤ 1048576) (w : World) :
    Calls Try.prog 30 #[.agg #[.slice ao N cap, .slice yo M ycap, .int .i64 mk], .int .i64 left] w fun e w' => ∃ y : Int, e = .returned (.int .i64 y) ∧ Below w.heap.size w w' ∧ -1 ≤ y ∧ (0 ≤ y → FewQ N M ∧ y + N + M ≤ left) := by
  have HLF : Hid (0 ≤ left ∧ left ≤ 1048576) := h0
  have HN : Hid (N ≤ maxLen) := hN
  have HM : Hid (M ≤ maxLen) := hM
  have hge := szI_ge N left
  obtain ⟨y, hyy⟩ : ∃ y, szI N left = y := ⟨_, rfl⟩
  have HE : Hid (szI N left = y) := hyy
  have HY : Hid (0 ≤ y → N ≤ 1048576 ∧ y = left - N) := fun h => by
    unfold szI at hyy
    split at hyy <;> omega
  rw [hyy] at hge
  clear hyy hN hM
  go_enter Try.func30, Try.ntmps30
  go_wp2_with fail
  refine (szIntS_any ao N cap left HN.out HLF.out _).mono ?_
  rintro e w1 ⟨rfl, hw1⟩
  rw [HE.out]
  have hb1 : Below w.heap.size w w1 := by rw [hw1]; exact (Below.refl _ _).alloc (Nat.le_refl _) _
  have q1 : ∀ o, w1.cell? ⟨w.heap.size, o, none⟩ = (#[.slice ao N cap, .slice yo M ycap, .int .i64 mk] : Array Value)[o]? := fun o => by rw [hw1]; exact World.cell?_alloc_new w _ _ o
  have HB1 : Hid (Below w.heap.size w w1) := hb1
  clear hw1 hb1
  by_cases hy : y < 0
  · have e : y = -1 := by omega
    subst e
    go_wp2_with fail
    go_ret
    exact ⟨-1, rfl, HB1.out, by omega, fun h => absurd h (by decide)⟩
  · have hy0 : 0 ≤ y := by omega
    obtain ⟨hy1, hy2⟩ := HY.out hy0
    have HB2 : Hid (0 ≤ y ∧ y ≤ 1048576) := by show _ ∧ _; omega
    have hge2 := szI_ge M y
    obtain ⟨z, hzz⟩ : ∃ z, szI M y = z := ⟨_, rfl⟩
    have HZ : Hid (szI M y = z) := hzz
    have HFE : Hid (0 ≤ z → FewQ N M ∧ z + N + M ≤ left) := fun h => by
      unfold szI at hzz
      unfold FewQ
      split at hzz <;> omega
    rw [hzz] at hge2
    clear hzz hy1 hy2
    go_wp2_with fail
    refine (szIntS_any yo M ycap y HM.out HB2.out _).mono ?_
    rintro e w2 ⟨rfl, hw2⟩
    obtain rfl := hw2.symm
    rw [HZ.out]
    by_cases hz : z < 0
    · have e : z = -1 := by omega
      subst e
      go_wp2_with fail
      go_ret
      exact ⟨-1, rfl, HB1.out, by omega, fun h => absurd h (by decide)⟩
    · go_wp2_with fail
      go_ret
      exact ⟨z, rfl, HB1.out, hge2, HFE.out⟩
set_option maxHeartbeats 2000000 in
set_option maxRecDepth 100000 in
theorem toGens_any (ao : Option Addr) (N cap : Nat) (f : Nat → Int) (yo : Option Addr) (M ycap : Nat) (h : Nat → Int) (mk : Int) (w : World) (hr : RdG w ao N f yo M h) (hF : FewQ N M) :
    Calls Try.prog 32 #[.agg #[.slice ao N cap, .slice yo M ycap, .int .i64 mk]] w fun e w' => ∃ g y, e = .returned (.agg #[.slice (some ⟨g, 0, none⟩) N N, .slice (some ⟨y, 0, none⟩) M M, .int .i64 mk]) ∧ w.heap.size ≤ g ∧ IG w' g y N M f h ∧ y < w'.heap.size ∧ Below w.heap.size w w' := by
  have HR : Hid (RdG w ao N f yo M h) := hr
  have HF : Hid (FewQ N M) := hF
  clear hr hF
  go_enter Try.func32, Try.ntmps32
  go_wp2_with fail
  generalize hA : w.alloc (.cells #[.slice ao N cap, .slice yo M ycap, .int .i64 mk] 58) = wa
  have hba : Below w.heap.size w wa := by rw [← hA]; exact (Below.refl _ _).alloc (Nat.le_refl _) _
  have hza : wa.heap.size = w.heap.size + 1 := by rw [← hA, World.size_alloc]
  have qa : ∀ o, wa.cell? ⟨w.heap.size, o, none⟩ = (#[.slice ao N cap, .slice yo M ycap, .int .i64 mk] : Array Value)[o]? := fun o => by rw [← hA]; exact World.cell?_alloc_new w _ _ o
  clear hA
  generalize hB : wa.alloc (.cells #[.slice none 0 0, .slice none 0 0, .int .i64 0] 60) = wb
  have hbb : Below wa.heap.size wa wb := by rw [← hB]; exact (Below.refl _ _).alloc (Nat.le_refl _) _
  have hzb : wb.heap.size = w.heap.size + 2 := by rw [← hB, World.size_alloc, hza]
  have qb : ∀ o, wb.cell? ⟨w.heap.size + 1, o, none⟩ = (#[.slice none 0 0, .slice none 0 0, .int .i64 0] : Array Value)[o]? := fun o => by rw [← hB, ← hza]; exact World.cell?_alloc_new wa _ _ o
  have fb : ∀ o, wb.frozen? ⟨w.heap.size + 1, o, none⟩ = false := fun o => by rw [← hB, ← hza]; exact World.frozen?_alloc_new wa _ _ o
  clear hB
  generalize hC : wb.alloc (.cells #[.slice none 0 0, .slice none 0 0, .int .i64 0] 60) = wc
  have hbc : Below wb.heap.size wb wc := by rw [← hC]; exact (Below.refl _ _).alloc (Nat.le_refl _) _
  have hzc : wc.heap.size = w.heap.size + 3 := by rw [← hC, World.size_alloc, hzb]
  have qc : ∀ o, wc.cell? ⟨w.heap.size + 1 + 1, o, none⟩ = (#[.slice none 0 0, .slice none 0 0, .int .i64 0] : Array Value)[o]? := fun o => by rw [← hC, show w.heap.size + 1 + 1 = wb.heap.size by omega]; exact World.cell?_alloc_new wb _ _ o
  have fc : ∀ o, wc.frozen? ⟨w.heap.size + 1 + 1, o, none⟩ = false := fun o => by rw [← hC, show w.heap.size + 1 + 1 = wb.heap.size by omega]; exact World.frozen?_alloc_new wb _ _ o
  clear hC
  have qa' := keep3Q hbc (keep3Q hbb qa)
  have qb' := keep3Q hbc qb
  have fb' : ∀ o, wc.frozen? ⟨w.heap.size + 1, o, none⟩ = false := fun o => by rw [hbc.frozen (p := ⟨w.heap.size + 1, o, none⟩) (by show w.heap.size + 1 < _; omega)]; exact fb o
  have HBW : Hid (Below w.heap.size w wc) := below_join hba (below_join hbb hbc)
  clear qa qb fb hba hbb hbc
  obtain ⟨g, hg⟩ : ∃ g, g = wc.heap.size := ⟨_, rfl⟩
  refine (toIntS_any ao N cap f wc (HR.out.below HBW.out).1 HF.out.1).mono ?_
  rintro e w1 ⟨rfl, hi1, hl1, hb1⟩
  rw [← hg] at hi1 hl1 ⊢
  have qa1 := keep3Q hb1 qa'
  have qb1 := keep3Q hb1 qb'
  have qc1 := keep3Q hb1 qc
  have fb1 : ∀ o, w1.frozen? ⟨w.heap.size + 1, o, none⟩ = false := fun o => by rw [hb1.frozen (p := ⟨w.heap.size + 1, o, none⟩) (by show w.heap.size + 1 < _; omega)]; exact fb' o
  have fc1 : ∀ o, w1.frozen? ⟨w.heap.size + 1 + 1, o, none⟩ = false := fun o => by rw [hb1.frozen (p := ⟨w.heap.size + 1 + 1, o, none⟩) (by show w.heap.size + 1 + 1 < _; omega)]; exact fc o
  have HI1 : Hid (Ints w1 g 0 N f) := hi1
  have HL1 : Hid (g < w1.heap.size ∧ g = w.heap.size + 3) := ⟨hl1, by omega⟩
  have HB1 : Hid (Below w.heap.size w w1) := below_join HBW.out hb1
  clear hi1 hl1 hb1 qa' qb' qc fb' fc hg hza hzb hzc
  go_wp2_with fail
  generalize hD : w1.setCell ⟨w.heap.size + 1 + 1, 0, none⟩ (.slice (some ⟨g, 0, none⟩) N N) = w2
  have hz2 : w2.heap.size = w1.heap.size := by rw [← hD, World.size_setCell]
  have hb2 : Below w.heap.size w w2 := by rw [← hD]; exact HB1.out.setCell (by show w.heap.size ≤ w.heap.size + 1 + 1; omega) _
  have hi2 : Ints w2 g 0 N f := by rw [← hD]; exact HI1.out.turn ((Turn.refl (w.heap.size + 1 + 1) _).set 0 _) (by have := HL1.out.2; omega) HL1.out.1
  have qa2 : ∀ o, w2.cell? ⟨w.heap.size, o, none⟩ = (#[.slice ao N cap, .slice yo M ycap, .int .i64 mk] : Array Value)[o]? := fun o => by rw [← hD, World.cell?_setCell_other (h := fun e => by simp only [Addr.mk.injEq] at e; omega)]; exact qa1 o
  have qb2 : ∀ o, w2.cell? ⟨w.heap.size + 1, o, none⟩ = (#[.slice none 0 0, .slice none 0 0, .int .i64 0] : Array Value)[o]? := fun o => by rw [← hD, World.cell?_setCell_other (h := fun e => by simp only [Addr.mk.injEq] at e; omega)]; exact qb1 o
  have k20 : w2.cell? ⟨w.heap.size + 1 + 1, 0, none⟩ = some (.slice (some ⟨g, 0, none⟩) N N) := by rw [← hD]; exact World.cell?_setCell_same w1 _ _ (qc1 0)
  have k21 : w2.cell? ⟨w.heap.size + 1 + 1, 1, none⟩ = some (.slice none 0 0) := by rw [← hD, World.cell?_setCell_other (h := fun e => by simp only [Addr.mk.injEq] at e; omega)]; exact qc1 1
  have k22 : w2.cell? ⟨w.heap.size + 1 + 1, 2, none⟩ = some (.int .i64 0) := by rw [← hD, World.cell?_setCell_other (h := fun e => by simp only [Addr.mk.injEq] at e; omega)]; exact qc1 2
  have fb2 : ∀ o, w2.frozen? ⟨w.heap.size + 1, o, none⟩ = false := fun o => by rw [← hD, World.frozen?_setCell]; exact fb1 o
  have fc2 : ∀ o, w2.frozen? ⟨w.heap.size + 1 + 1, o, none⟩ = false := fun o => by rw [← hD, World.frozen?_setCell]; exact fc1 o
  clear hD qa1 qb1 qc1 fb1 fc1
  have hgl2 : g < w2.heap.size := by rw [hz2]; exact HL1.out.1
  obtain ⟨y, hy⟩ : ∃ y, y = w2.heap.size := ⟨_, rfl⟩
  refine (toIntS_any yo M ycap h w2 (HR.out.below hb2).2 HF.out.2).mono ?_
  rintro e w3 ⟨rfl, hi3, hl3, hb3⟩
  rw [← hy] at hi3 hl3 ⊢
  have hg3 := HL1.out.2
  have qb3 := keep3Q hb3 qb2
  have qa3 := keep3Q hb3 qa2
  have k30 := keep0Q hb3 k20
  have k31 := keep0Q hb3 k21
  have k32 := keep0Q hb3 k22
  have fb3 : ∀ o, w3.frozen? ⟨w.heap.size + 1, o, none⟩ = false := fun o => by rw [hb3.frozen (p := ⟨w.heap.size + 1, o, none⟩) (by show w.heap.size + 1 < _; omega)]; exact fb2 o
  have fc3 : ∀ o, w3.frozen? ⟨w.heap.size + 1 + 1, o, none⟩ = false := fun o => by rw [hb3.frozen (p := ⟨w.heap.size + 1 + 1, o, none⟩) (by show w.heap.size + 1 + 1 < _; omega)]; exact fc2 o
  have HB3 : Hid (Below w.heap.size w w3) := hb2.trans (hb3.mono hb2.size)
  have HIG : Hid (IG w3 g y N M f h) := ⟨hi2.below hb3 hgl2, hi3, by omega⟩
  have HYL : Hid (y < w3.heap.size ∧ w.heap.size + 3 ≤ g) := ⟨hl3, by omega⟩
  clear hi3 hl3 hb3 hb2 hi2 qa2 qb2 k20 k21 k22 fb2 fc2 hz2 hgl2 hy hg3
  go_wp2_with fail
  have hIG := HIG.out
  have hyl := HYL.out.1
  have hgl := HYL.out.2
  have hlt := hIG.lt
  have tn : ∀ (W : World) (c o : Nat) (v : Value), c ≠ g → c ≠ y → y < W.heap.size → IG W g y N M f h → IG (W.setCell ⟨c, o, none⟩ v) g y N M f h := fun W c o v h1 h2 hl k =>
    ⟨k.o.turn ((Turn.refl c _).set o _) (by omega) (by omega), k.i.turn ((Turn.refl c _).set o _) (by omega) hl, k.lt⟩
  have n1 : w.heap.size + 1 + 1 ≠ g ∧ w.heap.size + 1 + 1 ≠ y ∧ w.heap.size + 1 ≠ g ∧ w.heap.size + 1 ≠ y := by omega
  have j1 := tn w3 (w.heap.size + 1 + 1) 1 (.slice (some ⟨y, 0, none⟩) M M) n1.1 n1.2.1 hyl hIG
  have j2 := tn _ (w.heap.size + 1 + 1) 2 (.int .i64 mk) n1.1 n1.2.1 (by rw [World.size_setCell]; exact hyl) j1
  have j3 := tn _ (w.heap.size + 1) 0 (.slice (some ⟨g, 0, none⟩) N N) n1.2.2.1 n1.2.2.2 (by rw [World.size_setCell, World.size_setCell]; exact hyl) j2
  have j4 := tn _ (w.heap.size + 1) 1 (.slice (some ⟨y, 0, none⟩) M M) n1.2.2.1 n1.2.2.2 (by rw [World.size_setCell, World.size_setCell, World.size_setCell]; exact hyl) j3
  have j5 := tn _ (w.heap.size + 1) 2 (.int .i64 mk) n1.2.2.1 n1.2.2.2 (by rw [World.size_setCell, World.size_setCell, World.size_setCell, World.size_setCell]; exact hyl) j4
  have b1 : w.heap.size ≤ w.heap.size + 1 := by omega
  have b2 : w.heap.size ≤ w.heap.size + 1 + 1 := by omega
  have hbf := ((((HB3.out.setCell (p := ⟨w.heap.size + 1 + 1, 1, none⟩) b2 (.slice (some ⟨y, 0, none⟩) M M)).setCell (p := ⟨w.heap.size + 1 + 1, 2, none⟩) b2 (.int .i64 mk)).setCell (p := ⟨w.heap.size + 1, 0, none⟩) b1 (.slice (some ⟨g, 0, none⟩) N N)).setCell (p := ⟨w.heap.size + 1, 1, none⟩) b1 (.slice (some ⟨y, 0, none⟩) M M)).setCell (p := ⟨w.heap.size + 1, 2, none⟩) b1 (.int .i64 mk)
  exact bodyPost_ret (v := .agg #[.slice (some ⟨g, 0, none⟩) N N, .slice (some ⟨y, 0, none⟩) M M, .int .i64 mk]) (by simp [results, Try.results32, go_sem, qb3]) rfl ⟨g, y, rfl, by omega, j5, by rw [World.size_setCell, World.size_setCell, World.size_setCell, World.size_setCell, World.size_setCell]; exact hyl, hbf⟩
set_option maxHeartbeats 1000000 in
set_option maxRecDepth 100000 in
theorem eqGens_same (ao bo yo zo : Option Addr) (N ca cb M cy cz : Nat) (f h : Nat → Int) (mk : Int) (w : World) (ha : RdI w ao N f) (hb : RdI w bo N f) (hy : RdI w yo M h) (hz : RdI w zo M h) (hF : FewQ N M) :
    Calls Try.prog 34 #[.agg #[.slice ao N ca, .slice yo M cy, .int .i64 mk], .agg #[.slice bo N cb, .slice zo M cz, .int .i64 mk]] w fun e w' => e = .returned (.bool true) ∧ Below w.heap.size w w' := by
  have HA : Hid (RdI w ao N f) := ha
  have HB : Hid (RdI w bo N f) := hb
  have HY : Hid (RdI w yo M h) := hy
  have HZ : Hid (RdI w zo M h) := hz
  have HF : Hid (FewQ N M) := hF
  clear ha hb hy hz hF
  go_enter Try.func34, Try.ntmps34
  go_wp2_with fail
  generalize hA : w.alloc (.cells #[.slice ao N ca, .slice yo M cy, .int .i64 mk] 60) = wa
  have hba : Below w.heap.size w wa := by rw [← hA]; exact (Below.refl _ _).alloc (Nat.le_refl _) _
  have hza : wa.heap.size = w.heap.size + 1 := by rw [← hA, World.size_alloc]
  have qa : ∀ o, wa.cell? ⟨w.heap.size, o, none⟩ = (#[.slice ao N ca, .slice yo M cy, .int .i64 mk] : Array Value)[o]? := fun o => by rw [← hA]; exact World.cell?_alloc_new w _ _ o
  clear hA
  generalize hB : wa.alloc (.cells #[.slice bo N cb, .slice zo M cz, .int .i64 mk] 60) = wb
  have hbb : Below wa.heap.size wa wb := by rw [← hB]; exact (Below.refl _ _).alloc (Nat.le_refl _) _
  have qb : ∀ o, wb.cell? ⟨w.heap.size + 1, o, none⟩ = (#[.slice bo N cb, .slice zo M cz, .int .i64 mk] : Array Value)[o]? := fun o => by rw [← hB, ← hza]; exact World.cell?_alloc_new wa _ _ o
  clear hB
  have qab := keep3Q hbb qa
  have hbw := below_join hba hbb
  have HBW : Hid (Below w.heap.size w wb) := hbw
  refine (eqIntS_same ao bo N ca cb f f wb (HA.out.below hbw) (HB.out.below hbw) (fun _ _ => rfl) HF.out.1).mono ?_
  rintro e w1 ⟨rfl, hb1⟩
  have qa1 := keep3Q hb1 qab
  have qb1 := keep3Q hb1 qb
  have HB1 : Hid (Below w.heap.size w w1) := below_join hbw hb1
  clear qa qb qab hba hbb hbw hb1 hza
  go_wp2_with fail
  refine (eqIntS_same yo zo M cy cz h h w1 (HY.out.below HB1.out) (HZ.out.below HB1.out) (fun _ _ => rfl) HF.out.2).mono ?_
  rintro e w2 ⟨rfl, hb2⟩
  have qa2 := keep3Q hb2 qa1
  have qb2 := keep3Q hb2 qb1
  have HB2 : Hid (Below w.heap.size w w2) := below_join HB1.out hb2
  clear qa1 qb1 hb2
  go_wp2_with fail
  go_ret
  exact ⟨rfl, HB2.out⟩
set_option maxHeartbeats 1000000 in
theorem markIntS_any2 (b o N cap : Nat) (f : Nat → Int) (w : World) (hI : Ints w b o N f) (k : Int) (hk : 0 ≤ k ∧ k ≤ 1048577) (hN : N ≤ 1048576) :
    Calls Try.prog 48 #[.slice (some ⟨b, o, none⟩) N cap, .int .i64 k] w fun e w' => e = .returned (.int .i64 (k + N)) ∧ Turn b w w' ∧ Ints w' b o N (fun j => k + j) := by
  have HI : Hid (Ints w b o N f) := hI
  clear hI
  go_enter Try.func48, Try.ntmps48
  go_wp2_with fail
  go_loopw [1, 5] (fun a i w' => ∃ m : Nat, m ≤ N ∧ i = .int .i64 m ∧ a = .int .i64 (k + m) ∧ Turn b w w' ∧ Ints w' b o N (fun j => if j < m then k + j else f j)) (fun _ i _ => N - (intOf i).toNat)
  case atStart => exact ⟨0, Nat.zero_le _, by simp, by simp, Turn.refl _ _, HI.out.congr (fun j _ => by rw [if_neg (by omega)])⟩
  case round =>
    obtain ⟨m, hm, rfl, rfl, ht, hi⟩ := hrel
    have HT : Hid (Turn b w wr) := ht
    have HI2 : Hid (Ints wr b o N (fun j => if j < m then k + j else f j)) := hi
    by_cases hlt : m < N
    · have cm := hi.cell m hlt
      rw [if_neg (by omega)] at cm
      have fr : ∀ x, wr.frozen? ⟨b, x, none⟩ = false := hi.free
      clear ht hi
      go_wp2_with fail
      go_roundw
      case rel =>
        refine ⟨m + 1, by omega, by go_num, by go_num, HT.out.set _ _, (HI2.out.set m hlt _).congr fun j _ => ?_⟩
        unfold upd
        by_cases e : j = m
        · subst e
          rw [if_pos rfl, if_pos (by omega)]
        · rw [if_neg e]
          dsimp only
          by_cases e2 : j < m
          · rw [if_pos e2, if_pos (by omega)]
          · rw [if_neg e2, if_neg (by omega)]
      case measure => simp [intOf]; omega
    · have hme : m = N := by omega
      subst hme
      clear ht hi
      go_wp2_with fail
      go_ret
      exact ⟨rfl, HT.out, HI2.out.congr (fun j hj => by rw [if_pos hj])⟩
set_option maxHeartbeats 1000000 in
theorem heldIntS_any2 (b o N cap : Nat) (w : World) (k : Int) (hI : Ints w b o N (fun j => k + j)) (hk : 0 ≤ k ∧ k ≤ 1048577) (hN : N ≤ 1048576) :
    Calls Try.prog 51 #[.slice (some ⟨b, o, none⟩) N cap, .int .i64 k] w fun e w' => e = .returned (.int .i64 (k + N)) ∧ w' = w := by
  have HI : Hid (Ints w b o N (fun j => k + j)) := hI
  clear hI
  go_enter Try.func51, Try.ntmps51
  go_wp2_with fail
  go_loop [1, 5] (fun a i => ∃ m : Nat, m ≤ N ∧ i = .int .i64 m ∧ a = .int .i64 (k + m)) (fun _ i => N - (intOf i).toNat)
  case atStart => exact ⟨0, Nat.zero_le _, by simp, by simp⟩
  case round =>
    obtain ⟨m, hm, rfl, rfl⟩ := hrel
    by_cases hlt : m < N
    · have cm := HI.out.cell m hlt
      go_wp2_with fail
      go_round
      case rel => exact ⟨m + 1, by omega, by go_num, by go_num⟩
      case measure => simp [intOf]; omega
    · have hme : m = N := by omega
      subst hme
      go_wp2_with fail
      go_ret
      exact ⟨rfl, rfl⟩
/-- Both lists are marked, one behind the other. -/
structure MkQ (w w' : World) (g y N M : Nat) : Prop where
  i1 : Ints w' g 0 N (fun j => 1 + (j : Int))
  i2 : Ints w' y 0 M (fun j => 1 + (N : Int) + j)
  os : w'.os = w.os
  tape : w'.tape = w.tape
  output : w'.output = w.output
  size : w.heap.size ≤ w'.heap.size
  block : ∀ b, b < w.heap.size → b ≠ g → b ≠ y → w'.heap[b]? = w.heap[b]?
set_option maxHeartbeats 1000000 in
set_option maxRecDepth 100000 in
theorem markGQ (g y N M : Nat) (cn cm : Nat) (f h : Nat → Int) (mk : Int) (w : World) (h1 : Ints w g 0 N f) (h2 : Ints w y 0 M h) (hne : g ≠ y) (hlg : g < w.heap.size) (hly : y < w.heap.size) (hN : N ≤ 1048576) (hM : M ≤ 1048576) :
    Calls Try.prog 35 #[.agg #[.slice (some ⟨g, 0, none⟩) N cn, .slice (some ⟨y, 0, none⟩) M cm, .int .i64 mk], .int .i64 1] w fun e w' => e = .returned (.int .i64 (1 + N + M)) ∧ MkQ w w' g y N M := by
  have H1 : Hid (Ints w g 0 N f) := h1
  have H2 : Hid (Ints w y 0 M h) := h2
  have HN : Hid (N ≤ 1048576 ∧ M ≤ 1048576) := ⟨hN, hM⟩
  have hNi : (N : Int) ≤ 1048576 := by omega
  have hNM : (1 : Int) + N ≤ 1048577 := by omega
  clear h1 h2 hN hM
  go_enter Try.func35, Try.ntmps35
  go_wp2_with fail
  generalize hA : w.alloc (.cells #[.slice (some ⟨g, 0, none⟩) N cn, .slice (some ⟨y, 0, none⟩) M cm, .int .i64 mk] 60) = wa
  have hba : Below w.heap.size w wa := by rw [← hA]; exact (Below.refl _ _).alloc (Nat.le_refl _) _
  have hza : wa.heap.size = w.heap.size + 1 := by rw [← hA, World.size_alloc]
  have qa : ∀ o, wa.cell? ⟨w.heap.size, o, none⟩ = (#[.slice (some ⟨g, 0, none⟩) N cn, .slice (some ⟨y, 0, none⟩) M cm, .int .i64 mk] : Array Value)[o]? := fun o => by rw [← hA]; exact World.cell?_alloc_new w _ _ o
  have hia := H1.out.below hba hlg
  have hib := H2.out.below hba hly
  have HBA : Hid (Below w.heap.size w wa) := hba
  clear hA hba
  refine (markIntS_any2 g 0 N cn f wa hia 1 (by decide) HN.out.1).mono ?_
  rintro e w1 ⟨rfl, ht1, hi1⟩
  have qa1 : ∀ o, w1.cell? ⟨w.heap.size, o, none⟩ = (#[.slice (some ⟨g, 0, none⟩) N cn, .slice (some ⟨y, 0, none⟩) M cm, .int .i64 mk] : Array Value)[o]? := fun o => by
    rw [World.cell?_of_block (w := wa) (ht1.block w.heap.size (by omega) (by omega))]; exact qa o
  have HT1 : Hid (Turn g wa w1) := ht1
  have HI1 : Hid (Ints w1 g 0 N (fun j => 1 + (j : Int))) := hi1
  have hj1 : Ints w1 y 0 M h := hib.turn ht1 (by omega) (by omega)
  have HJ1 : Hid (Ints w1 y 0 M h) := hj1
  have HZA : Hid (wa.heap.size = w.heap.size + 1) := hza
  have HZ1 : Hid (wa.heap.size ≤ w1.heap.size) := ht1.size
  clear qa ht1 hi1 hj1 hia hib hza
  go_wp2_with fail
  have hK : (0 : Int) ≤ 1 + N ∧ (1 : Int) + N ≤ 1048577 := by omega
  refine (markIntS_any2 y 0 M cm h w1 HJ1.out (1 + N) hK HN.out.2).mono ?_
  rintro e w2 ⟨rfl, ht2, hi2⟩
  have HT2 : Hid (Turn y w1 w2) := ht2
  have HI2 : Hid (Ints w2 y 0 M (fun j => 1 + (N : Int) + j)) := hi2
  clear ht2 hi2 qa1
  go_wp2_with fail
  go_ret
  have z0 := HZA.out
  have z1 := HZ1.out
  refine ⟨rfl, HI1.out.turn HT2.out hne (by omega), HI2.out, HT2.out.os.trans (HT1.out.os.trans HBA.out.os), HT2.out.tape.trans (HT1.out.tape.trans HBA.out.tape), HT2.out.output.trans (HT1.out.output.trans HBA.out.output), by have := HT2.out.size; omega, fun b h1 h2 h3 => ?_⟩
  rw [HT2.out.block b (by omega) h3, HT1.out.block b (by omega) h2, HBA.out.block b h1]
set_option maxHeartbeats 1000000 in
set_option maxRecDepth 100000 in
theorem heldGQ (g y N M : Nat) (cn cm : Nat) (mk : Int) (w : World) (h1 : Ints w g 0 N (fun j => 1 + (j : Int))) (h2 : Ints w y 0 M (fun j => 1 + (N : Int) + j)) (hlg : g < w.heap.size) (hly : y < w.heap.size) (hN : N ≤ 1048576) (hM : M ≤ 1048576) :
    Calls Try.prog 36 #[.agg #[.slice (some ⟨g, 0, none⟩) N cn, .slice (some ⟨y, 0, none⟩) M cm, .int .i64 mk], .int .i64 1] w fun e w' => e = .returned (.int .i64 (1 + N + M)) ∧ Below w.heap.size w w' := by
  have H1 : Hid (Ints w g 0 N (fun j => 1 + (j : Int))) := h1
  have H2 : Hid (Ints w y 0 M (fun j => 1 + (N : Int) + j)) := h2
  have HN : Hid (N ≤ 1048576 ∧ M ≤ 1048576) := ⟨hN, hM⟩
  clear h1 h2 hN hM
  go_enter Try.func36, Try.ntmps36
  go_wp2_with fail
  generalize hA : w.alloc (.cells #[.slice (some ⟨g, 0, none⟩) N cn, .slice (some ⟨y, 0, none⟩) M cm, .int .i64 mk] 60) = wa
  have hba : Below w.heap.size w wa := by rw [← hA]; exact (Below.refl _ _).alloc (Nat.le_refl _) _
  have qa : ∀ o, wa.cell? ⟨w.heap.size, o, none⟩ = (#[.slice (some ⟨g, 0, none⟩) N cn, .slice (some ⟨y, 0, none⟩) M cm, .int .i64 mk] : Array Value)[o]? := fun o => by rw [← hA]; exact World.cell?_alloc_new w _ _ o
  have HI1 : Hid (Ints wa g 0 N (fun j => 1 + (j : Int))) := H1.out.below hba hlg
  have HI2 : Hid (Ints wa y 0 M (fun j => 1 + (N : Int) + j)) := H2.out.below hba hly
  have HBA : Hid (Below w.heap.size w wa) := hba
  clear hA hba
  obtain ⟨K, hK⟩ : ∃ K : Int, K = 1 + (N : Int) := ⟨_, rfl⟩
  have HK : Hid (K = 1 + (N : Int)) := hK
  obtain ⟨K2, hK2⟩ : ∃ K2 : Int, K2 = K + (M : Int) := ⟨_, rfl⟩
  have HK2 : Hid (K2 = 1 + (N : Int) + (M : Int)) := by show _ = _; omega
  have hk0 : ¬ K < 0 := by omega
  have hk2 : ¬ K2 < 0 := by omega
  refine (heldIntS_any2 g 0 N cn wa 1 HI1.out (by decide) HN.out.1).mono ?_
  rintro e w1 ⟨rfl, hw1⟩
  obtain rfl := hw1.symm
  rw [← hK]
  clear hw1 hK
  go_wp2_with fail
  have hI2 : Ints wa y 0 M (fun j => K + (j : Int)) := by have := HI2.out; rw [← HK.out] at this; exact this
  refine (heldIntS_any2 y 0 M cm wa K hI2 (by have := HK.out; have := HN.out; omega) HN.out.2).mono ?_
  rintro e w2 ⟨rfl, hw2⟩
  obtain rfl := hw2.symm
  rw [← hK2]
  clear hw2 hK2 hI2
  go_wp2_with fail
  go_ret
  exact ⟨ret_int HK2.out, HBA.out⟩
end Go.Proofs.Ytabgfaafpgholaa
