/-
  What stands where while the specification puts a term into Young.
-/
import Derived.Test.YtabgfaafpgholaaY13
import Derived.Test.YtabgfaafpgholaaY14
import Derived.Test.YtabgfaafpgholaaW14
import Derived.Test.YtabgfaafpgholaaW45
namespace Go.Proofs.Ytabgfaafpgholaa
open Go.RowKit
set_option linter.unusedVariables false

/-- A copy of texts at a step of a region that draws its order. -/
theorem step_copyT (w : World) {ops : Array Oper} {o : Oper} {a : Act} {K : Act → World → Prop} {Q : Exit → Act → World → Prop} {E : Prop} (hgd : o.guard = none) (s x : Operand)
    (ho : o.op = .call { callee := .builtin .append, args := #[s, x], argTypes := #[25, 25] }) (base G ab ao ac : Nat) (A : List ByteArray) (hs : a.eval s = .slice (some ⟨G, 0, none⟩) 0 0) (hx : a.eval x = .slice (some ⟨ab, ao, none⟩) A.length ac)
    (hown : w.ownsRow base 9 1 (.slice (some ⟨G, 0, none⟩) 0 0) 0 []) (hv : Txt w ab ao A) (hl : A.length ≤ 1048576) (hbase : base ≤ w.heap.size)
    (h : ∀ g c w', w'.ownsRow base 9 1 (.slice (some ⟨g, 0, none⟩) A.length c) A.length (A.map Value.string) → w.grownBy w' (some G) → (g = G ∨ g = w.heap.size) → K (a.put o.dst (.slice (some ⟨g, 0, none⟩) A.length c)) w') :
    if Region.wanted o (yielded ops a.tmps) = true then Oper.wp Try.prog o a w K Q else E := by
  obtain ⟨i0, hi, hz0, hz1, hz2⟩ := info_parts infoStr1
  have hw : Region.wanted o (yielded ops a.tmps) = true := by simp [Region.wanted, hgd]
  rcases Nat.eq_zero_or_pos A.length with h0 | h0
  · obtain rfl : A = [] := List.eq_nil_of_length_eq_zero h0
    rw [if_pos hw]
    have hr : (Builtin.append_ #[25, 25] o.type #[.slice (some ⟨G, 0, none⟩) 0 0, .slice (some ⟨ab, ao, none⟩) 0 ac]).run Try.prog w = .ok (.slice (some ⟨G, 0, none⟩) 0 0) w := by
      simp [Builtin.append_, run_underlying undStrs1, sizeOf, typeInfo, hi, Builtin.lenOf, Builtin.firstCells, loadCells, loadCellsFrom, storeCells]
    unfold Oper.wp execOp
    simp only [ho, resolve, invoke, builtin, Sem.run_bind, Sem.run_pure, Result.andThen_ok, List.map_toArray, List.map_cons, List.map_nil, hs, hx, List.length_nil, hr]
    exact h G 0 w hown ⟨rfl, rfl, rfl, Nat.le_refl _, fun _ _ _ => rfl⟩ (.inl rfl)
  · refine step_append_lies w hgd s x 25 ho base 9 i0 (.string ByteArray.empty) 1 16 undStrs1 hi hz0 hz1 hz2 rfl Nat.zero_lt_one _ 0 [] hs hown ⟨ab, ao, none⟩ A.length ac (A.map Value.string) hx (by simp) (srcT hv) (oneT A) h0 (by unfold maxLen; omega) (by omega) hbase w.heap.size rfl ?_
    intro g cap w' h1 h2 h3 h4
    rw [Nat.zero_add, List.nil_append] at h1
    rw [Nat.zero_add]
    exact h g cap w' h1 h2 (h3.imp (fun e => by simpa [Value.ownBlock, eq_comm] using e) id)
structure AG (w w' : World) (gv T : Array Value) (xs ys : List Int) (m : Int) (A : List ByteArray) (g c g2 c2 ga ca o1 n1 : Nat) : Prop where
  be : Below w.heap.size w w'
  hc : ∀ o, w'.cell? ⟨w.heap.size, o, none⟩ = gv[o]?
  tc : ∀ o, w'.cell? ⟨w.heap.size + 1, o, none⟩ = T[o]?
  rc : ∀ o, w'.cell? ⟨w.heap.size + 1 + 1, o, none⟩ = (#[.slice none 0 0, .slice none 0 0, .int .i64 0] : Array Value)[o]?
  rf : ∀ o, w'.frozen? ⟨w.heap.size + 1 + 1, o, none⟩ = false
  oc : ∀ o, w'.cell? ⟨o1, o, none⟩ = (#[.slice (some ⟨g, 0, none⟩) xs.length c, .slice (some ⟨g2, 0, none⟩) ys.length c2, .int .i64 m] : Array Value)[o]?
  of : ∀ o, w'.frozen? ⟨o1, o, none⟩ = false
  l1 : w.heap.size + 1 + 1 < o1
  l2 : o1 < n1
  l3 : n1 < w'.heap.size
  d : w.heap.size + 1 + 1 < g ∧ w.heap.size + 1 + 1 < g2 ∧ w.heap.size + 1 + 1 < ga
  ne : g ≠ o1 ∧ g ≠ n1 ∧ g ≠ g2 ∧ g ≠ ga ∧ g2 ≠ o1 ∧ g2 ≠ n1 ∧ g2 ≠ ga ∧ ga ≠ o1
  r1 : w'.ownsRow w.heap.size 3 1 (.slice (some ⟨g, 0, none⟩) xs.length c) xs.length (xs.map (Value.int .i64))
  r2 : w'.ownsRow w.heap.size 3 1 (.slice (some ⟨g2, 0, none⟩) ys.length c2) ys.length (ys.map (Value.int .i64))
  ns : NS n1 w.heap.size ga ca w' A
theorem ag_of {w w1 w2 : World} {gv T : Array Value} {xs ys : List Int} {m : Int} {A : List ByteArray} {g c g2 c2 ga ca : Nat} {ty1 ty2 ty3 ty4 ty5 ty6 : TypeId}
    (hb1 : Below (((w.alloc (.cells gv ty1)).alloc (.cells T ty2)).alloc (.cells #[.slice none 0 0, .slice none 0 0, .int .i64 0] ty3)).heap.size (((w.alloc (.cells gv ty1)).alloc (.cells T ty2)).alloc (.cells #[.slice none 0 0, .slice none 0 0, .int .i64 0] ty3)) w1)
    (ho1 : w1.ownsRow (((w.alloc (.cells gv ty1)).alloc (.cells T ty2)).alloc (.cells #[.slice none 0 0, .slice none 0 0, .int .i64 0] ty3)).heap.size 3 1 (.slice (some ⟨g, 0, none⟩) xs.length c) xs.length (xs.map (Value.int .i64)))
    (ho2 : w1.ownsRow (((w.alloc (.cells gv ty1)).alloc (.cells T ty2)).alloc (.cells #[.slice none 0 0, .slice none 0 0, .int .i64 0] ty3)).heap.size 3 1 (.slice (some ⟨g2, 0, none⟩) ys.length c2) ys.length (ys.map (Value.int .i64)))
    (hgn : g ≠ g2)
    (hg2 : ((w1.alloc (.cells #[.slice (some ⟨g, 0, none⟩) xs.length c, .slice (some ⟨g2, 0, none⟩) ys.length c2, .int .i64 m] ty4)).alloc (.cells #[] ty5)).grownBy w2 (some (w1.heap.size + 1)))
    (ho3 : w2.ownsRow (w1.heap.size + 1) 9 1 (.slice (some ⟨ga, 0, none⟩) A.length ca) A.length (A.map Value.string)) :
    AG w (w2.alloc (.cells #[.slice (some ⟨ga, 0, none⟩) A.length ca] ty6)) gv T xs ys m A g c g2 c2 ga ca w1.heap.size w2.heap.size := by
  have s0 : (((w.alloc (.cells gv ty1)).alloc (.cells T ty2)).alloc (.cells #[.slice none 0 0, .slice none 0 0, .int .i64 0] ty3)).heap.size = w.heap.size + 1 + 1 + 1 := by simp only [World.size_alloc]
  have s1 := hb1.size
  have s2 := hg2.size
  have s3 : ((w1.alloc (.cells #[.slice (some ⟨g, 0, none⟩) xs.length c, .slice (some ⟨g2, 0, none⟩) ys.length c2, .int .i64 m] ty4)).alloc (.cells #[] ty5)).heap.size = w1.heap.size + 1 + 1 := by simp only [World.size_alloc]
  have l1 := ho1.lt g rfl
  have l2 := ho2.lt g2 rfl
  have l3 := ho3.lt ga rfl
  have old : ∀ b, b < w1.heap.size → (w2.alloc (.cells #[.slice (some ⟨ga, 0, none⟩) A.length ca] ty6)).heap[b]? = w1.heap[b]? := fun b hb => by
    rw [Below.heap_alloc _ _ _ (by omega), hg2.block b (by omega) (by simp; omega), Below.heap_alloc _ _ _ (by rw [World.size_alloc]; omega), Below.heap_alloc _ _ _ hb]
  have b0 : Below w.heap.size w (((w.alloc (.cells gv ty1)).alloc (.cells T ty2)).alloc (.cells #[.slice none 0 0, .slice none 0 0, .int .i64 0] ty3)) := by
    have b1 : Below w.heap.size w ((w.alloc (.cells gv ty1)).alloc (.cells T ty2)) := ((Below.refl _ _).alloc (Nat.le_refl _) _).alloc (by rw [World.size_alloc]; omega) _
    exact b1.alloc b1.size _
  have e1 : ∀ b o, b < w.heap.size + 1 + 1 + 1 → (w2.alloc (.cells #[.slice (some ⟨ga, 0, none⟩) A.length ca] ty6)).cell? ⟨b, o, none⟩ = (((w.alloc (.cells gv ty1)).alloc (.cells T ty2)).alloc (.cells #[.slice none 0 0, .slice none 0 0, .int .i64 0] ty3)).cell? ⟨b, o, none⟩ ∧ (w2.alloc (.cells #[.slice (some ⟨ga, 0, none⟩) A.length ca] ty6)).frozen? ⟨b, o, none⟩ = (((w.alloc (.cells gv ty1)).alloc (.cells T ty2)).alloc (.cells #[.slice none 0 0, .slice none 0 0, .int .i64 0] ty3)).frozen? ⟨b, o, none⟩ := fun b o hb => by
    have e := (old b (by omega)).trans (hb1.block b (by omega))
    exact ⟨World.cell?_of_block e, World.frozen?_of_block e⟩
  have e2 : (w2.alloc (.cells #[.slice (some ⟨ga, 0, none⟩) A.length ca] ty6)).heap[w1.heap.size]? = (w1.alloc (.cells #[.slice (some ⟨g, 0, none⟩) xs.length c, .slice (some ⟨g2, 0, none⟩) ys.length c2, .int .i64 m] ty4)).heap[w1.heap.size]? := by
    rw [Below.heap_alloc _ _ _ (by omega), hg2.block w1.heap.size (by omega) (by simp), Below.heap_alloc _ _ _ (by rw [World.size_alloc]; omega)]
  have kr : ∀ (u : Value) (n : Nat) (zs : List Value), w1.ownsRow (((w.alloc (.cells gv ty1)).alloc (.cells T ty2)).alloc (.cells #[.slice none 0 0, .slice none 0 0, .int .i64 0] ty3)).heap.size 3 1 u n zs → u.ownBlock ≠ some (w1.heap.size + 1) → (w2.alloc (.cells #[.slice (some ⟨ga, 0, none⟩) A.length ca] ty6)).ownsRow w.heap.size 3 1 u n zs := fun u n zs h hn =>
    ((((own_low h (by omega)).alloc _).alloc _).kept hg2 (Or.inr hn)).alloc _
  refine ⟨⟨?_, ?_, ?_, ?_, ?_⟩, ?_, ?_, ?_, ?_, ?_, ?_, by omega, by omega, by rw [World.size_alloc]; omega, ⟨by omega, by omega, by omega⟩, ⟨by omega, by omega, hgn, by omega, by omega, by omega, by omega, by omega⟩, kr _ _ _ ho1 (by simp [Value.ownBlock]; omega), kr _ _ _ ho2 (by simp [Value.ownBlock]; omega), ⟨by omega, ?_, ?_, (own_low ho3 (by omega)).alloc _, by rw [World.size_alloc]; omega⟩⟩
  · exact hg2.os.trans (hb1.os.trans b0.os)
  · exact hg2.tape.trans (hb1.tape.trans b0.tape)
  · exact hg2.output.trans (hb1.output.trans b0.output)
  · rw [World.size_alloc]; omega
  · intro b hb
    exact ((old b (by omega)).trans (hb1.block b (by omega))).trans (b0.block b hb)
  · intro o
    rw [(e1 w.heap.size o (by omega)).1, World.cell?_alloc_past _ _ _ (by simp only [World.size_alloc]; omega), World.cell?_alloc_past _ _ _ (by rw [World.size_alloc]; omega), World.cell?_alloc_at _ _ _ _ rfl]
  · intro o
    rw [(e1 (w.heap.size + 1) o (by omega)).1, World.cell?_alloc_past _ _ _ (by simp only [World.size_alloc]; omega), World.cell?_alloc_at _ _ _ _ (by rw [World.size_alloc])]
  · intro o
    rw [(e1 (w.heap.size + 1 + 1) o (by omega)).1, World.cell?_alloc_at _ _ _ _ (by simp only [World.size_alloc])]
  · intro o
    rw [(e1 (w.heap.size + 1 + 1) o (by omega)).2, World.frozen?_alloc_at _ _ _ _ (by simp only [World.size_alloc])]
  · intro o
    rw [World.cell?_of_block e2, World.cell?_alloc_at _ _ _ _ rfl]
  · intro o
    rw [World.frozen?_of_block e2, World.frozen?_alloc_at _ _ _ _ rfl]
  · rw [World.cell?_alloc_at _ _ _ _ rfl]; rfl
  · rw [World.frozen?_alloc_at _ _ _ _ rfl]
theorem AG.below {w w3 w4 : World} {gv T : Array Value} {xs ys : List Int} {m : Int} {A : List ByteArray} {g c g2 c2 ga ca o1 n1 : Nat} (h : AG w w3 gv T xs ys m A g c g2 c2 ga ca o1 n1) (hb : Below w3.heap.size w3 w4) : AG w w4 gv T xs ys m A g c g2 c2 ga ca o1 n1 := by
  have l1 := h.l1
  have l2 := h.l2
  have l3 := h.l3
  have hg : w3.grownBy w4 none := ⟨hb.os, hb.tape, hb.output, hb.size, fun k hk _ => hb.block k hk⟩
  have k : ∀ b o, b ≤ n1 → w4.cell? ⟨b, o, none⟩ = w3.cell? ⟨b, o, none⟩ ∧ w4.frozen? ⟨b, o, none⟩ = w3.frozen? ⟨b, o, none⟩ := fun b o hl => ⟨hb.cell (p := ⟨b, o, none⟩) (by show b < _; omega), hb.frozen (p := ⟨b, o, none⟩) (by show b < _; omega)⟩
  exact ⟨h.be.trans (hb.mono h.be.size), fun o => by rw [(k _ o (by omega)).1]; exact h.hc o, fun o => by rw [(k _ o (by omega)).1]; exact h.tc o, fun o => by rw [(k _ o (by omega)).1]; exact h.rc o, fun o => by rw [(k _ o (by omega)).2]; exact h.rf o, fun o => by rw [(k _ o (by omega)).1]; exact h.oc o, fun o => by rw [(k _ o (by omega)).2]; exact h.of o, h.l1, h.l2, by have := hb.size; omega, h.d, h.ne, h.r1.kept hg (Or.inr (by simp [Value.ownBlock])), h.r2.kept hg (Or.inr (by simp [Value.ownBlock])), h.ns.below hb⟩
theorem AG.drew {w w3 : World} {gv T : Array Value} {xs ys : List Int} {m : Int} {A : List ByteArray} {g c g2 c2 ga ca o1 n1 : Nat} (h : AG w w3 gv T xs ys m A g c g2 c2 ga ca o1 n1) : AG w w3.drew gv T xs ys m A g c g2 c2 ga ca o1 n1 := h.below (Below.refl _ _).drew
/-- Behind l6Lay. -/
theorem AG.lay {w w3 w4 : World} {gv T : Array Value} {xs ys : List Int} {m : Int} {A B : List ByteArray} {g c g2 c2 ga ca gb cb o1 n1 : Nat} (h : AG w w3 gv T xs ys m A g c g2 c2 ga ca o1 n1) (hn : NS n1 w.heap.size gb cb w4 B) (hf : NF n1 ga w3 w4) (hm : gb = ga ∨ w3.heap.size ≤ gb) : AG w w4 gv T xs ys m B g c g2 c2 gb cb o1 n1 := by
  have l1 := h.l1
  have l2 := h.l2
  have l3 := h.l3
  have sz := hf.size
  have sw := h.be.size
  obtain ⟨d1, d2, d3⟩ := h.d
  obtain ⟨n1', n2, n3, n4, n5, n6, n7, n8⟩ := h.ne
  have lg := h.r1.lt g rfl
  have lg2 := h.r2.lt g2 rfl
  have t : ∀ b, b < w3.heap.size → b ≠ n1 → b ≠ ga → w4.heap[b]? = w3.heap[b]? := hf.block
  have k : ∀ b o, b < w3.heap.size → b ≠ n1 → b ≠ ga → w4.cell? ⟨b, o, none⟩ = w3.cell? ⟨b, o, none⟩ ∧ w4.frozen? ⟨b, o, none⟩ = w3.frozen? ⟨b, o, none⟩ := fun b o h1 h2 h3 => ⟨World.cell?_of_block (t b h1 h2 h3), World.frozen?_of_block (t b h1 h2 h3)⟩
  have own : ∀ (b cc nn : Nat) (zs : List Value), b < w3.heap.size → b ≠ n1 → b ≠ ga → w3.ownsRow w.heap.size 3 1 (.slice (some ⟨b, 0, none⟩) nn cc) nn zs → w4.ownsRow w.heap.size 3 1 (.slice (some ⟨b, 0, none⟩) nn cc) nn zs := fun b cc nn zs h1 h2 h3 ho => by
    refine ⟨ho.1, ?_⟩
    rcases ho.2 with ⟨h0, _⟩ | ⟨g', cap, cur, e1, e2, e3, e4⟩
    · cases h0
    · have e : g' = b := by simp only [Value.slice.injEq, Option.some.injEq, Addr.mk.injEq] at e1; exact e1.1.1.symm
      exact .inr ⟨g', cap, cur, e1, e2, by rw [e, t b h1 h2 h3, ← e]; exact e3, e4⟩
  refine ⟨⟨hf.os.trans h.be.os, hf.tape.trans h.be.tape, hf.output.trans h.be.output, by omega, fun b hb => (t b (by omega) (by omega) (by omega)).trans (h.be.block b hb)⟩, fun o => by rw [(k _ o (by omega) (by omega) (by omega)).1]; exact h.hc o, fun o => by rw [(k _ o (by omega) (by omega) (by omega)).1]; exact h.tc o, fun o => by rw [(k _ o (by omega) (by omega) (by omega)).1]; exact h.rc o, fun o => by rw [(k _ o (by omega) (by omega) (by omega)).2]; exact h.rf o, fun o => by rw [(k _ o (by omega) (by omega) (by omega)).1]; exact h.oc o, fun o => by rw [(k _ o (by omega) (by omega) (by omega)).2]; exact h.of o, h.l1, h.l2, by omega, ⟨d1, d2, by omega⟩, ⟨n1', n2, n3, by omega, n5, n6, by omega, by omega⟩, own _ _ _ _ lg.2 n2 n4 h.r1, own _ _ _ _ lg2.2 n6 n7 h.r2, hn⟩
/-- Young has grown, and the variable is turned. -/
theorem AG.app {w w3 w4 : World} {gv T : Array Value} {xs ys zs : List Int} {m : Int} {A : List ByteArray} {g c g2 c2 g3 c3 ga ca o1 n1 : Nat} (h : AG w w3 gv T xs ys m A g c g2 c2 ga ca o1 n1) (ho : w4.ownsRow w.heap.size 3 1 (.slice (some ⟨g3, 0, none⟩) zs.length c3) zs.length (zs.map (Value.int .i64))) (hg : w3.grownBy w4 (some g2)) (hm : g3 = g2 ∨ w3.heap.size ≤ g3) : AG w (w4.setCell ⟨o1, 1, none⟩ (.slice (some ⟨g3, 0, none⟩) zs.length c3)) gv T xs zs m A g c g3 c3 ga ca o1 n1 := by
  have l1 := h.l1
  have l2 := h.l2
  have l3 := h.l3
  have sz := hg.size
  have sw := h.be.size
  obtain ⟨d1, d2, d3⟩ := h.d
  obtain ⟨n1', n2, n3, n4, n5, n6, n7, n8⟩ := h.ne
  have lg := h.r1.lt g rfl
  have lg2 := h.r2.lt g2 rfl
  have lga := h.ns.gl
  have lg3 := ho.lt g3 rfl
  have t4 : ∀ b, b < w3.heap.size → b ≠ g2 → w4.heap[b]? = w3.heap[b]? := fun b h1 h2 => hg.block b h1 (fun e => by injection e with e; omega)
  have k4 : ∀ b o, b < w3.heap.size → b ≠ g2 → w4.cell? ⟨b, o, none⟩ = w3.cell? ⟨b, o, none⟩ ∧ w4.frozen? ⟨b, o, none⟩ = w3.frozen? ⟨b, o, none⟩ := fun b o h1 h2 => ⟨World.cell?_of_block (t4 b h1 h2), World.frozen?_of_block (t4 b h1 h2)⟩
  have t : ∀ b, b < w3.heap.size → b ≠ g2 → b ≠ o1 → (w4.setCell ⟨o1, 1, none⟩ (.slice (some ⟨g3, 0, none⟩) zs.length c3)).heap[b]? = w3.heap[b]? := fun b h1 h2 h3 => (Below.heap_setCell w4 ⟨o1, 1, none⟩ _ b h3).trans (t4 b h1 h2)
  have k : ∀ b o, b < w3.heap.size → b ≠ g2 → b ≠ o1 → (w4.setCell ⟨o1, 1, none⟩ (.slice (some ⟨g3, 0, none⟩) zs.length c3)).cell? ⟨b, o, none⟩ = w3.cell? ⟨b, o, none⟩ ∧ (w4.setCell ⟨o1, 1, none⟩ (.slice (some ⟨g3, 0, none⟩) zs.length c3)).frozen? ⟨b, o, none⟩ = w3.frozen? ⟨b, o, none⟩ := fun b o h1 h2 h3 => ⟨World.cell?_of_block (t b h1 h2 h3), World.frozen?_of_block (t b h1 h2 h3)⟩
  refine ⟨⟨hg.os.trans h.be.os, hg.tape.trans h.be.tape, hg.output.trans h.be.output, by rw [World.size_setCell]; omega, fun b hb => (t b (by omega) (by omega) (by omega)).trans (h.be.block b hb)⟩, fun o => by rw [(k _ o (by omega) (by omega) (by omega)).1]; exact h.hc o, fun o => by rw [(k _ o (by omega) (by omega) (by omega)).1]; exact h.tc o, fun o => by rw [(k _ o (by omega) (by omega) (by omega)).1]; exact h.rc o, fun o => by rw [(k _ o (by omega) (by omega) (by omega)).2]; exact h.rf o, fun o => ?_, fun o => ?_, h.l1, h.l2, by rw [World.size_setCell]; omega, ⟨d1, by omega, d3⟩, ⟨n1', n2, by omega, n4, by omega, by omega, by omega, n8⟩, own_other (h.r1.kept hg (Or.inr (by simp [Value.ownBlock]; omega))) (by omega) _, own_other ho (by omega) _, ⟨h.ns.na, by rw [(k _ 0 (by omega) (by omega) (by omega)).1]; exact h.ns.ac, by rw [(k _ 0 (by omega) (by omega) (by omega)).2]; exact h.ns.af, own_other (h.ns.ar.kept hg (Or.inr (by simp [Value.ownBlock]; omega))) (by omega) _, by rw [World.size_setCell]; have := h.ns.hb; omega⟩⟩
  · by_cases ho1 : o = 1
    · subst ho1
      rw [World.cell?_setCell_same w4 _ _ (u := .slice (some ⟨g2, 0, none⟩) ys.length c2) (by rw [(k4 o1 1 (by omega) (by omega)).1]; exact h.oc 1)]
      rfl
    · rw [World.cell?_setCell_other (h := fun e => by simp only [Addr.mk.injEq] at e; omega), (k4 o1 o (by omega) (by omega)).1, h.oc o]
      match o, ho1 with
      | 0, _ => rfl
      | 2, _ => rfl
      | o + 3, _ => rfl
  · rw [World.frozen?_setCell, (k4 o1 o (by omega) (by omega)).2]; exact h.of o
/-- An answer of GensPut: all stands in rows of the call's own. -/
structure PtAG (w w' : World) (g c g2 c2 ga ca : Nat) (xs ys : List Int) (A : List ByteArray) : Prop where
  ow : w'.ownsRow w.heap.size 3 1 (.slice (some ⟨g, 0, none⟩) xs.length c) xs.length (xs.map (Value.int .i64))
  yw : w'.ownsRow w.heap.size 3 1 (.slice (some ⟨g2, 0, none⟩) ys.length c2) ys.length (ys.map (Value.int .i64))
  ar : w'.ownsRow w.heap.size 9 1 (.slice (some ⟨ga, 0, none⟩) A.length ca) A.length (A.map Value.string)
  be : Below w.heap.size w w'
theorem AG.fin {w w3 w4 : World} {gv T : Array Value} {xs ys : List Int} {m : Int} {A : List ByteArray} {g c g2 c2 ga ca o1 n1 : Nat} (h : AG w w3 gv T xs ys m A g c g2 c2 ga ca o1 n1) (t : Turn (w.heap.size + 1 + 1) w3 w4) : PtAG w w4 g c g2 c2 ga ca xs ys A := by
  have s := h.be.size
  obtain ⟨d1, d2, d3⟩ := h.d
  exact ⟨h.r1.kept t.grown (Or.inr (by simp [Value.ownBlock]; omega)), h.r2.kept t.grown (Or.inr (by simp [Value.ownBlock]; omega)), h.ns.ar.kept t.grown (Or.inr (by simp [Value.ownBlock]; omega)), h.be.trans ⟨t.os, t.tape, t.output, t.size, fun k hk => t.block k (by omega) (by omega)⟩⟩
/-- What the specification's GensPut answers. -/
def PtG (w : World) (t : Tm) (xs ys : List Int) (m : Int) (A : List ByteArray) (e : Ending) (w' : World) : Prop :=
  ∃ g c g2 c2 ga ca ys' A' x ok, e = .returned (.tuple #[.agg #[.slice (some ⟨g, 0, none⟩) xs.length c, .slice (some ⟨g2, 0, none⟩) ys'.length c2, .int .i64 m], .slice (some ⟨ga, 0, none⟩) A'.length ca, .int .i64 x, .bool ok]) ∧ PtAG w w' g c g2 c2 ga ca xs ys' A' ∧
    ((ok = false ∧ ys' = ys ∧ A' = A ∧ x = 0 ∧ PtB t ys 100000 1000 A = none) ∨ (ok = true ∧ (∃ ns, ys' = ys ++ ns ∧ PtB t ys 100000 1000 A = some (ns, A', x)) ∧ ys'.length ≤ 1000 ∧ A'.length ≤ A.length + 100))
end Go.Proofs.Ytabgfaafpgholaa
