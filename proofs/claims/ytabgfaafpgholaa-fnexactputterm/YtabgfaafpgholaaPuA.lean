/-
  Words and atoms that a term is put on, each a row of its own, named by two variables: what a step keeps.
-/
import Derived.Test.YtabgfaafpgholaaPuZ
import Derived.Test.YtabgfaafpgholaaPtA
import Derived.Deep.RegionLaw
namespace Go.Proofs.Ytabgfaafpgholaa
open Go.RowKit
set_option linter.unusedVariables false

/-- Where the two variables stand; from which block on rows are the call's own. -/
structure PZ where
  wb : Nat
  wo : Nat
  nb : Nat
  base : Nat
theorem own_other {w : World} {base : Nat} {e : TypeId} {size : Nat} {g n cap : Nat} {xs : List Value} (h : w.ownsRow base e size (.slice (some ⟨g, 0, none⟩) n cap) n xs) {b o : Nat} (hb : b ≠ g) (u : Value) : (w.setCell ⟨b, o, none⟩ u).ownsRow base e size (.slice (some ⟨g, 0, none⟩) n cap) n xs := by
  obtain ⟨h1, h2⟩ := h
  refine ⟨h1, ?_⟩
  rcases h2 with h2 | ⟨g', cap', cur, hv, hg, hh, r⟩
  · exact Or.inl h2
  · have e : g' = g := by simp only [Value.slice.injEq, Option.some.injEq, Addr.mk.injEq] at hv; exact hv.1.1.symm
    exact Or.inr ⟨g', cap', cur, hv, hg, by rw [Below.heap_setCell _ _ _ _ (by show g' ≠ b; rw [e]; exact Ne.symm hb)]; exact hh, r⟩
/-- Where the rows stand. -/
structure PM where
  gw : Nat
  cw : Nat
  ga : Nat
  ca : Nat
abbrev PM.u (m : PM) (xs : List Int) : Value := .slice (some ⟨m.gw, 0, none⟩) xs.length m.cw
abbrev PM.v (m : PM) (A : List ByteArray) : Value := .slice (some ⟨m.ga, 0, none⟩) A.length m.ca
structure PS (Z : PZ) (m : PM) (w : World) (xs : List Int) (A : List ByteArray) : Prop where
  z : Z.wb ≠ Z.nb
  ww : Z.wb ≠ m.gw
  wa : Z.wb ≠ m.ga
  nw : Z.nb ≠ m.gw
  na : Z.nb ≠ m.ga
  wc : w.cell? ⟨Z.wb, Z.wo, none⟩ = some (m.u xs)
  wf : w.frozen? ⟨Z.wb, Z.wo, none⟩ = false
  ac : w.cell? ⟨Z.nb, 0, none⟩ = some (m.v A)
  af : w.frozen? ⟨Z.nb, 0, none⟩ = false
  wr : w.ownsRow Z.base 3 1 (m.u xs) xs.length (xs.map (Value.int .i64))
  ar : w.ownsRow Z.base 9 1 (m.v A) A.length (A.map Value.string)
theorem PS.gw {Z : PZ} {m : PM} {w : World} {xs : List Int} {A : List ByteArray} (h : PS Z m w xs A) : Z.base ≤ m.gw ∧ m.gw < w.heap.size := h.wr.lt m.gw rfl
theorem PS.ga {Z : PZ} {m : PM} {w : World} {xs : List Int} {A : List ByteArray} (h : PS Z m w xs A) : Z.base ≤ m.ga ∧ m.ga < w.heap.size := h.ar.lt m.ga rfl
theorem PS.wl {Z : PZ} {m : PM} {w : World} {xs : List Int} {A : List ByteArray} (h : PS Z m w xs A) : Z.wb < w.heap.size := World.block_lt_of_cell? w _ h.wc
theorem PS.nl {Z : PZ} {m : PM} {w : World} {xs : List Int} {A : List ByteArray} (h : PS Z m w xs A) : Z.nb < w.heap.size := World.block_lt_of_cell? w _ h.ac
theorem PS.base {Z : PZ} {m : PM} {w : World} {xs : List Int} {A : List ByteArray} (h : PS Z m w xs A) : Z.base ≤ w.heap.size := by have := h.gw; omega
theorem PS.ne {Z : PZ} {m : PM} {w : World} {xs : List Int} {A : List ByteArray} (h : PS Z m w xs A) : m.gw ≠ m.ga := fun e => by
  rcases h.wr.2 with ⟨h0, _⟩ | ⟨g, cap, cur, h1, _, h2, _⟩
  · cases h0
  · rcases h.ar.2 with ⟨h0, _⟩ | ⟨g', cap', cur', h1', _, h2', _⟩
    · cases h0
    · simp only [PM.u, PM.v, Value.slice.injEq, Option.some.injEq, Addr.mk.injEq] at h1 h1'
      rw [← h1.1.1, e, h1'.1.1, h2'] at h2
      simp at h2
/-- What is as it was. -/
structure Fr (Z : PZ) (m : PM) (w w' : World) : Prop where
  os : w'.os = w.os
  tape : w'.tape = w.tape
  output : w'.output = w.output
  size : w.heap.size ≤ w'.heap.size
  block : ∀ b, b < w.heap.size → b ≠ Z.wb → b ≠ Z.nb → b ≠ m.gw → b ≠ m.ga → w'.heap[b]? = w.heap[b]?
/-- The rows stand where they stood, or in new blocks. -/
structure Mv (m m' : PM) (n : Nat) : Prop where
  w : m'.gw = m.gw ∨ n ≤ m'.gw
  a : m'.ga = m.ga ∨ n ≤ m'.ga
theorem Mv.refl (m : PM) (n : Nat) : Mv m m n := ⟨.inl rfl, .inl rfl⟩
theorem Mv.trans {m m' m'' : PM} {n n' : Nat} (h : Mv m m' n) (k : Mv m' m'' n') (hn : n ≤ n') : Mv m m'' n := by
  refine ⟨?_, ?_⟩
  · rcases k.w with e | e
    · rw [e]; exact h.w
    · right; omega
  · rcases k.a with e | e
    · rw [e]; exact h.a
    · right; omega
theorem Fr.refl (Z : PZ) (m : PM) (w : World) : Fr Z m w w := ⟨rfl, rfl, rfl, Nat.le_refl _, fun _ _ _ _ _ _ => rfl⟩
theorem Fr.trans {Z : PZ} {m m' : PM} {w w' w'' : World} (h : Fr Z m w w') (v : Mv m m' w.heap.size) (k : Fr Z m' w' w'') : Fr Z m w w'' := by
  refine ⟨k.os.trans h.os, k.tape.trans h.tape, k.output.trans h.output, Nat.le_trans h.size k.size, fun b h1 h2 h3 h4 h5 => ?_⟩
  have hs := h.size
  rw [k.block b (by omega) h2 h3 (by rcases v.w with e | e <;> omega) (by rcases v.a with e | e <;> omega)]
  exact h.block b h1 h2 h3 h4 h5
theorem Fr.below {Z : PZ} {m : PM} {w w' : World} (h : Below w.heap.size w w') : Fr Z m w w' := ⟨h.os, h.tape, h.output, h.size, fun b hb _ _ _ _ => h.block b hb⟩
theorem Fr.undrew {Z : PZ} {m : PM} {w w' : World} (h : Fr Z m w.drew w') : Fr Z m w w' := ⟨h.os, h.tape, h.output, h.size, h.block⟩
theorem PS.below {Z : PZ} {m : PM} {w w' : World} {xs : List Int} {A : List ByteArray} (h : PS Z m w xs A) (hb : Below w.heap.size w w') : PS Z m w' xs A := by
  have e : ∀ b o v, w.cell? ⟨b, o, none⟩ = some v → w'.cell? ⟨b, o, none⟩ = some v ∧ w'.frozen? ⟨b, o, none⟩ = w.frozen? ⟨b, o, none⟩ := fun b o v hc => by
    have hl := World.block_lt_of_cell? w _ hc
    exact ⟨by rw [hb.cell (p := ⟨b, o, none⟩) hl]; exact hc, hb.frozen (p := ⟨b, o, none⟩) hl⟩
  have g : w.grownBy w' none := ⟨hb.os, hb.tape, hb.output, hb.size, fun k hk _ => hb.block k hk⟩
  exact ⟨h.z, h.ww, h.wa, h.nw, h.na, (e _ _ _ h.wc).1, by rw [(e _ _ _ h.wc).2]; exact h.wf, (e _ _ _ h.ac).1, by rw [(e _ _ _ h.ac).2]; exact h.af, h.wr.kept g (Or.inr (by simp [Value.ownBlock])), h.ar.kept g (Or.inr (by simp [Value.ownBlock]))⟩
/-- The blocks that a term which is put may stand in. -/
def SZ (Z : PZ) : Nat → Prop := fun b => b < Z.base ∧ b ≠ Z.wb ∧ b ≠ Z.nb
theorem Fr.moves {Z : PZ} {m : PM} {w w' : World} {xs : List Int} {A : List ByteArray} (h : Fr Z m w w') (hp : PS Z m w xs A) : Moves (SZ Z) (SZ Z) w w' := fun b o v hb hc => by
  have hl := World.block_lt_of_cell? w _ hc
  have h1 := hp.gw
  have h2 := hp.ga
  have h3 := hb.1
  refine ⟨hb, ?_⟩
  rw [World.cell?_of_block (w := w) (h.block b hl hb.2.1 hb.2.2 (by omega) (by omega))]
  exact hc
theorem Fr.cell {Z : PZ} {m : PM} {w w' : World} (h : Fr Z m w w') {b : Nat} (hb : b < w.heap.size) (h1 : b ≠ Z.wb) (h2 : b ≠ Z.nb) (h3 : b ≠ m.gw) (h4 : b ≠ m.ga) (o : Nat) : w'.cell? ⟨b, o, none⟩ = w.cell? ⟨b, o, none⟩ ∧ w'.frozen? ⟨b, o, none⟩ = w.frozen? ⟨b, o, none⟩ :=
  ⟨World.cell?_of_block (h.block b hb h1 h2 h3 h4), World.frozen?_of_block (h.block b hb h1 h2 h3 h4)⟩
/-- The words' row has grown, and the variable is turned. -/
theorem PS.grow {Z : PZ} {m : PM} {w w' : World} {xs ys : List Int} {A : List ByteArray} (h : PS Z m w xs A) {g c : Nat}
    (ho : w'.ownsRow Z.base 3 1 (.slice (some ⟨g, 0, none⟩) ys.length c) ys.length (ys.map (Value.int .i64))) (hg : w.grownBy w' (some m.gw)) (ha : g = m.gw ∨ w.heap.size ≤ g) :
    PS Z ⟨g, c, m.ga, m.ca⟩ (w'.setCell ⟨Z.wb, Z.wo, none⟩ (.slice (some ⟨g, 0, none⟩) ys.length c)) ys A ∧ Fr Z m w (w'.setCell ⟨Z.wb, Z.wo, none⟩ (.slice (some ⟨g, 0, none⟩) ys.length c)) ∧ Mv m ⟨g, c, m.ga, m.ca⟩ w.heap.size := by
  have ne := h.z
  have wl := h.wl
  have nl := h.nl
  have ww := h.ww
  have wa := h.wa
  have nw := h.nw
  have na := h.na
  have h1 := h.gw
  have h2 := h.ga
  have h3 := h.ne
  have hgl := ho.lt g rfl
  have gwb : Z.wb ≠ g := by rcases ha with e | e <;> omega
  have gnb : Z.nb ≠ g := by rcases ha with e | e <;> omega
  have blk : ∀ b, b < w.heap.size → b ≠ m.gw → w'.heap[b]? = w.heap[b]? := fun b hb hn => hg.block b hb (fun e => hn (by simpa using e))
  have e : ∀ b o, b < w.heap.size → b ≠ m.gw → b ≠ Z.wb → (w'.setCell ⟨Z.wb, Z.wo, none⟩ (.slice (some ⟨g, 0, none⟩) ys.length c)).cell? ⟨b, o, none⟩ = w.cell? ⟨b, o, none⟩ := fun b o hb hn hn2 => by
    rw [World.cell?_setCell_other (h := fun e => by simp only [Addr.mk.injEq] at e; exact hn2 e.1.symm), World.cell?_of_block (w := w) (blk b hb hn)]
  have wbl : Z.wb < w.heap.size := by omega
  have wbn : Z.wb ≠ m.gw := by omega
  refine ⟨⟨ne, gwb, wa, gnb, na, World.cell?_setCell_same w' _ _ (by rw [World.cell?_of_block (w := w) (blk Z.wb wbl wbn)]; exact h.wc), by rw [World.frozen?_setCell, World.frozen?_of_block (w := w) (blk Z.wb wbl wbn)]; exact h.wf, ?_, ?_, own_other ho gwb _, ?_⟩, ⟨hg.os, hg.tape, hg.output, by rw [World.size_setCell]; exact hg.size, fun b hb a1 a2 a3 a4 => ?_⟩, ⟨ha, .inl rfl⟩⟩
  · rw [e Z.nb 0 (by omega) (by omega) (Ne.symm ne)]; exact h.ac
  · rw [World.frozen?_setCell, World.frozen?_of_block (w := w) (blk Z.nb (by omega) (by omega))]; exact h.af
  · exact own_other (h.ar.kept hg (Or.inr (fun e => h3 (by simpa [Value.ownBlock] using e.symm)))) wa _
  · rw [Below.heap_setCell _ ⟨Z.wb, Z.wo, none⟩ _ b (by show b ≠ Z.wb; exact a1)]
    exact blk b hb a3
/-- The atoms' row is another one, and the variable is turned. -/
theorem PS.atoms {Z : PZ} {m : PM} {w w' : World} {xs : List Int} {A B : List ByteArray} (h : PS Z m w xs A) {g c : Nat} (hb : Below w.heap.size w w')
    (ho : w'.ownsRow w.heap.size 9 1 (.slice (some ⟨g, 0, none⟩) B.length c) B.length (B.map Value.string)) :
    PS Z ⟨m.gw, m.cw, g, c⟩ (w'.setCell ⟨Z.nb, 0, none⟩ (.slice (some ⟨g, 0, none⟩) B.length c)) xs B ∧ Fr Z m w (w'.setCell ⟨Z.nb, 0, none⟩ (.slice (some ⟨g, 0, none⟩) B.length c)) ∧ Mv m ⟨m.gw, m.cw, g, c⟩ w.heap.size := by
  have ne := h.z
  have wl := h.wl
  have nl := h.nl
  have ww := h.ww
  have nw := h.nw
  have h1 := h.gw
  have h2 := h.ga
  have hgl := ho.lt g rfl
  have hw := h.below hb
  have gwb : Z.wb ≠ g := by omega
  have gnb : Z.nb ≠ g := by omega
  have ho2 : w'.ownsRow Z.base 9 1 (.slice (some ⟨g, 0, none⟩) B.length c) B.length (B.map Value.string) := by
    refine ⟨ho.1, ?_⟩
    rcases ho.2 with ⟨h0, _⟩ | ⟨g', cap', cur', h1', h2', h3'⟩
    · cases h0
    · exact .inr ⟨g', cap', cur', h1', by omega, h3'⟩
  refine ⟨⟨ne, ww, gwb, nw, gnb, ?_, ?_, World.cell?_setCell_same w' _ _ hw.ac, by rw [World.frozen?_setCell]; exact hw.af, own_other hw.wr nw _, own_other ho2 gnb _⟩, ⟨hb.os, hb.tape, hb.output, by rw [World.size_setCell]; exact hb.size, fun b hbl a1 a2 a3 a4 => ?_⟩, ⟨.inl rfl, .inr hgl.1⟩⟩
  · rw [World.cell?_setCell_other (h := fun e => by simp only [Addr.mk.injEq] at e; omega)]; exact hw.wc
  · rw [World.frozen?_setCell]; exact hw.wf
  · rw [Below.heap_setCell _ ⟨Z.nb, 0, none⟩ _ b (by show b ≠ Z.nb; exact a2)]
    exact hb.block b hbl
/-- One of the words is turned. -/
theorem PS.stored {Z : PZ} {m : PM} {w : World} {xs : List Int} {A : List ByteArray} (h : PS Z m w xs A) (j : Nat) (x : Int) :
    PS Z m (w.setCell ⟨m.gw, j, none⟩ (.int .i64 x)) (xs.set j x) A ∧ Fr Z m w (w.setCell ⟨m.gw, j, none⟩ (.int .i64 x)) := by
  have ww := h.ww
  have nw := h.nw
  have h1 := h.gw
  have h3 := h.ne
  obtain ⟨ho, hg⟩ := h.wr.stored j (.int .i64 x)
  have hl : (xs.set j x).length = xs.length := by simp
  refine ⟨⟨h.z, h.ww, h.wa, h.nw, h.na, ?_, ?_, ?_, ?_, ?_, ?_⟩, ⟨hg.os, hg.tape, hg.output, hg.size, fun b hb _ _ a3 _ => hg.block b hb (fun e => a3 (by simpa using e))⟩⟩
  · show World.cell? _ _ = some (Value.slice (some ⟨m.gw, 0, none⟩) (xs.set j x).length m.cw)
    rw [World.cell?_setCell_other (h := fun e => by simp only [Addr.mk.injEq] at e; omega), hl]; exact h.wc
  · rw [World.frozen?_setCell]; exact h.wf
  · rw [World.cell?_setCell_other (h := fun e => by simp only [Addr.mk.injEq] at e; omega)]; exact h.ac
  · rw [World.frozen?_setCell]; exact h.af
  · show World.ownsRow _ _ _ _ (.slice (some ⟨m.gw, 0, none⟩) (xs.set j x).length m.cw) (xs.set j x).length _
    rw [hl, List.map_set]; exact ho
  · exact h.ar.kept hg (Or.inr (fun e => h3 (by simpa [Value.ownBlock] using e.symm)))
theorem PS.word {Z : PZ} {m : PM} {w : World} {xs : List Int} {A : List ByteArray} (h : PS Z m w xs A) (j : Nat) (hj : j < xs.length) : w.cell? ⟨m.gw, j, none⟩ = some (.int .i64 xs[j]) := by
  rw [h.wr.cellAt j (by omega)]
  simp [hj]
theorem PS.txt {Z : PZ} {m : PM} {w : World} {xs : List Int} {A : List ByteArray} (h : PS Z m w xs A) : Txt w m.ga 0 A := (own_txt h.ar).1
end Go.Proofs.Ytabgfaafpgholaa
