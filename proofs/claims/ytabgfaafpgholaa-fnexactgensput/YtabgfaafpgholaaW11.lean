/-
  The specification's copy of a heap's words.
  (Ahead of it, in this text: Words and atoms that a term is put on, each a row of its own, named by two variables: what a step keeps. Words of a term that is put, and the same words for places so many further on, as reckoning. How the specification puts a term: what needs no room; bytes.)
-/
import Derived.Test.YtabgfaafpgholaaW7
import Derived.Test.YtabgfaafpgholaaW10
import Derived.Deep.RegionLaw
namespace Go.Proofs.Ytabgfaafpgholaa
open Go.RowKit
set_option linter.unusedVariables false

/-- Where the two variables stand; from which block on rows are the call's own. -/
structure PZ where
  wb : Nat
  wo : Nat
  nb : Nat
  base : Nat
theorem own_other {w : World} {base : Nat} {e : TypeId} {size : Nat} {g n cap : Nat} {xs : List Value} (h : w.ownsRow base e size (.slice (some ⟨g, 0, none⟩) n cap) n xs) {b o : Nat} (hb : b ≠ g) (u : Value) : (w.setCell ⟨b, o, none⟩ u).ownsRow base e size (.slice (some ⟨g, 0, none⟩) n cap) n xs := by
  obtain ⟨h1, h2⟩ := h
  refine ⟨h1, ?_⟩
  rcases h2 with h2 | ⟨g', cap', cur, hv, hg, hh, r⟩
  · exact Or.inl h2
  · have e : g' = g := by simp only [Value.slice.injEq, Option.some.injEq, Addr.mk.injEq] at hv; exact hv.1.1.symm
    exact Or.inr ⟨g', cap', cur, hv, hg, by rw [Below.heap_setCell _ _ _ _ (by show g' ≠ b; rw [e]; exact Ne.symm hb)]; exact hh, r⟩
/-- Where the rows stand. -/
structure PM where
  gw : Nat
  cw : Nat
  ga : Nat
  ca : Nat
abbrev PM.u (m : PM) (xs : List Int) : Value := .slice (some ⟨m.gw, 0, none⟩) xs.length m.cw
abbrev PM.v (m : PM) (A : List ByteArray) : Value := .slice (some ⟨m.ga, 0, none⟩) A.length m.ca
structure PS (Z : PZ) (m : PM) (w : World) (xs : List Int) (A : List ByteArray) : Prop where
  z : Z.wb ≠ Z.nb
  ww : Z.wb ≠ m.gw
  wa : Z.wb ≠ m.ga
  nw : Z.nb ≠ m.gw
  na : Z.nb ≠ m.ga
  wc : w.cell? ⟨Z.wb, Z.wo, none⟩ = some (m.u xs)
  wf : w.frozen? ⟨Z.wb, Z.wo, none⟩ = false
  ac : w.cell? ⟨Z.nb, 0, none⟩ = some (m.v A)
  af : w.frozen? ⟨Z.nb, 0, none⟩ = false
  wr : w.ownsRow Z.base 3 1 (m.u xs) xs.length (xs.map (Value.int .i64))
  ar : w.ownsRow Z.base 9 1 (m.v A) A.length (A.map Value.string)
theorem PS.gw {Z : PZ} {m : PM} {w : World} {xs : List Int} {A : List ByteArray} (h : PS Z m w xs A) : Z.base ≤ m.gw ∧ m.gw < w.heap.size := h.wr.lt m.gw rfl
theorem PS.ga {Z : PZ} {m : PM} {w : World} {xs : List Int} {A : List ByteArray} (h : PS Z m w xs A) : Z.base ≤ m.ga ∧ m.ga < w.heap.size := h.ar.lt m.ga rfl
theorem PS.wl {Z : PZ} {m : PM} {w : World} {xs : List Int} {A : List ByteArray} (h : PS Z m w xs A) : Z.wb < w.heap.size := World.block_lt_of_cell? w _ h.wc
theorem PS.nl {Z : PZ} {m : PM} {w : World} {xs : List Int} {A : List ByteArray} (h : PS Z m w xs A) : Z.nb < w.heap.size := World.block_lt_of_cell? w _ h.ac
theorem PS.base {Z : PZ} {m : PM} {w : World} {xs : List Int} {A : List ByteArray} (h : PS Z m w xs A) : Z.base ≤ w.heap.size := by have := h.gw; omega
theorem PS.ne {Z : PZ} {m : PM} {w : World} {xs : List Int} {A : List ByteArray} (h : PS Z m w xs A) : m.gw ≠ m.ga := fun e => by
  rcases h.wr.2 with ⟨h0, _⟩ | ⟨g, cap, cur, h1, _, h2, _⟩
  · cases h0
  · rcases h.ar.2 with ⟨h0, _⟩ | ⟨g', cap', cur', h1', _, h2', _⟩
    · cases h0
    · simp only [PM.u, PM.v, Value.slice.injEq, Option.some.injEq, Addr.mk.injEq] at h1 h1'
      rw [← h1.1.1, e, h1'.1.1, h2'] at h2
      simp at h2
/-- What is as it was. -/
structure Fr (Z : PZ) (m : PM) (w w' : World) : Prop where
  os : w'.os = w.os
  tape : w'.tape = w.tape
  output : w'.output = w.output
  size : w.heap.size ≤ w'.heap.size
  block : ∀ b, b < w.heap.size → b ≠ Z.wb → b ≠ Z.nb → b ≠ m.gw → b ≠ m.ga → w'.heap[b]? = w.heap[b]?
/-- The rows stand where they stood, or in new blocks. -/
structure Mv (m m' : PM) (n : Nat) : Prop where
  w : m'.gw = m.gw ∨ n ≤ m'.gw
  a : m'.ga = m.ga ∨ n ≤ m'.ga
theorem Mv.refl (m : PM) (n : Nat) : Mv m m n := ⟨.inl rfl, .inl rfl⟩
theorem Mv.trans {m m' m'' : PM} {n n' : Nat} (h : Mv m m' n) (k : Mv m' m'' n') (hn : n ≤ n') : Mv m m'' n := by
  refine ⟨?_, ?_⟩
  · rcases k.w with e | e
    · rw [e]; exact h.w
    · right; omega
  · rcases k.a with e | e
    · rw [e]; exact h.a
    · right; omega
theorem Fr.refl (Z : PZ) (m : PM) (w : World) : Fr Z m w w := ⟨rfl, rfl, rfl, Nat.le_refl _, fun _ _ _ _ _ _ => rfl⟩
theorem Fr.trans {Z : PZ} {m m' : PM} {w w' w'' : World} (h : Fr Z m w w') (v : Mv m m' w.heap.size) (k : Fr Z m' w' w'') : Fr Z m w w'' := by
  refine ⟨k.os.trans h.os, k.tape.trans h.tape, k.output.trans h.output, Nat.le_trans h.size k.size, fun b h1 h2 h3 h4 h5 => ?_⟩
  have hs := h.size
  rw [k.block b (by omega) h2 h3 (by rcases v.w with e | e <;> omega) (by rcases v.a with e | e <;> omega)]
  exact h.block b h1 h2 h3 h4 h5
theorem Fr.below {Z : PZ} {m : PM} {w w' : World} (h : Below w.heap.size w w') : Fr Z m w w' := ⟨h.os, h.tape, h.output, h.size, fun b hb _ _ _ _ => h.block b hb⟩
theorem Fr.undrew {Z : PZ} {m : PM} {w w' : World} (h : Fr Z m w.drew w') : Fr Z m w w' := ⟨h.os, h.tape, h.output, h.size, h.block⟩
theorem PS.below {Z : PZ} {m : PM} {w w' : World} {xs : List Int} {A : List ByteArray} (h : PS Z m w xs A) (hb : Below w.heap.size w w') : PS Z m w' xs A := by
  have e : ∀ b o v, w.cell? ⟨b, o, none⟩ = some v → w'.cell? ⟨b, o, none⟩ = some v ∧ w'.frozen? ⟨b, o, none⟩ = w.frozen? ⟨b, o, none⟩ := fun b o v hc => by
    have hl := World.block_lt_of_cell? w _ hc
    exact ⟨by rw [hb.cell (p := ⟨b, o, none⟩) hl]; exact hc, hb.frozen (p := ⟨b, o, none⟩) hl⟩
  have g : w.grownBy w' none := ⟨hb.os, hb.tape, hb.output, hb.size, fun k hk _ => hb.block k hk⟩
  exact ⟨h.z, h.ww, h.wa, h.nw, h.na, (e _ _ _ h.wc).1, by rw [(e _ _ _ h.wc).2]; exact h.wf, (e _ _ _ h.ac).1, by rw [(e _ _ _ h.ac).2]; exact h.af, h.wr.kept g (Or.inr (by simp [Value.ownBlock])), h.ar.kept g (Or.inr (by simp [Value.ownBlock]))⟩
/-- The blocks that a term which is put may stand in. -/
def SZ (Z : PZ) : Nat → Prop := fun b => b < Z.base ∧ b ≠ Z.wb ∧ b ≠ Z.nb
theorem Fr.moves {Z : PZ} {m : PM} {w w' : World} {xs : List Int} {A : List ByteArray} (h : Fr Z m w w') (hp : PS Z m w xs A) : Moves (SZ Z) (SZ Z) w w' := fun b o v hb hc => by
  have hl := World.block_lt_of_cell? w _ hc
  have h1 := hp.gw
  have h2 := hp.ga
  have h3 := hb.1
  refine ⟨hb, ?_⟩
  rw [World.cell?_of_block (w := w) (h.block b hl hb.2.1 hb.2.2 (by omega) (by omega))]
  exact hc
theorem Fr.cell {Z : PZ} {m : PM} {w w' : World} (h : Fr Z m w w') {b : Nat} (hb : b < w.heap.size) (h1 : b ≠ Z.wb) (h2 : b ≠ Z.nb) (h3 : b ≠ m.gw) (h4 : b ≠ m.ga) (o : Nat) : w'.cell? ⟨b, o, none⟩ = w.cell? ⟨b, o, none⟩ ∧ w'.frozen? ⟨b, o, none⟩ = w.frozen? ⟨b, o, none⟩ :=
  ⟨World.cell?_of_block (h.block b hb h1 h2 h3 h4), World.frozen?_of_block (h.block b hb h1 h2 h3 h4)⟩
/-- The words' row has grown, and the variable is turned. -/
theorem PS.grow {Z : PZ} {m : PM} {w w' : World} {xs ys : List Int} {A : List ByteArray} (h : PS Z m w xs A) {g c : Nat}
    (ho : w'.ownsRow Z.base 3 1 (.slice (some ⟨g, 0, none⟩) ys.length c) ys.length (ys.map (Value.int .i64))) (hg : w.grownBy w' (some m.gw)) (ha : g = m.gw ∨ w.heap.size ≤ g) :
    PS Z ⟨g, c, m.ga, m.ca⟩ (w'.setCell ⟨Z.wb, Z.wo, none⟩ (.slice (some ⟨g, 0, none⟩) ys.length c)) ys A ∧ Fr Z m w (w'.setCell ⟨Z.wb, Z.wo, none⟩ (.slice (some ⟨g, 0, none⟩) ys.length c)) ∧ Mv m ⟨g, c, m.ga, m.ca⟩ w.heap.size := by
  have ne := h.z
  have wl := h.wl
  have nl := h.nl
  have ww := h.ww
  have wa := h.wa
  have nw := h.nw
  have na := h.na
  have h1 := h.gw
  have h2 := h.ga
  have h3 := h.ne
  have hgl := ho.lt g rfl
  have gwb : Z.wb ≠ g := by rcases ha with e | e <;> omega
  have gnb : Z.nb ≠ g := by rcases ha with e | e <;> omega
  have blk : ∀ b, b < w.heap.size → b ≠ m.gw → w'.heap[b]? = w.heap[b]? := fun b hb hn => hg.block b hb (fun e => hn (by simpa using e))
  have e : ∀ b o, b < w.heap.size → b ≠ m.gw → b ≠ Z.wb → (w'.setCell ⟨Z.wb, Z.wo, none⟩ (.slice (some ⟨g, 0, none⟩) ys.length c)).cell? ⟨b, o, none⟩ = w.cell? ⟨b, o, none⟩ := fun b o hb hn hn2 => by
    rw [World.cell?_setCell_other (h := fun e => by simp only [Addr.mk.injEq] at e; exact hn2 e.1.symm), World.cell?_of_block (w := w) (blk b hb hn)]
  have wbl : Z.wb < w.heap.size := by omega
  have wbn : Z.wb ≠ m.gw := by omega
  refine ⟨⟨ne, gwb, wa, gnb, na, World.cell?_setCell_same w' _ _ (by rw [World.cell?_of_block (w := w) (blk Z.wb wbl wbn)]; exact h.wc), by rw [World.frozen?_setCell, World.frozen?_of_block (w := w) (blk Z.wb wbl wbn)]; exact h.wf, ?_, ?_, own_other ho gwb _, ?_⟩, ⟨hg.os, hg.tape, hg.output, by rw [World.size_setCell]; exact hg.size, fun b hb a1 a2 a3 a4 => ?_⟩, ⟨ha, .inl rfl⟩⟩
  · rw [e Z.nb 0 (by omega) (by omega) (Ne.symm ne)]; exact h.ac
  · rw [World.frozen?_setCell, World.frozen?_of_block (w := w) (blk Z.nb (by omega) (by omega))]; exact h.af
  · exact own_other (h.ar.kept hg (Or.inr (fun e => h3 (by simpa [Value.ownBlock] using e.symm)))) wa _
  · rw [Below.heap_setCell _ ⟨Z.wb, Z.wo, none⟩ _ b (by show b ≠ Z.wb; exact a1)]
    exact blk b hb a3
/-- The atoms' row is another one, and the variable is turned. -/
theorem PS.atoms {Z : PZ} {m : PM} {w w' : World} {xs : List Int} {A B : List ByteArray} (h : PS Z m w xs A) {g c : Nat} (hb : Below w.heap.size w w')
    (ho : w'.ownsRow w.heap.size 9 1 (.slice (some ⟨g, 0, none⟩) B.length c) B.length (B.map Value.string)) :
    PS Z ⟨m.gw, m.cw, g, c⟩ (w'.setCell ⟨Z.nb, 0, none⟩ (.slice (some ⟨g, 0, none⟩) B.length c)) xs B ∧ Fr Z m w (w'.setCell ⟨Z.nb, 0, none⟩ (.slice (some ⟨g, 0, none⟩) B.length c)) ∧ Mv m ⟨m.gw, m.cw, g, c⟩ w.heap.size := by
  have ne := h.z
  have wl := h.wl
  have nl := h.nl
  have ww := h.ww
  have nw := h.nw
  have h1 := h.gw
  have h2 := h.ga
  have hgl := ho.lt g rfl
  have hw := h.below hb
  have gwb : Z.wb ≠ g := by omega
  have gnb : Z.nb ≠ g := by omega
  have ho2 : w'.ownsRow Z.base 9 1 (.slice (some ⟨g, 0, none⟩) B.length c) B.length (B.map Value.string) := by
    refine ⟨ho.1, ?_⟩
    rcases ho.2 with ⟨h0, _⟩ | ⟨g', cap', cur', h1', h2', h3'⟩
    · cases h0
    · exact .inr ⟨g', cap', cur', h1', by omega, h3'⟩
  refine ⟨⟨ne, ww, gwb, nw, gnb, ?_, ?_, World.cell?_setCell_same w' _ _ hw.ac, by rw [World.frozen?_setCell]; exact hw.af, own_other hw.wr nw _, own_other ho2 gnb _⟩, ⟨hb.os, hb.tape, hb.output, by rw [World.size_setCell]; exact hb.size, fun b hbl a1 a2 a3 a4 => ?_⟩, ⟨.inl rfl, .inr hgl.1⟩⟩
  · rw [World.cell?_setCell_other (h := fun e => by simp only [Addr.mk.injEq] at e; omega)]; exact hw.wc
  · rw [World.frozen?_setCell]; exact hw.wf
  · rw [Below.heap_setCell _ ⟨Z.nb, 0, none⟩ _ b (by show b ≠ Z.nb; exact a2)]
    exact hb.block b hbl
/-- One of the words is turned. -/
theorem PS.stored {Z : PZ} {m : PM} {w : World} {xs : List Int} {A : List ByteArray} (h : PS Z m w xs A) (j : Nat) (x : Int) :
    PS Z m (w.setCell ⟨m.gw, j, none⟩ (.int .i64 x)) (xs.set j x) A ∧ Fr Z m w (w.setCell ⟨m.gw, j, none⟩ (.int .i64 x)) := by
  have ww := h.ww
  have nw := h.nw
  have h1 := h.gw
  have h3 := h.ne
  obtain ⟨ho, hg⟩ := h.wr.stored j (.int .i64 x)
  have hl : (xs.set j x).length = xs.length := by simp
  refine ⟨⟨h.z, h.ww, h.wa, h.nw, h.na, ?_, ?_, ?_, ?_, ?_, ?_⟩, ⟨hg.os, hg.tape, hg.output, hg.size, fun b hb _ _ a3 _ => hg.block b hb (fun e => a3 (by simpa using e))⟩⟩
  · show World.cell? _ _ = some (Value.slice (some ⟨m.gw, 0, none⟩) (xs.set j x).length m.cw)
    rw [World.cell?_setCell_other (h := fun e => by simp only [Addr.mk.injEq] at e; omega), hl]; exact h.wc
  · rw [World.frozen?_setCell]; exact h.wf
  · rw [World.cell?_setCell_other (h := fun e => by simp only [Addr.mk.injEq] at e; omega)]; exact h.ac
  · rw [World.frozen?_setCell]; exact h.af
  · show World.ownsRow _ _ _ _ (.slice (some ⟨m.gw, 0, none⟩) (xs.set j x).length m.cw) (xs.set j x).length _
    rw [hl, List.map_set]; exact ho
  · exact h.ar.kept hg (Or.inr (fun e => h3 (by simpa [Value.ownBlock] using e.symm)))
theorem PS.word {Z : PZ} {m : PM} {w : World} {xs : List Int} {A : List ByteArray} (h : PS Z m w xs A) (j : Nat) (hj : j < xs.length) : w.cell? ⟨m.gw, j, none⟩ = some (.int .i64 xs[j]) := by
  rw [h.wr.cellAt j (by omega)]
  simp [hj]
theorem PS.txt {Z : PZ} {m : PM} {w : World} {xs : List Int} {A : List ByteArray} (h : PS Z m w xs A) : Txt w m.ga 0 A := (own_txt h.ar).1
end Go.Proofs.Ytabgfaafpgholaa
namespace Go.Proofs.Ytabgfaafpgholaa
open Go.RowKit
set_option linter.unusedVariables false

mutual
/-- ns are the words of t from the place a on, and x leads to them; ns' and x' are the same b places further on. -/
def ShT : Tm → Nat → Nat → List Int → List Int → Int → Int → Prop
  | .mk k n s l, a, b, ns, ns', x, x' =>
    (ns = (s.size : Int) :: bytesI s ∧ ns' = ns ∧ x = mkw 6 a ∧ x' = mkw 6 (a + b : Nat)) ∨
    (∃ ws ws' n2 n2', ShL l (a + 1 + l.length) b ws ws' n2 n2' ∧ ns = (l.length : Int) :: (ws ++ n2) ∧ ns' = (l.length : Int) :: (ws' ++ n2') ∧ x = mkw 4 a ∧ x' = mkw 4 (a + b : Nat)) ∨
    (l.length ≠ 0 ∧ ∃ ws ws' n2 n2', ShL l (a + 2 * l.length) b ws ws' n2 n2' ∧ ns = consL ws a ++ n2 ∧ ns' = consL ws' (a + b) ++ n2' ∧ x = mkw 5 a ∧ x' = mkw 5 (a + b : Nat)) ∨
    (ns = [] ∧ ns' = [] ∧ x' = x ∧ tagW x ≤ 3 ∧ x ≤ 32000006)
def ShL : List Tm → Nat → Nat → List Int → List Int → List Int → List Int → Prop
  | [], _, _, ws, ws', ns, ns' => ws = [] ∧ ws' = [] ∧ ns = [] ∧ ns' = []
  | t :: r, a, b, ws, ws', ns, ns' => ∃ w w' wr wr' n1 n1' n2 n2', ws = w :: wr ∧ ws' = w' :: wr' ∧ ns = n1 ++ n2 ∧ ns' = n1' ++ n2' ∧ ShT t a b n1 n1' w w' ∧ ShL r (a + n1.length) b wr wr' n2 n2'
end
mutual
theorem ShT.len : ∀ (t : Tm) (a b : Nat) (ns ns' : List Int) (x x' : Int), ShT t a b ns ns' x x' → ns'.length = ns.length
  | .mk k n s l, a, b, ns, ns', x, x', h => by
    rw [ShT] at h
    rcases h with ⟨_, h, _⟩ | ⟨ws, ws', n2, n2', h, rfl, rfl, _⟩ | ⟨_, ws, ws', n2, n2', h, rfl, rfl, _⟩ | ⟨rfl, rfl, _⟩
    · rw [h]
    · obtain ⟨h1, h2, h3⟩ := ShL.len l _ _ _ _ _ _ h
      simp only [List.length_cons, List.length_append]; omega
    · obtain ⟨h1, h2, h3⟩ := ShL.len l _ _ _ _ _ _ h
      simp only [List.length_append, consL_len]; omega
    · rfl
theorem ShL.len : ∀ (l : List Tm) (a b : Nat) (ws ws' ns ns' : List Int), ShL l a b ws ws' ns ns' → ws.length = l.length ∧ ws'.length = l.length ∧ ns'.length = ns.length
  | [], a, b, ws, ws', ns, ns', h => by
    rw [ShL] at h
    obtain ⟨rfl, rfl, rfl, rfl⟩ := h
    exact ⟨rfl, rfl, rfl⟩
  | t :: r, a, b, ws, ws', ns, ns', h => by
    rw [ShL] at h
    obtain ⟨w, w', wr, wr', n1, n1', n2, n2', rfl, rfl, rfl, rfl, h1, h2⟩ := h
    obtain ⟨h3, h4, h5⟩ := ShL.len r _ _ _ _ _ _ h2
    have h6 := ShT.len t _ _ _ _ _ _ h1
    simp only [List.length_cons, List.length_append]
    exact ⟨by omega, by omega, by omega⟩
end
theorem ShL.snoc {t : Tm} {b : Nat} {x x' : Int} {n1 n1' : List Int} : ∀ {p : List Tm} {a : Nat} {ws ws' ns ns' : List Int}, ShL p a b ws ws' ns ns' → ShT t (a + ns.length) b n1 n1' x x' → ShL (p ++ [t]) a b (ws ++ [x]) (ws' ++ [x']) (ns ++ n1) (ns' ++ n1')
  | [], a, ws, ws', ns, ns', h, ht => by
    rw [ShL] at h
    obtain ⟨rfl, rfl, rfl, rfl⟩ := h
    rw [List.nil_append, ShL]
    exact ⟨x, x', [], [], n1, n1', [], [], rfl, rfl, by simp, by simp, by simpa using ht, by rw [ShL]; exact ⟨rfl, rfl, rfl, rfl⟩⟩
  | u :: r, a, ws, ws', ns, ns', h, ht => by
    rw [ShL] at h
    obtain ⟨w, w', wr, wr', m1, m1', m2, m2', rfl, rfl, rfl, rfl, h1, h2⟩ := h
    have h3 := ShL.snoc h2 (by rw [List.length_append, ← Nat.add_assoc] at ht; exact ht)
    rw [List.cons_append, ShL]
    exact ⟨w, w', wr ++ [x], wr' ++ [x'], m1, m1', m2 ++ n1, m2' ++ n1', rfl, rfl, by rw [List.append_assoc], by rw [List.append_assoc], h1, h3⟩
/-- Words of a term from the place a on. -/
def LayT (t : Tm) (a : Nat) (ns : List Int) (x : Int) : Prop := ∀ b, ∃ ns' x', ShT t a b ns ns' x x'
def LayL (l : List Tm) (a : Nat) (ws ns : List Int) : Prop := ∀ b, ∃ ws' ns', ShL l a b ws ws' ns ns'
theorem LayL.nil (a : Nat) : LayL [] a [] [] := fun b => ⟨[], [], by rw [ShL]; exact ⟨rfl, rfl, rfl, rfl⟩⟩
theorem LayL.snoc {p : List Tm} {t : Tm} {a : Nat} {ws ns n1 : List Int} {x : Int} (h : LayL p a ws ns) (ht : LayT t (a + ns.length) n1 x) : LayL (p ++ [t]) a (ws ++ [x]) (ns ++ n1) := fun b => by
  obtain ⟨ws', ns', h1⟩ := h b
  obtain ⟨n1', x', h2⟩ := ht b
  exact ⟨_, _, h1.snoc h2⟩
theorem LayT.tup {k n : Int} {s : ByteArray} {l : List Tm} {a : Nat} {ws ns : List Int} (h : LayL l (a + 1 + l.length) ws ns) : LayT (.mk k n s l) a ((l.length : Int) :: (ws ++ ns)) (mkw 4 a) := fun b => by
  obtain ⟨ws', ns', h1⟩ := h b
  exact ⟨_, _, by rw [ShT]; exact .inr (.inl ⟨ws, ws', ns, ns', h1, rfl, rfl, rfl, rfl⟩)⟩
theorem LayT.lis {k n : Int} {s : ByteArray} {l : List Tm} {a : Nat} {ws ns : List Int} (h0 : l.length ≠ 0) (h : LayL l (a + 2 * l.length) ws ns) : LayT (.mk k n s l) a (consL ws a ++ ns) (mkw 5 a) := fun b => by
  obtain ⟨ws', ns', h1⟩ := h b
  exact ⟨_, _, by rw [ShT]; exact .inr (.inr (.inl ⟨h0, ws, ws', ns, ns', h1, rfl, rfl, rfl, rfl⟩))⟩
theorem LayT.leaf {t : Tm} {a : Nat} {x : Int} (h : tagW x ≤ 3) (h2 : x ≤ 32000006) : LayT t a [] x := fun b => by
  obtain ⟨k, n, s, l⟩ := t
  exact ⟨[], x, by rw [ShT]; exact .inr (.inr (.inr ⟨rfl, rfl, rfl, h, h2⟩))⟩
theorem mkw_tagLe {t v : Int} (h0 : 0 ≤ t) (h : t ≤ 3) : tagW (mkw t v) ≤ 3 := by
  unfold mkw tagW
  split
  · rename_i hc
    rw [Bool.and_eq_true] at hc
    have h2 := (inB_yes hc.2).1
    rw [if_neg (by omega)]
    omega
  · simp
theorem mkw_leQ (t v : Int) : mkw t v ≤ 32000006 := by
  unfold mkw
  split
  · rename_i hc
    rw [Bool.and_eq_true] at hc
    have h1 := inB_yes hc.1
    have h2 := inB_yes hc.2
    omega
  · omega
mutual
/-- The words that a term is put with are the same further on. -/
theorem pt_sh : ∀ (t : Tm) (a b : Nat) (A : List ByteArray) (ns : List Int) (A' : List ByteArray) (x : Int), ptT t a A = some (ns, A', x) → ∃ ns' x', ptT t (a + b) A = some (ns', A', x') ∧ ShT t a b ns ns' x x'
  | .mk k n s l, a, b, A, ns, A', x, h => by
    rw [ptT] at h
    rw [ptT]
    simp only [ShT]
    by_cases k1 : k = 1
    · rw [if_pos k1] at h ⊢
      simp only [Option.some.injEq, Prod.mk.injEq] at h
      obtain ⟨rfl, rfl, rfl⟩ := h
      exact ⟨[], _, rfl, .inr (.inr (.inr ⟨rfl, rfl, rfl, mkw_tagLe (by decide) (by decide), mkw_leQ _ _⟩))⟩
    rw [if_neg k1] at h ⊢
    by_cases k3 : k = 3
    · rw [if_pos k3] at h ⊢
      simp only [Option.some.injEq, Prod.mk.injEq] at h
      obtain ⟨rfl, rfl, rfl⟩ := h
      exact ⟨[], _, rfl, .inr (.inr (.inr ⟨rfl, rfl, rfl, mkw_tagLe (by decide) (by decide), mkw_leQ _ _⟩))⟩
    rw [if_neg k3] at h ⊢
    by_cases k2 : k = 2
    · rw [if_pos k2] at h ⊢
      split at h
      · cases h
      · rename_i hc
        rw [if_neg hc]
        simp only [Option.some.injEq, Prod.mk.injEq] at h
        obtain ⟨rfl, rfl, rfl⟩ := h
        exact ⟨[], _, rfl, .inr (.inr (.inr ⟨rfl, rfl, rfl, mkw_tagLe (by decide) (by decide), mkw_leQ _ _⟩))⟩
    rw [if_neg k2] at h ⊢
    by_cases k6 : k = 6
    · rw [if_pos k6] at h ⊢
      simp only [Option.some.injEq, Prod.mk.injEq] at h
      obtain ⟨rfl, rfl, rfl⟩ := h
      exact ⟨_, _, rfl, .inl ⟨rfl, rfl, rfl, rfl⟩⟩
    rw [if_neg k6] at h ⊢
    by_cases k4 : k = 4
    · rw [if_pos k4] at h ⊢
      split at h
      · cases h
      · rename_i ws n2 A1 hp
        simp only [Option.some.injEq, Prod.mk.injEq] at h
        obtain ⟨rfl, rfl, rfl⟩ := h
        obtain ⟨ws', n2', h1, h2⟩ := pl_sh l (a + 1 + l.length) b A ws n2 A1 hp
        have e : a + b + 1 + l.length = a + 1 + l.length + b := by omega
        rw [e, h1]
        exact ⟨_, _, rfl, .inr (.inl ⟨ws, ws', n2, n2', h2, rfl, rfl, rfl, rfl⟩)⟩
    rw [if_neg k4] at h ⊢
    by_cases h0 : l.length = 0
    · rw [if_pos h0] at h ⊢
      simp only [Option.some.injEq, Prod.mk.injEq] at h
      obtain ⟨rfl, rfl, rfl⟩ := h
      exact ⟨[], _, rfl, .inr (.inr (.inr ⟨rfl, rfl, rfl, by decide, by decide⟩))⟩
    · rw [if_neg h0] at h ⊢
      split at h
      · cases h
      · rename_i ws n2 A1 hp
        simp only [Option.some.injEq, Prod.mk.injEq] at h
        obtain ⟨rfl, rfl, rfl⟩ := h
        obtain ⟨ws', n2', h1, h2⟩ := pl_sh l (a + 2 * l.length) b A ws n2 A1 hp
        have e : a + b + 2 * l.length = a + 2 * l.length + b := by omega
        rw [e, h1]
        exact ⟨_, _, rfl, .inr (.inr (.inl ⟨h0, ws, ws', n2, n2', h2, rfl, rfl, rfl, rfl⟩))⟩
theorem pl_sh : ∀ (l : List Tm) (a b : Nat) (A : List ByteArray) (ws ns : List Int) (A' : List ByteArray), ptL l a A = some (ws, ns, A') → ∃ ws' ns', ptL l (a + b) A = some (ws', ns', A') ∧ ShL l a b ws ws' ns ns'
  | [], a, b, A, ws, ns, A', h => by
    rw [ptL] at h
    simp only [Option.some.injEq, Prod.mk.injEq] at h
    obtain ⟨rfl, rfl, rfl⟩ := h
    exact ⟨[], [], by rw [ptL], by rw [ShL]; exact ⟨rfl, rfl, rfl, rfl⟩⟩
  | t :: r, a, b, A, ws, ns, A', h => by
    rw [ptL] at h
    split at h
    · cases h
    · rename_i n1 A1 w hp
      split at h
      · cases h
      · rename_i wr n2 A2 hp2
        simp only [Option.some.injEq, Prod.mk.injEq] at h
        obtain ⟨rfl, rfl, rfl⟩ := h
        obtain ⟨n1', w', h1, h2⟩ := pt_sh t a b A n1 A1 w hp
        obtain ⟨wr', n2', h3, h4⟩ := pl_sh r (a + n1.length) b A1 wr n2 A2 hp2
        have hl := ShT.len t _ _ _ _ _ _ h2
        have e : a + b + n1'.length = a + n1.length + b := by omega
        refine ⟨w' :: wr', n1' ++ n2', ?_, ?_⟩
        · rw [ptL, h1]
          simp only [e, h3]
        · rw [ShL]
          exact ⟨w, w', wr, wr', n1, n1', n2, n2', rfl, rfl, rfl, rfl, h2, h4⟩
end
theorem lay_pt {t : Tm} {a : Nat} {A : List ByteArray} {ns : List Int} {A' : List ByteArray} {x : Int} (h : ptT t a A = some (ns, A', x)) : LayT t a ns x := fun b => by
  obtain ⟨ns', x', _, h2⟩ := pt_sh t a b A ns A' x h
  exact ⟨ns', x', h2⟩
theorem lay_pl {l : List Tm} {a : Nat} {A : List ByteArray} {ws ns : List Int} {A' : List ByteArray} (h : ptL l a A = some (ws, ns, A')) : LayL l a ws ns := fun b => by
  obtain ⟨ws', ns', _, h2⟩ := pl_sh l a b A ws ns A' h
  exact ⟨ws', ns', h2⟩
end Go.Proofs.Ytabgfaafpgholaa
namespace Go.Proofs.Ytabgfaafpgholaa
open Go.RowKit
set_option linter.unusedVariables false

mutual
/-- How many terms. -/
def nT : Tm → Nat
  | .mk _ _ _ l => 1 + nL l
def nL : List Tm → Nat
  | [] => 0
  | t :: r => nT t + nL r
end
/-- What l5Put answers. -/
def Put (Z : PZ) (m : PM) (w : World) (xs : List Int) (A : List ByteArray) (R : Option (List Int × List ByteArray × Int)) (nd nt : Nat) (L : List Int → Int → Prop) (e : Ending) (w' : World) : Prop :=
  ∃ x ok m' ns A', e = .returned (.tuple #[.int .i64 x, .bool ok]) ∧ PS Z m' w' (xs ++ ns) A' ∧ Fr Z m w w' ∧ Mv m m' w.heap.size ∧ ns.length = nd ∧ A'.length ≤ A.length + nt ∧ ((ok = true ∧ R = some (ns, A', x)) ∨ (ok = false ∧ R = none ∧ L ns x))
def PutC (t : Tm) : Prop := ∀ (Z : PZ) (m : PM) (w : World) (xs : List Int) (A : List ByteArray) (v : Value), PS Z m w xs A → RpV (SZ Z) w t v → goodT t → xs.length + ndT t ≤ 100000 → A.length + nT t ≤ 1048577 →
  Calls Try.prog 42 #[.pointer (some ⟨Z.wb, Z.wo, none⟩), .pointer (some ⟨Z.nb, 0, none⟩), v] w (Put Z m w xs A (ptT t xs.length A) (ndT t) (nT t) (LayT t xs.length))
theorem ret_ib {x y : Int} {a b : Bool} (h : x = y) (k : a = b) : Ending.returned (.tuple #[.int .i64 x, .bool a]) = .returned (.tuple #[.int .i64 y, .bool b]) := by rw [h, k]
theorem infoInt : (Try.prog.info? 3).map (fun i => (i.zero, i.size, i.bytes)) = some (some (.int .i64 0), 1, 8) := by kernel_rfl
theorem undInts : Try.prog.underlying 22 = some (.slice 3) := by kernel_rfl
theorem srcI (w : World) (x : Int) (t : TypeId) : ∀ j u, [Value.int .i64 x][j]? = some u → (w.alloc (.cells #[.int .i64 x] t)).cell? ((⟨w.heap.size, 0, none⟩ : Addr).add j) = some u := fun j u hu => by
  rw [Addr.add_lit, Nat.zero_add, World.cell?_alloc_new]
  simpa using hu
theorem oneI (x : Int) : ∀ u ∈ [Value.int .i64 x], u.oneCell' = true := fun u hu => by
  obtain rfl : u = .int .i64 x := by simpa using hu
  rfl
set_option maxHeartbeats 2000000 in
set_option maxRecDepth 100000 in
theorem put_1 (n : Int) (s : ByteArray) (l : List Tm) (hl : l = []) : PutC (.mk 1 n s l) := by
  intro Z m w xs A v hps hv hK hx hA
  obtain ⟨ao, cap, rfl, hs, hlc, hcm, hr⟩ := hv
  subst hl
  have hsh : shapeB 1 n s 0 = true := by rw [goodT] at hK; exact hK.1
  have hb : Below w.heap.size w (w.alloc (.cells #[.int .i64 1, .int .i64 n, .string s, .slice ao ([] : List Tm).length cap] 39)) := (Below.refl _ _).alloc (Nat.le_refl _) _
  have HP : Hid (PS Z m (w.alloc (.cells #[.int .i64 1, .int .i64 n, .string s, .slice ao ([] : List Tm).length cap] 39)) xs A) := hps.below hb
  have HF : Hid (Fr Z m w (w.alloc (.cells #[.int .i64 1, .int .i64 n, .string s, .slice ao ([] : List Tm).length cap] 39))) := Fr.below hb
  have hn : -1000000 ≤ n ∧ n ≤ 1000000 := by simp [shapeB, inB] at hsh; omega
  have hn1 := hn.1
  have hn2 := hn.2
  have HR : Hid (∀ x : Int, x = mkw 0 (n + 1000000) → ptT (.mk 1 n s []) xs.length A = some ([], A, x)) := fun x hx => by rw [ptT]; simp [hx]
  have HD : Hid (([] : List Int).length = ndT (.mk 1 n s [])) := by show _ = _; simp [ndT, ndO, ndL]
  clear hps hr hK hx hA hb hsh hn
  simp only [List.length_nil] at *
  go_enter Try.func42, Try.ntmps42
  go_wp2_with (go_at_call 66; refine (specMake_any _ _ _).mono ?_; rintro e w' ⟨rfl, rfl⟩)
  go_ret2
  exact ⟨_, true, m, [], A, rfl, by rw [List.append_nil]; exact HP.out, HF.out, Mv.refl _ _, HD.out, by omega, .inl ⟨rfl, HR.out _ rfl⟩⟩
set_option maxHeartbeats 2000000 in
set_option maxRecDepth 100000 in
theorem put_3 (n : Int) (s : ByteArray) (l : List Tm) (hl : l = []) : PutC (.mk 3 n s l) := by
  intro Z m w xs A v hps hv hK hx hA
  obtain ⟨ao, cap, rfl, hs, hlc, hcm, hr⟩ := hv
  subst hl
  have hsh : shapeB 3 n s 0 = true := by rw [goodT] at hK; exact hK.1
  have hb : Below w.heap.size w (w.alloc (.cells #[.int .i64 3, .int .i64 n, .string s, .slice ao ([] : List Tm).length cap] 39)) := (Below.refl _ _).alloc (Nat.le_refl _) _
  have HP : Hid (PS Z m (w.alloc (.cells #[.int .i64 3, .int .i64 n, .string s, .slice ao ([] : List Tm).length cap] 39)) xs A) := hps.below hb
  have HF : Hid (Fr Z m w (w.alloc (.cells #[.int .i64 3, .int .i64 n, .string s, .slice ao ([] : List Tm).length cap] 39))) := Fr.below hb
  have hn : -1000000 ≤ n ∧ n ≤ 1000000 := by simp [shapeB, inB] at hsh; omega
  have hn1 := hn.1
  have hn2 := hn.2
  have HR : Hid (∀ x : Int, x = mkw 2 n → ptT (.mk 3 n s []) xs.length A = some ([], A, x)) := fun x hx => by rw [ptT]; simp [hx]
  have HD : Hid (([] : List Int).length = ndT (.mk 3 n s [])) := by show _ = _; simp [ndT, ndO, ndL]
  clear hps hr hK hx hA hb hsh hn
  simp only [List.length_nil] at *
  go_enter Try.func42, Try.ntmps42
  go_wp2_with (go_at_call 66; refine (specMake_any _ _ _).mono ?_; rintro e w' ⟨rfl, rfl⟩)
  go_ret2
  exact ⟨_, true, m, [], A, rfl, by rw [List.append_nil]; exact HP.out, HF.out, Mv.refl _ _, HD.out, by omega, .inl ⟨rfl, HR.out _ rfl⟩⟩
set_option maxHeartbeats 2000000 in
set_option maxRecDepth 100000 in
theorem put_2 (n : Int) (s : ByteArray) (l : List Tm) (hl : l = []) : PutC (.mk 2 n s l) := by
  intro Z m w xs A v hps hv hK hx hA
  obtain ⟨ao, cap, rfl, hs, hlc, hcm, hr⟩ := hv
  subst hl
  have hsh : shapeB 2 n s 0 = true := by rw [goodT] at hK; exact hK.1
  have hb : Below w.heap.size w (w.alloc (.cells #[.int .i64 2, .int .i64 n, .string s, .slice ao ([] : List Tm).length cap] 39)) := (Below.refl _ _).alloc (Nat.le_refl _) _
  have HP : Hid (PS Z m (w.alloc (.cells #[.int .i64 2, .int .i64 n, .string s, .slice ao ([] : List Tm).length cap] 39)) xs A) := hps.below hb
  have HF : Hid (Fr Z m w (w.alloc (.cells #[.int .i64 2, .int .i64 n, .string s, .slice ao ([] : List Tm).length cap] 39))) := Fr.below hb
  have HR1 : Hid (addK A s < 0 → ptT (.mk 2 n s []) xs.length A = none) := fun h => by rw [ptT]; simp [h]
  have HR2 : Hid (¬ addK A s < 0 → ptT (.mk 2 n s []) xs.length A = some ([], addL A s, mkw 1 (addK A s))) := fun h => by rw [ptT]; simp [h]
  have HD : Hid (([] : List Int).length = ndT (.mk 2 n s [])) := by show _ = _; simp [ndT, ndO, ndL]
  have HT : Hid (1 ≤ nT (.mk 2 n s [])) := by show _ ≤ _; rw [nT]; omega
  have HS : Hid (s.size ≤ maxLen) := hs
  have HAL : Hid (A.length ≤ 1048576) := by show _ ≤ _; have := HT.out; omega
  have hac := HP.out.ac
  clear hps hr hK hx hA hb hsh hs
  simp only [List.length_nil] at *
  go_enter Try.func42, Try.ntmps42
  go_wp2_with fail
  generalize hW : (w.alloc (.cells #[.int .i64 2, .int .i64 n, .string s, .slice ao 0 cap] 39)) = W at *
  have hbx : ∀ o, W.cell? ⟨w.heap.size, o, none⟩ = (#[.int .i64 2, .int .i64 n, .string s, .slice ao 0 cap] : Array Value)[o]? := fun o => by rw [← hW]; exact World.cell?_alloc_new w _ _ o
  clear hW
  go_region_law (go_simp; go_wp2_with (go_at_call 67; refine (specAdd_any m.ga 0 m.ca A s W.drew HP.out.txt HAL.out HS.out (fun _ => HP.out.ga.2)).mono ?_; rintro e w1 ⟨v1, rfl, hv1, hb1⟩; obtain ⟨g1, c1, rfl, hr1⟩ := hv1; have HB1 : Hid (Below W.heap.size W w1) := ⟨hb1.os, hb1.tape, hb1.output, hb1.size, hb1.block⟩; have HO1 : Hid (w1.ownsRow W.heap.size 9 1 (.slice (some ⟨g1, 0, none⟩) (addL A s).length c1) (addL A s).length ((addL A s).map Value.string)) := hr1; have a1 := (HP.out.below HB1.out).ac; have a2 := (HP.out.below HB1.out).af; clear hr1 hb1))
  all_goals
    obtain ⟨p1, p2, p3⟩ := HP.out.atoms HB1.out HO1.out
    have P1 : Hid (PS Z ⟨m.gw, m.cw, g1, c1⟩ (w1.setCell ⟨Z.nb, 0, none⟩ (.slice (some ⟨g1, 0, none⟩) (addL A s).length c1)) xs (addL A s)) := p1
    have P2 : Hid (Fr Z m w (w1.setCell ⟨Z.nb, 0, none⟩ (.slice (some ⟨g1, 0, none⟩) (addL A s).length c1))) := HF.out.trans (Mv.refl _ _) p2
    have P3 : Hid (Mv m ⟨m.gw, m.cw, g1, c1⟩ w.heap.size) := (Mv.refl m w.heap.size).trans p3 HF.out.size
    clear p1 p2 p3
    generalize hk : addK A s = k at *
    go_wp2_with (go_at_call 66; refine (specMake_any _ _ _).mono ?_; rintro e w' ⟨rfl, hw'⟩; obtain rfl := hw'.symm)
    go_ret2
    have hal := addL_len A s
    have ht := HT.out
    by_cases h0 : k < 0
    · exact ⟨_, false, _, [], _, ret_ib rfl (by simp; omega), by rw [List.append_nil]; exact P1.out, P2.out, P3.out, HD.out, by omega, .inr ⟨rfl, HR1.out h0, LayT.leaf (mkw_tagLe (by decide) (by decide)) (mkw_leQ _ _)⟩⟩
    · exact ⟨_, true, _, [], _, ret_ib rfl (by simp; omega), by rw [List.append_nil]; exact P1.out, P2.out, P3.out, HD.out, by omega, .inl ⟨rfl, HR2.out (by omega)⟩⟩
end Go.Proofs.Ytabgfaafpgholaa
namespace Go.Proofs.Ytabgfaafpgholaa
open Go.RowKit
set_option linter.unusedVariables false

/-- Words that stand somewhere below B, or none. -/
def WV (w : World) (B : Nat) (v : Value) (xs : List Int) : Prop :=
  (v = .slice none 0 0 ∧ xs = []) ∨ ∃ b c, v = .slice (some ⟨b, 0, none⟩) xs.length c ∧ b < B ∧ ∀ j (h : j < xs.length), w.cell? ⟨b, j, none⟩ = some (.int .i64 xs[j])
theorem srcW {w : World} {b : Nat} {xs : List Int} (h : ∀ j (h : j < xs.length), w.cell? ⟨b, j, none⟩ = some (.int .i64 xs[j])) : ∀ j u, (xs.map (Value.int .i64))[j]? = some u → w.cell? ((⟨b, 0, none⟩ : Addr).add j) = some u := fun j u hu => by
  rw [Addr.add_lit, Nat.zero_add]
  rw [List.getElem?_map] at hu
  by_cases hj : j < xs.length
  · rw [List.getElem?_eq_getElem hj] at hu
    simp only [Option.map_some, Option.some.injEq] at hu
    rw [h j hj, hu]
  · rw [List.getElem?_eq_none (by omega)] at hu
    cases hu
theorem oneW (xs : List Int) : ∀ u ∈ xs.map (Value.int .i64), u.oneCell' = true := fun u hu => by
  obtain ⟨x, _, rfl⟩ := List.mem_map.1 hu
  rfl
theorem ownForm {w : World} {base : Nat} {e : TypeId} {v : Value} {n : Nat} {xs : List Value} (h : w.ownsRow base e 1 v n xs) (hn : v ≠ .slice none 0 0) : ∃ g c, v = .slice (some ⟨g, 0, none⟩) n c := by
  rcases h.2 with ⟨h0, _⟩ | ⟨g, cap, cur, h1, _⟩
  · exact absurd h0 hn
  · exact ⟨g, cap, h1⟩
def Cop (w : World) (xs : List Int) (e : Ending) (w' : World) : Prop :=
  ∃ g c, e = .returned (.agg #[.slice (some ⟨g, 0, none⟩) xs.length c]) ∧ w'.ownsRow w.heap.size 3 1 (.slice (some ⟨g, 0, none⟩) xs.length c) xs.length (xs.map (Value.int .i64)) ∧ Below w.heap.size w w'
set_option maxHeartbeats 4000000 in
set_option maxRecDepth 100000 in
theorem copy_any (w : World) (v : Value) (xs : List Int) (hv : WV w w.heap.size v xs) (hx : xs.length ≤ 1048576) : Calls Try.prog 39 #[.agg #[v]] w (Cop w xs) := by
  obtain ⟨i0, hi, hz0, hz1, hz2⟩ := infoParts infoInt
  have HI : Hid (Try.prog.info? 3 = some i0 ∧ i0.zero = some (.int .i64 0) ∧ i0.size = 1 ∧ i0.bytes = 8) := ⟨hi, hz0, hz1, hz2⟩
  clear hi hz0 hz1 hz2
  have hW2 : ∀ o1 o2 : Obj, Below w.heap.size w (((w.alloc o1).alloc o2).alloc (.cells #[] 3)) ∧ (((w.alloc o1).alloc o2).alloc (.cells #[] 3)).ownsRow w.heap.size 3 1 (.slice (some ⟨w.heap.size + 1 + 1, 0, none⟩) 0 0) 0 [] := fun o1 o2 => by
    have b1 : Below w.heap.size w ((w.alloc o1).alloc o2) := ((Below.refl _ _).alloc (Nat.le_refl _) o1).alloc (by rw [World.size_alloc]; omega) o2
    have h := World.ownsRow_made (e := 3) (size := 1) ((w.alloc o1).alloc o2) #[] 0 (Nat.le_refl _) (Nat.zero_le _) rfl
    have e : ((w.alloc o1).alloc o2).heap.size = w.heap.size + 1 + 1 := by rw [World.size_alloc, World.size_alloc]
    rw [e] at h
    refine ⟨b1.alloc b1.size _, h.1, ?_⟩
    rcases h.2 with h0 | ⟨g, cap, cur, h1, h2, h3⟩
    · exact .inl h0
    · exact .inr ⟨g, cap, cur, h1, by omega, h3⟩
  have HW2 : Hid (∀ o1 o2 : Obj, Below w.heap.size w (((w.alloc o1).alloc o2).alloc (.cells #[] 3)) ∧ (((w.alloc o1).alloc o2).alloc (.cells #[] 3)).ownsRow w.heap.size 3 1 (.slice (some ⟨w.heap.size + 1 + 1, 0, none⟩) 0 0) 0 []) := hW2
  clear hW2
  rcases hv with ⟨rfl, rfl⟩ | ⟨b, c, rfl, hb, hc⟩
  · go_enter Try.func39, Try.ntmps39
    go_wp2_with fail
    have h2 := HW2.out (.cells #[.slice none 0 0] 32) (.cells #[.slice (some ⟨w.heap.size + 1 + 1, 0, none⟩) 0 0] 32)
    have hfin : Cop w [] (.returned (.agg #[.slice (some ⟨w.heap.size + 1 + 1, 0, none⟩) 0 0])) _ := ⟨_, 0, rfl, h2.2, h2.1⟩
    exact bodyPost_ret (v := .agg #[.slice (some ⟨w.heap.size + 1 + 1, 0, none⟩) 0 0]) (by simp [results, Try.results39, go_sem]) rfl hfin
  · have HO : Hid ((((w.alloc (.cells #[.slice (some ⟨b, 0, none⟩) xs.length c] 32)).alloc (.cells #[.slice none 0 0] 32)).alloc (.cells #[] 3)).ownsRow w.heap.size 3 1 (.slice (some ⟨w.heap.size + 1 + 1, 0, none⟩) 0 0) 0 []) := (HW2.out _ _).2
    have HB : Hid (Below w.heap.size w (((w.alloc (.cells #[.slice (some ⟨b, 0, none⟩) xs.length c] 32)).alloc (.cells #[.slice none 0 0] 32)).alloc (.cells #[] 3))) := (HW2.out _ _).1
    have HL : Hid ((xs.map (Value.int .i64)).length = xs.length * 1) := by show _ = _; simp
    have HC : Hid (∀ j u, (xs.map (Value.int .i64))[j]? = some u → (((w.alloc (.cells #[.slice (some ⟨b, 0, none⟩) xs.length c] 32)).alloc (.cells #[.slice none 0 0] 32)).alloc (.cells #[] 3)).cell? ((⟨b, 0, none⟩ : Addr).add j) = some u) := srcW fun j hj => by rw [HB.out.cell (p := ⟨b, j, none⟩) hb]; exact hc j hj
    have C3 : Hid (0 + xs.length ≤ maxLen) := by show _ ≤ _; unfold maxLen; omega
    have C4 : Hid ((0 + xs.length) * 8 ≤ 140737488355328) := by show _ ≤ _; omega
    have HQ : Hid (∀ w2, (((w.alloc (.cells #[.slice (some ⟨b, 0, none⟩) xs.length c] 32)).alloc (.cells #[.slice none 0 0] 32)).alloc (.cells #[] 3)).grownBy w2 (some (w.heap.size + 1 + 1)) → w2.cell? ⟨w.heap.size + 1, 0, none⟩ = some (.slice none 0 0) ∧ w2.frozen? ⟨w.heap.size + 1, 0, none⟩ = false ∧ Below w.heap.size w w2) := by
      intro w2 hg
      have hlt : w.heap.size + 1 < (((w.alloc (.cells #[.slice (some ⟨b, 0, none⟩) xs.length c] 32)).alloc (.cells #[.slice none 0 0] 32)).alloc (.cells #[] 3)).heap.size := by simp only [World.size_alloc]; omega
      have hne : some (w.heap.size + 1) ≠ some (w.heap.size + 1 + 1) := by simp
      rw [hg.cell_far ⟨w.heap.size + 1, 0, none⟩ hlt hne, hg.frozen_far ⟨w.heap.size + 1, 0, none⟩ hlt hne]
      refine ⟨by go_simp, by go_simp, HB.out.grown hg HB.out.size (fun k hk => by injection hk with hk; omega)⟩
    clear hc hx
    go_enter Try.func39, Try.ntmps39
    go_wp2_with (at_builtin; refine wpList_append_own_at _ rfl _ _ 22 rfl w.heap.size 3 i0 (.int .i64 0) 1 8 undInts HI.out.1 HI.out.2.1 HI.out.2.2.1 HI.out.2.2.2 rfl Nat.zero_lt_one (.slice (some ⟨w.heap.size + 1 + 1, 0, none⟩) 0 0) 0 [] rfl HO.out ⟨b, 0, none⟩ xs.length c (xs.map (Value.int .i64)) rfl HL.out HC.out (oneW xs) C3.out C4.out HB.out.size ?_; intro v2 w2 hown2 hgr2 hnn2 hat2; obtain ⟨q1, q2, q3⟩ := HQ.out _ hgr2; have HB3 : Hid (Below w.heap.size w w2) := q3; rw [Nat.zero_add, List.nil_append] at hown2; obtain ⟨g2, c2, rfl⟩ := ownForm hown2 (fun e => by have := (hnn2.1 e).1; cases this); clear q3)
    have hgn : w.heap.size + 1 ≠ g2 := by
      rcases hat2 with e | e
      · simp only [Value.ownBlock, Option.some.injEq] at e; omega
      · simp only [Value.ownBlock, Option.some.injEq, World.size_alloc] at e; omega
    have hfin : Cop w xs (.returned (.agg #[.slice (some ⟨g2, 0, none⟩) xs.length c2])) (w2.setCell ⟨w.heap.size + 1, 0, none⟩ (.slice (some ⟨g2, 0, none⟩) xs.length c2)) := ⟨g2, c2, rfl, own_other hown2 hgn _, HB3.out.setCell (by show w.heap.size ≤ w.heap.size + 1; omega) _⟩
    have hcell : (w2.setCell ⟨w.heap.size + 1, 0, none⟩ (.slice (some ⟨g2, 0, none⟩) xs.length c2)).cell? ⟨w.heap.size + 1, 0, none⟩ = some (.slice (some ⟨g2, 0, none⟩) xs.length c2) := World.cell?_setCell_same _ _ _ q1
    exact bodyPost_ret (v := .agg #[.slice (some ⟨g2, 0, none⟩) xs.length c2]) (by simp [results, Try.results39, go_sem, hcell]) rfl hfin
end Go.Proofs.Ytabgfaafpgholaa
