/-
  What thingsOf has in hand.
  The closure of thingsOf: all that words lead to is met, each once.
  The closure of thingsOf, walked.
  thingsOf: all that the roots lead to, each once.
-/
import Derived.Test.YthdoamdjhpkimaaGkC
import Derived.Maps.OwnSet
import Derived.Maps.AppendAt
import Derived.Deep.RegionLaw
namespace Go.Proofs.Ythdoamdjhpkimaa.Gn
open Go.RowKit Go.Maps
set_option linter.unusedVariables false

theorem keyInt : Keyed Try.prog 3 := int_keyed Try.underlying3
theorem wf_i64 {x : Int} (h0 : 0 ≤ x) (h1 : x ≤ 9223372036854775807) : (Lit.int .i64 x).wf = true := by
  have e1 : IntKind.i64.min = -9223372036854775808 := by decide
  have e2 : IntKind.i64.max = 9223372036854775807 := by decide
  show (decide (IntKind.i64.min ≤ x) && decide (x ≤ IntKind.i64.max)) = true
  rw [e1, e2, Bool.and_eq_true]
  exact ⟨decide_eq_true (by omega), decide_eq_true h1⟩
theorem ownsRow_set_other {w : World} {base : Nat} {e : TypeId} {size n : Nat} {v : Value} {xs : List Value} (h : w.ownsRow base e size v n xs) {b o : Nat} (hb : v.ownBlock ≠ some b) (u : Value) : (w.setCell ⟨b, o, none⟩ u).ownsRow base e size v n xs := by
  obtain ⟨h1, h2⟩ := h
  refine ⟨h1, ?_⟩
  rcases h2 with h2 | ⟨g', cap', cur, hv, hg, hh, r⟩
  · exact Or.inl h2
  · refine Or.inr ⟨g', cap', cur, hv, hg, ?_, r⟩
    rw [Below.heap_setCell _ _ _ _ (by show g' ≠ b; intro q; subst q; exact hb (by rw [hv]; rfl))]
    exact hh
theorem key_of {x : Int} (h0 : 0 ≤ x) (h1 : x ≤ 9223372036854775807) : keyOf Try.prog 3 (.int .i64 x) = some (.int .i64 x) := keyOf_int_mk Try.underlying3 (wf_i64 h0 h1)
structure Th where
  x : Int
  p : Nat
  K : Nat
  f0 : Nat
  c : Nat
def Th.cells (G : GE) (t : Th) : List Value := [.int .i64 t.x, .slice (some ⟨G.sb t.p, G.so t.p, none⟩) t.K t.c]
def thCells (G : GE) (l : List Th) : List Value := l.flatMap (Th.cells G)
theorem thCells_snoc (G : GE) (l : List Th) (t : Th) : thCells G (l ++ [t]) = thCells G l ++ t.cells G := by simp [thCells]
structure Th.ok (G : GE) (t : Th) : Prop where
  kin : Kin G t.x t.p t.K t.f0
  le : t.K ≤ t.c
  nn : 0 ≤ t.x
  big : t.x ≤ 9223372036854775807
  ld : leadsW t.x = true
structure MB where
  m : Nat
  g : Nat
  l : Nat
  f : Nat
  mb : Nat
/-- What the closure has in hand: S is in the map, ths in the list. -/
structure MS (G : GE) (w0 : World) (b : MB) (w : World) (S : List Int) (ths : List Th) (lv : Value) : Prop where
  be : Below w0.heap.size w0 w
  cm : w.cell? ⟨b.m, 0, none⟩ = some (.map (some b.mb))
  cg : ∀ o, w.cell? ⟨b.g, o, none⟩ = (#[.slice G.wv G.N G.cap, .slice G.yv G.M G.ycap, .int .i64 G.mark] : Array Value)[o]?
  cl : w.cell? ⟨b.l, 0, none⟩ = some lv
  fl : w.frozen? ⟨b.l, 0, none⟩ = false
  cf : w.cell? ⟨b.f, 0, none⟩ = some (.func (.func 90) #[] #[.pointer (some ⟨b.m, 0, none⟩), .pointer (some ⟨b.g, 0, none⟩), .pointer (some ⟨b.l, 0, none⟩), .pointer (some ⟨b.f, 0, none⟩)])
  mp : ∃ D : DataW Unit, w.ownsMap Try.prog 3 unitElem b.mb S.length D ∧ ∀ x, 0 ≤ x → x ≤ 9223372036854775807 → Maps.has D (.int .i64 x) = decide (x ∈ S)
  row : w.ownsRow w0.heap.size 112 2 lv ths.length (thCells G ths)
  ok : ∀ t ∈ ths, Th.ok G t
  lom : w0.heap.size ≤ b.m
  log : w0.heap.size ≤ b.g
  lol : w0.heap.size ≤ b.l
  lof : w0.heap.size ≤ b.f
  lob : w0.heap.size ≤ b.mb
  d1 : b.mb ≠ b.m ∧ b.mb ≠ b.g ∧ b.mb ≠ b.l ∧ b.mb ≠ b.f
  d2 : b.l ≠ b.m ∧ b.l ≠ b.g ∧ b.l ≠ b.f
  d3 : ∀ g, lv.ownBlock = some g → g ≠ b.m ∧ g ≠ b.g ∧ g ≠ b.l ∧ g ≠ b.f ∧ g ≠ b.mb
theorem kc {w w' : World} {row : Option Nat} (hg : w.grownBy w' row) {k o : Nat} {v : Value} (hc : w.cell? ⟨k, o, none⟩ = some v) (hn : some k ≠ row) : w'.cell? ⟨k, o, none⟩ = some v := by
  have hl := World.block_lt_of_cell? w _ hc
  rw [World.cell?_of_block (w := w) (hg.block k hl hn)]; exact hc
theorem kc3 {w w' : World} {row : Option Nat} (hg : w.grownBy w' row) {k : Nat} {x y z : Value} (hc : ∀ o, w.cell? ⟨k, o, none⟩ = (#[x, y, z] : Array Value)[o]?) (hn : some k ≠ row) : ∀ o, w'.cell? ⟨k, o, none⟩ = (#[x, y, z] : Array Value)[o]? := fun o => by
  have h0 : w.cell? ⟨k, 0, none⟩ = some x := hc 0
  rw [World.cell?_of_block (w := w) (hg.block k (World.block_lt_of_cell? w _ h0) hn)]; exact hc o
theorem kf {w w' : World} {row : Option Nat} (hg : w.grownBy w' row) {k o : Nat} (hl : k < w.heap.size) (hf : w.frozen? ⟨k, o, none⟩ = false) (hn : some k ≠ row) : w'.frozen? ⟨k, o, none⟩ = false := by
  rw [World.frozen?_of_block (w := w) (hg.block k hl hn)]; exact hf
/-- Whatever makes new memory alone. -/
theorem MS.call {G : GE} {w0 : World} {b : MB} {w w' : World} {S : List Int} {ths : List Th} {lv : Value} (h : MS G w0 b w S ths lv) (hb : Below w.heap.size w w') : MS G w0 b w' S ths lv := by
  have hg : w.grownBy w' none := ⟨hb.os, hb.tape, hb.output, hb.size, fun k hk _ => hb.block k hk⟩
  obtain ⟨D, hD, hS⟩ := h.mp
  exact ⟨h.be.trans (hb.mono h.be.size), kc hg h.cm (by simp), kc3 hg h.cg (by simp), kc hg h.cl (by simp), kf hg (World.block_lt_of_cell? w _ h.cl) h.fl (by simp), kc hg h.cf (by simp), ⟨D, hD.kept hg (by simp), hS⟩, h.row.kept hg (by by_cases e : lv.ownBlock = none; exact Or.inl e; exact Or.inr e), h.ok, h.lom, h.log, h.lol, h.lof, h.lob, h.d1, h.d2, h.d3⟩
/-- One more is in the map. -/
theorem MS.put {G : GE} {w0 : World} {b : MB} {w w' : World} {S : List Int} {ths : List Th} {lv : Value} (h : MS G w0 b w S ths lv) (y : Int) (hy0 : 0 ≤ y) (hy1 : y ≤ 9223372036854775807) {D : DataW Unit} (hD0 : w.ownsMap Try.prog 3 unitElem b.mb S.length D) (hS : ∀ x, 0 ≤ x → x ≤ 9223372036854775807 → Maps.has D (.int .i64 x) = decide (x ∈ S))
    (hD : w'.ownsMap Try.prog 3 unitElem b.mb (S.length + 1) (D.put (.int .i64 y) (.agg []))) (hg : w.grownBy w' (some b.mb)) : MS G w0 b w' (y :: S) ths lv := by
  have d1 := h.d1
  have lob := h.lob
  refine ⟨h.be.grown hg h.be.size (fun k e => by injection e with e; omega), kc hg h.cm (fun e => d1.1 (by injection e with e; exact e.symm)), kc3 hg h.cg (fun e => d1.2.1 (by injection e with e; exact e.symm)), kc hg h.cl (fun e => d1.2.2.1 (by injection e with e; exact e.symm)), kf hg (World.block_lt_of_cell? w _ h.cl) h.fl (fun e => d1.2.2.1 (by injection e with e; exact e.symm)), kc hg h.cf (fun e => d1.2.2.2 (by injection e with e; exact e.symm)), ⟨_, hD, fun x h0 h1 => ?_⟩, h.row.kept hg (Or.inr ?_), h.ok, h.lom, h.log, h.lol, h.lof, h.lob, h.d1, h.d2, h.d3⟩
  · by_cases e : x = y
    · subst e
      rw [has_put_same hD0.isMap (keyInt.key (key_of hy0 hy1))]
      simp
    · rw [has_put_other (fun q => e (by injection q))]
      rw [hS x h0 h1]
      simp [e]
  · intro e
    exact (h.d3 b.mb e).2.2.2.2 rfl
/-- One more is in the list. -/
theorem MS.add {G : GE} {w0 : World} {b : MB} {w w' : World} {S : List Int} {ths : List Th} {lv lv' : Value} (h : MS G w0 b w S ths lv) (t : Th) (ht : Th.ok G t) (hr : w'.ownsRow w0.heap.size 112 2 lv' (ths.length + 1) (thCells G ths ++ t.cells G)) (hg : w.grownBy w' lv.ownBlock) (hat : lv'.ownBlock = lv.ownBlock ∨ lv'.ownBlock = some w.heap.size) :
    MS G w0 b (w'.setCell ⟨b.l, 0, none⟩ lv') S (ths ++ [t]) lv' := by
  have d1 := h.d1
  have d2 := h.d2
  have lol := h.lol
  have nm : some b.m ≠ lv.ownBlock := fun e => (h.d3 b.m e.symm).1 rfl
  have ng : some b.g ≠ lv.ownBlock := fun e => (h.d3 b.g e.symm).2.1 rfl
  have nl : some b.l ≠ lv.ownBlock := fun e => (h.d3 b.l e.symm).2.2.1 rfl
  have nf : some b.f ≠ lv.ownBlock := fun e => (h.d3 b.f e.symm).2.2.2.1 rfl
  have nb : some b.mb ≠ lv.ownBlock := fun e => (h.d3 b.mb e.symm).2.2.2.2 rfl
  have lm : b.m < w.heap.size := World.block_lt_of_cell? w _ h.cm
  have lg : b.g < w.heap.size := by have : w.cell? ⟨b.g, 0, none⟩ = some (.slice G.wv G.N G.cap) := h.cg 0; exact World.block_lt_of_cell? w _ this
  have ll : b.l < w.heap.size := World.block_lt_of_cell? w _ h.cl
  have lf : b.f < w.heap.size := World.block_lt_of_cell? w _ h.cf
  obtain ⟨D, hD, hS⟩ := h.mp
  have lb := hD.lt
  have o : ∀ k o v, k ≠ b.l → w'.cell? ⟨k, o, none⟩ = some v → (w'.setCell ⟨b.l, 0, none⟩ lv').cell? ⟨k, o, none⟩ = some v := fun k o v hk hc => by
    rw [World.cell?_setCell_other (h := fun e => by simp only [Addr.mk.injEq] at e; omega)]; exact hc
  have be' : Below w0.heap.size w0 w' := h.be.grown hg h.be.size (fun k e => by
    have := h.row.lt k e
    omega)
  have rowb : ∀ g, lv'.ownBlock = some g → g ≠ b.m ∧ g ≠ b.g ∧ g ≠ b.l ∧ g ≠ b.f ∧ g ≠ b.mb := fun g e => by
    rcases hat with e2 | e2
    · exact h.d3 g (by rw [← e2]; exact e)
    · rw [e] at e2
      injection e2 with e2
      exact ⟨by omega, by omega, by omega, by omega, by omega⟩
  refine ⟨be'.setCell (p := ⟨b.l, 0, none⟩) (by show _ ≤ b.l; omega) _, o _ _ _ (fun e => d2.1 e.symm) (kc hg h.cm nm), fun q => ?_, World.cell?_setCell_same _ _ _ (kc hg h.cl nl), by rw [World.frozen?_setCell]; exact kf hg ll h.fl nl, o _ _ _ (fun e => d2.2.2 e.symm) (kc hg h.cf nf), ⟨D, ?_, hS⟩, ?_, fun u hu => ?_, h.lom, h.log, h.lol, h.lof, h.lob, h.d1, h.d2, rowb⟩
  · rw [World.cell?_setCell_other (h := fun e => by simp only [Addr.mk.injEq] at e; exact d2.2.1 e.1)]
    exact kc3 hg h.cg ng q
  · exact (hD.kept hg nb).setCell (by show b.mb ≠ b.l; exact d1.2.2.1) _
  · rw [thCells_snoc, List.length_append]
    exact ownsRow_set_other hr (fun e => (rowb b.l e).2.2.1 rfl) _
  · rcases List.mem_append.1 hu with hu | hu
    · exact h.ok u hu
    · have : u = t := by simpa using hu
      subst this; exact ht
/-- So many unlike numbers below a bound are no more than the bound. -/
theorem nodup_le : ∀ (B : Nat) (l : List Nat), l.Nodup → (∀ x ∈ l, x < B) → l.length ≤ B
  | 0, l, _, h => by
    cases l with
    | nil => simp
    | cons x r => exact absurd (h x List.mem_cons_self) (Nat.not_lt_zero _)
  | B + 1, l, hn, h => by
    have h1 := nodup_le B (l.filter (· ≠ B)) (hn.filter _) (fun x hx => by
      obtain ⟨a, b⟩ := List.mem_filter.1 hx
      have := h x a
      simp at b
      omega)
    have h2 : l.length ≤ (l.filter (· ≠ B)).length + 1 := by
      clear h1 h
      induction l with
      | nil => simp
      | cons x r ih =>
        rw [List.nodup_cons] at hn
        by_cases hx : x = B
        · subst hx
          have : r.filter (· ≠ x) = r := List.filter_eq_self.2 (fun y hy => by simp; intro e; subst e; exact hn.1 hy)
          simp only [List.filter_cons, ne_eq, not_true_eq_false, decide_false, Bool.false_eq_true, if_false, List.length_cons]
          have t : (r.filter (fun y => decide ¬ y = x)) = r := this
          rw [t]
          omega
        · have := ih hn.2
          simp only [List.filter_cons, ne_eq, hx, not_false_eq_true, decide_true, if_true, List.length_cons] at this ⊢
          omega
    omega
end Go.Proofs.Ythdoamdjhpkimaa.Gn

namespace Go.Proofs.Ythdoamdjhpkimaa.Gn
open Go.RowKit Go.Maps
set_option linter.unusedVariables false

theorem zeroUnit (w : World) : (zeroValue 117).run Try.prog w = .ok (.agg #[]) w := by kernel_rfl
theorem infoThing : (Try.prog.info? 112).map (fun i => (i.zero, i.size, i.bytes)) = some (some (.agg #[.int .i64 0, .slice none 0 0]), 2, 32) := by kernel_rfl
theorem undThings : Try.prog.underlying 89 = some (.slice 112) := by kernel_rfl
theorem undSet : Try.prog.underlying 115 = some (.map 3 117) := by kernel_rfl
/-- The map and the list say the same. -/
structure Same (S : List Int) (ths : List Th) : Prop where
  nd : (ths.map Th.x).Nodup
  len : S.length = ths.length
  iff : ∀ x, x ∈ S ↔ ∃ t ∈ ths, t.x = x
theorem Same.more {S : List Int} {ths : List Th} (h : Same S ths) (t : Th) (hn : t.x ∉ S) : Same (t.x :: S) (ths ++ [t]) := by
  refine ⟨?_, by simp [h.len], fun x => ?_⟩
  · rw [List.map_append, List.map_cons, List.map_nil]
    refine List.nodup_append.2 ⟨h.nd, by simp, fun a ha b hb => ?_⟩
    have hb : b = t.x := by simpa using hb
    subst hb
    intro e
    subst e
    obtain ⟨u, hu, e⟩ := List.mem_map.1 ha
    exact hn ((h.iff _).2 ⟨u, hu, e⟩)
  · rw [List.mem_cons, h.iff]
    constructor
    · rintro (rfl | ⟨u, hu, e⟩)
      · exact ⟨t, by simp, rfl⟩
      · exact ⟨u, by simp [hu], e⟩
    · rintro ⟨u, hu, e⟩
      rcases List.mem_append.1 hu with hu | hu
      · exact .inr ⟨u, hu, e⟩
      · have : u = t := by simpa using hu
        subst this
        exact .inl e.symm
theorem Same.few {G : GE} {S : List Int} {ths : List Th} (h : Same S ths) (hok : ∀ t ∈ ths, Th.ok G t) (hN : G.N ≤ 1000) (hM : G.M ≤ 1000) : ths.length ≤ 1600008 := by
  have h1 := nodup_le 1600008 ((ths.map Th.x).map Int.toNat) ?_ ?_
  · simpa using h1
  · show List.Pairwise (· ≠ ·) _
    rw [List.pairwise_map]
    refine List.Pairwise.imp_of_mem (fun {x y} hx hy hne e => hne ?_) h.nd
    obtain ⟨t, ht, rfl⟩ := List.mem_map.1 hx
    obtain ⟨u, hu, rfl⟩ := List.mem_map.1 hy
    have := (hok t ht).nn
    have := (hok u hu).nn
    omega
  · intro v hv
    obtain ⟨x, hx, rfl⟩ := List.mem_map.1 hv
    obtain ⟨t, ht, rfl⟩ := List.mem_map.1 hx
    have k := (hok t ht).kin
    have h0 := (hok t ht).nn
    have k1 := k.val
    have k2 := k.len
    have k3 := k.k1
    have hp : t.p < 200000 := by unfold GE.len at k2; split at k2 <;> omega
    rw [valW_of h0] at k1
    omega
/-- What is new behind a call. -/
structure Ext (G : GE) (ys : List Int) (ths new : List Th) : Prop where
  roots : ∀ y ∈ ys, leadsW y = true → ∃ t ∈ ths ++ new, t.x = y
  shut : ∀ t ∈ new, ∀ z ∈ prts G.H t.x, leadsW z = true → ∃ u ∈ ths ++ new, u.x = z
  from' : ∀ t ∈ new, ∃ y ∈ ys, Rch G.H y t.x
def MeetP (G : GE) (w0 : World) (b : MB) (ys : List Int) (ths : List Th) (e : Ending) (w' : World) : Prop :=
  ∃ v S' new lv', e = .returned v ∧ MS G w0 b w' S' (ths ++ new) lv' ∧ Same S' (ths ++ new) ∧ Ext G ys ths new
def MeetT (G : GE) (w0 : World) (b : MB) (n : Nat) : Prop := ∀ (ys : List Int) (a : Option Addr) (c : Nat) (w : World) (S : List Int) (ths : List Th) (lv : Value), MS G w0 b w S ths lv → Same S ths → Roots w0 a ys → ys.length ≤ 1048576 → (∀ y ∈ ys, FinW G.H n y) → (∀ y ∈ ys, y ≤ 9223372036854775807) →
  Calls Try.prog 90 #[.slice a ys.length c, .pointer (some ⟨b.m, 0, none⟩), .pointer (some ⟨b.g, 0, none⟩), .pointer (some ⟨b.l, 0, none⟩), .pointer (some ⟨b.f, 0, none⟩)] w (MeetP G w0 b ys ths)
theorem Ext.nil (G : GE) (ths : List Th) : Ext G [] ths [] := ⟨by simp, by simp, by simp⟩
/-- A word that leads nowhere, or was met. -/
theorem Ext.pass {G : GE} {ys : List Int} {ths new : List Th} (h : Ext G ys ths new) (y : Int) (hy : leadsW y = true → ∃ t ∈ ths ++ new, t.x = y) : Ext G (ys ++ [y]) ths new := by
  refine ⟨fun z hz hl => ?_, h.shut, fun t ht => ?_⟩
  · rcases List.mem_append.1 hz with hz | hz
    · exact h.roots z hz hl
    · have : z = y := by simpa using hz
      subst this; exact hy hl
  · obtain ⟨z, hz, hr⟩ := h.from' t ht
    exact ⟨z, by simp [hz], hr⟩
/-- A word that is met, and all that it leads to. -/
theorem Ext.meet {G : GE} {ys : List Int} {ths new new2 : List Th} (h : Ext G ys ths new) (t : Th) (hl : leadsW t.x = true) (k : Ext G (prts G.H t.x) (ths ++ new ++ [t]) new2) : Ext G (ys ++ [t.x]) ths (new ++ [t] ++ new2) := by
  have ass : ths ++ new ++ [t] ++ new2 = ths ++ (new ++ [t] ++ new2) := by simp
  have k1 := k.roots
  have k2 := k.shut
  rw [ass] at k1 k2
  refine ⟨fun z hz hz2 => ?_, fun u hu z hz hz2 => ?_, fun u hu => ?_⟩
  · rcases List.mem_append.1 hz with hz | hz
    · obtain ⟨u, hu, e⟩ := h.roots z hz hz2
      exact ⟨u, by rcases List.mem_append.1 hu with hu | hu <;> simp [hu], e⟩
    · have : z = t.x := by simpa using hz
      subst this
      exact ⟨t, by simp, rfl⟩
  · rcases List.mem_append.1 hu with hu | hu
    · rcases List.mem_append.1 hu with hu | hu
      · obtain ⟨v, hv, e⟩ := h.shut u hu z hz hz2
        exact ⟨v, by rcases List.mem_append.1 hv with hv | hv <;> simp [hv], e⟩
      · have : u = t := by simpa using hu
        subst this
        exact k1 z hz hz2
    · exact k2 u hu z hz hz2
  · rcases List.mem_append.1 hu with hu | hu
    · rcases List.mem_append.1 hu with hu | hu
      · obtain ⟨z, hz, hr⟩ := h.from' u hu
        exact ⟨z, by simp [hz], hr⟩
      · have : u = t := by simpa using hu
        subst this
        exact ⟨u.x, by simp, .refl _⟩
    · obtain ⟨z, hz, hr⟩ := k.from' u hu
      exact ⟨t.x, by simp, .step hl hz hr⟩
/-- The parts of a thing, as a row. -/
theorem parts_row {G : GE} {w0 : World} (hs : GSrc G w0) {x : Int} {p K f0 : Nat} (k : Kin G x p K f0) {a : Option Addr} (ha : npr x K ≠ 0 → a = some ⟨G.sb p, G.so p + (if tagW x = 4 then 1 else 0), none⟩) : (prts G.H x).length = npr x K ∧ Roots w0 a (prts G.H x) := by
  have hl : (prts G.H x).length = npr x K := by
    unfold npr
    rcases k.tag with ⟨h, e⟩ | ⟨h, e⟩ | ⟨h, e⟩
    · rw [k.prt (by omega), if_neg (by omega), if_pos h, List.length_map, List.length_range]; omega
    · rw [k.prt (by omega), if_pos h, List.length_map, List.length_range]; omega
    · rw [k.prb h, if_neg (by omega), if_neg (by omega)]; rfl
  refine ⟨hl, fun hn => ?_⟩
  rw [hl] at hn
  refine ⟨_, _, ha hn, fun j hj => ?_⟩
  have h6 : tagW x ≠ 6 := fun e => by rw [k.prb e] at hj; exact absurd hj (Nat.not_lt_zero _)
  have e0 : (if tagW x = 4 then 1 else 0) = f0 := by
    rcases k.tag with ⟨h, e⟩ | ⟨h, e⟩ | ⟨h, e⟩
    · rw [if_neg (by omega), e]
    · rw [if_pos h, e]
    · exact absurd h h6
  rw [e0]
  have hjK : f0 + j < K := by
    rw [k.prt h6, List.length_map, List.length_range] at hj
    omega
  have := hs.at p (f0 + j) (by have := k.len; omega)
  rw [show G.so p + f0 + j = G.so p + (f0 + j) by omega, this]
  congr 2
  simp [k.prt h6]
end Go.Proofs.Ythdoamdjhpkimaa.Gn

namespace Go.Proofs.Ythdoamdjhpkimaa.Gn
open Go.RowKit Go.Maps
set_option linter.unusedVariables false

theorem two_news {w : World} {a b : Value} {t : TypeId} : ∀ j u, [a, b][j]? = some u → (w.alloc (.cells #[a, b] t)).cell? ((⟨w.heap.size, 0, none⟩ : Addr).add j) = some u := fun j u hu =>
  World.news_of_block (w := w.alloc (.cells #[a, b] t)) (B := w.heap.size) (cs := #[a, b]) (t := t) (fr := (0, 0)) (by show (w.heap.push _)[w.heap.size]? = _; simp) j u hu
theorem two_news2 {w : World} {a b : Value} {t : TypeId} {o : Obj} : ∀ j u, [a, b][j]? = some u → ((w.alloc o).alloc (.cells #[a, b] t)).cell? ((⟨w.heap.size + 1, 0, none⟩ : Addr).add j) = some u := fun j u hu => by
  have h := two_news (w := w.alloc o) (t := t) j u hu
  rw [World.size_alloc] at h
  exact h
theorem thForm {w : World} {base : Nat} {e : TypeId} {v : Value} {n : Nat} {xs : List Value} (h : w.ownsRow base e 2 v (n + 1) xs) : ∃ g c, v = .slice (some ⟨g, 0, none⟩) (n + 1) c := by
  rcases h.2 with ⟨h0, h1⟩ | ⟨g, cap, cur, h1, _⟩
  · exact absurd h1 (by omega)
  · exact ⟨g, cap, h1⟩
/-- Behind a thing that was laid in a box and appended. -/
theorem MS.lay {G : GE} {w0 : World} {b : MB} {w2 w5 : World} {S : List Int} {ths : List Th} {lv v5 : Value} {T : TypeId} (h : MS G w0 b w2 S ths lv) (t : Th) (ht : Th.ok G t)
    (hr : w5.ownsRow w0.heap.size 112 2 v5 (ths.length + 1) (thCells G ths ++ t.cells G)) (hg : ((w2.alloc (.cells (t.cells G).toArray T)).alloc (.cells (t.cells G).toArray T)).grownBy w5 lv.ownBlock) (hat : v5.ownBlock = lv.ownBlock ∨ v5.ownBlock = some ((w2.alloc (.cells (t.cells G).toArray T)).alloc (.cells (t.cells G).toArray T)).heap.size) :
    w5.cell? ⟨b.l, 0, none⟩ = some lv ∧ w5.frozen? ⟨b.l, 0, none⟩ = false ∧ MS G w0 b (w5.setCell ⟨b.l, 0, none⟩ v5) S (ths ++ [t]) v5 ∧ (∀ o, (w5.setCell ⟨b.l, 0, none⟩ v5).cell? ⟨w2.heap.size, o, none⟩ = (t.cells G).toArray[o]?) := by
  have b3 := (Below.refl w2.heap.size w2).alloc (Nat.le_refl _) (.cells (t.cells G).toArray T)
  have b4 := b3.alloc b3.size (.cells (t.cells G).toArray T)
  have h4 := h.call b4
  have nl : some b.l ≠ lv.ownBlock := fun e => (h.d3 b.l e.symm).2.2.1 rfl
  have ll : b.l < w2.heap.size := World.block_lt_of_cell? w2 _ h.cl
  have ll4 : b.l < ((w2.alloc (.cells (t.cells G).toArray T)).alloc (.cells (t.cells G).toArray T)).heap.size := World.block_lt_of_cell? _ _ h4.cl
  refine ⟨kc hg h4.cl nl, kf hg ll4 h4.fl nl, h4.add t ht hr hg hat, fun o => ?_⟩
  have hz : ((w2.alloc (.cells (t.cells G).toArray T)).alloc (.cells (t.cells G).toArray T)).heap.size = w2.heap.size + 1 + 1 := by simp
  rw [World.cell?_setCell_other (h := fun e => by simp only [Addr.mk.injEq] at e; omega)]
  rw [World.cell?_of_block (w := (w2.alloc (.cells (t.cells G).toArray T)).alloc (.cells (t.cells G).toArray T)) (hg.block w2.heap.size (by omega) (fun e => by
    have := (h.row.lt w2.heap.size e.symm).2
    omega))]
  rw [World.cell?_alloc_lt (h := by show w2.heap.size < _; rw [World.size_alloc]; omega)]
  exact World.cell?_alloc_new w2 _ _ o
theorem keep2x {w w' : World} {X : Nat} {x y : Value} (hc : ∀ o, w.cell? ⟨X, o, none⟩ = (#[x, y] : Array Value)[o]?) (h : Below w.drew.heap.size w.drew w') : ∀ o, w'.cell? ⟨X, o, none⟩ = (#[x, y] : Array Value)[o]? := fun o => by
  have h2 : Below w.heap.size w w' := ⟨h.os, h.tape, h.output, h.size, h.block⟩
  have h0 : w.cell? ⟨X, 0, none⟩ = some x := hc 0
  rw [h2.cell (p := ⟨X, o, none⟩) (by have := World.block_lt_of_cell? _ _ h0; exact this)]; exact hc o
theorem MS.two {G : GE} {w0 : World} {b : MB} {w2 : World} {S : List Int} {ths : List Th} {lv : Value} (h : MS G w0 b w2 S ths lv) : ∀ o1 o2, ((w2.alloc o1).alloc o2).ownsRow w0.heap.size 112 2 lv ths.length (thCells G ths) ∧ w0.heap.size ≤ ((w2.alloc o1).alloc o2).heap.size := fun o1 o2 => by
  have h2 := h.call (((Below.refl _ _).alloc (Nat.le_refl _) o1).alloc (by simp) o2)
  exact ⟨h2.row, h2.be.size⟩
theorem MS.drawn {G : GE} {w0 : World} {b : MB} {w w' : World} {S : List Int} {ths : List Th} {lv : Value} (h : MS G w0 b w S ths lv) (hb : Below w.drew.heap.size w.drew w') : MS G w0 b w' S ths lv := h.call ⟨hb.os, hb.tape, hb.output, hb.size, hb.block⟩
/-- The call that meets what a thing leads to. -/
theorem meet_parts {G : GE} {w0 : World} {b : MB} {w : World} {S : List Int} {ths : List Th} {lv : Value} {m : Nat} {y : Int} {p K f0 : Nat} (hs : GSrc G w0) (ih : MeetT G w0 b m) (hm : MS G w0 b w S ths lv) (hsm : Same S ths) (k : Kin G y p K f0) (hf : ∀ z ∈ prts G.H y, FinW G.H m z) {a : Option Addr} (c : Nat) (ha : npr y K ≠ 0 → a = some ⟨G.sb p, G.so p + (if tagW y = 4 then 1 else 0), none⟩) :
    Calls Try.prog 90 #[.slice a (npr y K) c, .pointer (some ⟨b.m, 0, none⟩), .pointer (some ⟨b.g, 0, none⟩), .pointer (some ⟨b.l, 0, none⟩), .pointer (some ⟨b.f, 0, none⟩)] w (MeetP G w0 b (prts G.H y) ths) := by
  obtain ⟨h1, h2⟩ := parts_row hs k ha
  have h9 := k.k9
  have h3 : npr y K ≤ K := by unfold npr; split <;> (try split) <;> omega
  have := ih (prts G.H y) a c w S ths lv hm hsm h2 (by omega) hf (fun z hz => by
    by_cases h6 : tagW y = 6
    · rw [k.prb h6] at hz; exact absurd hz (by simp)
    · rw [k.prt h6] at hz
      obtain ⟨j, _, rfl⟩ := List.mem_map.1 hz
      unfold GE.w
      split
      · exact hs.big _
      · exact hs.bigy _)
  rw [h1] at this
  exact this
theorem oneTh {y : Int} {a : Option Addr} {K c : Nat} : ∀ u ∈ ([.int .i64 y, .slice a K c] : List Value), u.oneCell' = true := by
  intro u hu
  simp only [List.mem_cons, List.not_mem_nil, or_false] at hu
  rcases hu with rfl | rfl <;> rfl
set_option maxHeartbeats 8000000 in
set_option maxRecDepth 100000 in
theorem meet_of (G : GE) (w0 : World) (b : MB) (hs : GSrc G w0) (hN : G.N ≤ 1000) (hM : G.M ≤ 1000) (n : Nat) (ih : ∀ m, n = m + 1 → MeetT G w0 b m) : MeetT G w0 b n := by
  intro ys a c w S ths lv hm hsm hr hl hf hb
  have HS : Hid (GSrc G w0) := hs
  have HNM : Hid (G.N ≤ 1000 ∧ G.M ≤ 1000) := ⟨hN, hM⟩
  have IH : Hid (∀ m, n = m + 1 → MeetT G w0 b m) := ih
  have HM : Hid (MS G w0 b w S ths lv) := hm
  have HSM : Hid (Same S ths) := hsm
  have HR : Hid (Roots w0 a ys) := hr
  have HF : Hid (∀ y ∈ ys, FinW G.H n y) := hf
  have HB : Hid (∀ y ∈ ys, y ≤ 9223372036854775807) := hb
  have HL : Hid (ys.length ≤ 1048576) := hl
  obtain ⟨i0, hi, hz0, hz1, hz2⟩ := infoParts infoThing
  have HI : Hid (Try.prog.info? 112 = some i0 ∧ i0.zero = some (.agg #[.int .i64 0, .slice none 0 0]) ∧ i0.size = 2 ∧ i0.bytes = 32) := ⟨hi, hz0, hz1, hz2⟩
  clear hs hN hM ih hm hsm hr hf hb hi hz0 hz1 hz2
  go_enter Try.func90, Try.ntmps90
  go_wp2_with fail
  go_loopw [13] (fun i wr => ∃ (j : Nat) (S' : List Int) (new : List Th) (lv' : Value), i = .int .i64 j ∧ j ≤ ys.length ∧ MS G w0 b wr S' (ths ++ new) lv' ∧ Same S' (ths ++ new) ∧ Ext G (ys.take j) ths new) (fun i _ => ys.length - (intOf i).toNat)
  case atStart => exact ⟨0, S, [], lv, rfl, Nat.zero_le _, by rw [List.append_nil]; exact HM.out, by rw [List.append_nil]; exact HSM.out, Ext.nil G ths⟩
  case round =>
    obtain ⟨j, S', new, lv', rfl, hj, hms, hsame, hext⟩ := hrel
    by_cases hlt : j < ys.length
    case neg =>
      have hlti : ¬ (j : Int) < (ys.length : Int) := by omega
      have hje : j = ys.length := by omega
      have hfin : MeetP G w0 b ys ths (.returned (.tuple #[])) wr := ⟨_, S', new, lv', rfl, hms, hsame, by rw [hje, List.take_length] at hext; exact hext⟩
      clear hms hsame hext
      go_wp2_with fail
      go_end0
      exact hfin
    case pos =>
      have hlti : (j : Int) < (ys.length : Int) := by omega
      obtain ⟨rb, ro, ha, hc⟩ := HR.out (by omega)
      subst ha
      have hcy := hc j hlt
      have hcw : wr.cell? ⟨rb, ro + j, none⟩ = some (.int .i64 ys[j]) := by rw [hms.be.cell (p := ⟨rb, ro + j, none⟩) (World.block_lt_of_cell? _ _ hcy)]; exact hcy
      have hfy := HF.out ys[j] (List.getElem_mem hlt)
      have hby := HB.out ys[j] (List.getElem_mem hlt)
      have htk : ys.take (j + 1) = ys.take j ++ [ys[j]] := by rw [List.take_add_one, List.getElem?_eq_getElem hlt]; rfl
      obtain ⟨y, hy⟩ : ∃ y, ys[j] = y := ⟨_, rfl⟩
      rw [hy] at hcw hfy hby htk
      have HTK : Hid (ys.take (j + 1) = ys.take j ++ [y]) := htk
      have hy0 := hfy.nn
      have hkey := key_of hy0 hby
      obtain ⟨D, hD, hDS⟩ := hms.mp
      have hhas := hDS y hy0 hby
      have hcm := hms.cm
      have HMS : Hid (MS G w0 b wr S' (ths ++ new) lv') := hms
      have HSA : Hid (Same S' (ths ++ new)) := hsame
      have HEX : Hid (Ext G (ys.take j) ths new) := hext
      have HFY : Hid (FinW G.H n y ∧ 0 ≤ y ∧ y ≤ 9223372036854775807) := ⟨hfy, hy0, hby⟩
      have HOWN : Hid (wr.ownsMap Try.prog 3 (unitElem (H := Unit)) b.mb S'.length D) := hD
      have HDS : Hid (∀ x, 0 ≤ x → x ≤ 9223372036854775807 → Maps.has D (.int .i64 x) = decide (x ∈ S')) := hDS
      have HKEY : Hid (keyOf Try.prog 3 (.int .i64 y) = some (.int .i64 y)) := hkey
      have V1 : IntKind.i64.wrap ((j : Int) + 1) = ((j + 1 : Nat) : Int) := by rw [IntKind.wrap_i64]; omega
      clear hc hcy htk hfy hy hD hDS hkey hms hsame hext
      by_cases hin : y ∈ S'
      · have HH : Hid (Maps.has D (.int .i64 y) = true) := by show _ = _; rw [hhas]; exact decide_eq_true hin
        have HIN : Hid (y ∈ S') := hin
        clear hhas hin
        go_wp2_with (at_lookup; refine wpList_lookup_own_unit _ rfl _ _ 115 rfl 3 117 keyInt undSet (zeroUnit _) b.mb S'.length D rfl HOWN.out _ _ rfl HKEY.out ?_; rw [HH.out])
        go_roundw
        case rel =>
          refine ⟨j + 1, S', new, lv', by congr 1, by omega, HMS.out.call ((Below.refl _ _).alloc (Nat.le_refl _) _), HSA.out, ?_⟩
          rw [HTK.out]
          exact HEX.out.pass y (fun _ => (HSA.out.iff y).1 HIN.out)
        case measure => simp [intOf]; omega
      · have HH : Hid (Maps.has D (.int .i64 y) = false) := by show _ = _; rw [hhas]; exact decide_eq_false hin
        have HIN : Hid (y ∉ S') := hin
        clear hhas hin
        cases hld : leadsW y with
        | false =>
          have HLD : Hid (leadsW y = false) := hld
          clear hld
          go_wp2_with (first
            | (at_lookup; refine wpList_lookup_own_unit _ rfl _ _ 115 rfl 3 117 keyInt undSet (zeroUnit _) b.mb S'.length D rfl HOWN.out _ _ rfl HKEY.out ?_; rw [HH.out])
            | (go_at_call 88; refine (implLeads_any y HFY.out.2.2 _).mono ?_; rintro e w' ⟨rfl, hw'⟩; obtain rfl := hw'.symm; rw [HLD.out]))
          go_roundw
          case rel =>
            refine ⟨j + 1, S', new, lv', by congr 1, by omega, HMS.out.call ((Below.refl _ _).alloc (Nat.le_refl _) _), HSA.out, ?_⟩
            rw [HTK.out]
            exact HEX.out.pass y (fun h => by rw [HLD.out] at h; cases h)
          case measure => simp [intOf]; omega
        | true =>
          have HLD : Hid (leadsW y = true) := hld
          clear hld
          obtain ⟨m, hnm⟩ : ∃ m, n = m + 1 := by
            cases n with
            | zero => exact absurd HFY.out.1.2 (by rw [HLD.out]; simp)
            | succ m => exact ⟨m, rfl⟩
          have hfm : Fits G.H y ∧ ∀ z ∈ prts G.H y, FinW G.H m z := by
            have h1 := HFY.out.1
            rw [hnm] at h1
            exact h1.2 HLD.out
          obtain ⟨p, K, f0, hkin⟩ := kin_of hfm.1
          have HK : Hid (Kin G y p K f0) := hkin
          have HFM : Hid (∀ z ∈ prts G.H y, FinW G.H m z) := hfm.2
          have IHM : Hid (MeetT G w0 b m) := IH.out m hnm
          have hcm2 : ∀ o, (wr.alloc o).cell? ⟨b.m, 0, none⟩ = some (.map (some b.mb)) := fun o => (HMS.out.call ((Below.refl _ _).alloc (Nat.le_refl _) o)).cm
          have hfew := HSA.out.few HMS.out.ok HNM.out.1 HNM.out.2
          have C3 : Hid ((ths ++ new).length + 1 ≤ maxLen) := by show _ ≤ _; unfold maxLen; omega
          have C4 : Hid (((ths ++ new).length + 1) * 32 ≤ 140737488355328) := by show _ ≤ _; omega
          clear hnm hfm hkin hfew
          go_wp2_with (first
            | (at_lookup; refine wpList_lookup_own_unit _ rfl _ _ 115 rfl 3 117 keyInt undSet (zeroUnit _) b.mb S'.length D rfl HOWN.out _ _ rfl HKEY.out ?_; rw [HH.out])
            | (go_at_call 88; refine (implLeads_any y HFY.out.2.2 _).mono ?_; rintro e w' ⟨rfl, hw'⟩; obtain rfl := hw'.symm; rw [HLD.out])
            | (at_mapUpdate; refine wpList_mapUpdate_own _ rfl _ _ _ 115 rfl 3 117 keyInt undSet (unitElem (H := Unit)) b.mb S'.length D rfl (HOWN.out.alloc _) (by have h1 := HSA.out.few HMS.out.ok HNM.out.1 HNM.out.2; have h2 := HSA.out.len; unfold maxLen; omega) _ _ _ rfl rfl HKEY.out _ [] unitElem_mk ?_; intro w1 hown1 hgrow1; have HM1 : Hid (MS G w0 b w1 (y :: S') (ths ++ new) lv') := MS.put (HMS.out.call ((Below.refl _ _).alloc (Nat.le_refl _) _)) y HFY.out.2.1 HFY.out.2.2 (HOWN.out.alloc _) HDS.out hown1 hgrow1; have cg1 := HM1.out.cg; clear hown1 hgrow1)
            | (go_at_call 91; refine (thing_any HK.out HFY.out.2.2 _ (HS.out.below HM1.out.be)).mono ?_; rintro e w2 ⟨c2, rfl, hKc, hb2⟩; have HM2 : Hid (MS G w0 b w2 (y :: S') (ths ++ new) lv') := HM1.out.call hb2; have cl2 : ∀ o, (w2.alloc o).cell? ⟨b.l, 0, none⟩ = some lv' := fun o => (HM2.out.call ((Below.refl _ _).alloc (Nat.le_refl _) o)).cl; have HROW : Hid (∀ o1 o2, ((w2.alloc o1).alloc o2).ownsRow w0.heap.size 112 2 lv' (ths ++ new).length (thCells G (ths ++ new)) ∧ w0.heap.size ≤ ((w2.alloc o1).alloc o2).heap.size) := HM2.out.two; have HTO : Hid (Th.ok G ⟨y, p, K, f0, c2⟩) := ⟨HK.out, hKc, HFY.out.2.1, HFY.out.2.2, HLD.out⟩; clear hb2)
            | (at_builtin; refine wpList_append_own_at _ rfl _ _ 89 rfl w0.heap.size 112 i0 (.agg #[.int .i64 0, .slice none 0 0]) 2 32 undThings HI.out.1 HI.out.2.1 HI.out.2.2.1 HI.out.2.2.2 rfl (by decide) lv' (ths ++ new).length (thCells G (ths ++ new)) rfl (HROW.out _ _).1 ⟨_, 0, none⟩ 1 1 [.int .i64 y, .slice (some ⟨G.sb p, G.so p, none⟩) K c2] rfl rfl two_news2 oneTh C3.out C4.out (HROW.out _ _).2 ?_; intro v5 w5 hown5 hgr5 hnn5 hat5; obtain ⟨g5, c5, rfl⟩ := thForm hown5; obtain ⟨k1, k2, k3, k4⟩ := MS.lay HM2.out ⟨y, p, K, f0, c2⟩ HTO.out hown5 hgr5 hat5; have HM5 : Hid (MS G w0 b (w5.setCell ⟨b.l, 0, none⟩ (.slice (some ⟨g5, 0, none⟩) ((ths ++ new).length + 1) c5)) (y :: S') (ths ++ new ++ [⟨y, p, K, f0, c2⟩]) (.slice (some ⟨g5, 0, none⟩) ((ths ++ new).length + 1) c5)) := k3; have cf5 := k3.cf; have k5 : ∀ o, (w5.setCell ⟨b.l, 0, none⟩ (.slice (some ⟨g5, 0, none⟩) ((ths ++ new).length + 1) c5)).cell? ⟨w2.heap.size, o, none⟩ = (#[.int .i64 y, .slice (some ⟨G.sb p, G.so p, none⟩) K c2] : Array Value)[o]? := k4; clear hown5 hgr5 hnn5 hat5 k3 k4))
          simp only [List.length_append] at HM5 cf5 k5
          generalize w5.setCell ⟨b.l, 0, none⟩ (.slice (some ⟨g5, 0, none⟩) (ths.length + new.length + 1) c5) = W5 at HM5 cf5 k5 ⊢
          generalize (Value.slice (some ⟨g5, 0, none⟩) (ths.length + new.length + 1) c5) = lv5 at HM5 ⊢
          have HSM5 : Hid (Same (y :: S') (ths ++ new ++ [⟨y, p, K, f0, c2⟩])) := HSA.out.more ⟨y, p, K, f0, c2⟩ HIN.out
          clear hcm hcm2 hcw k1 k2 cl2 cg1 HROW HM2 HM1 HMS HOWN HDS HKEY HH
          go_region_law (go_simp; go_wp2_with (first
            | (go_at_call 87; refine (parts_any y _ _ K c2 HFY.out.2.2 HK.out.k1 HK.out.k9 hKc _).mono ?_; rintro e w6 ⟨a6, c6, rfl, ha6, hb6⟩; have HM6 : Hid (MS G w0 b w6 (y :: S') (ths ++ new ++ [⟨y, p, K, f0, c2⟩]) lv5) := HM5.out.drawn hb6; have cf6 := HM6.out.cf; have HC6 : Hid (Calls Try.prog 90 #[.slice a6 (npr y K) c6, .pointer (some ⟨b.m, 0, none⟩), .pointer (some ⟨b.g, 0, none⟩), .pointer (some ⟨b.l, 0, none⟩), .pointer (some ⟨b.f, 0, none⟩)] w6 (MeetP G w0 b (prts G.H y) (ths ++ new ++ [⟨y, p, K, f0, c2⟩]))) := meet_parts HS.out IHM.out HM6.out HSM5.out HK.out HFM.out c6 ha6; clear hb6 ha6)
            | (go_at_call 90; refine HC6.out.mono ?_; rintro e w7 ⟨v7, S7, new7, lv7, rfl, hm7, hs7, hx7⟩; have HM7 : Hid (MS G w0 b w7 S7 (ths ++ new ++ [⟨y, p, K, f0, c2⟩] ++ new7) lv7 ∧ Same S7 (ths ++ new ++ [⟨y, p, K, f0, c2⟩] ++ new7) ∧ Ext G (prts G.H y) (ths ++ new ++ [⟨y, p, K, f0, c2⟩]) new7) := ⟨hm7, hs7, hx7⟩; clear hm7 hs7 hx7)))
          all_goals (
            go_wp2_with fail
            go_roundw
            case rel =>
              have ass : ths ++ new ++ [⟨y, p, K, f0, c2⟩] ++ new7 = ths ++ (new ++ [⟨y, p, K, f0, c2⟩] ++ new7) := by simp
              obtain ⟨q1, q2, q3⟩ := HM7.out
              have q4 := HEX.out.meet ⟨y, p, K, f0, c2⟩ HLD.out q3
              rw [ass] at q1 q2
              refine ⟨j + 1, S7, _, lv7, by congr 1, by omega, q1, q2, ?_⟩
              rw [HTK.out]
              exact q4
            case measure => simp [intOf]; omega)
end Go.Proofs.Ythdoamdjhpkimaa.Gn

namespace Go.Proofs.Ythdoamdjhpkimaa.Gn
open Go.RowKit Go.Maps
set_option linter.unusedVariables false

theorem meet_any (G : GE) (w0 : World) (b : MB) (hs : GSrc G w0) (hN : G.N ≤ 1000) (hM : G.M ≤ 1000) : ∀ n, MeetT G w0 b n
  | 0 => meet_of G w0 b hs hN hM 0 (fun m h => absurd h (by omega))
  | n + 1 => meet_of G w0 b hs hN hM (n + 1) (fun m h => by
    have e : m = n := by omega
    rw [e]; exact meet_any G w0 b hs hN hM n)
theorem ms_start (G : GE) (w : World) (t1 t2 t3 t4 : TypeId) :
    MS G w ⟨w.heap.size + 1 + 1 + 1 + 1, w.heap.size, w.heap.size + 1 + 1, w.heap.size + 1 + 1 + 1 + 1 + 1, w.heap.size + 1 + 1 + 1⟩
      ((((((w.alloc (.cells #[.slice G.wv G.N G.cap, .slice G.yv G.M G.ycap, .int .i64 G.mark] t1)).alloc (.cells #[] 112)).alloc (.cells #[.slice (some ⟨w.heap.size + 1, 0, none⟩) 0 0] t2)).alloc (.map #[] 0)).alloc (.cells #[.map (some (w.heap.size + 1 + 1 + 1))] t3)).alloc (.cells #[.func (.func 90) #[] #[.pointer (some ⟨w.heap.size + 1 + 1 + 1 + 1, 0, none⟩), .pointer (some ⟨w.heap.size, 0, none⟩), .pointer (some ⟨w.heap.size + 1 + 1, 0, none⟩), .pointer (some ⟨w.heap.size + 1 + 1 + 1 + 1 + 1, 0, none⟩)]] t4))
      [] [] (.slice (some ⟨w.heap.size + 1, 0, none⟩) 0 0) := by
  have B : Below w.heap.size w w := Below.refl _ _
  have hb := fun o1 o2 o3 o4 o5 o6 => (((((B.alloc (Nat.le_refl _) o1).alloc (by simp) o2).alloc (by simp <;> omega) o3).alloc (by simp <;> omega) o4).alloc (by simp <;> omega) o5).alloc (by simp <;> omega) o6
  refine ⟨hb _ _ _ _ _ _, ?_, fun o => ?_, ?_, ?_, ?_, ⟨.map [], ?_, fun x _ _ => by simp [Maps.has]⟩, ?_, by simp, ?_, ?_, ?_, ?_, ?_, ?_, ?_, ?_⟩
  · rw [World.cell?_alloc_past (hn := by simp), World.cell?_alloc_at (hn := by simp)]; rfl
  · rw [World.cell?_alloc_past (hn := by simp <;> omega), World.cell?_alloc_past (hn := by simp <;> omega), World.cell?_alloc_past (hn := by simp <;> omega), World.cell?_alloc_past (hn := by simp <;> omega), World.cell?_alloc_past (hn := by simp), World.cell?_alloc_at (hn := by simp)]
  · rw [World.cell?_alloc_past (hn := by simp <;> omega), World.cell?_alloc_past (hn := by simp <;> omega), World.cell?_alloc_past (hn := by simp), World.cell?_alloc_at (hn := by simp)]; rfl
  · rw [World.frozen?_alloc_past (hn := by simp <;> omega), World.frozen?_alloc_past (hn := by simp <;> omega), World.frozen?_alloc_past (hn := by simp), World.frozen?_alloc_at (hn := by simp)]
  · rw [World.cell?_alloc_at (hn := by simp)]; rfl
  · have h := World.ownsMap_made (H := Unit) (((w.alloc (.cells #[.slice G.wv G.N G.cap, .slice G.yv G.M G.ycap, .int .i64 G.mark] t1)).alloc (.cells #[] 112)).alloc (.cells #[.slice (some ⟨w.heap.size + 1, 0, none⟩) 0 0] t2)) Try.prog 3 unitElem
    rw [World.size_alloc, World.size_alloc, World.size_alloc] at h
    exact (h.alloc _).alloc _
  · have h := World.ownsRow_made (w.alloc (.cells #[.slice G.wv G.N G.cap, .slice G.yv G.M G.ycap, .int .i64 G.mark] t1)) (base := w.heap.size) (e := 112) (size := 2) #[] 0 (by simp) (Nat.zero_le _) rfl
    rw [World.size_alloc] at h
    exact (((h.alloc _).alloc _).alloc _).alloc _
  all_goals (try (show _ ≤ _; simp <;> omega))
  · simp <;> omega
  · simp <;> omega
  · intro g hg
    have e : w.heap.size + 1 = g := by simpa [Value.ownBlock] using hg
    subst e
    simp
structure ThP (G : GE) (w : World) (R : List Int) (ths : List Th) (lv : Value) (w' : World) : Prop where
  row : w'.ownsRow w.heap.size 112 2 lv ths.length (thCells G ths)
  ok : ∀ t ∈ ths, Th.ok G t
  met : Met G.H R (ths.map Th.x)
  be : Below w.heap.size w w'
  few : ths.length ≤ 1600008
theorem ths_end {G : GE} {w w' : World} {b : MB} {S R : List Int} {new : List Th} {lv : Value} (hm : MS G w b w' S ([] ++ new) lv) (hsm : Same S ([] ++ new)) (hx : Ext G R [] new) (hN : G.N ≤ 1000) (hM : G.M ≤ 1000) : ThP G w R new lv w' := by
  rw [List.nil_append] at hm hsm
  have x1 := hx.roots
  have x2 := hx.shut
  rw [List.nil_append] at x1 x2
  refine ⟨hm.row, hm.ok, ⟨fun x h1 h2 => ?_, fun y hy z hz h2 => ?_, fun y hy => ?_⟩, hm.be, hsm.few hm.ok hN hM⟩
  · obtain ⟨t, ht, rfl⟩ := x1 x h1 h2
    exact List.mem_map.2 ⟨t, ht, rfl⟩
  · obtain ⟨t, ht, rfl⟩ := List.mem_map.1 hy
    obtain ⟨u, hu, rfl⟩ := x2 t ht z hz h2
    exact List.mem_map.2 ⟨u, hu, rfl⟩
  · obtain ⟨t, ht, rfl⟩ := List.mem_map.1 hy
    exact ⟨(hm.ok t ht).ld, hx.from' t ht⟩
def ThsP (G : GE) (w : World) (R : List Int) (e : Ending) (w' : World) : Prop := ∃ ths lv, e = .returned lv ∧ ThP G w R ths lv w'
set_option maxHeartbeats 8000000 in
set_option maxRecDepth 100000 in
theorem things_any {G : GE} {w : World} (hs : GSrc G w) (hN : G.N ≤ 1000) (hM : G.M ≤ 1000) (R : List Int) (rv : Option Addr) (c n : Nat) (hr : Roots w rv R) (hl : R.length ≤ 1048576) (hf : ∀ y ∈ R, FinW G.H n y) (hb : ∀ y ∈ R, y ≤ 9223372036854775807) :
    Calls Try.prog 62 #[G.v, .slice rv R.length c] w (ThsP G w R) := by
  have hmm := @run_makeMap Try.prog
  have HS : Hid (GSrc G w) := hs
  have HM : Hid (∀ b W S ths lv, MS G w b W S ths lv → Same S ths → Calls Try.prog 90 #[.slice rv R.length c, .pointer (some ⟨b.m, 0, none⟩), .pointer (some ⟨b.g, 0, none⟩), .pointer (some ⟨b.l, 0, none⟩), .pointer (some ⟨b.f, 0, none⟩)] W (MeetP G w b R ths)) := fun b W S ths lv h1 h2 => meet_any G w b hs hN hM n R rv c W S ths lv h1 h2 hr hl hf hb
  have HNM : Hid (G.N ≤ 1000 ∧ G.M ≤ 1000) := ⟨hN, hM⟩
  clear hs hN hM hr hl hf hb
  go_enter Try.func62, Try.ntmps62
  have H0 := ms_start G w 57 89 115 116
  have HM0 : Hid (MS G w _ _ [] [] _) := H0
  clear H0
  go_wp2_with (go_at_call 90; refine (HM.out _ _ _ _ _ HM0.out ⟨by simp, rfl, by simp⟩).mono ?_; rintro e w7 ⟨v7, S7, new7, lv7, rfl, hm7, hs7, hx7⟩; have cl7 := hm7.cl; have HM7 : Hid (ThP G w R new7 lv7 w7) := ths_end hm7 hs7 hx7 HNM.out.1 HNM.out.2; clear hm7 hs7 hx7)
  go_ret
  exact ⟨new7, lv7, rfl, HM7.out⟩
end Go.Proofs.Ythdoamdjhpkimaa.Gn
