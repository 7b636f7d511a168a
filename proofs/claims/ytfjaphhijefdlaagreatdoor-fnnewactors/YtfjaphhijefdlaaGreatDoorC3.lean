/-
  A new actor, the program's.
  (Ahead of it, in this text: What a copy that is being made has in hand; its listOf. A copy that is being made: what its lists are when all is done. What the copying of terms has in hand, step by step. The open lists of a copying: the last is taken, and is done; all are done. ownTerms: a copy of terms in memory of its own. A term in memory of its own (the program's copy of one term). slices.Repeat of the list of one TInt 0, eight times. A term in memory of its own; a new actor, the program's.)
-/
import Derived.Test.YtfjaphhijefdlaaGreatDoorC2
import Derived.Deep.RegionWith
import Derived.Carry
import Derived.Test.YtfjaphhijefdlaaGreatDoorC1
import Derived.Test.YtfjaphhijefdlaaGreatDoorShelg
import Derived.Laws.CopyRow
import Derived.Deep.RegionLaw
import Derived.RegionTactic
import Derived.Test.YtfjaphhijefdlaaGreatDoorC11
namespace Go.Proofs.YtfjaphhijefdlaaGreatDoor
open Go.RowKit
set_option linter.unusedVariables false

/-- A list that was copied, but not yet what stands in it. -/
structure Ps where
  g : Nat
  c : Nat
  m : List Tm
  ob : List Nat
def psV (x : Ps) : Value := .slice (some ⟨x.g, 0, none⟩) x.m.length x.c
structure Ps.ok (w : World) (x : Ps) : Prop where
  row : OsR w x.m x.ob x.g 0
  free : ∀ o, w.frozen? ⟨x.g, o, none⟩ = false
  le : x.m.length ≤ x.c
  max : x.c ≤ maxLen
  siz : Szd w x.g x.c
/-- C: the block of the copying, mb: its map, ov: its open lists. S: the lists that were met. -/
structure Cp (w0 w : World) (C mb : Nat) (ov : Value) (st : List Ps) (nn : Nat) (S : Nat → Nat → Prop) : Prop where
  be : Below w0.heap.size w0 w
  c0 : w.cell? ⟨C, 0, none⟩ = some ov
  c1 : w.cell? ⟨C, 1, none⟩ = some (.map (some mb))
  c2 : w.cell? ⟨C, 2, none⟩ = some (.int .i64 nn)
  fz : ∀ o, w.frozen? ⟨C, o, none⟩ = false
  own : w.ownsRow w0.heap.size 24 1 ov st.length (st.map psV)
  mp : NmMap w mb S
  old : ∀ b o, S b o → b < w0.heap.size
  hC : w0.heap.size ≤ C
  hm : w0.heap.size ≤ mb
  ne1 : C ≠ mb
  ne2 : ∀ g, ov.ownBlock = some g → g ≠ C ∧ g ≠ mb
theorem Cp.slice {w0 w : World} {C mb : Nat} {ov : Value} {st : List Ps} {nn : Nat} {S : Nat → Nat → Prop} (h : Cp w0 w C mb ov st nn S) : ∃ a c, ov = .slice a st.length c := by
  obtain ⟨_, h1 | ⟨g, c, cur, e, _⟩⟩ := h.own
  · exact ⟨none, 0, by rw [h1.1, h1.2]⟩
  · exact ⟨_, c, e⟩
/-- A call that makes new memory alone. -/
theorem Cp.call {w0 w w' : World} {C mb : Nat} {ov : Value} {st : List Ps} {nn : Nat} {S : Nat → Nat → Prop} (h : Cp w0 w C mb ov st nn S) (hb : Below w.heap.size w w') : Cp w0 w' C mb ov st nn S := by
  have hg : w.grownBy w' none := ⟨hb.os, hb.tape, hb.output, hb.size, fun k hk _ => hb.block k hk⟩
  have hCl := World.block_lt_of_cell? w _ h.c0
  have hml : mb < w.heap.size := by
    obtain ⟨es, clk, hm, _⟩ := h.mp
    rcases Nat.lt_or_ge mb w.heap.size with h | h
    · exact h
    · rw [Array.getElem?_eq_none h] at hm; cases hm
  refine ⟨h.be.trans (hb.mono h.be.size), ?_, ?_, ?_, fun o => ?_, h.own.kept hg (by by_cases e : ov.ownBlock = none; exact Or.inl e; exact Or.inr e), h.mp.keep (hb.block mb hml) (fun b o hs hp => ?_), h.old, h.hC, h.hm, h.ne1, h.ne2⟩
  · rw [hb.cell (p := ⟨C, 0, none⟩) hCl]; exact h.c0
  · rw [hb.cell (p := ⟨C, 1, none⟩) hCl]; exact h.c1
  · rw [hb.cell (p := ⟨C, 2, none⟩) hCl]; exact h.c2
  · rw [hb.frozen (p := ⟨C, o, none⟩) hCl]; exact h.fz o
  · have hbl : b < w.heap.size := Nat.lt_of_lt_of_le (h.old b o hs) h.be.size
    obtain ⟨⟨c, t, f, hh⟩, hf⟩ := hp
    exact ⟨⟨c, t, f, (hb.block b hbl).trans hh⟩, fun x => by rw [hb.frozen (p := ⟨b, x, none⟩) hbl]; exact hf x⟩
/-- Whatever a listOf leaves alone. -/
structure Lf (C mb : Nat) (ov : Value) (w w' : World) : Prop where
  os : w'.os = w.os
  tape : w'.tape = w.tape
  output : w'.output = w.output
  size : w.heap.size ≤ w'.heap.size
  block : ∀ k, k < w.heap.size → k ≠ C → k ≠ mb → ov.ownBlock ≠ some k → w'.heap[k]? = w.heap[k]?

theorem listOf_none (C : Nat) (ao : Option Addr) (cap : Nat) (w : World) :
    Calls Tryz.prog 53 #[.pointer (some ⟨C, 0, none⟩), .slice ao 0 cap] w fun e w' => e = .returned (.slice none 0 0) ∧ w' = w := by
  go_enter Tryz.func53, Tryz.ntmps53
  go_wp2_with fail
  go_ret
  exact ⟨rfl, rfl⟩

theorem ownsRow_set9 {w : World} {base : Nat} {e : TypeId} {size n : Nat} {v : Value} {xs : List Value} (h : w.ownsRow base e size v n xs) {b o : Nat} (hb : v.ownBlock ≠ some b) (u : Value) : (w.setCell ⟨b, o, none⟩ u).ownsRow base e size v n xs := by
  obtain ⟨h1, h2⟩ := h
  refine ⟨h1, ?_⟩
  rcases h2 with h2 | ⟨g', cap', cur, hv, hg, hh, r⟩
  · exact Or.inl h2
  · refine Or.inr ⟨g', cap', cur, hv, hg, ?_, r⟩
    rw [Below.heap_setCell _ _ _ _ (by show g' ≠ b; intro q; subst q; exact hb (by rw [hv]; rfl))]
    exact hh
theorem own_base {w : World} {base : Nat} {e : TypeId} {size n : Nat} {v : Value} {xs : List Value} (h : w.ownsRow base e size v n xs) {k : Nat} (hk : v.ownBlock = some k) : base ≤ k ∧ k < w.heap.size := by
  obtain ⟨_, hh | ⟨g, c, cur, e1, e2, e3, _⟩⟩ := h
  · rw [hh.1] at hk; cases hk
  · rw [e1] at hk
    simp only [Value.ownBlock, Option.some.injEq] at hk
    subst hk
    refine ⟨e2, ?_⟩
    rcases Nat.lt_or_ge g w.heap.size with h | h
    · exact h
    · rw [Array.getElem?_eq_none h] at e3; cases e3
theorem infoTmsS : (Tryz.prog.info? 24).map (fun i => (i.zero, i.size, i.bytes)) = some (some (.slice none 0 0), 1, 24) := by kernel_rfl
theorem undTmsS : Tryz.prog.underlying 106 = some (.slice 24) := by kernel_rfl
theorem src9 (w : World) (x : Value) (t : TypeId) : ∀ j u, [x][j]? = some u → (w.alloc (.cells #[x] t)).cell? ((⟨w.heap.size, 0, none⟩ : Addr).add j) = some u := fun j u hu => by
  match j, hu with
  | 0, hu => simp at hu; subst hu; simp [Addr.add]
theorem one9 (a : Option Addr) (n c : Nat) : ∀ u ∈ [Value.slice a n c], u.oneCell' = true := fun u hu => by
  simp at hu; subst hu; rfl
theorem form9 {w : World} {base : Nat} {e : TypeId} {n : Nat} {v : Value} {xs : List Value} (h : w.ownsRow base e 1 v (n + 1) xs) : ∃ g c, v = .slice (some ⟨g, 0, none⟩) (n + 1) c := by
  obtain ⟨_, hh | ⟨g, c, cur, e1, _⟩⟩ := h
  · exact absurd hh.2 (by omega)
  · exact ⟨g, c, e1⟩
theorem NmMap.lt {w : World} {mb : Nat} {S : Nat → Nat → Prop} (h : NmMap w mb S) : mb < w.heap.size := by
  obtain ⟨es, clk, hm, _⟩ := h
  rcases Nat.lt_or_ge mb w.heap.size with h | h
  · exact h
  · rw [Array.getElem?_eq_none h] at hm; cases hm
/-- What listOf leaves: the map, the open lists and the count are written. -/
theorem Cp.lay {w0 w2 w3 W3 w4 : World} {C mb : Nat} {ov v' : Value} {st : List Ps} {nn : Nat} {S S' : Nat → Nat → Prop} {x : Ps} (h : Cp w0 w2 C mb ov st nn S) (ht : Turn mb w2 w3) (hm : NmMap w3 mb S') (hS' : ∀ b o, S' b o → b < w0.heap.size) (hb3 : Below w3.heap.size w3 W3)
    (hown : w4.ownsRow w0.heap.size 24 1 v' (st.length + 1) (st.map psV ++ [psV x])) (hgr : W3.grownBy w4 ov.ownBlock) (hat : v'.ownBlock = ov.ownBlock ∨ v'.ownBlock = some W3.heap.size) (nn' : Nat) :
    Cp w0 ((w4.setCell ⟨C, 0, none⟩ v').setCell ⟨C, 2, none⟩ (.int .i64 nn')) C mb v' (st ++ [x]) nn' S' ∧ Lf C mb ov w2 ((w4.setCell ⟨C, 0, none⟩ v').setCell ⟨C, 2, none⟩ (.int .i64 nn')) ∧ (v'.ownBlock = ov.ownBlock ∨ ∃ k, v'.ownBlock = some k ∧ w2.heap.size ≤ k) := by
  have hC2 : C < w2.heap.size := World.block_lt_of_cell? w2 _ h.c0
  have hm2 := h.mp.lt
  have z23 := ht.size
  have z3 := hb3.size
  have z4 := hgr.size
  have hne : some C ≠ ov.ownBlock := fun e => (h.ne2 C e.symm).1 rfl
  have hnm : some mb ≠ ov.ownBlock := fun e => (h.ne2 mb e.symm).2 rfl
  have K4 : ∀ k, k < w3.heap.size → ov.ownBlock ≠ some k → w4.heap[k]? = w3.heap[k]? := fun k hk hn => (hgr.block k (by omega) (fun e => hn e.symm)).trans (hb3.block k hk)
  have K : ∀ k, k < w2.heap.size → k ≠ mb → ov.ownBlock ≠ some k → w4.heap[k]? = w2.heap[k]? := fun k hk h1 h2 => (K4 k (by omega) h2).trans (ht.block k hk h1)
  have F : ∀ k, k ≠ C → ((w4.setCell ⟨C, 0, none⟩ v').setCell ⟨C, 2, none⟩ (.int .i64 nn')).heap[k]? = w4.heap[k]? := fun k hk => by
    rw [Below.heap_setCell _ ⟨C, 2, none⟩ _ k hk, Below.heap_setCell _ ⟨C, 0, none⟩ _ k hk]
  have hCb := K C hC2 h.ne1 (fun e => hne e.symm)
  have q0 : w4.cell? ⟨C, 0, none⟩ = some ov := (World.cell?_of_block (w := w2) hCb).trans h.c0
  have q1 : w4.cell? ⟨C, 1, none⟩ = some (.map (some mb)) := (World.cell?_of_block (w := w2) hCb).trans h.c1
  have q2 : w4.cell? ⟨C, 2, none⟩ = some (.int .i64 nn) := (World.cell?_of_block (w := w2) hCb).trans h.c2
  have hv1 : v'.ownBlock ≠ some C := fun e => by
    rcases hat with h1 | h1
    · rw [h1] at e; exact hne e.symm
    · rw [h1] at e; injection e with e; omega
  have hv2 : v'.ownBlock ≠ some mb := fun e => by
    rcases hat with h1 | h1
    · rw [h1] at e; exact hnm e.symm
    · rw [h1] at e; injection e with e; omega
  have LF : Lf C mb ov w2 ((w4.setCell ⟨C, 0, none⟩ v').setCell ⟨C, 2, none⟩ (.int .i64 nn')) :=
    ⟨hgr.os.trans (hb3.os.trans ht.os), hgr.tape.trans (hb3.tape.trans ht.tape), hgr.output.trans (hb3.output.trans ht.output), by rw [World.size_setCell, World.size_setCell]; omega, fun k hk h1 h2 h3 => (F k h1).trans (K k hk h2 h3)⟩
  refine ⟨⟨?_, ?_, ?_, ?_, fun o => ?_, ?_, ?_, hS', h.hC, h.hm, h.ne1, fun g hg => ⟨fun e => hv1 (by rw [hg, e]), fun e => hv2 (by rw [hg, e])⟩⟩, LF, ?_⟩
  · refine ⟨LF.os.trans h.be.os, LF.tape.trans h.be.tape, LF.output.trans h.be.output, Nat.le_trans h.be.size LF.size, fun k hk => ?_⟩
    have h1 := h.hC
    have h2 := h.hm
    have h3 := h.be.size
    rw [LF.block k (by omega) (by omega) (by omega) (fun e => by have := (own_base h.own e).1; omega)]
    exact h.be.block k hk
  · rw [World.cell?_setCell_other (h := fun e => by simp only [Addr.mk.injEq] at e; omega)]
    exact World.cell?_setCell_same _ _ _ q0
  · rw [World.cell?_setCell_other (h := fun e => by simp only [Addr.mk.injEq] at e; omega), World.cell?_setCell_other (h := fun e => by simp only [Addr.mk.injEq] at e; omega)]
    exact q1
  · refine World.cell?_setCell_same _ _ _ (u := .int .i64 nn) ?_
    rw [World.cell?_setCell_other (h := fun e => by simp only [Addr.mk.injEq] at e; omega)]
    exact q2
  · rw [World.frozen?_setCell, World.frozen?_setCell, World.frozen?_of_block (w := w2) hCb]; exact h.fz o
  · rw [List.length_append, List.map_append]
    exact ownsRow_set9 (ownsRow_set9 hown hv1 _) hv1 _
  · refine hm.keep ?_ (fun b o hs hp => ?_)
    · rw [F mb (fun e => h.ne1 e.symm)]; exact K4 mb (by omega) (fun e => hnm e.symm)
    · have hb0 := hS' b o hs
      have h1 := h.hC
      have h3 := h.be.size
      have hov : ov.ownBlock ≠ some b := fun e => by have := (own_base h.own e).1; omega
      have hbb : ((w4.setCell ⟨C, 0, none⟩ v').setCell ⟨C, 2, none⟩ (.int .i64 nn')).heap[b]? = w3.heap[b]? := (F b (by omega)).trans (K4 b (by omega) hov)
      obtain ⟨⟨c, t, f, hh⟩, hf⟩ := hp
      exact ⟨⟨c, t, f, hbb.trans hh⟩, fun y => by rw [World.frozen?_of_block (w := w3) hbb]; exact hf y⟩
  · rcases hat with h1 | h1
    · exact .inl h1
    · exact .inr ⟨_, h1, by omega⟩

set_option maxHeartbeats 1000000 in
set_option maxRecDepth 100000 in
theorem listOf_any (w0 w : World) (C mb : Nat) (ov : Value) (st : List Ps) (nn : Nat) (S : Nat → Nat → Prop) (hcp : Cp w0 w C mb ov st nn S) (l : List Tm) (hl : l ≠ []) (b o cap : Nat) (bs : List Nat) (hos : OsL w l (b :: bs) (some ⟨b, o, none⟩)) (hold : b < w0.heap.size) (hlen : l.length ≤ 4194304) (hnn : nn ≤ 4194304) (hst : st.length ≤ 4194304) (hbs : ∀ x ∈ bs, x < w0.heap.size) (hnew : S b o → nn ≤ 10000) :
    Calls Tryz.prog 53 #[.pointer (some ⟨C, 0, none⟩), .slice (some ⟨b, o, none⟩) l.length cap] w fun e w' => ∃ g c ov', e = .returned (.slice (some ⟨g, 0, none⟩) l.length c) ∧ Ps.ok w' ⟨g, c, l, bs⟩ ∧ w.heap.size ≤ g ∧ Cp w0 w' C mb ov' (st ++ [⟨g, c, l, bs⟩]) (nn + l.length) (fun x y => S x y ∨ (x = b ∧ y = o)) ∧ Lf C mb ov w w' ∧ (ov'.ownBlock = ov.ownBlock ∨ ∃ k, ov'.ownBlock = some k ∧ w.heap.size ≤ k ∧ k ≠ g) := by
  have hpos : l.length ≠ 0 := fun e => hl (List.eq_nil_of_length_eq_zero e)
  have q0 : ((l.length : Int) == 0) = false := by simp; omega
  obtain ⟨g0, o0, b0, e1, e2, hfz, hrow⟩ := (OsL.iff hl).1 hos
  simp only [Option.some.injEq, Addr.mk.injEq, and_true] at e2
  obtain ⟨rfl, rfl⟩ := e2
  simp only [List.cons.injEq, true_and] at e1
  obtain rfl := e1
  have HPL : Hid (Plain w b) := OsL.plain hl hos
  have HCP : Hid (Cp w0 w C mb ov st nn S) := hcp
  have HROW : Hid (OsR w l bs b o) := hrow
  have HNM : Hid (∀ w', Calls Tryz.prog 47 #[.slice (some ⟨b, o, none⟩) l.length cap] w' fun e w'' => e = .returned (nmV b o l.length) ∧ Below w'.heap.size w' w'') := fun w' => nameOf_any b o l.length cap w' hpos
  clear hcp hos hfz hrow hpos
  go_enter Tryz.func53, Tryz.ntmps53
  go_wp2_with (go_at_call 47; fail)
  refine (HNM.out _).mono ?_
  rintro e w1 ⟨rfl, hb1⟩
  obtain ⟨W1, hW1⟩ : ∃ W1, W1 = w1.alloc (.cells #[.pointer (some ⟨b, o, none⟩), .int .i64 l.length] 92) := ⟨_, rfl⟩
  have hbW : Below w.heap.size w W1 := by rw [hW1]; exact hb1.alloc hb1.size _
  have HCW : Hid (Cp w0 W1 C mb ov st nn S) := HCP.out.call hbW
  have HPW : Hid (Plain W1 b) := by
    obtain ⟨⟨c, t, f, h1⟩, h2⟩ := HPL.out
    have hbl : b < w.heap.size := by
      rcases Nat.lt_or_ge b w.heap.size with h | h
      · exact h
      · rw [Array.getElem?_eq_none h] at h1; cases h1
    exact ⟨⟨c, t, f, (hbW.block b hbl).trans h1⟩, fun x => by rw [hbW.frozen (p := ⟨b, x, none⟩) hbl]; exact h2 x⟩
  obtain ⟨la, ll, lc, lq, hlk, hlS⟩ := lookup_all (o := o) (n := (l.length : Int)) HCW.out.mp HPW.out
  have hlk' : ∀ k, (Instr.lookup 105 (.map (some mb)) (nmV b o l.length) true).run Tryz.prog (W1.drewN k) = .ok (.tuple #[.slice la ll lc, .bool lq]) (W1.drewN k) := fun k => hlk _ rfl
  have k0 := HCW.out.c0
  have k1 := HCW.out.c1
  have k2 := HCW.out.c2
  have kn : ∀ x, W1.cell? ⟨w1.heap.size, x, none⟩ = (#[.pointer (some ⟨b, o, none⟩), .int .i64 l.length] : Array Value)[x]? := fun x => by rw [hW1, World.cell?_alloc_new]
  have HLS : Hid (lq = true → nn ≤ 10000) := fun h => hnew (hlS h)
  go_wp2_with fail
  rw [← hW1]
  clear hlk hlS hW1
  go_quiet (fail)
  obtain ⟨WD, hWD⟩ : ∃ WD, WD = W1.drewN nq := ⟨_, rfl⟩
  rw [← hWD]
  have HCD : Hid (Cp w0 WD C mb ov st nn S) := by rw [hWD]; exact HCW.out.call (below_drewN (Below.refl _ _) nq)
  have d2 := HCD.out.c2
  have HBD : Hid (Below w.heap.size w WD) := by rw [hWD]; exact below_drewN hbW nq
  have knD : ∀ x, WD.cell? ⟨w1.heap.size, x, none⟩ = (#[.pointer (some ⟨b, o, none⟩), .int .i64 l.length] : Array Value)[x]? := fun x => by rw [hWD]; simp [kn]
  have hzn : w1.heap.size < WD.heap.size := by
    have : WD.cell? ⟨w1.heap.size, 0, none⟩ = some (.pointer (some ⟨b, o, none⟩)) := knD 0
    exact World.block_lt_of_cell? WD _ this
  clear hWD hbW hb1 hlk' k0 k1 k2 kn HCW HPW
  have HRD : Hid (OsR WD l bs b o) := OsR.keep l bs b o (fun x hx hl => HBD.out.block x hl) (fun x v _ _ hv => by rw [HBD.out.cell (p := ⟨b, x, none⟩) (World.block_lt_of_cell? w _ hv)]; exact hv) HROW.out
  have HPD : Hid (Plain WD b) := by
    obtain ⟨⟨c, t, f, h1⟩, h2⟩ := HPL.out
    have hbl : b < w.heap.size := by
      rcases Nat.lt_or_ge b w.heap.size with h | h
      · exact h
      · rw [Array.getElem?_eq_none h] at h1; cases h1
    exact ⟨⟨c, t, f, (HBD.out.block b hbl).trans h1⟩, fun x => by rw [HBD.out.frozen (p := ⟨b, x, none⟩) hbl]; exact h2 x⟩
  have HCL : Hid (Calls Tryz.prog 69 #[.slice (some ⟨b, o, none⟩) l.length cap] WD fun e w' => ∃ g c, e = .returned (.slice (some ⟨g, 0, none⟩) l.length c) ∧ l.length ≤ c ∧ c ≤ maxLen ∧ WD.heap.size ≤ g ∧ g < w'.heap.size ∧ OsR w' l bs g 0 ∧ (∀ x, w'.frozen? ⟨g, x, none⟩ = false) ∧ Below WD.heap.size WD w' ∧ Szd w' g c) :=
    clone_any l bs b o cap WD HRD.out hl hlen (fun x hx => Nat.lt_of_lt_of_le (hbs x hx) HCD.out.be.size)
  cases lq
  all_goals
    first
      | (have hle : (nn : Int) ≤ 10000 := by have := HLS.out rfl; omega)
      | skip
    go_wp2_with (go_at_call 69; fail)
    refine HCL.out.mono ?_
    rintro e w2 ⟨g, c, rfl, hc1, hc2, hg1, hg2, hr2, hf2, hb2, hsq⟩
    have HSQ : Hid (Szd w2 g c) := hsq
    clear hsq
    have HC2 : Hid (Cp w0 w2 C mb ov st nn S) := HCD.out.call hb2
    have HPS : Hid (OsR w2 l bs g 0 ∧ (∀ x, w2.frozen? ⟨g, x, none⟩ = false) ∧ l.length ≤ c ∧ c ≤ maxLen ∧ WD.heap.size ≤ g ∧ g < w2.heap.size) := ⟨hr2, hf2, hc1, hc2, hg1, hg2⟩
    have HB2 : Hid (Below w.heap.size w w2) := HBD.out.trans (hb2.mono HBD.out.size)
    have kn2 : ∀ x, w2.cell? ⟨w1.heap.size, x, none⟩ = (#[.pointer (some ⟨b, o, none⟩), .int .i64 l.length] : Array Value)[x]? := fun x => by rw [hb2.cell (p := ⟨w1.heap.size, x, none⟩) hzn]; exact knD x
    have HP2 : Hid (Plain w2 b) := by
      obtain ⟨⟨c, t, f, h1⟩, h2⟩ := HPD.out
      have hbl : b < WD.heap.size := by
        rcases Nat.lt_or_ge b WD.heap.size with h | h
        · exact h
        · rw [Array.getElem?_eq_none h] at h1; cases h1
      exact ⟨⟨c, t, f, (hb2.block b hbl).trans h1⟩, fun x => by rw [hb2.frozen (p := ⟨b, x, none⟩) hbl]; exact h2 x⟩
    have e1 := HC2.out.c1
    clear hr2 hf2 hc1 hc2 hg1 hg2 hb2
    obtain ⟨w3, hup, ht3, hm3⟩ := update_name (w := w2.drew) (mb := mb) (S := S) (n := (l.length : Int)) (b := b) (o := o) (HC2.out.call ((Below.refl _ _).drew)).mp ⟨HP2.out.1, HP2.out.2⟩ (some ⟨g, 0, none⟩) l.length c
    have HT3 : Hid (Turn mb w2 w3) := ⟨ht3.os, ht3.tape, ht3.output, ht3.size, ht3.block⟩
    have HM3 : Hid (NmMap w3 mb (fun x y => S x y ∨ (x = b ∧ y = o))) := hm3
    clear ht3 hm3
    have HC3 : Hid (w3.cell? ⟨C, 0, none⟩ = some ov ∧ w3.cell? ⟨C, 1, none⟩ = some (.map (some mb)) ∧ w3.cell? ⟨C, 2, none⟩ = some (.int .i64 nn) ∧ C < w3.heap.size ∧ ∀ x, w3.frozen? ⟨C, x, none⟩ = false) := by
      have hb := HT3.out.block C (World.block_lt_of_cell? w2 _ HC2.out.c0) HC2.out.ne1
      have hz : C < w2.heap.size := World.block_lt_of_cell? w2 _ HC2.out.c0
      exact ⟨(World.cell?_of_block (w := w2) hb).trans HC2.out.c0, (World.cell?_of_block (w := w2) hb).trans HC2.out.c1, (World.cell?_of_block (w := w2) hb).trans HC2.out.c2, Nat.lt_of_lt_of_le hz HT3.out.size, fun x => (World.frozen?_of_block (w := w2) hb).trans (HC2.out.fz x)⟩
    have HOV : Hid (ov.ownBlock ≠ some C) := fun e => (HC2.out.ne2 C e).1 rfl
    have HOW : Hid ((w3.alloc (.cells #[.slice (some ⟨g, 0, none⟩) l.length c] 24)).ownsRow w0.heap.size 24 1 ov st.length (st.map psV)) := by
      have hg : w2.grownBy w3 (some mb) := ⟨HT3.out.os, HT3.out.tape, HT3.out.output, HT3.out.size, fun k hk hn => HT3.out.block k hk (fun e => hn (by rw [e]))⟩
      exact World.ownsRow.alloc (HC2.out.own.kept hg (Or.inr (fun e => (HC2.out.ne2 mb e).2 rfl))) _
    have HQ4 : Hid (∀ w4, (w3.alloc (.cells #[.slice (some ⟨g, 0, none⟩) l.length c] 24)).grownBy w4 ov.ownBlock → w4.cell? ⟨C, 0, none⟩ = some ov ∧ w4.cell? ⟨C, 2, none⟩ = some (.int .i64 nn) ∧ ∀ x, w4.frozen? ⟨C, x, none⟩ = false) := fun w4 hg => by
      have hz := HC3.out.2.2.2.1
      have hb : w4.heap[C]? = w3.heap[C]? := (hg.block C (by simp; omega) (fun e => HOV.out e.symm)).trans (by show (w3.heap.push _)[C]? = _; rw [Array.getElem?_push, if_neg (by omega)])
      exact ⟨(World.cell?_of_block (w := w3) hb).trans HC3.out.1, (World.cell?_of_block (w := w3) hb).trans HC3.out.2.2.1, fun x => (World.frozen?_of_block (w := w3) hb).trans (HC3.out.2.2.2.2 x)⟩
    have HBS : Hid (w0.heap.size ≤ (w3.alloc (.cells #[.slice (some ⟨g, 0, none⟩) l.length c] 24)).heap.size) := by
      show _ ≤ _
      have h1 := HC2.out.be.size
      have h2 := HT3.out.size
      simp; omega
    obtain ⟨i0, hi, hz, hs, hb⟩ := infoParts9 infoTmsS
    have HI : Hid (Tryz.prog.info? 24 = some i0 ∧ i0.zero = some (.slice none 0 0) ∧ i0.size = 1 ∧ i0.bytes = 24) := ⟨hi, hz, hs, hb⟩
    clear hi hz hs hb
    have D3 : Hid (st.length + 1 ≤ maxLen) := by show _ ≤ _; unfold maxLen; omega
    have D4 : Hid ((st.length + 1) * 24 ≤ 140737488355328) := by show _ ≤ _; omega
    have c30 := HC3.out.1
    have c31 := HC3.out.2.1
    have c32 := HC3.out.2.2.1
    have ew : IntKind.i64.wrap ((nn : Int) + (l.length : Int)) = ((nn + l.length : Nat) : Int) := by rw [IntKind.wrap_i64]; omega
    go_wp2_with fail
    go_region
    clear hup e1 kn2
    go_wp2_with (at_builtin; refine wpList_append_own_at _ rfl _ _ 106 rfl w0.heap.size 24 i0 (.slice none 0 0) 1 24 undTmsS HI.out.1 HI.out.2.1 HI.out.2.2.1 HI.out.2.2.2 rfl Nat.zero_lt_one ov st.length (st.map psV) rfl HOW.out ⟨w3.heap.size, 0, none⟩ 1 1 [.slice (some ⟨g, 0, none⟩) l.length c] rfl rfl (src9 _ _ _) (one9 _ _ _) D3.out D4.out HBS.out ?_; intro v4 w4 hown4 hgr4 hnn4 hat4; obtain ⟨g4, c4, rfl⟩ := form9 hown4; obtain ⟨s0, s2, sf⟩ := HQ4.out w4 hgr4; have HO4 : Hid (w4.ownsRow w0.heap.size 24 1 (.slice (some ⟨g4, 0, none⟩) (st.length + 1) c4) (st.length + 1) (st.map psV ++ [.slice (some ⟨g, 0, none⟩) l.length c])) := hown4; have HG4 : Hid ((w3.alloc (.cells #[.slice (some ⟨g, 0, none⟩) l.length c] 24)).grownBy w4 ov.ownBlock) := hgr4; have HA4 : Hid ((Value.slice (some ⟨g4, 0, none⟩) (st.length + 1) c4).ownBlock = ov.ownBlock ∨ (Value.slice (some ⟨g4, 0, none⟩) (st.length + 1) c4).ownBlock = some (w3.alloc (.cells #[.slice (some ⟨g, 0, none⟩) l.length c] 24)).heap.size) := hat4; clear hown4 hgr4 hnn4 hat4)
    go_ret
    have ecast : ((nn : Int) + (l.length : Int)) = ((nn + l.length : Nat) : Int) := by omega
    rw [ecast]
    obtain ⟨L1, L2, L3⟩ := Cp.lay (x := ⟨g, c, l, bs⟩) HC2.out HT3.out HM3.out (fun b' o' h => by rcases h with h | ⟨rfl, _⟩; exact HCP.out.old b' o' h; exact hold) ((Below.refl _ _).alloc (Nat.le_refl _) _) HO4.out HG4.out HA4.out (nn + l.length)
    obtain ⟨p1, p2, p3, p4, p5, p6⟩ := HPS.out
    have hCW : C < WD.heap.size := World.block_lt_of_cell? WD _ HCD.out.c0
    have hmW := HCD.out.mp.lt
    have h0W := HCD.out.be.size
    have hz2 := HB2.out.size
    have h0w := HCP.out.be.size
    have hw2 := HC2.out.be.size
    have hC0 := HCD.out.hC
    have hm0 := HCD.out.hm
    have hgb := L2.block g p6 (by omega) (by omega) (fun e => by have := (own_base HCD.out.own e).2; omega)
    have hwz : w.heap.size ≤ WD.heap.size := HBD.out.size
    refine ⟨g, c, _, rfl, ⟨?_, fun x => ?_, p3, p4, HSQ.out.keep hgb⟩, by omega, L1, ?_, ?_⟩
    · refine OsR.keep l bs g 0 (fun x hx hl2 => ?_) (fun x v _ _ hv => (World.cell?_of_block (w := w2) hgb).trans hv) p1
      have hx0 := hbs x hx
      exact L2.block x hl2 (by omega) (by omega) (fun e => by have := (own_base HCD.out.own e).1; omega)
    · exact (World.frozen?_of_block (w := w2) hgb).trans (p2 x)
    · exact ⟨L2.os.trans HB2.out.os, L2.tape.trans HB2.out.tape, L2.output.trans HB2.out.output, Nat.le_trans hz2 L2.size, fun k hk h1 h2 h3 => (L2.block k (by omega) h1 h2 h3).trans (HB2.out.block k hk)⟩
    · rcases L3 with h | ⟨k, h1, h2⟩
      · exact .inl h
      · exact .inr ⟨k, h1, by omega, by omega⟩
end Go.Proofs.YtfjaphhijefdlaaGreatDoor
namespace Go.Proofs.YtfjaphhijefdlaaGreatDoor
open Go.RowKit
set_option linter.unusedVariables false

/-- All of these are copied whole, into the blocks B and their own. -/
def Done (w : World) : List Ps → List Nat → Prop
  | [], B => B = []
  | x :: r, B => ∃ b1 b2, B = b1 ++ b2 ∧ OsR w x.m b1 x.g 0 ∧ (∀ o, w.frozen? ⟨x.g, o, none⟩ = false) ∧ Done w r b2
theorem Done.split {w : World} : ∀ {a b : List Ps} {B : List Nat}, Done w (a ++ b) B → ∃ B1 B2, B = B1 ++ B2 ∧ Done w a B1 ∧ Done w b B2
  | [], b, B, h => ⟨[], B, rfl, by rw [Done], h⟩
  | x :: a, b, B, h => by
    rw [List.cons_append, Done] at h
    obtain ⟨b1, b2, e, h1, h2, h3⟩ := h
    obtain ⟨B1, B2, e2, h4, h5⟩ := Done.split h3
    exact ⟨b1 ++ B1, B2, by rw [e, e2, List.append_assoc], by rw [Done]; exact ⟨b1, B1, rfl, h1, h2, h4⟩, h5⟩
theorem Done.join {w : World} : ∀ {a b : List Ps} {B1 B2 : List Nat}, Done w a B1 → Done w b B2 → Done w (a ++ b) (B1 ++ B2)
  | [], b, B1, B2, h, h' => by rw [Done] at h; subst h; exact h'
  | x :: a, b, B1, B2, h, h' => by
    rw [Done] at h
    obtain ⟨b1, b2, e, h1, h2, h3⟩ := h
    rw [List.cons_append, Done]
    exact ⟨b1, b2 ++ B2, by rw [e, List.append_assoc], h1, h2, Done.join h3 h'⟩
/-- The terms of m stand in the block g from off on, their lists those of cs. -/
def Half (w : World) (g : Nat) : List Tm → Nat → List Ps → Prop
  | [], _, cs => cs = []
  | .mk k n s l :: r, off, cs => w.cell? ⟨g, off, none⟩ = some (.int .i64 k) ∧ w.cell? ⟨g, off + 1, none⟩ = some (.int .i64 n) ∧ w.cell? ⟨g, off + 2, none⟩ = some (.string s) ∧ s.size ≤ 1048576 ∧
      ((l = [] ∧ w.cell? ⟨g, off + 3, none⟩ = some (.slice none 0 0) ∧ Half w g r (off + 4) cs) ∨
       (l ≠ [] ∧ ∃ x cs', cs = x :: cs' ∧ x.m = l ∧ w.cell? ⟨g, off + 3, none⟩ = some (.slice (some ⟨x.g, 0, none⟩) l.length x.c) ∧ l.length ≤ x.c ∧ x.c ≤ maxLen ∧ Half w g r (off + 4) cs'))
theorem Half.keep {w w' : World} {g : Nat} : ∀ {m : List Tm} {off : Nat} {cs : List Ps}, (∀ o v, off ≤ o → o < off + 4 * m.length → w.cell? ⟨g, o, none⟩ = some v → w'.cell? ⟨g, o, none⟩ = some v) → Half w g m off cs → Half w' g m off cs
  | [], off, cs, _, h => by rw [Half] at h ⊢; exact h
  | .mk k n s l :: r, off, cs, hc, h => by
    rw [Half] at h ⊢
    obtain ⟨h0, h1, h2, hs, h3⟩ := h
    have hr : ∀ cs, Half w g r (off + 4) cs → Half w' g r (off + 4) cs := fun cs => Half.keep (fun o v ho1 ho2 hv => hc o v (by omega) (by simp; omega) hv)
    refine ⟨hc _ _ (by omega) (by simp) h0, hc _ _ (by omega) (by simp; omega) h1, hc _ _ (by omega) (by simp; omega) h2, hs, ?_⟩
    rcases h3 with ⟨e, h3, h4⟩ | ⟨e, x, cs', e1, e2, h3, h4, h5, h6⟩
    · exact .inl ⟨e, hc _ _ (by omega) (by simp; omega) h3, hr _ h4⟩
    · exact .inr ⟨e, x, cs', e1, e2, hc _ _ (by omega) (by simp; omega) h3, h4, h5, hr _ h6⟩
theorem Half.snoc {w : World} {g : Nat} {k n : Int} {s : ByteArray} {l : List Tm} {c : List Ps} : ∀ {m : List Tm} {off : Nat} {cs : List Ps}, Half w g m off cs → Half w g [.mk k n s l] (off + 4 * m.length) c → Half w g (m ++ [.mk k n s l]) off (cs ++ c)
  | [], off, cs, h, h' => by rw [Half] at h; subst h; simpa using h'
  | .mk k1 n1 s1 l1 :: r, off, cs, h, h' => by
    rw [Half] at h
    rw [List.cons_append, Half]
    obtain ⟨h0, h1, h2, hs, h3⟩ := h
    have e : off + 4 * (Tm.mk k1 n1 s1 l1 :: r).length = off + 4 + 4 * r.length := by simp; omega
    rw [e] at h'
    refine ⟨h0, h1, h2, hs, ?_⟩
    rcases h3 with ⟨e, h3, h4⟩ | ⟨e, x, cs', e1, e2, h3, h4, h5, h6⟩
    · exact .inl ⟨e, h3, Half.snoc h4 h'⟩
    · exact .inr ⟨e, x, cs' ++ c, by rw [e1]; rfl, e2, h3, h4, h5, Half.snoc h6 h'⟩
/-- Where all of cs are whole, so is the row. -/
theorem Half.done {w w' : World} {g : Nat} (hk : ∀ o v, w.cell? ⟨g, o, none⟩ = some v → w'.cell? ⟨g, o, none⟩ = some v) : ∀ {m : List Tm} {off : Nat} {cs : List Ps} {B : List Nat}, Half w g m off cs → Done w' cs B → ∃ Bm, OsR w' m Bm g off ∧ Bm.Perm (cs.map Ps.g ++ B)
  | [], off, cs, B, h, hd => by
    rw [Half] at h
    subst h
    rw [Done] at hd
    subst hd
    exact ⟨[], by rw [OsR], List.Perm.refl _⟩
  | .mk k n s l :: r, off, cs, B, h, hd => by
    rw [Half] at h
    obtain ⟨h0, h1, h2, hs, h3⟩ := h
    rcases h3 with ⟨e, h3, h4⟩ | ⟨e, x, cs', e1, e2, h3, h4, h5, h6⟩
    · subst e
      obtain ⟨Bm, hb, hp⟩ := Half.done hk h4 hd
      refine ⟨[] ++ Bm, ?_, by simpa using hp⟩
      rw [OsR]
      refine ⟨[], Bm, rfl, ?_, hb⟩
      rw [OsT]
      exact ⟨hk _ _ h0, hk _ _ h1, hk _ _ h2, hs, none, 0, hk _ _ h3, Nat.le_refl _, Nat.zero_le _, by rw [OsL]⟩
    · subst e1
      rw [Done] at hd
      obtain ⟨b1, b2, eb, hr, hf, hd2⟩ := hd
      obtain ⟨Bm, hb, hp⟩ := Half.done hk h6 hd2
      rw [e2] at hr
      refine ⟨(x.g :: b1) ++ Bm, ?_, ?_⟩
      · rw [OsR]
        refine ⟨x.g :: b1, Bm, rfl, ?_, hb⟩
        rw [OsT]
        exact ⟨hk _ _ h0, hk _ _ h1, hk _ _ h2, hs, some ⟨x.g, 0, none⟩, x.c, hk _ _ h3, h4, h5, (OsL.iff e).2 ⟨x.g, 0, b1, rfl, rfl, hf, hr⟩⟩
      · rw [eb, List.map_cons, List.cons_append, List.cons_append]
        refine List.Perm.cons _ ?_
        refine (hp.append_left b1).trans ?_
        rw [← List.append_assoc, ← List.append_assoc]
        exact List.perm_append_comm.append_right b2
/-- What remains to be done makes all of l whole. -/
def Kont (l : List Tm) (g0 : Nat) (F : List Nat) (w : World) (st : List Ps) : Prop := ∀ w' B, (∀ b ∈ F, w'.heap[b]? = w.heap[b]?) → Done w' st B → ∃ bs, bs.Perm (F ++ (st.map Ps.g ++ B)) ∧ OsL w' l bs (some ⟨g0, 0, none⟩)
theorem Kont.start {l : List Tm} (hl : l ≠ []) (w : World) (g c : Nat) (ob : List Nat) : Kont l g [] w [⟨g, c, l, ob⟩] := fun w' B _ hd => by
  rw [Done] at hd
  obtain ⟨b1, b2, e, h1, h2, h3⟩ := hd
  rw [Done] at h3
  subst h3
  rw [List.append_nil] at e
  subst e
  exact ⟨g :: B, List.Perm.refl _, (OsL.iff hl).2 ⟨g, 0, B, rfl, rfl, h2, h1⟩⟩
theorem Kont.step {l : List Tm} {g0 : Nat} {F : List Nat} {wS w1 : World} {st0 cs : List Ps} {x : Ps} (h : Kont l g0 F wS (st0 ++ [x])) (hF : ∀ b ∈ F, w1.heap[b]? = wS.heap[b]?) (hh : Half w1 x.g x.m 0 cs) (hf : ∀ o, w1.frozen? ⟨x.g, o, none⟩ = false) : Kont l g0 (x.g :: F) w1 (st0 ++ cs) := fun w' B hk hd => by
  obtain ⟨B0, Bc, e, h1, h2⟩ := Done.split hd
  have hg := hk x.g (List.mem_cons_self ..)
  obtain ⟨Bm, hb, hp⟩ := Half.done (w' := w') (fun o v hv => (World.cell?_of_block (w := w1) hg).trans hv) hh h2
  obtain ⟨bs, hperm, hos⟩ := h w' (B0 ++ Bm) (fun b hb => (hk b (List.mem_cons_of_mem _ hb)).trans (hF b hb)) (Done.join h1 (by rw [Done]; exact ⟨Bm, [], by simp, hb, fun o => (World.frozen?_of_block (w := w1) hg).trans (hf o), by rw [Done]⟩))
  refine ⟨bs, hperm.trans ?_, hos⟩
  rw [e, List.map_append, List.map_append, List.map_cons, List.map_nil]
  rw [List.perm_iff_count]
  intro a
  have := (List.perm_iff_count.1 hp) a
  simp only [List.count_append, List.count_cons, List.count_nil] at this ⊢
  omega
theorem Kont.fin {l : List Tm} {g0 : Nat} {F : List Nat} {w : World} (h : Kont l g0 F w []) : ∃ bs, bs.Perm F ∧ OsL w l bs (some ⟨g0, 0, none⟩) := by
  obtain ⟨bs, h1, h2⟩ := h w [] (fun _ _ => rfl) (by rw [Done])
  exact ⟨bs, by simpa using h1, h2⟩
end Go.Proofs.YtfjaphhijefdlaaGreatDoor
namespace Go.Proofs.YtfjaphhijefdlaaGreatDoor
open Go.RowKit
set_option linter.unusedVariables false

theorem Cp.turn {w0 w w' : World} {C mb k : Nat} {ov : Value} {st : List Ps} {nn : Nat} {S : Nat → Nat → Prop} (h : Cp w0 w C mb ov st nn S) (ht : Turn k w w') (h0 : w0.heap.size ≤ k) (h1 : k ≠ C) (h2 : k ≠ mb) (h3 : ov.ownBlock ≠ some k) : Cp w0 w' C mb ov st nn S := by
  have hC : C < w.heap.size := World.block_lt_of_cell? w _ h.c0
  have hm := h.mp.lt
  have hCb := ht.block C hC (fun e => h1 e.symm)
  refine ⟨⟨ht.os.trans h.be.os, ht.tape.trans h.be.tape, ht.output.trans h.be.output, Nat.le_trans h.be.size ht.size, fun b hb => (ht.block b (Nat.lt_of_lt_of_le hb h.be.size) (by omega)).trans (h.be.block b hb)⟩, (World.cell?_of_block (w := w) hCb).trans h.c0, (World.cell?_of_block (w := w) hCb).trans h.c1, (World.cell?_of_block (w := w) hCb).trans h.c2, fun o => (World.frozen?_of_block (w := w) hCb).trans (h.fz o), ?_, ?_, h.old, h.hC, h.hm, h.ne1, h.ne2⟩
  · exact h.own.kept ⟨ht.os, ht.tape, ht.output, ht.size, fun b hb hn => ht.block b hb (fun e => hn (by rw [e]))⟩ (Or.inr h3)
  · refine h.mp.keep (ht.block mb hm (fun e => h2 e.symm)) (fun b o hs hp => hp.turn ht ?_)
    have := h.old b o hs
    omega
theorem Ps.ok.keep {w w' : World} {y : Ps} (h : y.ok w) (hg : w'.heap[y.g]? = w.heap[y.g]?) (hb : ∀ b ∈ y.ob, b < w.heap.size → w'.heap[b]? = w.heap[b]?) : y.ok w' :=
  ⟨OsR.keep y.m y.ob y.g 0 hb (fun o v _ _ hv => (World.cell?_of_block (w := w) hg).trans hv) h.row, fun o => (World.frozen?_of_block (w := w) hg).trans (h.free o), h.le, h.max, h.siz.keep hg⟩

structure Wk (w0 w : World) (C mb : Nat) (ov : Value) (F : List Nat) (st : List Ps) (nn T : Nat) (S : Nat → Nat → Prop) (extra : Nat) (rem : List Nat) : Prop where
  cp : Cp w0 w C mb ov st nn S
  ps : ∀ y ∈ st, y.ok w
  nd : (F ++ st.map Ps.g).Nodup
  lo : ∀ b ∈ F ++ st.map Ps.g, w0.heap.size ≤ b ∧ b < w.heap.size ∧ b ≠ C ∧ b ≠ mb ∧ ov.ownBlock ≠ some b
  olds : ∀ y ∈ st, ∀ b ∈ y.ob, b < w0.heap.size
  cnt : nn + extra + (st.map (fun y => inL y.m)).sum = T
  dup : T ≤ 10000 ∨ ((st.flatMap Ps.ob ++ rem).Nodup ∧ ∀ b o, S b o → b ∉ st.flatMap Ps.ob ++ rem)
  len : st.length ≤ nn
theorem Wk.mem {w0 w : World} {C mb : Nat} {ov : Value} {F : List Nat} {st : List Ps} {nn T : Nat} {S : Nat → Nat → Prop} {extra : Nat} {rem : List Nat} (h : Wk w0 w C mb ov F st nn T S extra rem) {y : Ps} (hy : y ∈ st) : w0.heap.size ≤ y.g ∧ y.g < w.heap.size ∧ y.g ≠ C ∧ y.g ≠ mb ∧ ov.ownBlock ≠ some y.g :=
  h.lo y.g (List.mem_append_right _ (List.mem_map_of_mem hy))
theorem Wk.call {w0 w w' : World} {C mb : Nat} {ov : Value} {F : List Nat} {st : List Ps} {nn T : Nat} {S : Nat → Nat → Prop} {extra : Nat} {rem : List Nat} (h : Wk w0 w C mb ov F st nn T S extra rem) (hb : Below w.heap.size w w') : Wk w0 w' C mb ov F st nn T S extra rem :=
  ⟨h.cp.call hb, fun y hy => (h.ps y hy).keep (hb.block _ (h.mem hy).2.1) (fun b _ hl => hb.block b hl), h.nd, fun b hx => by obtain ⟨a1, a2, a3⟩ := h.lo b hx; exact ⟨a1, Nat.lt_of_lt_of_le a2 hb.size, a3⟩, h.olds, h.cnt, h.dup, h.len⟩
/-- A block that is none of the pending ones' is written. -/
theorem Wk.turn {w0 w w' : World} {C mb k : Nat} {ov : Value} {F : List Nat} {st : List Ps} {nn T : Nat} {S : Nat → Nat → Prop} {extra : Nat} {rem : List Nat} (h : Wk w0 w C mb ov F st nn T S extra rem) (ht : Turn k w w') (hk : k ∈ F) : Wk w0 w' C mb ov F st nn T S extra rem := by
  obtain ⟨k0, k1, k2, k3, k4⟩ := h.lo k (List.mem_append_left _ hk)
  refine ⟨h.cp.turn ht k0 k2 k3 k4, fun y hy => (h.ps y hy).keep (ht.block _ (h.mem hy).2.1 ?_) (fun b hb hl => ht.block b hl (by have := h.olds y hy b hb; omega)), h.nd, fun b hx => by obtain ⟨a1, a2, a3⟩ := h.lo b hx; exact ⟨a1, Nat.lt_of_lt_of_le a2 ht.size, a3⟩, h.olds, h.cnt, h.dup, h.len⟩
  intro e
  have hn := (List.nodup_append.1 h.nd).2.2 k hk y.g (List.mem_map_of_mem hy)
  exact hn e.symm

/-- Two cells, one behind the other, are written. -/
structure Put2 (g o : Nat) (x y : Value) (w w' : World) : Prop where
  turn : Turn g w w'
  c0 : w'.cell? ⟨g, o, none⟩ = some x
  c1 : w'.cell? ⟨g, o + 1, none⟩ = some y
  far : ∀ z, z ≠ o → z ≠ o + 1 → w'.cell? ⟨g, z, none⟩ = w.cell? ⟨g, z, none⟩
  fr : ∀ z, w'.frozen? ⟨g, z, none⟩ = w.frozen? ⟨g, z, none⟩
  siz : ∀ c, Szd w g c → Szd w' g c
theorem put2_ab {g o : Nat} {x y x0 y0 : Value} {w : World} (h0 : w.cell? ⟨g, o, none⟩ = some x0) (h1 : w.cell? ⟨g, o + 1, none⟩ = some y0) : Put2 g o x y w ((w.setCell ⟨g, o, none⟩ x).setCell ⟨g, o + 1, none⟩ y) := by
  refine ⟨((Turn.refl g w).set o _).set (o + 1) _, ?_, ?_, fun z z0 z1 => ?_, fun z => by rw [World.frozen?_setCell, World.frozen?_setCell], fun c h => (h.set _ _).set _ _⟩
  · rw [World.cell?_setCell_other (h := fun e => by simp only [Addr.mk.injEq] at e; omega)]
    exact World.cell?_setCell_same _ _ _ h0
  · refine World.cell?_setCell_same _ _ _ (u := y0) ?_
    rw [World.cell?_setCell_other (h := fun e => by simp only [Addr.mk.injEq] at e; omega)]; exact h1
  · rw [World.cell?_setCell_other (h := fun e => by simp only [Addr.mk.injEq] at e; omega), World.cell?_setCell_other (h := fun e => by simp only [Addr.mk.injEq] at e; omega)]
theorem put2_ba {g o : Nat} {x y x0 y0 : Value} {w : World} (h0 : w.cell? ⟨g, o, none⟩ = some x0) (h1 : w.cell? ⟨g, o + 1, none⟩ = some y0) : Put2 g o x y w ((w.setCell ⟨g, o + 1, none⟩ y).setCell ⟨g, o, none⟩ x) := by
  refine ⟨((Turn.refl g w).set (o + 1) _).set o _, ?_, ?_, fun z z0 z1 => ?_, fun z => by rw [World.frozen?_setCell, World.frozen?_setCell], fun c h => (h.set _ _).set _ _⟩
  · refine World.cell?_setCell_same _ _ _ (u := x0) ?_
    rw [World.cell?_setCell_other (h := fun e => by simp only [Addr.mk.injEq] at e; omega)]; exact h0
  · rw [World.cell?_setCell_other (h := fun e => by simp only [Addr.mk.injEq] at e; omega)]
    exact World.cell?_setCell_same _ _ _ h1
  · rw [World.cell?_setCell_other (h := fun e => by simp only [Addr.mk.injEq] at e; omega), World.cell?_setCell_other (h := fun e => by simp only [Addr.mk.injEq] at e; omega)]

/-- The list x is gone through: i of its terms are done, cs are their lists. -/
structure In (w0 wS w : World) (C mb : Nat) (ov : Value) (F : List Nat) (st0 cs : List Ps) (x : Ps) (i nn nS T : Nat) (S : Nat → Nat → Prop) (rem : List Nat) : Prop where
  wk : Wk w0 w C mb ov (x.g :: F) (st0 ++ cs) nn T S (inL (x.m.drop i)) rem
  half : Half w x.g (x.m.take i) 0 cs
  row : OsR w (x.m.drop i) rem x.g (4 * i)
  fr : ∀ o, w.frozen? ⟨x.g, o, none⟩ = false
  kF : ∀ b ∈ F, w.heap[b]? = wS.heap[b]?
  few : nS + cs.length ≤ nn
  remo : ∀ b ∈ rem, b < w0.heap.size
  sz : Szd w x.g x.c
theorem In.call {w0 wS w w' : World} {C mb : Nat} {ov : Value} {F : List Nat} {st0 cs : List Ps} {x : Ps} {i nn nS T : Nat} {S : Nat → Nat → Prop} {rem : List Nat} (h : In w0 wS w C mb ov F st0 cs x i nn nS T S rem) (hb : Below w.heap.size w w') : In w0 wS w' C mb ov F st0 cs x i nn nS T S rem := by
  have hx := h.wk.lo x.g (by simp)
  have hg := hb.block x.g hx.2.1
  refine ⟨h.wk.call hb, h.half.keep (fun o v _ _ hv => (World.cell?_of_block (w := w) hg).trans hv), OsR.keep _ _ _ _ (fun b _ hl => hb.block b hl) (fun o v _ _ hv => (World.cell?_of_block (w := w) hg).trans hv) h.row, fun o => (World.frozen?_of_block (w := w) hg).trans (h.fr o), fun b hF => ?_, h.few, h.remo, h.sz.keep hg⟩
  exact (hb.block b (h.wk.lo b (by simp [hF])).2.1).trans (h.kF b hF)
/-- What stands between the copy of one's list and its being written. -/
structure Md (w0 wS w : World) (C mb : Nat) (ov : Value) (F : List Nat) (st0 cs c : List Ps) (x : Ps) (i nn nS T : Nat) (S : Nat → Nat → Prop) (rem : List Nat) (k n : Int) (s : ByteArray) (l : List Tm) (vL : Value) : Prop where
  wk : Wk w0 w C mb ov (x.g :: F) (st0 ++ (cs ++ c)) nn T S (inL (x.m.drop (i + 1))) rem
  half : Half w x.g (x.m.take i) 0 cs
  il : i < x.m.length
  at_ : x.m[i] = .mk k n s l
  k0 : w.cell? ⟨x.g, 4 * i, none⟩ = some (.int .i64 k)
  k1 : w.cell? ⟨x.g, 4 * i + 1, none⟩ = some (.int .i64 n)
  k2 : w.cell? ⟨x.g, 4 * i + 2, none⟩ = some (.string s)
  k3 : ∃ v, w.cell? ⟨x.g, 4 * i + 3, none⟩ = some v
  hs : s.size ≤ 1048576
  row : OsR w (x.m.drop (i + 1)) rem x.g (4 * i + 4)
  fr : ∀ o, w.frozen? ⟨x.g, o, none⟩ = false
  kF : ∀ b ∈ F, w.heap[b]? = wS.heap[b]?
  few : nS + (cs ++ c).length ≤ nn
  remo : ∀ b ∈ rem, b < w0.heap.size
  new : (l = [] ∧ c = [] ∧ vL = .slice none 0 0) ∨ (l ≠ [] ∧ ∃ y : Ps, c = [y] ∧ y.m = l ∧ vL = .slice (some ⟨y.g, 0, none⟩) l.length y.c ∧ l.length ≤ y.c ∧ y.c ≤ maxLen)
  sz : Szd w x.g x.c
theorem Md.put {w0 wS w w' : World} {C mb : Nat} {ov : Value} {F : List Nat} {st0 cs c : List Ps} {x : Ps} {i nn nS T : Nat} {S : Nat → Nat → Prop} {rem : List Nat} {k n : Int} {s : ByteArray} {l : List Tm} {vL : Value} (h : Md w0 wS w C mb ov F st0 cs c x i nn nS T S rem k n s l vL) (hp : Put2 x.g (4 * i + 2) (.string s) vL w w') : In w0 wS w' C mb ov F st0 (cs ++ c) x (i + 1) nn nS T S rem := by
  have hnd := (List.nodup_cons.1 h.wk.nd).1
  have hil := h.il
  have hlen : (x.m.take i).length = i := by simp; omega
  refine ⟨h.wk.turn hp.turn (by simp), ?_, ?_, fun o => (hp.fr o).trans (h.fr o), fun b hF => ?_, h.few, h.remo, hp.siz _ h.sz⟩
  · rw [List.take_succ_eq_append_getElem h.il, h.at_]
    refine Half.snoc (h.half.keep (fun o v _ ho hv => ?_)) ?_
    · rw [hlen] at ho
      rw [hp.far o (by omega) (by omega)]; exact hv
    · rw [hlen, Nat.zero_add, Half]
      refine ⟨by rw [hp.far _ (by omega) (by omega)]; exact h.k0, by rw [hp.far _ (by omega) (by omega)]; exact h.k1, hp.c0, h.hs, ?_⟩
      rcases h.new with ⟨e1, e2, e3⟩ | ⟨e1, y, e2, e3, e4, e5, e6⟩
      · exact .inl ⟨e1, by rw [← e3]; exact hp.c1, by rw [Half]; exact e2⟩
      · exact .inr ⟨e1, y, [], e2, e3, by rw [← e4]; exact hp.c1, e5, e6, by rw [Half]⟩
  · have hx0 := (h.wk.lo x.g (by simp)).1
    rw [show 4 * (i + 1) = 4 * i + 4 by omega]
    exact OsR.keep _ _ _ _ (fun b hb hl => hp.turn.block b hl (by have := h.remo b hb; omega)) (fun o v ho _ hv => by rw [hp.far o (by omega) (by omega)]; exact hv) h.row
  · have hbl := (h.wk.lo b (by simp [hF])).2.1
    exact (hp.turn.block b hbl (fun e => hnd (by rw [← e]; exact List.mem_append_left _ hF))).trans (h.kF b hF)
theorem drop_row {w : World} {m : List Tm} {rem : List Nat} {g i : Nat} (hi : i < m.length) (h : OsR w (m.drop i) rem g (4 * i)) : ∃ k n s l b1 b2 ao cap, m[i] = .mk k n s l ∧ rem = b1 ++ b2 ∧ w.cell? ⟨g, 4 * i, none⟩ = some (.int .i64 k) ∧ w.cell? ⟨g, 4 * i + 1, none⟩ = some (.int .i64 n) ∧ w.cell? ⟨g, 4 * i + 2, none⟩ = some (.string s) ∧ s.size ≤ 1048576 ∧ w.cell? ⟨g, 4 * i + 3, none⟩ = some (.slice ao l.length cap) ∧ l.length ≤ cap ∧ cap ≤ maxLen ∧ OsL w l b1 ao ∧ OsR w (m.drop (i + 1)) b2 g (4 * i + 4) ∧ inL (m.drop i) = ntL l + inL (m.drop (i + 1)) := by
  rw [List.drop_eq_getElem_cons hi] at h ⊢
  generalize m[i] = t at *
  obtain ⟨k, n, s, l⟩ := t
  rw [OsR] at h
  obtain ⟨b1, b2, e, h1, h2⟩ := h
  rw [OsT] at h1
  obtain ⟨c0, c1, c2, hs, ao, cap, c3, hl, hc, ho⟩ := h1
  exact ⟨k, n, s, l, b1, b2, ao, cap, rfl, e, c0, c1, c2, hs, c3, hl, hc, ho, h2, by rw [inL]⟩
/-- Nothing stands in it. -/
theorem In.void {w0 wS w : World} {C mb : Nat} {ov : Value} {F : List Nat} {st0 cs : List Ps} {x : Ps} {i nn nS T : Nat} {S : Nat → Nat → Prop} {rem : List Nat} (h : In w0 wS w C mb ov F st0 cs x i nn nS T S rem) (hi : i < x.m.length) {k n : Int} {s : ByteArray} (hat : x.m[i] = .mk k n s []) : Md w0 wS w C mb ov F st0 cs [] x i nn nS T S rem k n s [] (.slice none 0 0) := by
  obtain ⟨k', n', s', l', b1, b2, ao, cap, e, er, c0, c1, c2, hs, c3, hl, hc, ho, h2, hin⟩ := drop_row hi h.row
  rw [hat] at e
  simp only [Tm.mk.injEq] at e
  obtain ⟨rfl, rfl, rfl, rfl⟩ := e
  rw [OsL] at ho
  subst ho
  rw [List.nil_append] at er
  subst er
  refine ⟨?_, h.half, hi, hat, c0, c1, c2, ⟨_, c3⟩, hs, h2, h.fr, h.kF, by simpa using h.few, h.remo, .inl ⟨rfl, rfl, rfl⟩, h.sz⟩
  rw [List.append_nil]
  have hw := h.wk
  rw [hin, ntL, Nat.zero_add] at hw
  exact hw

/-- What listOf asks. -/
theorem In.asks {w0 wS w : World} {C mb : Nat} {ov : Value} {F : List Nat} {st0 cs : List Ps} {x : Ps} {i nn nS T : Nat} {S : Nat → Nat → Prop} {rem : List Nat} (h : In w0 wS w C mb ov F st0 cs x i nn nS T S rem) (hi : i < x.m.length) {k n : Int} {s : ByteArray} {l : List Tm} (hat : x.m[i] = .mk k n s l) (hl : l ≠ []) :
    ∃ b o cap bs rem', rem = b :: bs ++ rem' ∧ w.cell? ⟨x.g, 4 * i + 3, none⟩ = some (.slice (some ⟨b, o, none⟩) l.length cap) ∧ OsL w l (b :: bs) (some ⟨b, o, none⟩) ∧ b < w0.heap.size ∧ (∀ z ∈ bs, z < w0.heap.size) ∧ (S b o → nn ≤ 10000) ∧ nn ≤ T ∧ l.length ≤ T ∧ OsR w (x.m.drop (i + 1)) rem' x.g (4 * i + 4) := by
  obtain ⟨k', n', s', l', b1, b2, ao, cap, e, er, c0, c1, c2, hs, c3, hle, hc, ho, h2, hin⟩ := drop_row hi h.row
  rw [hat] at e
  simp only [Tm.mk.injEq] at e
  obtain ⟨rfl, rfl, rfl, rfl⟩ := e
  obtain ⟨b, o, bs, e1, e2, _, _⟩ := (OsL.iff hl).1 ho
  subst e1 e2
  have hcnt := h.wk.cnt
  have hnt := ntL_eq l
  rw [hin] at hcnt
  refine ⟨b, o, cap, bs, b2, er, c3, ho, h.remo b (by rw [er]; simp), fun z hz => h.remo z (by rw [er]; simp [hz]), fun hS => ?_, by omega, by omega, h2⟩
  rcases h.wk.dup with hd | ⟨_, hd⟩
  · omega
  · exact absurd (by rw [er]; simp) (hd b o hS)
theorem In.full {w0 wS w w2 : World} {C mb : Nat} {ov ov' : Value} {F : List Nat} {st0 cs : List Ps} {x : Ps} {i nn nS T : Nat} {S : Nat → Nat → Prop} {rem rem' : List Nat} (h : In w0 wS w C mb ov F st0 cs x i nn nS T S rem) (hi : i < x.m.length) {k n : Int} {s : ByteArray} {l : List Tm} (hat : x.m[i] = .mk k n s l) (hl : l ≠ []) {b o : Nat} {bs : List Nat} (hrem : rem = b :: bs ++ rem') (hrow : OsR w (x.m.drop (i + 1)) rem' x.g (4 * i + 4)) {g c : Nat}
    (hok : Ps.ok w2 ⟨g, c, l, bs⟩) (hg : w.heap.size ≤ g) (hcp : Cp w0 w2 C mb ov' (st0 ++ cs ++ [⟨g, c, l, bs⟩]) (nn + l.length) (fun x y => S x y ∨ (x = b ∧ y = o))) (hlf : Lf C mb ov w w2) (hov : ov'.ownBlock = ov.ownBlock ∨ ∃ k, ov'.ownBlock = some k ∧ w.heap.size ≤ k ∧ k ≠ g) :
    Md w0 wS w2 C mb ov' F st0 cs [⟨g, c, l, bs⟩] x i (nn + l.length) nS T (fun x y => S x y ∨ (x = b ∧ y = o)) rem' k n s l (.slice (some ⟨g, 0, none⟩) l.length c) := by
  obtain ⟨k', n', s', l', b1, b2, ao, cap, e, er, c0, c1, c2, hs, c3, hle, hc, ho, h2, hin⟩ := drop_row hi h.row
  rw [hat] at e
  simp only [Tm.mk.injEq] at e
  obtain ⟨rfl, rfl, rfl, rfl⟩ := e
  clear er ho h2 c3 b1 b2 hle hc
  have hcp0 := h.wk.cp
  have hC0 := hcp0.hC
  have hm0 := hcp0.hm
  have hw0 := hcp0.be.size
  have hCl : C < w.heap.size := World.block_lt_of_cell? w _ hcp0.c0
  have hml := hcp0.mp.lt
  have old : ∀ z, z < w0.heap.size → w2.heap[z]? = w.heap[z]? := fun z hz => hlf.block z (by omega) (by omega) (by omega) (fun e => by have := (own_base hcp0.own e).1; omega)
  have kept : ∀ z ∈ x.g :: F ++ (st0 ++ cs).map Ps.g, w2.heap[z]? = w.heap[z]? := fun z hz => by
    obtain ⟨a1, a2, a3, a4, a5⟩ := h.wk.lo z hz
    exact hlf.block z a2 a3 a4 a5
  have hgx := kept x.g (by simp)
  have cx : ∀ q v, w.cell? ⟨x.g, q, none⟩ = some v → w2.cell? ⟨x.g, q, none⟩ = some v := fun q v hv => (World.cell?_of_block (w := w) hgx).trans hv
  have hg2 : g < w2.heap.size := by
    have hr := hok.row
    cases l with
    | nil => exact absurd rfl hl
    | cons t r =>
      rw [OsR] at hr
      obtain ⟨_, _, _, ht, _⟩ := hr
      obtain ⟨v, hv⟩ := ht.head
      exact World.block_lt_of_cell? w2 _ hv
  have hov2 : ∀ z, z < w.heap.size → ov.ownBlock ≠ some z → ov'.ownBlock ≠ some z := fun z hz hn e => by
    rcases hov with h1 | ⟨q, h1, h2, _⟩
    · exact hn (h1.symm.trans e)
    · rw [h1] at e; injection e with e; omega
  have hovg : ov'.ownBlock ≠ some g := fun e => by
    rcases hov with h1 | ⟨q, h1, h2, h3⟩
    · rw [h1] at e; have := (own_base hcp0.own e).2; omega
    · rw [h1] at e; injection e with e; exact h3 e
  have c3' : ∃ v, w.cell? ⟨x.g, 4 * i + 3, none⟩ = some v := by
    obtain ⟨_, _, _, _, _, _, _, _, _, _, _, _, _, _, q3, _⟩ := drop_row hi h.row
    exact ⟨_, q3⟩
  have hmap : (st0 ++ (cs ++ [(⟨g, c, l, bs⟩ : Ps)])).map Ps.g = (st0 ++ cs).map Ps.g ++ [g] := by simp
  have hflat : (st0 ++ (cs ++ [(⟨g, c, l, bs⟩ : Ps)])).flatMap Ps.ob = (st0 ++ cs).flatMap Ps.ob ++ bs := by simp
  have hp0 : 0 < l.length := by
    rcases Nat.eq_zero_or_pos l.length with h | h
    · exact absurd (List.eq_nil_of_length_eq_zero h) hl
    · exact h
  refine ⟨⟨?_, fun z hz => ?_, ?_, fun z hz => ?_, fun z hz => ?_, ?_, ?_, by have := h.wk.len; simp at this ⊢; omega⟩, h.half.keep (fun q v _ _ hv => cx q v hv), hi, hat, cx _ _ c0, cx _ _ c1, cx _ _ c2, by obtain ⟨v, hv⟩ := c3'; exact ⟨v, cx _ _ hv⟩, hs, ?_, fun q => (World.frozen?_of_block (w := w) hgx).trans (h.fr q), fun z hz => ?_, ?_, fun z hz => h.remo z (by rw [hrem]; simp [hz]), .inr ⟨hl, ⟨g, c, l, bs⟩, rfl, rfl, rfl, hok.le, hok.max⟩, h.sz.keep hgx⟩
  · rw [← List.append_assoc]; exact hcp
  · rw [← List.append_assoc] at hz
    rcases List.mem_append.1 hz with hz | hz
    · exact (h.wk.ps z hz).keep (kept z.g (List.mem_append_right _ (List.mem_map_of_mem hz))) (fun q hq _ => old q (h.wk.olds z hz q hq))
    · simp at hz; subst hz; exact hok
  · rw [hmap, ← List.append_assoc]
    refine List.nodup_append.2 ⟨h.wk.nd, by simp, fun a ha q hq => ?_⟩
    simp at hq
    have := (h.wk.lo a ha).2.1
    omega
  · rw [hmap, ← List.append_assoc] at hz
    rcases List.mem_append.1 hz with hz | hz
    · obtain ⟨a1, a2, a3, a4, a5⟩ := h.wk.lo z hz
      exact ⟨a1, Nat.lt_of_lt_of_le a2 hlf.size, a3, a4, hov2 z a2 a5⟩
    · simp at hz
      subst hz
      exact ⟨by omega, hg2, by omega, by omega, hovg⟩
  · rw [← List.append_assoc] at hz
    rcases List.mem_append.1 hz with hz | hz
    · exact h.wk.olds z hz
    · simp at hz; subst hz
      exact fun q hq => h.remo q (by rw [hrem]; simp [hq])
  · have hcnt := h.wk.cnt
    have hnt := ntL_eq l
    rw [hin] at hcnt
    have hsum : ((st0 ++ (cs ++ [(⟨g, c, l, bs⟩ : Ps)])).map (fun y => inL y.m)).sum = ((st0 ++ cs).map (fun y => inL y.m)).sum + inL l := by
      rw [← List.append_assoc, List.map_append, List.sum_append]; simp
    rw [hsum]
    omega
  · rcases h.wk.dup with hd | ⟨hd1, hd2⟩
    · exact .inl hd
    · refine .inr ⟨?_, fun b' o' hS => ?_⟩
      · rw [hflat]
        rw [hrem] at hd1
        refine (List.Perm.nodup_iff ?_).1 (List.nodup_cons.1 ((List.Perm.nodup_iff (l₂ := b :: ((st0 ++ cs).flatMap Ps.ob ++ (bs ++ rem'))) (by rw [List.cons_append]; exact List.perm_middle)).1 hd1)).2
        rw [List.append_assoc]
      · rw [hflat]
        rw [hrem] at hd1 hd2
        rcases hS with hS | ⟨rfl, _⟩
        · have := hd2 b' o' hS
          simp only [List.mem_append, List.mem_cons, not_or] at this ⊢
          exact ⟨⟨this.1, this.2.1.2⟩, this.2.2⟩
        · have hn := (List.nodup_cons.1 ((List.Perm.nodup_iff (l₂ := b' :: ((st0 ++ cs).flatMap Ps.ob ++ (bs ++ rem'))) (by rw [List.cons_append]; exact List.perm_middle)).1 hd1)).1
          simp only [List.mem_append, not_or] at hn ⊢
          exact ⟨⟨hn.1, hn.2.1⟩, hn.2.2⟩
  · exact OsR.keep _ _ _ _ (fun q hq _ => old q (h.remo q (by rw [hrem]; simp [hq]))) (fun q v _ _ hv => cx q v hv) hrow
  · exact (kept z (by simp [hz])).trans (h.kF z hz)
  · have := h.few
    simp; omega
end Go.Proofs.YtfjaphhijefdlaaGreatDoor
namespace Go.Proofs.YtfjaphhijefdlaaGreatDoor
open Go.RowKit
set_option linter.unusedVariables false

theorem own_pop {w : World} {base : Nat} {e : TypeId} {oa : Option Addr} {n oc : Nat} {xs : List Value} {v : Value} (h : w.ownsRow base e 1 (.slice oa (n + 1) oc) (n + 1) (xs ++ [v])) : w.ownsRow base e 1 (.slice oa n oc) n xs ∧ ∃ ob, oa = some ⟨ob, 0, none⟩ ∧ w.cell? ⟨ob, n, none⟩ = some v ∧ n + 1 ≤ oc ∧ oc ≤ maxLen := by
  obtain ⟨hl, hh | ⟨g, c, cur, e1, e2, e3, e4, e5, e6, e7⟩⟩ := h
  · exact absurd hh.2 (by omega)
  · simp only [Value.slice.injEq] at e1
    obtain ⟨rfl, _, rfl⟩ := e1
    have hx : xs.length = n := by simp at hl; omega
    have hcell : w.cell? ⟨g, n, none⟩ = cur[n]? := by simp [World.cell?, e3]
    refine ⟨⟨by rw [hx]; omega, Or.inr ⟨g, oc, cur, rfl, e2, e3, by omega, e5, e6, ?_⟩⟩, g, rfl, ?_, e4, e5⟩
    · have := congrArg (List.take n) e7
      rw [List.take_take, List.take_append_of_le_length (by omega), List.take_of_length_le (by omega : xs.length ≤ n)] at this
      rw [Nat.mul_one] at this ⊢
      rw [← this]; congr 1; omega
    · rw [hcell, ← Array.getElem?_toList]
      have : (cur.toList.take ((n + 1) * 1))[n]? = some v := by rw [e7, List.getElem?_append_right (by omega)]; simp [hx]
      rw [List.getElem?_take, if_pos (by omega)] at this
      exact this
theorem Wk.last {w0 w : World} {C mb : Nat} {oa : Option Addr} {oc : Nat} {F : List Nat} {st0 : List Ps} {x : Ps} {nn T : Nat} {S : Nat → Nat → Prop} {extra : Nat} {rem : List Nat} (h : Wk w0 w C mb (.slice oa (st0.length + 1) oc) F (st0 ++ [x]) nn T S extra rem) : ∃ ob, oa = some ⟨ob, 0, none⟩ ∧ w.cell? ⟨ob, st0.length, none⟩ = some (psV x) ∧ st0.length + 1 ≤ oc ∧ oc ≤ maxLen := by
  have ho := h.cp.own
  rw [List.length_append, List.map_append] at ho
  exact (own_pop ho).2
theorem Wk.pop {w0 w : World} {C mb : Nat} {oa : Option Addr} {oc : Nat} {F : List Nat} {st0 : List Ps} {x : Ps} {nn T : Nat} {S : Nat → Nat → Prop} (h : Wk w0 w C mb (.slice oa (st0.length + 1) oc) F (st0 ++ [x]) nn T S 0 []) : In w0 w (w.setCell ⟨C, 0, none⟩ (.slice oa st0.length oc)) C mb (.slice oa st0.length oc) F st0 [] x 0 nn nn T S x.ob := by
  have hx := h.mem (y := x) (by simp)
  have hxo := h.ps x (by simp)
  have hb : ∀ k, k ≠ C → (w.setCell ⟨C, 0, none⟩ (.slice oa st0.length oc)).heap[k]? = w.heap[k]? := fun k hk => Below.heap_setCell _ ⟨C, 0, none⟩ _ k hk
  have hblk : ∀ n, (Value.slice oa n oc).ownBlock = (Value.slice oa (st0.length + 1) oc).ownBlock := fun n => by cases oa <;> rfl
  have ho := h.cp.own
  rw [List.length_append, List.map_append] at ho
  have ho2 := (own_pop ho).1
  have hC0 := h.cp.hC
  have hovC : (Value.slice oa st0.length oc).ownBlock ≠ some C := fun e => (h.cp.ne2 C ((hblk _).symm.trans e)).1 rfl
  have hnd : (x.g :: F ++ st0.map Ps.g).Nodup := by
    refine (List.Perm.nodup_iff ?_).1 h.nd
    rw [List.map_append, ← List.append_assoc]
    exact List.perm_append_comm
  refine ⟨⟨⟨?_, World.cell?_setCell_same _ _ _ h.cp.c0, ?_, ?_, fun o => by rw [World.frozen?_setCell]; exact h.cp.fz o, ?_, ?_, h.cp.old, h.cp.hC, h.cp.hm, h.cp.ne1, fun g hg => h.cp.ne2 g ((hblk _).symm.trans hg)⟩, fun y hy => ?_, ?_, fun b hx2 => ?_, fun y hy => h.olds y (by simp at hy ⊢; exact .inl hy), ?_, ?_, by have := h.len; simp at this ⊢; omega⟩, by simp [Half], ?_, fun o => by rw [World.frozen?_setCell]; exact hxo.free o, fun b hF => hb b (h.lo b (by simp [hF])).2.2.1, by simp, fun b hb2 => h.olds x (by simp) b hb2, hxo.siz.keep (hb x.g hx.2.2.1)⟩
  · exact h.cp.be.setCell hC0 _
  · rw [World.cell?_setCell_other (h := fun e => by simp only [Addr.mk.injEq] at e; omega)]; exact h.cp.c1
  · rw [World.cell?_setCell_other (h := fun e => by simp only [Addr.mk.injEq] at e; omega)]; exact h.cp.c2
  · rw [List.append_nil]; exact ownsRow_set9 ho2 hovC _
  · refine h.cp.mp.keep (hb mb (fun e => h.cp.ne1 e.symm)) (fun b o hs hp => ?_)
    have hbl := h.cp.old b o hs
    have hbb := hb b (by omega)
    obtain ⟨⟨c, t, f, hh⟩, hf⟩ := hp
    exact ⟨⟨c, t, f, hbb.trans hh⟩, fun y => by rw [World.frozen?_of_block (w := w) hbb]; exact hf y⟩
  · have hy' : y ∈ st0 ++ [x] := by simp at hy ⊢; exact .inl hy
    exact (h.ps y hy').keep (hb y.g (h.mem hy').2.2.1) (fun b hb2 _ => hb b (by have := h.olds y hy' b hb2; omega))
  · rw [List.append_nil]; exact hnd
  · have hm : b ∈ F ++ (st0 ++ [x]).map Ps.g := by
      simp at hx2 ⊢
      rcases hx2 with h | h | h
      · exact .inr (.inr h)
      · exact .inl h
      · exact .inr (.inl h)
    obtain ⟨a1, a2, a3, a4, a5⟩ := h.lo b hm
    exact ⟨a1, by rw [World.size_setCell]; exact a2, a3, a4, fun e => a5 ((hblk _).symm.trans e)⟩
  · have := h.cnt
    rw [List.append_nil]
    rw [List.map_append, List.sum_append] at this
    simp at this ⊢
    omega
  · rcases h.dup with hd | ⟨h1, h2⟩
    · exact .inl hd
    · refine .inr ⟨by simpa using h1, fun b o hS => by simpa using h2 b o hS⟩
  · rw [List.drop_zero]
    exact OsR.keep _ _ _ _ (fun b hb2 _ => hb b (by have := h.olds x (by simp) b hb2; omega)) (fun o v _ _ hv => (World.cell?_of_block (w := w) (hb x.g hx.2.2.1)).trans hv) hxo.row
/-- A list is done. -/
theorem In.fin {w0 wS w : World} {C mb : Nat} {ov : Value} {F : List Nat} {st0 cs : List Ps} {x : Ps} {i nn nS T : Nat} {S : Nat → Nat → Prop} {rem : List Nat} {l : List Tm} {g0 : Nat} (h : In w0 wS w C mb ov F st0 cs x i nn nS T S rem) (hi : x.m.length ≤ i) (hk : Kont l g0 F wS (st0 ++ [x])) : Wk w0 w C mb ov (x.g :: F) (st0 ++ cs) nn T S 0 [] ∧ Kont l g0 (x.g :: F) w (st0 ++ cs) := by
  have hr := h.row
  have hw := h.wk
  have hh := h.half
  rw [List.drop_of_length_le hi] at hr hw
  rw [List.take_of_length_le hi] at hh
  rw [OsR] at hr
  subst hr
  rw [inL] at hw
  exact ⟨hw, hk.step h.kF hh h.fr⟩
/-- Where the first list's copy is: among what is done, or still open. -/
def Top (g0 c0 : Nat) (F : List Nat) (w : World) (st : List Ps) : Prop := (g0 ∈ F ∧ Szd w g0 c0) ∨ ∃ x ∈ st, x.g = g0 ∧ x.c = c0
theorem In.top {w0 wS w : World} {C mb : Nat} {ov : Value} {F : List Nat} {st0 cs : List Ps} {x : Ps} {i nn nS T : Nat} {S : Nat → Nat → Prop} {rem : List Nat} {g0 c0 : Nat} (h : In w0 wS w C mb ov F st0 cs x i nn nS T S rem) (ht : Top g0 c0 F wS (st0 ++ [x])) : Top g0 c0 (x.g :: F) w (st0 ++ cs) := by
  rcases ht with ⟨h1, h2⟩ | ⟨y, hy, h1, h2⟩
  · exact .inl ⟨List.mem_cons_of_mem _ h1, h2.keep (h.kF g0 h1)⟩
  · rcases List.mem_append.1 hy with hy | hy
    · exact .inr ⟨y, List.mem_append_left _ hy, h1, h2⟩
    · rw [List.mem_singleton] at hy
      subst hy
      have hz := h.sz
      rw [h1, h2] at hz
      exact .inl ⟨by rw [h1]; exact List.mem_cons_self, hz⟩
/-- All is done. -/
theorem Wk.fin {w0 w : World} {C mb : Nat} {ov : Value} {F : List Nat} {nn T : Nat} {S : Nat → Nat → Prop} {extra : Nat} {rem : List Nat} {l : List Tm} {g0 : Nat} (h : Wk w0 w C mb ov F [] nn T S extra rem) (hk : Kont l g0 F w []) : ∃ bs, OsL w l bs (some ⟨g0, 0, none⟩) ∧ bs.Nodup ∧ ∀ b ∈ bs, w0.heap.size ≤ b := by
  obtain ⟨bs, hp, ho⟩ := hk.fin
  have hn := h.nd
  rw [List.map_nil, List.append_nil] at hn
  exact ⟨bs, ho, (List.Perm.nodup_iff hp).2 hn, fun b hb => (h.lo b (List.mem_append_left _ (hp.mem_iff.1 hb))).1⟩
/-- The first list. -/
theorem Wk.start {w0 w : World} {C mb : Nat} {ov : Value} {l : List Tm} {g c b o : Nat} {bs : List Nat} {S : Nat → Nat → Prop} (hl : l ≠ []) (hcp : Cp w0 w C mb ov [⟨g, c, l, bs⟩] l.length S) (hok : Ps.ok w ⟨g, c, l, bs⟩) (hg : w0.heap.size ≤ g) (hgl : g < w.heap.size) (hC : g ≠ C) (hm : g ≠ mb) (hov : ov.ownBlock ≠ some g) (hbs : ∀ z ∈ bs, z < w0.heap.size) (hS : ∀ x y, S x y → x = b) (hd : ntL l ≤ 10000 ∨ (b :: bs).Nodup) : Wk w0 w C mb ov [] [⟨g, c, l, bs⟩] l.length (ntL l) S 0 [] := by
  refine ⟨hcp, fun y hy => by simp at hy; subst hy; exact hok, by simp, fun z hz => by simp at hz; subst hz; exact ⟨hg, hgl, hC, hm, hov⟩, fun y hy => by simp at hy; subst hy; exact hbs, by rw [ntL_eq l]; simp, ?_, ?_⟩
  rotate_left
  · rcases Nat.eq_zero_or_pos l.length with h | h
    · exact absurd (List.eq_nil_of_length_eq_zero h) hl
    · exact h
  rcases hd with h | h
  · exact .inl h
  · obtain ⟨h1, h2⟩ := List.nodup_cons.1 h
    refine .inr ⟨by simpa using h2, fun x y hs => ?_⟩
    rw [hS x y hs]
    simpa using h1
end Go.Proofs.YtfjaphhijefdlaaGreatDoor
namespace Go.Proofs.YtfjaphhijefdlaaGreatDoor
open Go.RowKit
set_option linter.unusedVariables false

def nnOf (w : World) (C : Nat) : Nat := match w.cell? ⟨C, 2, none⟩ with | some (.int _ n) => n.toNat | _ => 0
def openOf (w : World) (C : Nat) : Nat := match w.cell? ⟨C, 0, none⟩ with | some (.slice _ n _) => n | _ => 0
theorem nnOf_is {w : World} {C n : Nat} (h : w.cell? ⟨C, 2, none⟩ = some (.int .i64 n)) : nnOf w C = n := by
  unfold nnOf; rw [h]; simp
theorem openOf_is {w : World} {C n c : Nat} {a : Option Addr} (h : w.cell? ⟨C, 0, none⟩ = some (.slice a n c)) : openOf w C = n := by
  unfold openOf; rw [h]

/-- What ownTerms answers. -/
def OwnP (w : World) (l : List Tm) (e : Ending) (w' : World) : Prop := ∃ ao' cap' bs', e = .returned (.slice ao' l.length cap') ∧ l.length ≤ cap' ∧ cap' ≤ maxLen ∧ OsL w' l bs' ao' ∧ bs'.Nodup ∧ (∀ b ∈ bs', w.heap.size ≤ b) ∧ Below w.heap.size w w'
/-- The same, and the room of the row that it answers. -/
def OwnQ (w : World) (l : List Tm) (e : Ending) (w' : World) : Prop := ∃ ao' cap' bs', e = .returned (.slice ao' l.length cap') ∧ l.length ≤ cap' ∧ cap' ≤ maxLen ∧ OsL w' l bs' ao' ∧ bs'.Nodup ∧ (∀ b ∈ bs', w.heap.size ≤ b) ∧ Below w.heap.size w w' ∧ ((l = [] ∧ ao' = none ∧ cap' = 0) ∨ (l ≠ [] ∧ ∃ g, ao' = some ⟨g, 0, none⟩ ∧ Szd w' g cap'))
/-- What it has in hand at each round. -/
def OwnI (w : World) (l : List Tm) (C mb g0 c0 : Nat) (wr : World) : Prop := ∃ (st : List Ps) (F : List Nat) (oa : Option Addr) (oc nn : Nat) (S : Nat → Nat → Prop), Wk w wr C mb (.slice oa st.length oc) F st nn (ntL l) S 0 [] ∧ Kont l g0 F wr st ∧ Top g0 c0 F wr st

theorem cp_start (w : World) : Cp w ((w.alloc (.map #[] 0)).alloc (.cells #[.slice none 0 0, .map (some w.heap.size), .int .i64 0] 108)) (w.heap.size + 1) w.heap.size (.slice none 0 0) [] 0 (fun _ _ => False) := by
  have e1 : (w.alloc (.map #[] 0)).heap.size = w.heap.size + 1 := by simp
  have q : ∀ j, ((w.alloc (.map #[] 0)).alloc (.cells #[.slice none 0 0, .map (some w.heap.size), .int .i64 0] 108)).cell? ⟨w.heap.size + 1, j, none⟩ = (#[.slice none 0 0, .map (some w.heap.size), .int .i64 0] : Array Value)[j]? := fun j => by
    rw [← e1, World.cell?_alloc_new]
  refine ⟨((Below.refl _ _).alloc (Nat.le_refl _) _).alloc (by simp) _, q 0, q 1, q 2, fun o => ?_, ⟨rfl, .inl ⟨rfl, rfl⟩⟩, ⟨#[], 0, ?_, fun e he => by simp at he⟩, fun b o h => h.elim, by omega, Nat.le_refl _, by omega, fun g hg => by simp [Value.ownBlock] at hg⟩
  · rw [← e1]; simp
  · show ((w.heap.push _).push _)[w.heap.size]? = _
    rw [Array.getElem?_push, if_neg (by simp), Array.getElem?_push, if_pos rfl]

theorem str_box (w : World) (k n : Int) (s : ByteArray) (v : Value) (hs : s.size ≤ 1048576) :
    Calls Tryz.prog 54 #[.string s] (w.alloc (.cells #[.int .i64 k, .int .i64 n, .string s, v] 26)).drew fun e w2 => e = .returned (.string s) ∧ Below w.heap.size w w2 ∧ ∀ z, w2.cell? ⟨w.heap.size, z, none⟩ = (#[.int .i64 k, .int .i64 n, .string s, v] : Array Value)[z]? := by
  refine (strClone_any s _ hs).mono ?_
  rintro e w2 ⟨h1, h2⟩
  have hb : Below w.heap.size w (w.alloc (.cells #[.int .i64 k, .int .i64 n, .string s, v] 26)).drew := ((Below.refl _ _).alloc (Nat.le_refl _) _).drew
  refine ⟨h1, hb.trans (h2.mono hb.size), fun z => ?_⟩
  rw [h2.cell (p := ⟨w.heap.size, z, none⟩) (by show w.heap.size < _; simp)]
  exact World.cell?_alloc_new w _ _ z

set_option maxHeartbeats 2000000 in
set_option maxRecDepth 100000 in
theorem ownTerms_anyq (l : List Tm) (bs : List Nat) (ao : Option Addr) (cap : Nat) (w : World) (h : OsL w l bs ao) (hd : ntL l ≤ 10000 ∨ bs.Nodup) (hn : ntL l ≤ 4194304) :
    Calls Tryz.prog 36 #[.slice ao l.length cap] w (OwnQ w l) := by
  have hlen : l.length ≤ ntL l := by rw [ntL_eq l]; omega
  have HB0 : Hid (Below w.heap.size w ((w.alloc (.map #[] 0)).alloc (.cells #[.slice none 0 0, .map (some w.heap.size), .int .i64 0] 108))) := ((Below.refl _ _).alloc (Nat.le_refl _) _).alloc (by simp) _
  by_cases hl : l = []
  · subst hl
    have k0 : ((w.alloc (.map #[] 0)).alloc (.cells #[.slice none 0 0, .map (some w.heap.size), .int .i64 0] 108)).cell? ⟨w.heap.size + 1, 0, none⟩ = some (.slice none 0 0) := (cp_start w).c0
    have hmm := @run_makeMap Tryz.prog
    go_enter Tryz.func36, Tryz.ntmps36
    go_wp2_with (go_at_call 53; fail)
    clear hmm
    refine (listOf_none _ _ _ _).mono ?_
    rintro e w1 ⟨rfl, hw1⟩
    obtain rfl := hw1.symm
    obtain ⟨W, hW⟩ : ∃ W, W = (w.alloc (.map #[] 0)).alloc (.cells #[.slice none 0 0, .map (some w.heap.size), .int .i64 0] 108) := ⟨_, rfl⟩
    rw [← hW] at k0 HB0 ⊢
    clear hW
    go_wp2_with fail
    go_loopw [] (fun wr => wr = W) (fun _ => 0)
    case atStart => rfl
    case round =>
      subst hrel
      go_wp2_with fail
      go_ret
      exact ⟨none, 0, [], rfl, Nat.le_refl _, Nat.zero_le _, by rw [OsL], by simp, (fun b hb => by cases hb), HB0.out, .inl ⟨rfl, rfl, rfl⟩⟩
  · obtain ⟨b, o, bs0, e1, e2, hfz, hrow⟩ := (OsL.iff hl).1 h
    subst e1 e2
    have hlt := OsL.lt l _ _ h
    have HL0 : Hid (Calls Tryz.prog 53 #[.pointer (some ⟨w.heap.size + 1, 0, none⟩), .slice (some ⟨b, o, none⟩) l.length cap] ((w.alloc (.map #[] 0)).alloc (.cells #[.slice none 0 0, .map (some w.heap.size), .int .i64 0] 108)) fun e w' => ∃ g c, e = .returned (.slice (some ⟨g, 0, none⟩) l.length c) ∧ l.length ≤ c ∧ c ≤ maxLen ∧ OwnI w l (w.heap.size + 1) w.heap.size g c w') := by
      refine (listOf_any w _ (w.heap.size + 1) w.heap.size (.slice none 0 0) [] 0 _ (cp_start w) l hl b o cap bs0 (OsL.below HB0.out h) (hlt b (by simp)) (by omega) (by omega) (by simp) (fun x hx => hlt x (by simp [hx])) (fun hS => hS.elim)).mono ?_
      rintro e w1 ⟨g, c, ov', rfl, hok, hg, hcp, hlf, hov⟩
      refine ⟨g, c, rfl, hok.le, hok.max, ?_⟩
      have hcp2 := hcp
      rw [Nat.zero_add, List.nil_append] at hcp2
      obtain ⟨oa, oc, rfl⟩ := hcp2.slice
      have hz0 := HB0.out.size
      have hzz : ((w.alloc (.map #[] 0)).alloc (.cells #[.slice none 0 0, .map (some w.heap.size), .int .i64 0] 108)).heap.size = w.heap.size + 2 := by simp
      rw [hzz] at hg
      have hgl : g < w1.heap.size := by
        have hr := hok.row
        cases hlc : l with
        | nil => exact absurd hlc hl
        | cons t r =>
          rw [hlc, OsR] at hr
          obtain ⟨_, _, _, ht, _⟩ := hr
          obtain ⟨v, hv⟩ := ht.head
          exact World.block_lt_of_cell? w1 _ hv
      have hovg : (Value.slice oa [(⟨g, c, l, bs0⟩ : Ps)].length oc).ownBlock ≠ some g := fun e => by
        rcases hov with h1 | ⟨q, h1, h2, h3⟩
        · rw [h1] at e; simp [Value.ownBlock] at e
        · rw [h1] at e; injection e with e; exact h3 e
      exact ⟨[⟨g, c, l, bs0⟩], [], oa, oc, l.length, _, Wk.start (o := o) hl hcp2 hok (by omega) hgl (by omega) (by omega) hovg (fun z hz => hlt z (by simp [hz])) (fun x y hS => by rcases hS with hS | ⟨h1, _⟩; exact hS.elim; exact h1) hd, Kont.start hl w1 g c bs0, .inr ⟨⟨g, c, l, bs0⟩, by simp, rfl, rfl⟩⟩
    have HNT : Hid (ntL l ≤ 4194304) := hn
    clear h hfz hrow hlt hd hlen hn
    have hmm := @run_makeMap Tryz.prog
    go_enter Tryz.func36, Tryz.ntmps36
    go_wp2_with (go_at_call 53; fail)
    clear hmm
    refine HL0.out.mono ?_
    rintro e w1 ⟨g0, c0, rfl, hc1, hc2, hI⟩
    have HI0 : Hid (OwnI w l (w.heap.size + 1) w.heap.size g0 c0 w1) := hI
    have HCAP : Hid (l.length ≤ c0 ∧ c0 ≤ maxLen) := ⟨hc1, hc2⟩
    clear hI hc1 hc2
    generalize hC : w.heap.size + 1 = C at *
    have HC : Hid (w.heap.size + 1 = C) := hC
    clear hC
    go_wp2_with fail
    go_loopw [] (fun wr => OwnI w l C w.heap.size g0 c0 wr) (fun wr => 2 * (ntL l - nnOf wr C) + openOf wr C)
    case atStart => exact HI0.out
    case round =>
      revert hrel
      generalize wr = wq
      intro hrel
      obtain ⟨st, F, oa, oc, nn, S, hw, hk, htp⟩ := hrel
      have HW : Hid (Wk w wq C w.heap.size (.slice oa st.length oc) F st nn (ntL l) S 0 []) := hw
      have HK : Hid (Kont l g0 F wq st) := hk
      have HTOP : Hid (Top g0 c0 F wq st) := htp
      have k0 := hw.cp.c0
      clear hw hk htp
      rcases List.eq_nil_or_concat st with rfl | ⟨st0, x, hst⟩
      · go_wp2_with fail
        go_ret
        obtain ⟨bs', ho, hnd, hlo⟩ := HW.out.fin HK.out
        exact ⟨_, _, bs', rfl, HCAP.out.1, HCAP.out.2, ho, hnd, hlo, HW.out.cp.be, .inr ⟨hl, g0, rfl, by rcases HTOP.out with h | ⟨x, hx, _⟩; exact h.2; cases hx⟩⟩
      · rw [List.concat_eq_append] at hst
        subst hst
        rw [List.length_append, List.length_singleton] at k0 HW
        obtain ⟨ob, rfl, hlast, hoc1, hoc2⟩ := HW.out.last
        have HIN : Hid (In w wq (wq.setCell ⟨C, 0, none⟩ (.slice (some ⟨ob, 0, none⟩) st0.length oc)) C w.heap.size (.slice (some ⟨ob, 0, none⟩) st0.length oc) F st0 [] x 0 nn nn (ntL l) S x.ob) := HW.out.pop
        obtain ⟨xg, xc, xm, xob⟩ := x
        have fz := HW.out.cp.fz
        unfold maxLen at hoc2
        have V1 : IntKind.i64.wrap (((st0.length + 1 : Nat) : Int) - 1) = (st0.length : Int) := by rw [IntKind.wrap_i64]; omega
        simp only [psV] at hlast
        have hmn : (xm.length : Int) ≤ 9223372036854775807 := by
          have h1 := (HW.out.ps ⟨xg, xc, xm, xob⟩ (by simp)).le
          have h2 := (HW.out.ps ⟨xg, xc, xm, xob⟩ (by simp)).max
          unfold maxLen at h2
          simp only at h1 h2
          omega
        go_wp2_with fail
        obtain ⟨WS, hWS⟩ : ∃ WS, WS = wq.setCell ⟨C, 0, none⟩ (.slice (some ⟨ob, 0, none⟩) st0.length oc) := ⟨_, rfl⟩
        rw [← hWS] at HIN ⊢
        clear hWS
        go_loopw [34] (fun vi wx => ∃ (i : Nat) (ov : Value) (cs : List Ps) (n2 : Nat) (S2 : Nat → Nat → Prop) (rem : List Nat), i ≤ xm.length ∧ vi = .int .i64 i ∧ In w wq wx C w.heap.size ov F st0 cs ⟨xg, xc, xm, xob⟩ i n2 nn (ntL l) S2 rem) (fun vi _ => xm.length - (intOf vi).toNat)
        case atStart => exact ⟨0, _, [], nn, S, xob, Nat.zero_le _, rfl, HIN.out⟩
        case round =>
          obtain ⟨i, ov, cs, n2, S2, rem, hi, rfl, hin⟩ := hrel
          have HN : Hid (In w wq wr C w.heap.size ov F st0 cs ⟨xg, xc, xm, xob⟩ i n2 nn (ntL l) S2 rem) := hin
          by_cases hlt : i < xm.length
          · obtain ⟨k, n, s, li, b1, b2, ao, cap, hat, er, q0, q1, q2, hs, q3, hle, hcp, hol, h2, hinl⟩ := drop_row hlt hin.row
            rw [Nat.mul_comm 4 i] at q0 q1 q2 q3
            have HAT : Hid (xm[i] = .mk k n s li) := hat
            have HS : Hid (s.size ≤ 1048576) := hs
            have hfr := hin.fr
            clear hat er hol h2 hinl hin hle hcp
            by_cases hli : li = []
            · subst hli
              have HMD : Hid (∀ w2, Below wr.heap.size wr w2 → Md w wq w2 C w.heap.size ov F st0 cs [] ⟨xg, xc, xm, xob⟩ i n2 nn (ntL l) S2 rem k n s [] (.slice none 0 0)) := fun w2 hb => (HN.out.call hb).void hlt HAT.out
              have HSTO : Hid (∀ w2, Below wr.heap.size wr w2 → w2.cell? ⟨xg, i * 4 + 2, none⟩ = some (.string s) ∧ w2.cell? ⟨xg, i * 4 + 3, none⟩ = some (.slice ao 0 cap) ∧ ∀ z, w2.frozen? ⟨xg, z, none⟩ = false) := fun w2 hb => by
                have hxl : xg < wr.heap.size := World.block_lt_of_cell? wr _ q0
                exact ⟨by rw [hb.cell (p := ⟨xg, i * 4 + 2, none⟩) hxl]; exact q2, by rw [hb.cell (p := ⟨xg, i * 4 + 3, none⟩) hxl]; exact q3, fun z => by rw [hb.frozen (p := ⟨xg, z, none⟩) hxl]; exact hfr z⟩
              obtain ⟨W, hW⟩ : ∃ W, W = wr.alloc (.cells #[.int .i64 k, .int .i64 n, .string s, .slice ao 0 cap] 26) := ⟨_, rfl⟩
              have qW : ∀ z, W.cell? ⟨wr.heap.size, z, none⟩ = (#[.int .i64 k, .int .i64 n, .string s, .slice ao 0 cap] : Array Value)[z]? := fun z => by rw [hW, World.cell?_alloc_new]
              have KSTR : Hid (Calls Tryz.prog 54 #[.string s] W.drew fun e w2 => e = .returned (.string s) ∧ Below wr.heap.size wr w2 ∧ ∀ z, w2.cell? ⟨wr.heap.size, z, none⟩ = (#[.int .i64 k, .int .i64 n, .string s, .slice ao 0 cap] : Array Value)[z]?) := by
                rw [hW]; exact str_box wr k n s (.slice ao 0 cap) HS.out
              go_wp2_with fail
              rw [← hW]
              clear hW
              go_region_with (first
                | (go_at_call 54; refine KSTR.out.mono ?_; rintro e w2 ⟨rfl, hb2, qb2⟩; obtain ⟨r2, r3, rf⟩ := HSTO.out w2 hb2; have HB2 : Hid (Below wr.heap.size wr w2) := hb2; clear hb2)
                | (go_at_call 53; refine (listOf_none _ _ _ _).mono ?_; rintro e w' ⟨rfl, hw'⟩; obtain rfl := hw'.symm))
              all_goals
                go_wp2_with fail
                go_roundw
                case rel =>
                  refine ⟨i + 1, ov, cs ++ [], n2, S2, rem, by omega, by go_num, (HMD.out w2 HB2.out).put ?_⟩
                  show Put2 xg (4 * i + 2) _ _ _ _
                  rw [Nat.mul_comm 4 i]
                  first
                    | exact put2_ab r2 r3
                    | exact put2_ba r2 r3
                case measure => simp [intOf]; omega
            · obtain ⟨b2, o2, cap2, bs2, rem2, er, q3', hol, hb0, hbs, hnew, hnT, hlT, hrow2⟩ := HN.out.asks hlt HAT.out hli
              rw [Nat.mul_comm 4 i] at q3'
              have eq3 := q3.symm.trans q3'
              simp only [Option.some.injEq, Value.slice.injEq, true_and] at eq3
              obtain ⟨rfl, rfl⟩ := eq3
              have KL : Hid (∀ w2, Below wr.heap.size wr w2 → Calls Tryz.prog 53 #[.pointer (some ⟨C, 0, none⟩), .slice (some ⟨b2, o2, none⟩) li.length cap] w2 fun e w3 => ∃ g3 c3, e = .returned (.slice (some ⟨g3, 0, none⟩) li.length c3) ∧ (∃ ov' S', Md w wq w3 C w.heap.size ov' F st0 cs [⟨g3, c3, li, bs2⟩] ⟨xg, xc, xm, xob⟩ i (n2 + li.length) nn (ntL l) S' rem2 k n s li (.slice (some ⟨g3, 0, none⟩) li.length c3)) ∧ w3.cell? ⟨xg, i * 4 + 2, none⟩ = some (.string s) ∧ (∃ v, w3.cell? ⟨xg, i * 4 + 3, none⟩ = some v) ∧ ∀ z, w3.frozen? ⟨xg, z, none⟩ = false) := fun w2 hb => by
                have hin2 := HN.out.call hb
                have hNT := HNT.out
                have hlen2 := hin2.wk.len
                refine (listOf_any w w2 C w.heap.size ov (st0 ++ cs) n2 S2 hin2.wk.cp li hli b2 o2 cap bs2 (OsL.below hb hol) hb0 (by omega) (by omega) (by omega) hbs hnew).mono ?_
                rintro e w3 ⟨g3, c3, ov', rfl, hok, hg, hcp3, hlf, hov⟩
                have hmd := hin2.full hlt HAT.out hli er (OsR.keep _ _ _ _ (fun x _ hl => hb.block x hl) (fun z v _ _ hv => by rw [hb.cell (p := ⟨xg, z, none⟩) (World.block_lt_of_cell? wr _ hv)]; exact hv) hrow2) hok hg hcp3 hlf hov
                have e2 := hmd.k2
                have e3 := hmd.k3
                rw [Nat.mul_comm 4 i] at e2 e3
                exact ⟨g3, c3, rfl, ⟨ov', _, hmd⟩, e2, e3, hmd.fr⟩
              clear hol hb0 hbs hnew hnT hlT hrow2 er q3'
              have HSTO : Hid (∀ w2, Below wr.heap.size wr w2 → w2.cell? ⟨xg, i * 4 + 2, none⟩ = some (.string s) ∧ w2.cell? ⟨xg, i * 4 + 3, none⟩ = some (.slice (some ⟨b2, o2, none⟩) li.length cap) ∧ ∀ z, w2.frozen? ⟨xg, z, none⟩ = false) := fun w2 hb => by
                have hxl : xg < wr.heap.size := World.block_lt_of_cell? wr _ q0
                exact ⟨by rw [hb.cell (p := ⟨xg, i * 4 + 2, none⟩) hxl]; exact q2, by rw [hb.cell (p := ⟨xg, i * 4 + 3, none⟩) hxl]; exact q3, fun z => by rw [hb.frozen (p := ⟨xg, z, none⟩) hxl]; exact hfr z⟩
              obtain ⟨W, hW⟩ : ∃ W, W = wr.alloc (.cells #[.int .i64 k, .int .i64 n, .string s, .slice (some ⟨b2, o2, none⟩) li.length cap] 26) := ⟨_, rfl⟩
              have qW : ∀ z, W.cell? ⟨wr.heap.size, z, none⟩ = (#[.int .i64 k, .int .i64 n, .string s, .slice (some ⟨b2, o2, none⟩) li.length cap] : Array Value)[z]? := fun z => by rw [hW, World.cell?_alloc_new]
              have KSTR : Hid (Calls Tryz.prog 54 #[.string s] W.drew fun e w2 => e = .returned (.string s) ∧ Below wr.heap.size wr w2 ∧ ∀ z, w2.cell? ⟨wr.heap.size, z, none⟩ = (#[.int .i64 k, .int .i64 n, .string s, .slice (some ⟨b2, o2, none⟩) li.length cap] : Array Value)[z]?) := by
                rw [hW]; exact str_box wr k n s (.slice (some ⟨b2, o2, none⟩) li.length cap) HS.out
              go_wp2_with fail
              rw [← hW]
              clear hW
              go_region_with (first
                | (go_at_call 54; refine KSTR.out.mono ?_; rintro e w2 ⟨rfl, hb2, qb2⟩; have HB2 : Hid (Below wr.heap.size wr w2) := hb2; clear hb2)
                | (go_at_call 53; refine (KL.out w2 HB2.out).mono ?_; rintro e w3 ⟨g3, c3, rfl, hmd3, r2, ⟨v3, r3⟩, rf⟩; have HMD3 : Hid (∃ ov' S', Md w wq w3 C w.heap.size ov' F st0 cs [⟨g3, c3, li, bs2⟩] ⟨xg, xc, xm, xob⟩ i (n2 + li.length) nn (ntL l) S' rem2 k n s li (.slice (some ⟨g3, 0, none⟩) li.length c3)) := hmd3; clear hmd3))
              all_goals
                go_wp2_with fail
                go_roundw
                case rel =>
                  obtain ⟨ov', S', hmd⟩ := HMD3.out
                  refine ⟨i + 1, ov', cs ++ [⟨g3, c3, li, bs2⟩], n2 + li.length, S', rem2, by omega, by go_num, hmd.put ?_⟩
                  show Put2 xg (4 * i + 2) _ _ _ _
                  rw [Nat.mul_comm 4 i]
                  first
                    | exact put2_ab r2 r3
                    | exact put2_ba r2 r3
                case measure => simp [intOf]; omega
          · have hfin : Wk w wr C w.heap.size ov (xg :: F) (st0 ++ cs) n2 (ntL l) S2 0 [] ∧ Kont l g0 (xg :: F) wr (st0 ++ cs) := HN.out.fin (by show xm.length ≤ i; omega) HK.out
            have HF : Hid (Wk w wr C w.heap.size ov (xg :: F) (st0 ++ cs) n2 (ntL l) S2 0 [] ∧ Kont l g0 (xg :: F) wr (st0 ++ cs)) := hfin
            have HTP2 : Hid (Top g0 c0 (xg :: F) wr (st0 ++ cs)) := HN.out.top HTOP.out
            have HFEW : Hid (nn + cs.length ≤ n2) := HN.out.few
            clear hfin hin
            go_wp2_with fail
            go_roundw
            case rel =>
              obtain ⟨hw, hk⟩ := HF.out
              obtain ⟨oa, oc2, rfl⟩ := hw.cp.slice
              exact ⟨st0 ++ cs, xg :: F, oa, oc2, n2, S2, hw, hk, HTP2.out⟩
            case measure =>
              obtain ⟨hw, hk⟩ := HF.out
              obtain ⟨oa, oc2, rfl⟩ := hw.cp.slice
              have a1 := nnOf_is hw.cp.c2
              have a2 := openOf_is hw.cp.c0
              have a3 := nnOf_is HW.out.cp.c2
              have a4 := openOf_is HW.out.cp.c0
              have a5 := hw.cnt
              have a6 := HFEW.out
              rw [a1, a2, a3, a4, List.length_append]
              omega
theorem ownTerms_any (l : List Tm) (bs : List Nat) (ao : Option Addr) (cap : Nat) (w : World) (h : OsL w l bs ao) (hd : ntL l ≤ 10000 ∨ bs.Nodup) (hn : ntL l ≤ 4194304) :
    Calls Tryz.prog 36 #[.slice ao l.length cap] w (OwnP w l) :=
  (ownTerms_anyq l bs ao cap w h hd hn).mono fun _ _ ⟨ao', cap', bs', h1, h2, h3, h4, h5, h6, h7, _⟩ => ⟨ao', cap', bs', h1, h2, h3, h4, h5, h6, h7⟩
end Go.Proofs.YtfjaphhijefdlaaGreatDoor
namespace Go.Proofs.YtfjaphhijefdlaaGreatDoor
open Go.RowKit Atom
set_option linter.unusedVariables false

theorem keepOt {w w' : World} (h : Below w.heap.size w w') {b o : Nat} {v : Value} (hc : w.cell? ⟨b, o, none⟩ = some v) : w'.cell? ⟨b, o, none⟩ = some v := by
  rw [h.cell (p := ⟨b, o, none⟩) (World.block_lt_of_cell? w ⟨b, o, none⟩ hc)]; exact hc
theorem OsV.top {w : World} {bs : List Nat} {k n : Int} {s : ByteArray} {l : List Tm} {ao : Option Addr} {cap : Nat} (h : OsV w bs (.mk k n s l) (.agg #[.int .i64 k, .int .i64 n, .string s, .slice ao l.length cap])) : s.size ≤ 1048576 ∧ l.length ≤ cap ∧ cap ≤ maxLen ∧ OsL w l bs ao := by
  obtain ⟨ao', cap', e, h1, h2, h3, h4⟩ := h
  simp only [Value.agg.injEq, Array.mk.injEq, List.cons.injEq, and_true, Value.slice.injEq, true_and] at e
  obtain ⟨rfl, rfl⟩ := e
  exact ⟨h1, h2, h3, h4⟩

set_option maxHeartbeats 1000000 in
set_option maxRecDepth 100000 in
theorem ownTerm_any (t : Tm) (bs : List Nat) (v : Value) (w : World) (h : OsV w bs t v) (hnd : bs.Nodup) (hn : ntL [t] ≤ 4194304) :
    Calls Tryz.prog 18 #[v] w fun e w' => ∃ v' bs', e = .returned v' ∧ OsV w' bs' t v' ∧ bs'.Nodup ∧ (∀ b ∈ bs', w.heap.size ≤ b) ∧ Below w.heap.size w w' := by
  obtain ⟨k, n, s, l⟩ := t
  obtain ⟨ao, cap, rfl, hs, hl, hc, ho⟩ := h
  have hlt := OsL.lt l bs ao ho
  obtain ⟨W, hW⟩ : ∃ W, W = ((w.alloc (.cells #[.int .i64 k, .int .i64 n, .string s, .slice ao l.length cap] 26)).alloc (.cells #[.int .i64 0, .int .i64 0, .string ⟨#[]⟩, .slice none 0 0] 26)).alloc (.cells #[.int .i64 k, .int .i64 n, .string s, .slice ao l.length cap] 26) := ⟨_, rfl⟩
  have hbW : Below w.heap.size w W := by rw [hW]; exact (((Below.refl _ _).alloc (Nat.le_refl _) _).alloc (by simp) _).alloc (by simp; omega) _
  have h3 := three_new (w := w) (w1 := W) (c1 := #[.int .i64 k, .int .i64 n, .string s, .slice ao l.length cap]) (c2 := #[.int .i64 0, .int .i64 0, .string ⟨#[]⟩, .slice none 0 0]) (c3 := #[.int .i64 k, .int .i64 n, .string s, .slice ao l.length cap]) (t1 := 26) (t2 := 26) (t3 := 26) (by rw [hW]; exact Below.refl _ _)
  obtain ⟨hz, q2, q3, f2, f3⟩ := h3
  have hzW : W.heap.size = w.heap.size + 3 := by rw [hW]; simp
  have hos : OsL W [.mk k n s l] ((w.heap.size + 1 + 1) :: (bs ++ [])) (some ⟨w.heap.size + 1 + 1, 0, none⟩) := by
    rw [OsL]
    refine ⟨w.heap.size + 1 + 1, 0, bs, [], rfl, rfl, f3, ?_, by rw [OsR]⟩
    rw [OsT]
    exact ⟨q3 0, q3 1, q3 2, hs, ao, cap, q3 3, hl, hc, OsL.below hbW ho⟩
  have hnd2 : ((w.heap.size + 1 + 1) :: (bs ++ [])).Nodup := by
    rw [List.append_nil, List.nodup_cons]
    exact ⟨fun hm => by have := hlt _ hm; omega, hnd⟩
  have HOWN : Hid (Calls Tryz.prog 36 #[.slice (some ⟨w.heap.size + 1 + 1, 0, none⟩) 1 1] W (OwnP W [.mk k n s l])) := ownTerms_any [.mk k n s l] _ _ 1 W hos (.inr hnd2) hn
  have HBW : Hid (Below w.heap.size w W) := hbW
  have HQ : Hid (∀ w1, Below W.heap.size W w1 → w1.cell? ⟨w.heap.size + 1, 0, none⟩ = some (.int .i64 0) ∧ w1.cell? ⟨w.heap.size + 1, 1, none⟩ = some (.int .i64 0) ∧ w1.cell? ⟨w.heap.size + 1, 2, none⟩ = some (.string ⟨#[]⟩) ∧ w1.cell? ⟨w.heap.size + 1, 3, none⟩ = some (.slice none 0 0) ∧ (∀ z, w1.frozen? ⟨w.heap.size + 1, z, none⟩ = false)) := fun w1 hb =>
    ⟨keepOt hb (q2 0), keepOt hb (q2 1), keepOt hb (q2 2), keepOt hb (q2 3), fun z => by rw [hb.frozen (p := ⟨w.heap.size + 1, z, none⟩) (by show w.heap.size + 1 < _; omega)]; exact f2 z⟩
  clear hos hnd2 hbW hlt ho hs hl hc hnd hn q2 q3 f2 f3 hz
  go_enter Tryz.func18, Tryz.ntmps18
  go_wp2_with (go_at_call 36; fail)
  rw [← hW]
  clear hW
  refine HOWN.out.mono ?_
  rintro e w1 ⟨ao', cap', bs', rfl, hl1, hl2, ho1, hnd1, hlo1, hb1⟩
  rw [OsL] at ho1
  obtain ⟨g, o, c1, c2, eb, ea, hfz, hT, hR⟩ := ho1
  rw [OsR] at hR
  subst hR eb ea
  rw [List.append_nil] at hnd1 hlo1
  rw [OsT] at hT
  obtain ⟨d0, d1, d2, hs2, ao2, cap2, d3, hle2, hcp2, hol2⟩ := hT
  have hgo := hlo1 g (by simp)
  have HR1 : Hid (OsL w1 l c1 ao2 ∧ c1.Nodup ∧ (∀ b ∈ c1, W.heap.size ≤ b) ∧ s.size ≤ 1048576 ∧ l.length ≤ cap2 ∧ cap2 ≤ maxLen) := ⟨hol2, (List.nodup_cons.1 hnd1).2, fun b hb => hlo1 b (by simp [hb]), hs2, hle2, hcp2⟩
  have HB1 : Hid (Below w.heap.size w w1) := HBW.out.trans (hb1.mono HBW.out.size)
  obtain ⟨r0, r1, r2, r3, rf⟩ := HQ.out w1 hb1
  have HZW : Hid (W.heap.size = w.heap.size + 3) := hzW
  clear hol2 hnd1 hlo1 hs2 hle2 hcp2 hb1 hl1 hl2 hgo hzW
  go_wp2_with fail
  refine bodyPost_ret (v := .agg #[.int .i64 k, .int .i64 n, .string s, .slice ao2 l.length cap2]) (by simp [results, Tryz.results18, go_sem, r0, r1, r2, r3]) rfl ⟨_, c1, rfl, ⟨ao2, cap2, rfl, HR1.out.2.2.2.1, HR1.out.2.2.2.2.1, HR1.out.2.2.2.2.2, OsL.keep _ _ _ (fun x hx _ => ?_) HR1.out.1⟩, HR1.out.2.1, fun b hb => ?_, ?_⟩
  · have h1 := HR1.out.2.2.1 x hx
    have h2 := HZW.out
    rw [Below.heap_setCell _ ⟨w.heap.size + 1, 3, none⟩ _ x (by show x ≠ w.heap.size + 1; omega), Below.heap_setCell _ ⟨w.heap.size + 1, 2, none⟩ _ x (by show x ≠ w.heap.size + 1; omega), Below.heap_setCell _ ⟨w.heap.size + 1, 1, none⟩ _ x (by show x ≠ w.heap.size + 1; omega), Below.heap_setCell _ ⟨w.heap.size + 1, 0, none⟩ _ x (by show x ≠ w.heap.size + 1; omega)]
  · have h1 := HR1.out.2.2.1 b hb
    have h2 := HZW.out
    omega
  · exact (((HB1.out.setCell (by show w.heap.size ≤ w.heap.size + 1; omega) _).setCell (by show w.heap.size ≤ w.heap.size + 1; omega) _).setCell (by show w.heap.size ≤ w.heap.size + 1; omega) _).setCell (by show w.heap.size ≤ w.heap.size + 1; omega) _
end Go.Proofs.YtfjaphhijefdlaaGreatDoor
namespace Go.Proofs.YtfjaphhijefdlaaGreatDoor
open Go.RowKit
set_option linter.unusedVariables false

theorem run_copy4 (w : World) (ty : TypeId) (g o dLen dCap : Nat) (a : Addr) (sLen sCap : Nat) (cur : Array Value) (t : TypeId) (n : Nat) (cs : List Value) (hn : Nat.min sLen dLen = n) (hcs : cs.length = n * 4)
    (hg : w.heap[g]? = some (.cells cur t (0, 0))) (hsrc : ∀ j v, cs[j]? = some v → w.cell? (a.add j) = some v) (hfit : o + cs.length ≤ cur.size) (h1 : ∀ v ∈ cs, v.oneCell' = true) :
    (Builtin.copy_ #[24, 24] ty #[.slice (some ⟨g, o, none⟩) dLen dCap, .slice (some a) sLen sCap]).run Tryz.prog w =
      .ok (goInt n) (w.setRow g (cur.toList.take o ++ cs ++ cur.toList.drop (o + cs.length)).toArray) := by
  have hl := run_loadCells_list (P := Tryz.prog) w a cs hsrc
  have hst := run_storeCells_at Tryz.prog g o t cs 0 cur w hg (by simpa using hfit) h1
  obtain ⟨i, hi, hz, hs, hb⟩ := infoParts9 info26
  rw [hcs] at hl
  have hn' : min sLen dLen = n := hn
  simp [Builtin.copy_, run_underlying underlying24, Builtin.lenOf, Builtin.firstCells, sizeOf, typeInfo, hi, hs, hn', hl, hst]
theorem step_copy4 {ops : Array Oper} {o : Oper} {a : Act} {w : World} {K : Act → World → Prop} {Q : Exit → Act → World → Prop} {E : Prop} (hgd : o.guard = none) (d s : Operand)
    (ho : o.op = .call { callee := .builtin .copy, args := #[d, s], argTypes := #[24, 24] }) (g off dLen dCap : Nat) (ad : Addr) (sLen sCap : Nat) (hd : a.eval d = .slice (some ⟨g, off, none⟩) dLen dCap) (hs : a.eval s = .slice (some ad) sLen sCap)
    (cur : Array Value) (t : TypeId) (n : Nat) (cs : List Value) (hn : Nat.min sLen dLen = n) (hcs : cs.length = n * 4)
    (hg : w.heap[g]? = some (.cells cur t (0, 0))) (hsrc : ∀ j v, cs[j]? = some v → w.cell? (ad.add j) = some v) (hfit : off + cs.length ≤ cur.size) (h1 : ∀ v ∈ cs, v.oneCell' = true)
    (newrow : List Value) (hnew : cur.toList.take off ++ cs ++ cur.toList.drop (off + cs.length) = newrow) (B : Nat) (w0 : World) (hb : Below B w0 w) (hBg : B ≤ g) (dst : Option Nat) (hdst : o.dst = dst) (ni : Int) (hni : (n : Int) = ni)
    (h : ∀ w', Hid (w'.heap[g]? = some (.cells newrow.toArray t (0, 0))) → Hid (Below B w0 w') → K (a.put dst (.int .i64 ni)) w') :
    if Region.wanted o (yielded ops a.tmps) = true then Oper.wp Tryz.prog o a w K Q else E := by
  have hw : Region.wanted o (yielded ops a.tmps) = true := by simp [Region.wanted, hgd]
  rw [if_pos hw]
  have hrun := run_copy4 w o.type g off dLen dCap ad sLen sCap cur t n cs hn hcs hg hsrc hfit h1
  unfold Oper.wp
  simp only [execOp, ho, resolve, invoke, builtin, Sem.run_bind, Sem.run_pure, Result.andThen_ok, List.map_toArray, List.map_cons, List.map_nil, hd, hs, hrun]
  have hgi : goInt n = .int .i64 ni := by rw [← hni]; rfl
  rw [hgi]
  show K (a.put o.dst _) _
  rw [hdst]
  refine h _ ?_ ?_
  · rw [hnew]; exact setRow_heap w g cur _ t (0, 0) hg
  · exact hb.trans ⟨rfl, rfl, rfl, by simp [World.setRow], fun k hk => setRow_other w g k _ (by omega)⟩

abbrev eV : List Value := [.int .i64 1, .int .i64 0, .string ⟨#[]⟩, .slice none 0 0]
abbrev zV : List Value := [.int .i64 0, .int .i64 0, .string ⟨#[]⟩, .slice none 0 0]
def rowA (n : Nat) : List Value := (List.replicate n eV).flatten ++ (List.replicate (8 - n) zV).flatten
theorem zeros8 : zeros 8 = (rowA 0).toArray := by kernel_rfl
theorem one8 {n : Nat} : ∀ u ∈ (List.replicate n eV).flatten, u.oneCell' = true := fun u hu => by
  obtain ⟨l, h1, h2⟩ := List.mem_flatten.1 hu
  obtain rfl := List.eq_of_mem_replicate h1
  simp at h2
  rcases h2 with rfl | rfl | rfl | rfl <;> rfl
theorem rowA_at {n j : Nat} {v : Value} (h : (List.replicate n eV).flatten[j]? = some v) : (rowA n)[j]? = some v := by
  unfold rowA
  rw [List.getElem?_append_left (List.getElem?_eq_some_iff.1 h).1]; exact h
theorem setRow_below {w : World} {g : Nat} {B : Nat} {w0 : World} (hb : Below B w0 w) (hg : B ≤ g) (c : Array Value) : Below B w0 (w.setRow g c) := hb.trans ⟨rfl, rfl, rfl, by simp [World.setRow], fun k hk => setRow_other w g k c (by omega)⟩
theorem src_row {w : World} {g n : Nat} (hg : w.heap[g]? = some (.cells (rowA n).toArray 26 (0, 0))) : ∀ j v, (List.replicate n eV).flatten[j]? = some v → w.cell? ((⟨g, 0, none⟩ : Addr).add j) = some v := fun j v hv => by
  rw [Addr.add_lit, Nat.zero_add]
  simp [World.cell?, hg, rowA_at hv]
theorem fill2 {n : Nat} (h : n = 1 ∨ n = 2 ∨ n = 4) : ((rowA n).toArray.toList.take (n * 4) ++ (List.replicate n eV).flatten ++ (rowA n).toArray.toList.drop (n * 4 + (List.replicate n eV).flatten.length)) = rowA (2 * n) := by
  rcases h with rfl | rfl | rfl <;> rfl

theorem run_fill4 {w W : World} {n : Nat} (h : n = 1 ∨ n = 2 ∨ n = 4) (hg : W.heap[w.heap.size]? = some (.cells (rowA n).toArray 26 (0, 0))) (hb : Below w.heap.size w W) :
    ∃ w2, (Builtin.copy_ #[24, 24] 3 #[.slice (some ⟨w.heap.size, n * 4, none⟩) (8 - n) (8 - n), .slice (some ⟨w.heap.size, 0, none⟩) n 8]).run Tryz.prog W = .ok (.int .i64 n) w2 ∧ w2.heap[w.heap.size]? = some (.cells (rowA (2 * n)).toArray 26 (0, 0)) ∧ Below w.heap.size w w2 := by
  have hl : (List.replicate n eV).flatten.length = n * 4 := by rcases h with rfl | rfl | rfl <;> rfl
  have hmin : Nat.min n (8 - n) = n := by rcases h with rfl | rfl | rfl <;> rfl
  have hfit : n * 4 + (List.replicate n eV).flatten.length ≤ (rowA n).toArray.size := by rcases h with rfl | rfl | rfl <;> decide
  have := run_copy4 W 3 w.heap.size (n * 4) (8 - n) (8 - n) ⟨w.heap.size, 0, none⟩ n 8 (rowA n).toArray 26 n (List.replicate n eV).flatten hmin hl hg (src_row hg) hfit one8
  rw [fill2 h] at this
  exact ⟨_, this, setRow_heap W w.heap.size _ _ _ (0, 0) hg, setRow_below hb (Nat.le_refl _) _⟩
theorem mul18 (w : World) : Calls Tryz.prog 35 #[.int .u64 1, .int .u64 8] w fun e w' => e = .returned (.tuple #[.int .u64 0, .int .u64 8]) ∧ w' = w := by
  refine (Tryz.bits_Mul 1 8 (by omega) (by omega) w).mono ?_
  intro e w' h
  simpa using h

set_option maxHeartbeats 1000000 in
set_option maxRecDepth 100000 in
theorem repeat8_any (b : Nat) (w : World) (hx : ∀ j, w.cell? ⟨b, j, none⟩ = eV.toArray[j]?) :
    Calls Tryz.prog 17 #[.slice (some ⟨b, 0, none⟩) 1 1, .int .i64 8] w fun e w' => ∃ g, e = .returned (.slice (some ⟨g, 0, none⟩) 8 8) ∧ w.heap.size ≤ g ∧ w'.heap[g]? = some (.cells (rowA 8).toArray 26 (0, 0)) ∧ Below w.heap.size w w' := by
  have hbl : b < w.heap.size := by
    have : w.cell? ⟨b, 0, none⟩ = some (.int .i64 1) := hx 0
    exact World.block_lt_of_cell? w _ this
  have hmk : ∀ w : World, (Instr.makeSlice 24 (.int .i64 8) (.int .i64 8)).run Tryz.prog w = .ok (.slice (some ⟨w.heap.size, 0, none⟩) 8 8) (w.alloc (.cells (zeros 8) 26)) := run_zeros 8 (by omega)
  have hg0 : (w.alloc (.cells (zeros 8) 26)).heap[w.heap.size]? = some (.cells (rowA 0).toArray 26 (0, 0)) := by
    rw [zeros8]; show (w.heap.push _)[w.heap.size]? = _; simp
  have hcp : (Builtin.copy_ #[24, 24] 3 #[.slice (some ⟨w.heap.size, 0, none⟩) 8 8, .slice (some ⟨b, 0, none⟩) 1 1]).run Tryz.prog (w.alloc (.cells (zeros 8) 26)) = .ok (.int .i64 1) ((w.alloc (.cells (zeros 8) 26)).setRow w.heap.size (rowA 1).toArray) := by
    have := run_copy4 (w.alloc (.cells (zeros 8) 26)) 3 w.heap.size 0 8 8 ⟨b, 0, none⟩ 1 1 (rowA 0).toArray 26 1 eV rfl rfl hg0 (fun j v hv => by
      rw [Addr.add_lit, Nat.zero_add, World.cell?_alloc_lt (h := hbl), hx j]; simpa using hv) (by decide) (by intro u hu; simp at hu; rcases hu with rfl | rfl | rfl | rfl <;> rfl)
    exact this
  obtain ⟨W1, hW1⟩ : ∃ W1, W1 = (w.alloc (.cells (zeros 8) 26)).setRow w.heap.size (rowA 1).toArray := ⟨_, rfl⟩
  have HG1 : Hid (W1.heap[w.heap.size]? = some (.cells (rowA 1).toArray 26 (0, 0))) := by rw [hW1]; exact setRow_heap _ _ _ _ _ _ hg0
  have HB1 : Hid (Below w.heap.size w W1) := by rw [hW1]; exact setRow_below ((Below.refl _ _).alloc (Nat.le_refl _) _) (Nat.le_refl _) _
  rw [← hW1] at hcp
  clear hW1 hg0 hx hbl
  go_enter Tryz.func17, Tryz.ntmps17
  go_wp2_with (go_at_call 35; refine (mul18 _).mono ?_; rintro e w' ⟨rfl, hw'⟩; obtain rfl := hw'.symm)
  clear hcp hmk
  go_loopw [8] (fun v wr => ∃ n : Nat, (n = 1 ∨ n = 2 ∨ n = 4 ∨ n = 8) ∧ v = .int .i64 n ∧ wr.heap[w.heap.size]? = some (.cells (rowA n).toArray 26 (0, 0)) ∧ Below w.heap.size w wr) (fun v _ => 8 - (intOf v).toNat)
  case atStart => exact ⟨1, .inl rfl, rfl, HG1.out, HB1.out⟩
  case round =>
    obtain ⟨n, hn, rfl, hg, hb⟩ := hrel
    have HG : Hid (wr.heap[w.heap.size]? = some (.cells (rowA n).toArray 26 (0, 0))) := hg
    have HB : Hid (Below w.heap.size w wr) := hb
    clear hg hb
    have e2 : IntKind.i64.wrap 2 = 2 := by decide
    have e4 : IntKind.i64.wrap 4 = 4 := by decide
    have e8 : IntKind.i64.wrap 8 = 8 := by decide
    rcases hn with rfl | rfl | rfl | rfl
    · obtain ⟨w2, hcp2, hg2, hb2⟩ := run_fill4 (n := 1) (W := wr.drew) (by omega) HG.out HB.out.drew
      have HG2 : Hid (w2.heap[w.heap.size]? = some (.cells (rowA 2).toArray 26 (0, 0))) := hg2
      have HB2 : Hid (Below w.heap.size w w2) := hb2
      clear hg2 hb2
      have hcp3 : (Builtin.copy_ #[24, 24] 3 #[.slice (some ⟨w.heap.size, 4, none⟩) 7 7, .slice (some ⟨w.heap.size, 0, none⟩) 1 8]).run Tryz.prog wr.drew = .ok (.int .i64 1) w2 := hcp2
      clear hcp2
      go_wp2_with fail
      go_region
      all_goals
        clear hcp3
        go_wp2_with fail
        go_roundw
        case rel => exact ⟨2, by omega, by rfl, HG2.out, HB2.out⟩
        case measure => simp [intOf]
    · obtain ⟨w2, hcp2, hg2, hb2⟩ := run_fill4 (n := 2) (W := wr.drew) (by omega) HG.out HB.out.drew
      have HG2 : Hid (w2.heap[w.heap.size]? = some (.cells (rowA 4).toArray 26 (0, 0))) := hg2
      have HB2 : Hid (Below w.heap.size w w2) := hb2
      clear hg2 hb2
      have hcp3 : (Builtin.copy_ #[24, 24] 3 #[.slice (some ⟨w.heap.size, 8, none⟩) 6 6, .slice (some ⟨w.heap.size, 0, none⟩) 2 8]).run Tryz.prog wr.drew = .ok (.int .i64 2) w2 := hcp2
      clear hcp2
      go_wp2_with fail
      go_region
      all_goals
        clear hcp3
        go_wp2_with fail
        go_roundw
        case rel => exact ⟨4, by omega, by rfl, HG2.out, HB2.out⟩
        case measure => simp [intOf]
    · obtain ⟨w2, hcp2, hg2, hb2⟩ := run_fill4 (n := 4) (W := wr.drew) (by omega) HG.out HB.out.drew
      have HG2 : Hid (w2.heap[w.heap.size]? = some (.cells (rowA 8).toArray 26 (0, 0))) := hg2
      have HB2 : Hid (Below w.heap.size w w2) := hb2
      clear hg2 hb2
      have hcp3 : (Builtin.copy_ #[24, 24] 3 #[.slice (some ⟨w.heap.size, 16, none⟩) 4 4, .slice (some ⟨w.heap.size, 0, none⟩) 4 8]).run Tryz.prog wr.drew = .ok (.int .i64 4) w2 := hcp2
      clear hcp2
      go_wp2_with fail
      go_region
      all_goals
        clear hcp3
        go_wp2_with fail
        go_roundw
        case rel => exact ⟨8, by omega, by rfl, HG2.out, HB2.out⟩
        case measure => simp [intOf]
    · go_wp2_with fail
      go_ret
      exact ⟨w.heap.size, rfl, Nat.le_refl _, HG.out, HB.out⟩
end Go.Proofs.YtfjaphhijefdlaaGreatDoor
namespace Go.Proofs.YtfjaphhijefdlaaGreatDoor
open Go.RowKit Atom
set_option linter.unusedVariables false

end Go.Proofs.YtfjaphhijefdlaaGreatDoor
namespace Go.Proofs.YtfjaphhijefdlaaGreatDoor
open Go.RowKit Atom
set_option linter.unusedVariables false

def e0T : Tm := .mk 1 0 ⟨#[]⟩ []
def seven : List Tm := List.replicate 7 e0T
def nwB (pid pc : Int) (t : Tm) : Bool := pidB pid && (decide (0 ≤ pc) && okT t)
def nwR (pid pc : Int) (t : Tm) : List Tm := if nwB pid pc t = true then t :: seven else []
def nwI (pid pc : Int) (t : Tm) (x : Int) : Int := if nwB pid pc t = true then x else 0
theorem nw_no {pid pc : Int} {t : Tm} (h : nwB pid pc t = false) : nwR pid pc t = [] ∧ ∀ x, nwI pid pc t x = 0 := by
  unfold nwR nwI; rw [h]; simp
theorem nw_yes {pid pc : Int} {t : Tm} (h : nwB pid pc t = true) : nwR pid pc t = t :: seven ∧ ∀ x, nwI pid pc t x = x := by
  unfold nwR nwI; rw [h]; simp
theorem rep_at : ∀ (n j i : Nat) (v : Value), j < n → eV[i]? = some v → (List.replicate n eV).flatten[4 * j + i]? = some v
  | 0, j, i, v, h, _ => absurd h (Nat.not_lt_zero _)
  | n + 1, 0, i, v, _, hv => by
    rw [List.replicate_succ, List.flatten_cons, Nat.mul_zero, Nat.zero_add, List.getElem?_append_left (List.getElem?_eq_some_iff.1 hv).1]; exact hv
  | n + 1, j + 1, i, v, h, hv => by
    have hl : eV.length = 4 := rfl
    rw [List.replicate_succ, List.flatten_cons, List.getElem?_append_right (by rw [hl]; omega), hl, show 4 * (j + 1) + i - 4 = 4 * j + i by omega]
    exact rep_at n j i v (by omega) hv
theorem rowA8_at {j i : Nat} {v : Value} (hj : j < 8) (hv : eV[i]? = some v) : (rowA 8)[4 * j + i]? = some v := rowA_at (rep_at 8 j i v hj hv)
theorem e0_row {w : World} {g : Nat} : ∀ (n off : Nat), (∀ j i v, j < n → eV[i]? = some v → w.cell? ⟨g, off + (4 * j + i), none⟩ = some v) → OsR w (List.replicate n e0T) [] g off
  | 0, off, _ => by rw [List.replicate_zero, OsR]
  | n + 1, off, h => by
    rw [List.replicate_succ, OsR]
    refine ⟨[], [], rfl, ?_, e0_row n (off + 4) (fun j i v hj hv => ?_)⟩
    · have c0 := h 0 0 _ (by omega) rfl
      have c1 := h 0 1 _ (by omega) rfl
      have c2 := h 0 2 _ (by omega) rfl
      have c3 := h 0 3 _ (by omega) rfl
      rw [e0T, OsT]
      exact ⟨c0, c1, c2, by show 0 ≤ 1048576; omega, none, 0, c3, Nat.le_refl _, Nat.zero_le _, by rw [OsL]⟩
    · have := h (j + 1) i v (by omega) hv
      rw [show off + 4 + (4 * j + i) = off + (4 * (j + 1) + i) by omega]; exact this

theorem five_set {w : World} {R : Nat} {z0 z1 z2 z3 z4 : Value} (h : ∀ o, w.cell? ⟨R, o, none⟩ = (#[z0, z1, z2, z3, z4] : Array Value)[o]?) : w.cell? ⟨R, 0, none⟩ = some z0 ∧ w.cell? ⟨R, 1, none⟩ = some z1 ∧ w.cell? ⟨R, 2, none⟩ = some z2 ∧ w.cell? ⟨R, 3, none⟩ = some z3 ∧ w.cell? ⟨R, 4, none⟩ = some z4 := ⟨h 0, h 1, h 2, h 3, h 4⟩

def set5 (w : World) (R : Nat) (a b c d e : Value) : World := ((((w.setCell ⟨R, 0, none⟩ a).setCell ⟨R, 1, none⟩ b).setCell ⟨R, 2, none⟩ c).setCell ⟨R, 3, none⟩ d).setCell ⟨R, 4, none⟩ e
theorem set5_blk {w : World} {R x : Nat} {a b c d e : Value} (h : x ≠ R) : (set5 w R a b c d e).heap[x]? = w.heap[x]? := by
  unfold set5
  rw [Below.heap_setCell _ ⟨R, 4, none⟩ _ x h, Below.heap_setCell _ ⟨R, 3, none⟩ _ x h, Below.heap_setCell _ ⟨R, 2, none⟩ _ x h, Below.heap_setCell _ ⟨R, 1, none⟩ _ x h, Below.heap_setCell _ ⟨R, 0, none⟩ _ x h]
theorem set4_blk9 {w : World} {g o x : Nat} {a b c d : Value} (h : x ≠ g) : (set4 w g o a b c d).heap[x]? = w.heap[x]? := by
  unfold set4
  rw [Below.heap_setCell _ ⟨g, o + 3, none⟩ _ x h, Below.heap_setCell _ ⟨g, o + 2, none⟩ _ x h, Below.heap_setCell _ ⟨g, o + 1, none⟩ _ x h, Below.heap_setCell _ ⟨g, o, none⟩ _ x h]
theorem new_done {w3 : World} {g R : Nat} {t : Tm} {bs : List Nat} {a b c d r0 r1 r2 r3 r4 : Value} (hg : w3.heap[g]? = some (.cells (rowA 8).toArray 26 (0, 0))) (hv : OsV w3 bs t (.agg #[a, b, c, d])) (h1 : ∀ x ∈ bs, x ≠ g) (h2 : ∀ x ∈ bs, x ≠ R) (h3 : g ≠ R) :
    OsL (set5 (set4 w3 g 0 a b c d) R r0 r1 r2 r3 r4) (t :: seven) (g :: (bs ++ [])) (some ⟨g, 0, none⟩) := by
  have hcell : ∀ z, w3.cell? ⟨g, z, none⟩ = (rowA 8)[z]? := fun z => by simp [World.cell?, hg]
  have hX : ∀ z, (set5 (set4 w3 g 0 a b c d) R r0 r1 r2 r3 r4).cell? ⟨g, z, none⟩ = (set4 w3 g 0 a b c d).cell? ⟨g, z, none⟩ := fun z => World.cell?_of_block (set5_blk h3)
  have hin := set4_in (w := w3) (g := g) (o := 0) (a := a) (b := b) (c := c) (d := d) (fun j hj => by
    rw [Nat.zero_add, hcell]
    match j, hj with
    | 0, _ => rfl
    | 1, _ => rfl
    | 2, _ => rfl
    | 3, _ => rfl)
  obtain ⟨k, n, s, l⟩ := t
  obtain ⟨ao, cap, e, hs, hl, hc, hr⟩ := hv
  simp only [Value.agg.injEq, Array.mk.injEq, List.cons.injEq, and_true] at e
  obtain ⟨rfl, rfl, rfl, rfl⟩ := e
  rw [OsL]
  refine ⟨g, 0, bs, [], rfl, rfl, fun x => ?_, ?_, ?_⟩
  · rw [World.frozen?_of_block (w := set4 w3 g 0 (.int .i64 k) (.int .i64 n) (.string s) (.slice ao l.length cap)) (set5_blk h3), set4_frozen]
    simp [World.frozen?, hg]
  · rw [OsT]
    refine ⟨(hX _).trans hin.1, (hX _).trans hin.2.1, (hX _).trans hin.2.2.1, hs, ao, cap, (hX _).trans hin.2.2.2, hl, hc, OsL.keep _ _ _ (fun x hx _ => ?_) hr⟩
    rw [set5_blk (h2 x hx), set4_blk9 (h1 x hx)]
  · refine e0_row 7 (0 + 4) (fun j i v hj hv => ?_)
    rw [hX, set4_far (p := ⟨g, 0 + 4 + (4 * j + i), none⟩) (Or.inr (Or.inr (by show 0 + 3 < 0 + 4 + (4 * j + i); omega))), hcell, show 0 + 4 + (4 * j + i) = 4 * (j + 1) + i by omega]
    exact rowA8_at (by omega) hv

set_option maxHeartbeats 2000000 in
set_option maxRecDepth 100000 in
theorem implNew_any (pid pc : Int) (t : Tm) (bs : List Nat) (v : Value) (w : World) (h : OsV w bs t v) (hnd : bs.Nodup) (hn : ntL [t] ≤ 4194304) :
    Calls Tryz.prog 6 #[.int .i64 pid, .int .i64 pc, v] w fun e w' => ∃ ra rc bs', e = .returned (.agg #[.int .i64 (nwI pid pc t pid), .int .i64 (nwI pid pc t pc), .slice ra (nwR pid pc t).length rc, .slice none 0 0, .slice none 0 0]) ∧ (nwR pid pc t).length ≤ rc ∧ rc ≤ maxLen ∧ OsL w' (nwR pid pc t) bs' ra ∧ bs'.Nodup ∧ (∀ b ∈ bs', w.heap.size ≤ b) ∧ Below w.heap.size w w' := by
  have hrep := h.rep
  obtain ⟨va, vb, vc, vd, ve, vf, rfl⟩ := h.form
  obtain ⟨W, hW⟩ : ∃ W, W = (w.alloc (.cells #[.int .i64 va, .int .i64 vb, .string vc, .slice vd ve vf] 26)).alloc (.cells #[.int .i64 0, .int .i64 0, .slice none 0 0, .slice none 0 0, .slice none 0 0] 31) := ⟨_, rfl⟩
  have hbW : Below w.heap.size w W := by rw [hW]; exact ((Below.refl _ _).alloc (Nat.le_refl _) _).alloc (by simp) _
  have hzW : W.heap.size = w.heap.size + 2 := by rw [hW]; simp
  have qa : ∀ o, W.cell? ⟨w.heap.size, o, none⟩ = (#[.int .i64 va, .int .i64 vb, .string vc, .slice vd ve vf] : Array Value)[o]? := fun o => by
    rw [hW, World.cell?_alloc_lt (h := by simp), World.cell?_alloc_new]
  have qr : ∀ o, W.cell? ⟨w.heap.size + 1, o, none⟩ = (#[.int .i64 0, .int .i64 0, .slice none 0 0, .slice none 0 0, .slice none 0 0] : Array Value)[o]? := fun o => by
    have e1 : (w.alloc (.cells #[.int .i64 va, .int .i64 vb, .string vc, .slice vd ve vf] 26)).heap.size = w.heap.size + 1 := by simp
    rw [hW, ← e1, World.cell?_alloc_new]
  have fr : ∀ o, W.frozen? ⟨w.heap.size + 1, o, none⟩ = false := fun o => by
    have e1 : (w.alloc (.cells #[.int .i64 va, .int .i64 vb, .string vc, .slice vd ve vf] 26)).heap.size = w.heap.size + 1 := by simp
    rw [hW, ← e1, World.frozen?_alloc_new]
  have HV : Hid (OsV w bs t (.agg #[.int .i64 va, .int .i64 vb, .string vc, .slice vd ve vf]) ∧ bs.Nodup) := ⟨h, hnd⟩
  have HR : Hid (RepV 0 w t (.agg #[.int .i64 va, .int .i64 vb, .string vc, .slice vd ve vf])) := hrep
  have HBW : Hid (Below w.heap.size w W) := hbW
  have HN : Hid (ntL [t] ≤ 4194304) := hn
  have HQ : Hid (∀ w1, Below W.heap.size W w1 → (∀ o, w1.cell? ⟨w.heap.size, o, none⟩ = (#[.int .i64 va, .int .i64 vb, .string vc, .slice vd ve vf] : Array Value)[o]?) ∧ (∀ o, w1.cell? ⟨w.heap.size + 1, o, none⟩ = (#[.int .i64 0, .int .i64 0, .slice none 0 0, .slice none 0 0, .slice none 0 0] : Array Value)[o]?) ∧ (∀ o, w1.frozen? ⟨w.heap.size + 1, o, none⟩ = false)) := fun w1 hb =>
    ⟨fun o => by rw [hb.cell (p := ⟨w.heap.size, o, none⟩) (by show w.heap.size < _; omega)]; exact qa o, fun o => by rw [hb.cell (p := ⟨w.heap.size + 1, o, none⟩) (by show w.heap.size + 1 < _; omega)]; exact qr o, fun o => by rw [hb.frozen (p := ⟨w.heap.size + 1, o, none⟩) (by show w.heap.size + 1 < _; omega)]; exact fr o⟩
  have HOK : Hid (∀ w1, Below W.heap.size W w1 → Calls Tryz.prog 16 #[.agg #[.int .i64 va, .int .i64 vb, .string vc, .slice vd ve vf]] w1 fun e w2 => e = .returned (.bool (okT t)) ∧ Below W.heap.size W w2) := fun w1 hb =>
    (implOk_any t 0 w1 _ ((Keeps.below (hbW.trans (hb.mono hbW.size)) 0).repV hrep)).mono fun e w2 ⟨h1, h2⟩ => ⟨h1, hb.trans (h2.mono hb.size)⟩
  have HZW : Hid (W.heap.size = w.heap.size + 2) := hzW
  clear h hnd hn hrep hbW hzW qa qr fr
  have HFIN : Hid (∀ w1 a b c, Below W.heap.size W w1 → Below w.heap.size w (((((w1.setCell ⟨w.heap.size + 1, 0, none⟩ a).setCell ⟨w.heap.size + 1, 1, none⟩ b).setCell ⟨w.heap.size + 1, 2, none⟩ c).setCell ⟨w.heap.size + 1, 3, none⟩ (.slice none 0 0)).setCell ⟨w.heap.size + 1, 4, none⟩ (.slice none 0 0))) := fun w1 a b c hb =>
    (((((HBW.out.trans (hb.mono HBW.out.size)).setCell (by show w.heap.size ≤ w.heap.size + 1; omega) _).setCell (by show w.heap.size ≤ w.heap.size + 1; omega) _).setCell (by show w.heap.size ≤ w.heap.size + 1; omega) _).setCell (by show w.heap.size ≤ w.heap.size + 1; omega) _).setCell (by show w.heap.size ≤ w.heap.size + 1; omega) _
  go_enter Tryz.func6, Tryz.ntmps6
  go_wp2_with (go_at_call 15; fail)
  rw [← hW]
  clear hW
  refine (isPid_any _ _).mono ?_
  rintro e w' ⟨rfl, hw'⟩
  obtain rfl := hw'.symm
  obtain ⟨qa, qr, fr⟩ := HQ.out W (Below.refl _ _)
  cases hp : pidB pid
  · have hno : nwB pid pc t = false := by unfold nwB; rw [hp]; rfl
    obtain ⟨n1, n2⟩ := nw_no hno
    go_wp2_with fail
    refine bodyPost_ret (v := .agg #[.int .i64 0, .int .i64 0, .slice none 0 0, .slice none 0 0, .slice none 0 0]) (by simp [results, Tryz.results6, go_sem, qr]) rfl ?_
    rw [n1, n2, n2]
    exact ⟨none, 0, [], rfl, Nat.le_refl _, Nat.zero_le _, by rw [OsL], by simp, (fun b hb => by cases hb), HFIN.out W _ _ _ (Below.refl _ _)⟩
  · by_cases hpc : pc < 0
    · have hno : nwB pid pc t = false := by unfold nwB; rw [decide_eq_false (by omega)]; simp
      obtain ⟨n1, n2⟩ := nw_no hno
      go_wp2_with fail
      refine bodyPost_ret (v := .agg #[.int .i64 0, .int .i64 0, .slice none 0 0, .slice none 0 0, .slice none 0 0]) (by simp [results, Tryz.results6, go_sem, qr]) rfl ?_
      rw [n1, n2, n2]
      exact ⟨none, 0, [], rfl, Nat.le_refl _, Nat.zero_le _, by rw [OsL], by simp, (fun b hb => by cases hb), HFIN.out W _ _ _ (Below.refl _ _)⟩
    · go_wp2_with (go_at_call 16; fail)
      refine (HOK.out W (Below.refl _ _)).mono ?_
      rintro e w1 ⟨he, hb1⟩
      have HB1 : Hid (Below W.heap.size W w1) := hb1
      clear qa qr fr
      obtain ⟨qa, qr, fr⟩ := HQ.out w1 hb1
      clear hb1
      cases hok : okT t
      · rw [hok] at he
        subst he
        have hno : nwB pid pc t = false := by unfold nwB; rw [hok]; simp
        obtain ⟨n1, n2⟩ := nw_no hno
        go_wp2_with fail
        refine bodyPost_ret (v := .agg #[.int .i64 0, .int .i64 0, .slice none 0 0, .slice none 0 0, .slice none 0 0]) (by simp [results, Tryz.results6, go_sem, qr]) rfl ?_
        rw [n1, n2, n2]
        exact ⟨none, 0, [], rfl, Nat.le_refl _, Nat.zero_le _, by rw [OsL], by simp, (fun b hb => by cases hb), HFIN.out w1 _ _ _ HB1.out⟩
      · rw [hok] at he
        subst he
        have hyes : nwB pid pc t = true := by unfold nwB; rw [hp, hok, decide_eq_true (by omega)]; rfl
        obtain ⟨n1, n2⟩ := nw_yes hyes
        have HN1 : Hid (nwR pid pc t = t :: seven ∧ ∀ x, nwI pid pc t x = x) := ⟨n1, n2⟩
        clear hok hyes n1 n2
        have hx1 : ∀ j, (w1.alloc (.cells #[.int .i64 1, .int .i64 0, .string ⟨#[]⟩, .slice none 0 0] 26)).cell? ⟨w1.heap.size, j, none⟩ = eV.toArray[j]? := fun j => World.cell?_alloc_new w1 _ _ j
        have HRP : Hid (Calls Tryz.prog 17 #[.slice (some ⟨w1.heap.size, 0, none⟩) 1 1, .int .i64 8] (w1.alloc (.cells #[.int .i64 1, .int .i64 0, .string ⟨#[]⟩, .slice none 0 0] 26)) fun e w2 => ∃ g, e = .returned (.slice (some ⟨g, 0, none⟩) 8 8) ∧ w1.heap.size ≤ g ∧ w2.heap[g]? = some (.cells (rowA 8).toArray 26 (0, 0)) ∧ Below w1.heap.size w1 w2) := by
          refine (repeat8_any w1.heap.size _ hx1).mono ?_
          rintro e w2 ⟨g, h1, h2, h3, h4⟩
          have hb0 : Below w1.heap.size w1 (w1.alloc (.cells #[.int .i64 1, .int .i64 0, .string ⟨#[]⟩, .slice none 0 0] 26)) := (Below.refl _ _).alloc (Nat.le_refl _) _
          exact ⟨g, h1, by have := hb0.size; omega, h3, hb0.trans (h4.mono hb0.size)⟩
        clear hx1
        go_wp2_with (go_at_call 17; fail)
        refine HRP.out.mono ?_
        rintro e w2 ⟨g, rfl, hg1, hg2, hb2⟩
        have HB2 : Hid (Below W.heap.size W w2) := HB1.out.trans (hb2.mono HB1.out.size)
        have HG2 : Hid (w2.heap[g]? = some (.cells (rowA 8).toArray 26 (0, 0)) ∧ W.heap.size ≤ g) := ⟨hg2, Nat.le_trans HB1.out.size hg1⟩
        have HOT : Hid (∀ w3, Below W.heap.size W w3 → Calls Tryz.prog 18 #[.agg #[.int .i64 va, .int .i64 vb, .string vc, .slice vd ve vf]] w3 fun e w4 => ∃ v' bs', e = .returned v' ∧ OsV w4 bs' t v' ∧ bs'.Nodup ∧ (∀ b ∈ bs', w3.heap.size ≤ b) ∧ Below w3.heap.size w3 w4) := fun w3 hb =>
          ownTerm_any t bs _ w3 (OsV.below (HBW.out.trans (hb.mono HBW.out.size)) HV.out.1) HV.out.2 HN.out
        clear qa qr fr
        obtain ⟨qa, qr, fr⟩ := HQ.out w2 HB2.out
        clear hg1 hg2 hb2
        go_wp2_with (go_at_call 18; fail)
        refine (HOT.out w2 HB2.out).mono ?_
        rintro e w3 ⟨v', bs', rfl, hv3, hnd3, hlo3, hb3⟩
        obtain ⟨a3, b3, c3, d3, e3, f3, rfl⟩ := hv3.form
        have HB3 : Hid (Below W.heap.size W w3) := HB2.out.trans (hb3.mono HB2.out.size)
        have hgl : g < w2.heap.size := by
          rcases Nat.lt_or_ge g w2.heap.size with h | h
          · exact h
          · have := HG2.out.1; rw [Array.getElem?_eq_none h] at this; cases this
        have hg3 : w3.heap[g]? = some (.cells (rowA 8).toArray 26 (0, 0)) := (hb3.block g hgl).trans HG2.out.1
        have HG3 : Hid (w3.heap[g]? = some (.cells (rowA 8).toArray 26 (0, 0))) := hg3
        have HV3 : Hid (OsV w3 bs' t (.agg #[.int .i64 a3, .int .i64 b3, .string c3, .slice d3 e3 f3]) ∧ bs'.Nodup ∧ (∀ b ∈ bs', w2.heap.size ≤ b) ∧ g < w2.heap.size) := ⟨hv3, hnd3, hlo3, hgl⟩
        have hcg : ∀ z, w3.cell? ⟨g, z, none⟩ = (rowA 8)[z]? := fun z => by simp [World.cell?, hg3]
        have g0 : w3.cell? ⟨g, 0, none⟩ = some (.int .i64 1) := (hcg 0).trans rfl
        have g1 : w3.cell? ⟨g, 1, none⟩ = some (.int .i64 0) := (hcg 1).trans rfl
        have g2 : w3.cell? ⟨g, 2, none⟩ = some (.string ⟨#[]⟩) := (hcg 2).trans rfl
        have g3 : w3.cell? ⟨g, 3, none⟩ = some (.slice none 0 0) := (hcg 3).trans rfl
        have gf : ∀ z, w3.frozen? ⟨g, z, none⟩ = false := fun z => by simp [World.frozen?, hg3]
        clear qa qr fr
        obtain ⟨qa, qr, fr⟩ := HQ.out w3 HB3.out
        have hne : ¬ w.heap.size + 1 = g := by have := HG2.out.2; have := HZW.out; omega
        have hne2 : ¬ g = w.heap.size + 1 := fun e => hne e.symm
        clear hv3 hnd3 hlo3 hb3 hg3 hgl hcg qa
        obtain ⟨z0, z1, z2, z3, z4⟩ := five_set qr
        clear qr
        go_wp2_with fail
        have hzz := HZW.out
        have hw2 := HB2.out.size
        have hdone := new_done (R := w.heap.size + 1) (r0 := .int .i64 pid) (r1 := .int .i64 pc) (r2 := .slice (some ⟨g, 0, none⟩) 8 8) (r3 := .slice none 0 0) (r4 := .slice none 0 0) HG3.out HV3.out.1 (fun x hx => by have := HV3.out.2.2.1 x hx; have := HV3.out.2.2.2; omega) (fun x hx => by have := HV3.out.2.2.1 x hx; omega) hne2
        refine bodyPost_ret (v := .agg #[.int .i64 pid, .int .i64 pc, .slice (some ⟨g, 0, none⟩) 8 8, .slice none 0 0, .slice none 0 0]) ?_ rfl ?_
        · simp [results, Tryz.results6, go_sem, z0, z1, z2, z3, z4]
        rw [HN1.out.1, HN1.out.2, HN1.out.2]
        refine ⟨some ⟨g, 0, none⟩, 8, g :: (bs' ++ []), rfl, Nat.le_refl _, by unfold maxLen; omega, hdone, ?_, fun b hb => ?_, ?_⟩
        · rw [List.append_nil, List.nodup_cons]
          exact ⟨fun hm => by have := HV3.out.2.2.1 g hm; have := HV3.out.2.2.2; omega, HV3.out.2.1⟩
        · rw [List.append_nil] at hb
          have hg0 := HG2.out.2
          rcases List.mem_cons.1 hb with rfl | hb
          · omega
          · have := HV3.out.2.2.1 b hb; omega
        · have hg0 := HG2.out.2
          have hBB : Below w.heap.size w w3 := HBW.out.trans (HB3.out.mono HBW.out.size)
          exact ((((((((hBB.setCell (by show w.heap.size ≤ g; omega) _).setCell (by show w.heap.size ≤ g; omega) _).setCell (by show w.heap.size ≤ g; omega) _).setCell (by show w.heap.size ≤ g; omega) _).setCell (by show w.heap.size ≤ w.heap.size + 1; omega) _).setCell (by show w.heap.size ≤ w.heap.size + 1; omega) _).setCell (by show w.heap.size ≤ w.heap.size + 1; omega) _).setCell (by show w.heap.size ≤ w.heap.size + 1; omega) _).setCell (by show w.heap.size ≤ w.heap.size + 1; omega) _
end Go.Proofs.YtfjaphhijefdlaaGreatDoor
