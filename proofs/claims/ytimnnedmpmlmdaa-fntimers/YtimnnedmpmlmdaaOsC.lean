/-
  What a copy that is being made has in hand; its listOf.
-/
import Derived.Test.YtimnnedmpmlmdaaOsB
namespace Go.Proofs.Ytimnnedmpmlmdaa
open Go.RowKit
set_option linter.unusedVariables false

/-- A list that was copied, but not yet what stands in it. -/
structure Ps where
  g : Nat
  c : Nat
  m : List Tm
  ob : List Nat
def psV (x : Ps) : Value := .slice (some ⟨x.g, 0, none⟩) x.m.length x.c
structure Ps.ok (w : World) (x : Ps) : Prop where
  row : OsR w x.m x.ob x.g 0
  free : ∀ o, w.frozen? ⟨x.g, o, none⟩ = false
  le : x.m.length ≤ x.c
  max : x.c ≤ maxLen
  siz : Szd w x.g x.c
/-- C: the block of the copying, mb: its map, ov: its open lists. S: the lists that were met. -/
structure Cp (w0 w : World) (C mb : Nat) (ov : Value) (st : List Ps) (nn : Nat) (S : Nat → Nat → Prop) : Prop where
  be : Below w0.heap.size w0 w
  c0 : w.cell? ⟨C, 0, none⟩ = some ov
  c1 : w.cell? ⟨C, 1, none⟩ = some (.map (some mb))
  c2 : w.cell? ⟨C, 2, none⟩ = some (.int .i64 nn)
  fz : ∀ o, w.frozen? ⟨C, o, none⟩ = false
  own : w.ownsRow w0.heap.size 28 1 ov st.length (st.map psV)
  mp : NmMap w mb S
  old : ∀ b o, S b o → b < w0.heap.size
  hC : w0.heap.size ≤ C
  hm : w0.heap.size ≤ mb
  ne1 : C ≠ mb
  ne2 : ∀ g, ov.ownBlock = some g → g ≠ C ∧ g ≠ mb
theorem Cp.slice {w0 w : World} {C mb : Nat} {ov : Value} {st : List Ps} {nn : Nat} {S : Nat → Nat → Prop} (h : Cp w0 w C mb ov st nn S) : ∃ a c, ov = .slice a st.length c := by
  obtain ⟨_, h1 | ⟨g, c, cur, e, _⟩⟩ := h.own
  · exact ⟨none, 0, by rw [h1.1, h1.2]⟩
  · exact ⟨_, c, e⟩
/-- A call that makes new memory alone. -/
theorem Cp.call {w0 w w' : World} {C mb : Nat} {ov : Value} {st : List Ps} {nn : Nat} {S : Nat → Nat → Prop} (h : Cp w0 w C mb ov st nn S) (hb : Below w.heap.size w w') : Cp w0 w' C mb ov st nn S := by
  have hg : w.grownBy w' none := ⟨hb.os, hb.tape, hb.output, hb.size, fun k hk _ => hb.block k hk⟩
  have hCl := World.block_lt_of_cell? w _ h.c0
  have hml : mb < w.heap.size := by
    obtain ⟨es, clk, hm, _⟩ := h.mp
    rcases Nat.lt_or_ge mb w.heap.size with h | h
    · exact h
    · rw [Array.getElem?_eq_none h] at hm; cases hm
  refine ⟨h.be.trans (hb.mono h.be.size), ?_, ?_, ?_, fun o => ?_, h.own.kept hg (by by_cases e : ov.ownBlock = none; exact Or.inl e; exact Or.inr e), h.mp.keep (hb.block mb hml) (fun b o hs hp => ?_), h.old, h.hC, h.hm, h.ne1, h.ne2⟩
  · rw [hb.cell (p := ⟨C, 0, none⟩) hCl]; exact h.c0
  · rw [hb.cell (p := ⟨C, 1, none⟩) hCl]; exact h.c1
  · rw [hb.cell (p := ⟨C, 2, none⟩) hCl]; exact h.c2
  · rw [hb.frozen (p := ⟨C, o, none⟩) hCl]; exact h.fz o
  · have hbl : b < w.heap.size := Nat.lt_of_lt_of_le (h.old b o hs) h.be.size
    obtain ⟨⟨c, t, f, hh⟩, hf⟩ := hp
    exact ⟨⟨c, t, f, (hb.block b hbl).trans hh⟩, fun x => by rw [hb.frozen (p := ⟨b, x, none⟩) hbl]; exact hf x⟩
/-- Whatever a listOf leaves alone. -/
structure Lf (C mb : Nat) (ov : Value) (w w' : World) : Prop where
  os : w'.os = w.os
  tape : w'.tape = w.tape
  output : w'.output = w.output
  size : w.heap.size ≤ w'.heap.size
  block : ∀ k, k < w.heap.size → k ≠ C → k ≠ mb → ov.ownBlock ≠ some k → w'.heap[k]? = w.heap[k]?

theorem listOf_none (C : Nat) (ao : Option Addr) (cap : Nat) (w : World) :
    Calls Try.prog 72 #[.pointer (some ⟨C, 0, none⟩), .slice ao 0 cap] w fun e w' => e = .returned (.slice none 0 0) ∧ w' = w := by
  go_enter Try.func72, Try.ntmps72
  go_wp2_with fail
  go_ret
  exact ⟨rfl, rfl⟩

theorem ownsRow_set9 {w : World} {base : Nat} {e : TypeId} {size n : Nat} {v : Value} {xs : List Value} (h : w.ownsRow base e size v n xs) {b o : Nat} (hb : v.ownBlock ≠ some b) (u : Value) : (w.setCell ⟨b, o, none⟩ u).ownsRow base e size v n xs := by
  obtain ⟨h1, h2⟩ := h
  refine ⟨h1, ?_⟩
  rcases h2 with h2 | ⟨g', cap', cur, hv, hg, hh, r⟩
  · exact Or.inl h2
  · refine Or.inr ⟨g', cap', cur, hv, hg, ?_, r⟩
    rw [Below.heap_setCell _ _ _ _ (by show g' ≠ b; intro q; subst q; exact hb (by rw [hv]; rfl))]
    exact hh
theorem own_base {w : World} {base : Nat} {e : TypeId} {size n : Nat} {v : Value} {xs : List Value} (h : w.ownsRow base e size v n xs) {k : Nat} (hk : v.ownBlock = some k) : base ≤ k ∧ k < w.heap.size := by
  obtain ⟨_, hh | ⟨g, c, cur, e1, e2, e3, _⟩⟩ := h
  · rw [hh.1] at hk; cases hk
  · rw [e1] at hk
    simp only [Value.ownBlock, Option.some.injEq] at hk
    subst hk
    refine ⟨e2, ?_⟩
    rcases Nat.lt_or_ge g w.heap.size with h | h
    · exact h
    · rw [Array.getElem?_eq_none h] at e3; cases e3
theorem infoTmsS : (Try.prog.info? 28).map (fun i => (i.zero, i.size, i.bytes)) = some (some (.slice none 0 0), 1, 24) := by kernel_rfl
theorem undTmsS : Try.prog.underlying 117 = some (.slice 28) := by kernel_rfl
theorem src9 (w : World) (x : Value) (t : TypeId) : ∀ j u, [x][j]? = some u → (w.alloc (.cells #[x] t)).cell? ((⟨w.heap.size, 0, none⟩ : Addr).add j) = some u := fun j u hu => by
  match j, hu with
  | 0, hu => simp at hu; subst hu; simp [Addr.add]
theorem one9 (a : Option Addr) (n c : Nat) : ∀ u ∈ [Value.slice a n c], u.oneCell' = true := fun u hu => by
  simp at hu; subst hu; rfl
theorem form9 {w : World} {base : Nat} {e : TypeId} {n : Nat} {v : Value} {xs : List Value} (h : w.ownsRow base e 1 v (n + 1) xs) : ∃ g c, v = .slice (some ⟨g, 0, none⟩) (n + 1) c := by
  obtain ⟨_, hh | ⟨g, c, cur, e1, _⟩⟩ := h
  · exact absurd hh.2 (by omega)
  · exact ⟨g, c, e1⟩
theorem NmMap.lt {w : World} {mb : Nat} {S : Nat → Nat → Prop} (h : NmMap w mb S) : mb < w.heap.size := by
  obtain ⟨es, clk, hm, _⟩ := h
  rcases Nat.lt_or_ge mb w.heap.size with h | h
  · exact h
  · rw [Array.getElem?_eq_none h] at hm; cases hm
/-- What listOf leaves: the map, the open lists and the count are written. -/
theorem Cp.lay {w0 w2 w3 W3 w4 : World} {C mb : Nat} {ov v' : Value} {st : List Ps} {nn : Nat} {S S' : Nat → Nat → Prop} {x : Ps} (h : Cp w0 w2 C mb ov st nn S) (ht : Turn mb w2 w3) (hm : NmMap w3 mb S') (hS' : ∀ b o, S' b o → b < w0.heap.size) (hb3 : Below w3.heap.size w3 W3)
    (hown : w4.ownsRow w0.heap.size 28 1 v' (st.length + 1) (st.map psV ++ [psV x])) (hgr : W3.grownBy w4 ov.ownBlock) (hat : v'.ownBlock = ov.ownBlock ∨ v'.ownBlock = some W3.heap.size) (nn' : Nat) :
    Cp w0 ((w4.setCell ⟨C, 0, none⟩ v').setCell ⟨C, 2, none⟩ (.int .i64 nn')) C mb v' (st ++ [x]) nn' S' ∧ Lf C mb ov w2 ((w4.setCell ⟨C, 0, none⟩ v').setCell ⟨C, 2, none⟩ (.int .i64 nn')) ∧ (v'.ownBlock = ov.ownBlock ∨ ∃ k, v'.ownBlock = some k ∧ w2.heap.size ≤ k) := by
  have hC2 : C < w2.heap.size := World.block_lt_of_cell? w2 _ h.c0
  have hm2 := h.mp.lt
  have z23 := ht.size
  have z3 := hb3.size
  have z4 := hgr.size
  have hne : some C ≠ ov.ownBlock := fun e => (h.ne2 C e.symm).1 rfl
  have hnm : some mb ≠ ov.ownBlock := fun e => (h.ne2 mb e.symm).2 rfl
  have K4 : ∀ k, k < w3.heap.size → ov.ownBlock ≠ some k → w4.heap[k]? = w3.heap[k]? := fun k hk hn => (hgr.block k (by omega) (fun e => hn e.symm)).trans (hb3.block k hk)
  have K : ∀ k, k < w2.heap.size → k ≠ mb → ov.ownBlock ≠ some k → w4.heap[k]? = w2.heap[k]? := fun k hk h1 h2 => (K4 k (by omega) h2).trans (ht.block k hk h1)
  have F : ∀ k, k ≠ C → ((w4.setCell ⟨C, 0, none⟩ v').setCell ⟨C, 2, none⟩ (.int .i64 nn')).heap[k]? = w4.heap[k]? := fun k hk => by
    rw [Below.heap_setCell _ ⟨C, 2, none⟩ _ k hk, Below.heap_setCell _ ⟨C, 0, none⟩ _ k hk]
  have hCb := K C hC2 h.ne1 (fun e => hne e.symm)
  have q0 : w4.cell? ⟨C, 0, none⟩ = some ov := (World.cell?_of_block (w := w2) hCb).trans h.c0
  have q1 : w4.cell? ⟨C, 1, none⟩ = some (.map (some mb)) := (World.cell?_of_block (w := w2) hCb).trans h.c1
  have q2 : w4.cell? ⟨C, 2, none⟩ = some (.int .i64 nn) := (World.cell?_of_block (w := w2) hCb).trans h.c2
  have hv1 : v'.ownBlock ≠ some C := fun e => by
    rcases hat with h1 | h1
    · rw [h1] at e; exact hne e.symm
    · rw [h1] at e; injection e with e; omega
  have hv2 : v'.ownBlock ≠ some mb := fun e => by
    rcases hat with h1 | h1
    · rw [h1] at e; exact hnm e.symm
    · rw [h1] at e; injection e with e; omega
  have LF : Lf C mb ov w2 ((w4.setCell ⟨C, 0, none⟩ v').setCell ⟨C, 2, none⟩ (.int .i64 nn')) :=
    ⟨hgr.os.trans (hb3.os.trans ht.os), hgr.tape.trans (hb3.tape.trans ht.tape), hgr.output.trans (hb3.output.trans ht.output), by rw [World.size_setCell, World.size_setCell]; omega, fun k hk h1 h2 h3 => (F k h1).trans (K k hk h2 h3)⟩
  refine ⟨⟨?_, ?_, ?_, ?_, fun o => ?_, ?_, ?_, hS', h.hC, h.hm, h.ne1, fun g hg => ⟨fun e => hv1 (by rw [hg, e]), fun e => hv2 (by rw [hg, e])⟩⟩, LF, ?_⟩
  · refine ⟨LF.os.trans h.be.os, LF.tape.trans h.be.tape, LF.output.trans h.be.output, Nat.le_trans h.be.size LF.size, fun k hk => ?_⟩
    have h1 := h.hC
    have h2 := h.hm
    have h3 := h.be.size
    rw [LF.block k (by omega) (by omega) (by omega) (fun e => by have := (own_base h.own e).1; omega)]
    exact h.be.block k hk
  · rw [World.cell?_setCell_other (h := fun e => by simp only [Addr.mk.injEq] at e; omega)]
    exact World.cell?_setCell_same _ _ _ q0
  · rw [World.cell?_setCell_other (h := fun e => by simp only [Addr.mk.injEq] at e; omega), World.cell?_setCell_other (h := fun e => by simp only [Addr.mk.injEq] at e; omega)]
    exact q1
  · refine World.cell?_setCell_same _ _ _ (u := .int .i64 nn) ?_
    rw [World.cell?_setCell_other (h := fun e => by simp only [Addr.mk.injEq] at e; omega)]
    exact q2
  · rw [World.frozen?_setCell, World.frozen?_setCell, World.frozen?_of_block (w := w2) hCb]; exact h.fz o
  · rw [List.length_append, List.map_append]
    exact ownsRow_set9 (ownsRow_set9 hown hv1 _) hv1 _
  · refine hm.keep ?_ (fun b o hs hp => ?_)
    · rw [F mb (fun e => h.ne1 e.symm)]; exact K4 mb (by omega) (fun e => hnm e.symm)
    · have hb0 := hS' b o hs
      have h1 := h.hC
      have h3 := h.be.size
      have hov : ov.ownBlock ≠ some b := fun e => by have := (own_base h.own e).1; omega
      have hbb : ((w4.setCell ⟨C, 0, none⟩ v').setCell ⟨C, 2, none⟩ (.int .i64 nn')).heap[b]? = w3.heap[b]? := (F b (by omega)).trans (K4 b (by omega) hov)
      obtain ⟨⟨c, t, f, hh⟩, hf⟩ := hp
      exact ⟨⟨c, t, f, hbb.trans hh⟩, fun y => by rw [World.frozen?_of_block (w := w3) hbb]; exact hf y⟩
  · rcases hat with h1 | h1
    · exact .inl h1
    · exact .inr ⟨_, h1, by omega⟩

set_option maxHeartbeats 1000000 in
set_option maxRecDepth 100000 in
theorem listOf_any (w0 w : World) (C mb : Nat) (ov : Value) (st : List Ps) (nn : Nat) (S : Nat → Nat → Prop) (hcp : Cp w0 w C mb ov st nn S) (l : List Tm) (hl : l ≠ []) (b o cap : Nat) (bs : List Nat) (hos : OsL w l (b :: bs) (some ⟨b, o, none⟩)) (hold : b < w0.heap.size) (hlen : l.length ≤ 4194304) (hnn : nn ≤ 4194304) (hst : st.length ≤ 4194304) (hbs : ∀ x ∈ bs, x < w0.heap.size) (hnew : S b o → nn ≤ 10000) :
    Calls Try.prog 72 #[.pointer (some ⟨C, 0, none⟩), .slice (some ⟨b, o, none⟩) l.length cap] w fun e w' => ∃ g c ov', e = .returned (.slice (some ⟨g, 0, none⟩) l.length c) ∧ Ps.ok w' ⟨g, c, l, bs⟩ ∧ w.heap.size ≤ g ∧ Cp w0 w' C mb ov' (st ++ [⟨g, c, l, bs⟩]) (nn + l.length) (fun x y => S x y ∨ (x = b ∧ y = o)) ∧ Lf C mb ov w w' ∧ (ov'.ownBlock = ov.ownBlock ∨ ∃ k, ov'.ownBlock = some k ∧ w.heap.size ≤ k ∧ k ≠ g) := by
  have hpos : l.length ≠ 0 := fun e => hl (List.eq_nil_of_length_eq_zero e)
  have q0 : ((l.length : Int) == 0) = false := by simp; omega
  obtain ⟨g0, o0, b0, e1, e2, hfz, hrow⟩ := (OsL.iff hl).1 hos
  simp only [Option.some.injEq, Addr.mk.injEq, and_true] at e2
  obtain ⟨rfl, rfl⟩ := e2
  simp only [List.cons.injEq, true_and] at e1
  obtain rfl := e1
  have HPL : Hid (Plain w b) := OsL.plain hl hos
  have HCP : Hid (Cp w0 w C mb ov st nn S) := hcp
  have HROW : Hid (OsR w l bs b o) := hrow
  have HNM : Hid (∀ w', Calls Try.prog 39 #[.slice (some ⟨b, o, none⟩) l.length cap] w' fun e w'' => e = .returned (nmV b o l.length) ∧ Below w'.heap.size w' w'') := fun w' => nameOf_any b o l.length cap w' hpos
  clear hcp hos hfz hrow hpos
  go_enter Try.func72, Try.ntmps72
  go_wp2_with (go_at_call 39; fail)
  refine (HNM.out _).mono ?_
  rintro e w1 ⟨rfl, hb1⟩
  obtain ⟨W1, hW1⟩ : ∃ W1, W1 = w1.alloc (.cells #[.pointer (some ⟨b, o, none⟩), .int .i64 l.length] 74) := ⟨_, rfl⟩
  have hbW : Below w.heap.size w W1 := by rw [hW1]; exact hb1.alloc hb1.size _
  have HCW : Hid (Cp w0 W1 C mb ov st nn S) := HCP.out.call hbW
  have HPW : Hid (Plain W1 b) := by
    obtain ⟨⟨c, t, f, h1⟩, h2⟩ := HPL.out
    have hbl : b < w.heap.size := by
      rcases Nat.lt_or_ge b w.heap.size with h | h
      · exact h
      · rw [Array.getElem?_eq_none h] at h1; cases h1
    exact ⟨⟨c, t, f, (hbW.block b hbl).trans h1⟩, fun x => by rw [hbW.frozen (p := ⟨b, x, none⟩) hbl]; exact h2 x⟩
  obtain ⟨la, ll, lc, lq, hlk, hlS⟩ := lookup_all (o := o) (n := (l.length : Int)) HCW.out.mp HPW.out
  have hlk' : ∀ k, (Instr.lookup 116 (.map (some mb)) (nmV b o l.length) true).run Try.prog (W1.drewN k) = .ok (.tuple #[.slice la ll lc, .bool lq]) (W1.drewN k) := fun k => hlk _ rfl
  have k0 := HCW.out.c0
  have k1 := HCW.out.c1
  have k2 := HCW.out.c2
  have kn : ∀ x, W1.cell? ⟨w1.heap.size, x, none⟩ = (#[.pointer (some ⟨b, o, none⟩), .int .i64 l.length] : Array Value)[x]? := fun x => by rw [hW1, World.cell?_alloc_new]
  have HLS : Hid (lq = true → nn ≤ 10000) := fun h => hnew (hlS h)
  go_wp2_with fail
  rw [← hW1]
  clear hlk hlS hW1
  go_quiet (fail)
  obtain ⟨WD, hWD⟩ : ∃ WD, WD = W1.drewN nq := ⟨_, rfl⟩
  rw [← hWD]
  have HCD : Hid (Cp w0 WD C mb ov st nn S) := by rw [hWD]; exact HCW.out.call (below_drewN (Below.refl _ _) nq)
  have d2 := HCD.out.c2
  have HBD : Hid (Below w.heap.size w WD) := by rw [hWD]; exact below_drewN hbW nq
  have knD : ∀ x, WD.cell? ⟨w1.heap.size, x, none⟩ = (#[.pointer (some ⟨b, o, none⟩), .int .i64 l.length] : Array Value)[x]? := fun x => by rw [hWD]; simp [kn]
  have hzn : w1.heap.size < WD.heap.size := by
    have : WD.cell? ⟨w1.heap.size, 0, none⟩ = some (.pointer (some ⟨b, o, none⟩)) := knD 0
    exact World.block_lt_of_cell? WD _ this
  clear hWD hbW hb1 hlk' k0 k1 k2 kn HCW HPW
  have HRD : Hid (OsR WD l bs b o) := OsR.keep l bs b o (fun x hx hl => HBD.out.block x hl) (fun x v _ _ hv => by rw [HBD.out.cell (p := ⟨b, x, none⟩) (World.block_lt_of_cell? w _ hv)]; exact hv) HROW.out
  have HPD : Hid (Plain WD b) := by
    obtain ⟨⟨c, t, f, h1⟩, h2⟩ := HPL.out
    have hbl : b < w.heap.size := by
      rcases Nat.lt_or_ge b w.heap.size with h | h
      · exact h
      · rw [Array.getElem?_eq_none h] at h1; cases h1
    exact ⟨⟨c, t, f, (HBD.out.block b hbl).trans h1⟩, fun x => by rw [HBD.out.frozen (p := ⟨b, x, none⟩) hbl]; exact h2 x⟩
  have HCL : Hid (Calls Try.prog 77 #[.slice (some ⟨b, o, none⟩) l.length cap] WD fun e w' => ∃ g c, e = .returned (.slice (some ⟨g, 0, none⟩) l.length c) ∧ l.length ≤ c ∧ c ≤ maxLen ∧ WD.heap.size ≤ g ∧ g < w'.heap.size ∧ OsR w' l bs g 0 ∧ (∀ x, w'.frozen? ⟨g, x, none⟩ = false) ∧ Below WD.heap.size WD w' ∧ Szd w' g c) :=
    clone_any l bs b o cap WD HRD.out hl hlen (fun x hx => Nat.lt_of_lt_of_le (hbs x hx) HCD.out.be.size)
  cases lq
  all_goals
    first
      | (have hle : (nn : Int) ≤ 10000 := by have := HLS.out rfl; omega)
      | skip
    go_wp2_with (go_at_call 77; fail)
    refine HCL.out.mono ?_
    rintro e w2 ⟨g, c, rfl, hc1, hc2, hg1, hg2, hr2, hf2, hb2, hsq⟩
    have HSQ : Hid (Szd w2 g c) := hsq
    clear hsq
    have HC2 : Hid (Cp w0 w2 C mb ov st nn S) := HCD.out.call hb2
    have HPS : Hid (OsR w2 l bs g 0 ∧ (∀ x, w2.frozen? ⟨g, x, none⟩ = false) ∧ l.length ≤ c ∧ c ≤ maxLen ∧ WD.heap.size ≤ g ∧ g < w2.heap.size) := ⟨hr2, hf2, hc1, hc2, hg1, hg2⟩
    have HB2 : Hid (Below w.heap.size w w2) := HBD.out.trans (hb2.mono HBD.out.size)
    have kn2 : ∀ x, w2.cell? ⟨w1.heap.size, x, none⟩ = (#[.pointer (some ⟨b, o, none⟩), .int .i64 l.length] : Array Value)[x]? := fun x => by rw [hb2.cell (p := ⟨w1.heap.size, x, none⟩) hzn]; exact knD x
    have HP2 : Hid (Plain w2 b) := by
      obtain ⟨⟨c, t, f, h1⟩, h2⟩ := HPD.out
      have hbl : b < WD.heap.size := by
        rcases Nat.lt_or_ge b WD.heap.size with h | h
        · exact h
        · rw [Array.getElem?_eq_none h] at h1; cases h1
      exact ⟨⟨c, t, f, (hb2.block b hbl).trans h1⟩, fun x => by rw [hb2.frozen (p := ⟨b, x, none⟩) hbl]; exact h2 x⟩
    have e1 := HC2.out.c1
    clear hr2 hf2 hc1 hc2 hg1 hg2 hb2
    obtain ⟨w3, hup, ht3, hm3⟩ := update_name (w := w2.drew) (mb := mb) (S := S) (n := (l.length : Int)) (b := b) (o := o) (HC2.out.call ((Below.refl _ _).drew)).mp ⟨HP2.out.1, HP2.out.2⟩ (some ⟨g, 0, none⟩) l.length c
    have HT3 : Hid (Turn mb w2 w3) := ⟨ht3.os, ht3.tape, ht3.output, ht3.size, ht3.block⟩
    have HM3 : Hid (NmMap w3 mb (fun x y => S x y ∨ (x = b ∧ y = o))) := hm3
    clear ht3 hm3
    have HC3 : Hid (w3.cell? ⟨C, 0, none⟩ = some ov ∧ w3.cell? ⟨C, 1, none⟩ = some (.map (some mb)) ∧ w3.cell? ⟨C, 2, none⟩ = some (.int .i64 nn) ∧ C < w3.heap.size ∧ ∀ x, w3.frozen? ⟨C, x, none⟩ = false) := by
      have hb := HT3.out.block C (World.block_lt_of_cell? w2 _ HC2.out.c0) HC2.out.ne1
      have hz : C < w2.heap.size := World.block_lt_of_cell? w2 _ HC2.out.c0
      exact ⟨(World.cell?_of_block (w := w2) hb).trans HC2.out.c0, (World.cell?_of_block (w := w2) hb).trans HC2.out.c1, (World.cell?_of_block (w := w2) hb).trans HC2.out.c2, Nat.lt_of_lt_of_le hz HT3.out.size, fun x => (World.frozen?_of_block (w := w2) hb).trans (HC2.out.fz x)⟩
    have HOV : Hid (ov.ownBlock ≠ some C) := fun e => (HC2.out.ne2 C e).1 rfl
    have HOW : Hid ((w3.alloc (.cells #[.slice (some ⟨g, 0, none⟩) l.length c] 28)).ownsRow w0.heap.size 28 1 ov st.length (st.map psV)) := by
      have hg : w2.grownBy w3 (some mb) := ⟨HT3.out.os, HT3.out.tape, HT3.out.output, HT3.out.size, fun k hk hn => HT3.out.block k hk (fun e => hn (by rw [e]))⟩
      exact World.ownsRow.alloc (HC2.out.own.kept hg (Or.inr (fun e => (HC2.out.ne2 mb e).2 rfl))) _
    have HQ4 : Hid (∀ w4, (w3.alloc (.cells #[.slice (some ⟨g, 0, none⟩) l.length c] 28)).grownBy w4 ov.ownBlock → w4.cell? ⟨C, 0, none⟩ = some ov ∧ w4.cell? ⟨C, 2, none⟩ = some (.int .i64 nn) ∧ ∀ x, w4.frozen? ⟨C, x, none⟩ = false) := fun w4 hg => by
      have hz := HC3.out.2.2.2.1
      have hb : w4.heap[C]? = w3.heap[C]? := (hg.block C (by simp; omega) (fun e => HOV.out e.symm)).trans (by show (w3.heap.push _)[C]? = _; rw [Array.getElem?_push, if_neg (by omega)])
      exact ⟨(World.cell?_of_block (w := w3) hb).trans HC3.out.1, (World.cell?_of_block (w := w3) hb).trans HC3.out.2.2.1, fun x => (World.frozen?_of_block (w := w3) hb).trans (HC3.out.2.2.2.2 x)⟩
    have HBS : Hid (w0.heap.size ≤ (w3.alloc (.cells #[.slice (some ⟨g, 0, none⟩) l.length c] 28)).heap.size) := by
      show _ ≤ _
      have h1 := HC2.out.be.size
      have h2 := HT3.out.size
      simp; omega
    obtain ⟨i0, hi, hz, hs, hb⟩ := infoParts9 infoTmsS
    have HI : Hid (Try.prog.info? 28 = some i0 ∧ i0.zero = some (.slice none 0 0) ∧ i0.size = 1 ∧ i0.bytes = 24) := ⟨hi, hz, hs, hb⟩
    clear hi hz hs hb
    have D3 : Hid (st.length + 1 ≤ maxLen) := by show _ ≤ _; unfold maxLen; omega
    have D4 : Hid ((st.length + 1) * 24 ≤ 140737488355328) := by show _ ≤ _; omega
    have c30 := HC3.out.1
    have c31 := HC3.out.2.1
    have c32 := HC3.out.2.2.1
    have ew : IntKind.i64.wrap ((nn : Int) + (l.length : Int)) = ((nn + l.length : Nat) : Int) := by rw [IntKind.wrap_i64]; omega
    go_wp2_with fail
    go_region
    clear hup e1 kn2
    go_wp2_with (at_builtin; refine wpList_append_own_at _ rfl _ _ 117 rfl w0.heap.size 28 i0 (.slice none 0 0) 1 24 undTmsS HI.out.1 HI.out.2.1 HI.out.2.2.1 HI.out.2.2.2 rfl Nat.zero_lt_one ov st.length (st.map psV) rfl HOW.out ⟨w3.heap.size, 0, none⟩ 1 1 [.slice (some ⟨g, 0, none⟩) l.length c] rfl rfl (src9 _ _ _) (one9 _ _ _) D3.out D4.out HBS.out ?_; intro v4 w4 hown4 hgr4 hnn4 hat4; obtain ⟨g4, c4, rfl⟩ := form9 hown4; obtain ⟨s0, s2, sf⟩ := HQ4.out w4 hgr4; have HO4 : Hid (w4.ownsRow w0.heap.size 28 1 (.slice (some ⟨g4, 0, none⟩) (st.length + 1) c4) (st.length + 1) (st.map psV ++ [.slice (some ⟨g, 0, none⟩) l.length c])) := hown4; have HG4 : Hid ((w3.alloc (.cells #[.slice (some ⟨g, 0, none⟩) l.length c] 28)).grownBy w4 ov.ownBlock) := hgr4; have HA4 : Hid ((Value.slice (some ⟨g4, 0, none⟩) (st.length + 1) c4).ownBlock = ov.ownBlock ∨ (Value.slice (some ⟨g4, 0, none⟩) (st.length + 1) c4).ownBlock = some (w3.alloc (.cells #[.slice (some ⟨g, 0, none⟩) l.length c] 28)).heap.size) := hat4; clear hown4 hgr4 hnn4 hat4)
    go_ret
    have ecast : ((nn : Int) + (l.length : Int)) = ((nn + l.length : Nat) : Int) := by omega
    rw [ecast]
    obtain ⟨L1, L2, L3⟩ := Cp.lay (x := ⟨g, c, l, bs⟩) HC2.out HT3.out HM3.out (fun b' o' h => by rcases h with h | ⟨rfl, _⟩; exact HCP.out.old b' o' h; exact hold) ((Below.refl _ _).alloc (Nat.le_refl _) _) HO4.out HG4.out HA4.out (nn + l.length)
    obtain ⟨p1, p2, p3, p4, p5, p6⟩ := HPS.out
    have hCW : C < WD.heap.size := World.block_lt_of_cell? WD _ HCD.out.c0
    have hmW := HCD.out.mp.lt
    have h0W := HCD.out.be.size
    have hz2 := HB2.out.size
    have h0w := HCP.out.be.size
    have hw2 := HC2.out.be.size
    have hC0 := HCD.out.hC
    have hm0 := HCD.out.hm
    have hgb := L2.block g p6 (by omega) (by omega) (fun e => by have := (own_base HCD.out.own e).2; omega)
    have hwz : w.heap.size ≤ WD.heap.size := HBD.out.size
    refine ⟨g, c, _, rfl, ⟨?_, fun x => ?_, p3, p4, HSQ.out.keep hgb⟩, by omega, L1, ?_, ?_⟩
    · refine OsR.keep l bs g 0 (fun x hx hl2 => ?_) (fun x v _ _ hv => (World.cell?_of_block (w := w2) hgb).trans hv) p1
      have hx0 := hbs x hx
      exact L2.block x hl2 (by omega) (by omega) (fun e => by have := (own_base HCD.out.own e).1; omega)
    · exact (World.frozen?_of_block (w := w2) hgb).trans (p2 x)
    · exact ⟨L2.os.trans HB2.out.os, L2.tape.trans HB2.out.tape, L2.output.trans HB2.out.output, Nat.le_trans hz2 L2.size, fun k hk h1 h2 h3 => (L2.block k (by omega) h1 h2 h3).trans (HB2.out.block k hk)⟩
    · rcases L3 with h | ⟨k, h1, h2⟩
      · exact .inl h
      · exact .inr ⟨k, h1, by omega, by omega⟩
end Go.Proofs.Ytimnnedmpmlmdaa
