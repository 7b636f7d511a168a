/-
  Copies that the laws make of what was said, of code, of a system: all in blocks of their own.
  (Ahead of it, in this text: A crowd in memory: its variable, its map of actors; a crowd made of a system; nobody's links dropped. A copy of an actor. Copies that the laws make of terms: each list in a block of its own. Copies that the laws make of actors and of what was said: all in blocks of their own.)
-/
import Derived.Test.YtjibnlpjpbileaaGreatDoorU2
import Derived.Deep.RegionWith
import Derived.Maps.RangeRun
import Derived.Deep.RegionHeld3
import Derived.Test.YtjibnlpjpbileaaGreatDoorAcD
import Derived.Test.YtjibnlpjpbileaaGreatDoorOsA
import Derived.Test.YtjibnlpjpbileaaGreatDoorPlA
import Derived.Test.YtjibnlpjpbileaaGreatDoorU1
namespace Go.Proofs.YtjibnlpjpbileaaGreatDoor
open Go.RowKit Atom
open Go.Proofs.YtjibnlpjpbileaaGreatDoor.Code
set_option linter.unusedVariables false

/-- The crowd at C: code, its actors by their Pids in the map mb, the next Pid, what was said. -/
structure Crw (w : World) (C mb : Nat) (cv : Value) (next : Int) (ov : Value) (es : List (Int × Value)) : Prop where
  c0 : w.cell? ⟨C, 0, none⟩ = some cv
  c1 : w.cell? ⟨C, 1, none⟩ = some (.map (some mb))
  c2 : w.cell? ⟨C, 2, none⟩ = some (.int .i64 next)
  c3 : w.cell? ⟨C, 3, none⟩ = some ov
  fz : ∀ x, w.frozen? ⟨C, x, none⟩ = false
  mp : ImMap w mb es
  ne : C ≠ mb
theorem Crw.lt {w : World} {C mb : Nat} {cv : Value} {next : Int} {ov : Value} {es : List (Int × Value)} (h : Crw w C mb cv next ov es) : C < w.heap.size := World.block_lt_of_cell? w _ h.c0
theorem Crw.keep {w w' : World} {C mb : Nat} {cv : Value} {next : Int} {ov : Value} {es : List (Int × Value)} (h : Crw w C mb cv next ov es) (h1 : w'.heap[C]? = w.heap[C]?) (h2 : w'.heap[mb]? = w.heap[mb]?) : Crw w' C mb cv next ov es :=
  ⟨(World.cell?_of_block (w := w) h1).trans h.c0, (World.cell?_of_block (w := w) h1).trans h.c1, (World.cell?_of_block (w := w) h1).trans h.c2, (World.cell?_of_block (w := w) h1).trans h.c3, fun x => (World.frozen?_of_block (w := w) h1).trans (h.fz x), h.mp.keep h2, h.ne⟩
theorem Crw.below {w w' : World} {C mb : Nat} {cv : Value} {next : Int} {ov : Value} {es : List (Int × Value)} (h : Crw w C mb cv next ov es) (hb : Below w.heap.size w w') : Crw w' C mb cv next ov es := h.keep (hb.block C h.lt) (hb.block mb h.mp.lt)
theorem Crw.set2 {w : World} {C mb : Nat} {cv : Value} {next : Int} {ov : Value} {es : List (Int × Value)} (h : Crw w C mb cv next ov es) (n : Int) : Crw (w.setCell ⟨C, 2, none⟩ (.int .i64 n)) C mb cv n ov es := by
  have k : ∀ o v, o ≠ 2 → w.cell? ⟨C, o, none⟩ = some v → (w.setCell ⟨C, 2, none⟩ (.int .i64 n)).cell? ⟨C, o, none⟩ = some v := fun o v ho hv => by
    rw [World.cell?_setCell_other (h := fun q => ho (by simp only [Addr.mk.injEq] at q; omega))]; exact hv
  exact ⟨k 0 _ (by omega) h.c0, k 1 _ (by omega) h.c1, World.cell?_setCell_same w _ _ h.c2, k 3 _ (by omega) h.c3, fun x => by rw [World.frozen?_setCell]; exact h.fz x, h.mp.keep (Below.heap_setCell _ ⟨C, 2, none⟩ _ mb (fun q => h.ne q.symm)), h.ne⟩
theorem Crw.set3 {w : World} {C mb : Nat} {cv : Value} {next : Int} {ov : Value} {es : List (Int × Value)} (h : Crw w C mb cv next ov es) (v : Value) : Crw (w.setCell ⟨C, 3, none⟩ v) C mb cv next v es := by
  have k : ∀ o u, o ≠ 3 → w.cell? ⟨C, o, none⟩ = some u → (w.setCell ⟨C, 3, none⟩ v).cell? ⟨C, o, none⟩ = some u := fun o u ho hv => by
    rw [World.cell?_setCell_other (h := fun q => ho (by simp only [Addr.mk.injEq] at q; omega))]; exact hv
  exact ⟨k 0 _ (by omega) h.c0, k 1 _ (by omega) h.c1, k 2 _ (by omega) h.c2, World.cell?_setCell_same w _ _ h.c3, fun x => by rw [World.frozen?_setCell]; exact h.fz x, h.mp.keep (Below.heap_setCell _ ⟨C, 3, none⟩ _ mb (fun q => h.ne q.symm)), h.ne⟩

set_option maxHeartbeats 2000000 in
set_option maxRecDepth 100000 in
theorem crowdOf_any (cv ov : Value) (hcv : ∃ a l c, cv = .slice a l c) (hov : ∃ a l c, ov = .slice a l c) (l : List Ac) (aa : Option Addr) (ac : Nat) (next : Int) (w : World) (hr : RowA w aa l) (hl : l.length ≤ maxLen) (hd : ∀ i j (hi : i < l.length) (hj : j < l.length), i ≠ j → l[i].pid ≠ l[j].pid) :
    Calls Tryz.prog 32 #[.agg #[cv, .slice aa l.length ac, .int .i64 next, ov]] w fun e w' => ∃ C mb es, e = .returned (.pointer (some ⟨C, 0, none⟩)) ∧ Crw w' C mb cv next ov es ∧ EntA w' es l ∧ w.heap.size ≤ C ∧ w.heap.size ≤ mb ∧ Below w.heap.size w w' := by
  obtain ⟨ca, cl, cc, rfl⟩ := hcv
  obtain ⟨oa, ol, oc, rfl⟩ := hov
  obtain ⟨w0, hw0⟩ : ∃ w0, w0 = w.alloc (.cells #[.slice ca cl cc, .slice aa l.length ac, .int .i64 next, .slice oa ol oc] 32) := ⟨_, rfl⟩
  have hb0 : Below w.heap.size w w0 := by rw [hw0]; exact (Below.refl _ _).alloc (Nat.le_refl _) _
  have HB0 : Hid (Below w.heap.size w w0) := hb0
  have hbd : Below w.heap.size w w0.drew := hb0.drew
  have KB : Hid (Calls Tryz.prog 67 #[.slice aa l.length ac] w0.drew fun e w' => ∃ mb es, e = .returned (.map (some mb)) ∧ ImMap w' mb es ∧ EntA w' es l ∧ w0.heap.size ≤ mb ∧ Below w0.drew.heap.size w0.drew w') := byPid_any l aa ac w0.drew (hr.below hbd) hl hd
  have q0 : ∀ x, w0.cell? ⟨w.heap.size, x, none⟩ = (#[.slice ca cl cc, .slice aa l.length ac, .int .i64 next, .slice oa ol oc] : Array Value)[x]? := fun x => by rw [hw0, World.cell?_alloc_new]
  have HQ : Hid (∀ wc, Below w0.drew.heap.size w0.drew wc → wc.cell? ⟨w.heap.size, 0, none⟩ = some (.slice ca cl cc) ∧ wc.cell? ⟨w.heap.size, 1, none⟩ = some (.slice aa l.length ac) ∧ wc.cell? ⟨w.heap.size, 2, none⟩ = some (.int .i64 next) ∧ wc.cell? ⟨w.heap.size, 3, none⟩ = some (.slice oa ol oc)) := fun wc hb => by
    have hb' : Below w0.heap.size w0 wc := ⟨hb.os, hb.tape, hb.output, hb.size, hb.block⟩
    exact ⟨keepA hb' (q0 0), keepA hb' (q0 1), keepA hb' (q0 2), keepA hb' (q0 3)⟩
  have d0 : w0.cell? ⟨w.heap.size, 0, none⟩ = some (.slice ca cl cc) := q0 0
  have d1 : w0.cell? ⟨w.heap.size, 1, none⟩ = some (.slice aa l.length ac) := q0 1
  have d2 : w0.cell? ⟨w.heap.size, 2, none⟩ = some (.int .i64 next) := q0 2
  have d3 : w0.cell? ⟨w.heap.size, 3, none⟩ = some (.slice oa ol oc) := q0 3
  clear hr hd q0 hb0 hbd hl
  go_enter Tryz.func32, Tryz.ntmps32
  go_wp2_with fail
  rw [← hw0]
  clear hw0
  go_region_held3 (fun w' => w'.cell? ⟨w.heap.size, 0, none⟩ = some (.slice ca cl cc) ∧ w'.cell? ⟨w.heap.size, 1, none⟩ = some (.slice aa l.length ac) ∧ w'.cell? ⟨w.heap.size, 2, none⟩ = some (.int .i64 next) ∧ w'.cell? ⟨w.heap.size, 3, none⟩ = some (.slice oa ol oc)) (go_keep)
    (first
      | (go_at_call 67; refine KB.out.mono ?_; rintro e w1 ⟨mb, es, rfl, hm, he, hmb, hb1⟩; obtain ⟨e0, e1, e2, e3⟩ := HQ.out w1 hb1))
  all_goals
    have HF : Hid (ImMap w1 mb es ∧ EntA w1 es l ∧ w0.heap.size ≤ mb ∧ Below w.heap.size w w1 ∧ mb < w1.heap.size ∧ w0.heap.size ≤ w1.heap.size) := ⟨hm, he, hmb, HB0.out.drew.trans (hb1.mono HB0.out.size), hm.lt, hb1.size⟩
    clear hm he hmb hb1 e0 e1 e2 e3 d0 d1 d2 d3
    go_wp2_with fail
    go_ret
    have hbA : Below w1.heap.size w1 (w1.alloc (.cells #[.slice ca cl cc, .map (some mb), .int .i64 next, .slice oa ol oc] 104)) := (Below.refl _ _).alloc (Nat.le_refl _) _
    have hq : ∀ x, (w1.alloc (.cells #[.slice ca cl cc, .map (some mb), .int .i64 next, .slice oa ol oc] 104)).cell? ⟨w1.heap.size, x, none⟩ = (#[.slice ca cl cc, .map (some mb), .int .i64 next, .slice oa ol oc] : Array Value)[x]? := fun x => World.cell?_alloc_new w1 _ _ x
    have hz0 := HB0.out.size
    exact ⟨w1.heap.size, mb, es, rfl, ⟨hq 0, hq 1, hq 2, hq 3, fun x => by simp, HF.out.1.below hbA, by have := HF.out.2.2.2.2.1; omega⟩, HF.out.2.1.below hbA, by have := HF.out.2.2.2.1.size; omega, by have := HF.out.2.2.1; omega, HF.out.2.2.2.1.trans (hbA.mono HF.out.2.2.2.1.size)⟩

theorem range_empty {w : World} {mb : Nat} (h : ImMap w mb []) : ∃ clk, (Instr.range 101 (.map (some mb))).run Tryz.prog w = .ok (.pointer (some ⟨w.heap.size, 0, none⟩)) (w.alloc (.mapIter (some mb) clk #[] clk)) ∧ ∀ ty, (Instr.next (.pointer (some ⟨w.heap.size, 0, none⟩)) false ty).run Tryz.prog (w.alloc (.mapIter (some mb) clk #[] clk)) = .ok (.tuple #[.bool false]) (w.alloc (.mapIter (some mb) clk #[] clk)) := by
  have hlt := h.lt
  obtain ⟨arr, clk, hm, he, hs⟩ := h
  have ha : arr = #[] := by
    have : arr.toList = [] := by simpa using he
    exact Array.toList_eq_nil_iff.1 this
  subst ha
  refine ⟨clk, ?_, fun ty => ?_⟩
  · simp [Instr.range, run_underlying und_mapA, MapKept.run_getObj_map hm, newObj, Result.andThen]
    rfl
  · have hr := (MapKept.heap_alloc w (.mapIter (some mb) clk #[] clk)).1
    have hb := ((MapKept.heap_alloc w (.mapIter (some mb) clk #[] clk)).2 mb hlt).trans hm
    rcases run_next_at (P := Tryz.prog) (w.alloc (.mapIter (some mb) clk #[] clk)) ty w.heap.size mb clk clk #[] #[] clk hr hb (by simp) (Nat.le_refl _) with ⟨_, h⟩ | ⟨e, he, _⟩
    · exact h
    · simp [leftOf] at he

set_option maxHeartbeats 1000000 in
set_option maxRecDepth 100000 in
/-- Where there is nobody, nobody's links are dropped. -/
theorem unlink0_any (C mb : Nat) (cv : Value) (next : Int) (ov : Value) (pid : Int) (w : World) (h : Crw w C mb cv next ov []) :
    Calls Tryz.prog 70 #[.pointer (some ⟨C, 0, none⟩), .int .i64 pid] w fun e w' => e = .returned (.tuple #[]) ∧ Below w.heap.size w w' := by
  obtain ⟨clk, hrg, hnx⟩ := range_empty h.mp
  have c1 := h.c1
  have HB : Hid (Below w.heap.size w (w.alloc (.mapIter (some mb) clk #[] clk))) := (Below.refl _ _).alloc (Nat.le_refl _) _
  clear h
  go_enter Tryz.func70, Tryz.ntmps70
  go_wp2_with fail
  clear hrg
  go_loopw [] (fun wr => wr = w.alloc (.mapIter (some mb) clk #[] clk)) (fun _ => 0)
  case atStart => rfl
  case round =>
    obtain rfl := hrel
    go_wp2_with fail
    exact bodyPost_end (v := .tuple #[]) (by simp [results, Tryz.results70, go_sem]) rfl ⟨rfl, HB.out⟩
end Go.Proofs.YtjibnlpjpbileaaGreatDoor
namespace Go.Proofs.YtjibnlpjpbileaaGreatDoor
open Go.RowKit Atom
set_option linter.unusedVariables false

/-- Blocks below B but these three are as they were. -/
theorem keep3 {w w' : World} (hb : Below w.heap.size w w') {b : Nat} (hb1 : b < w.heap.size) {c : Array Value} (hc : ∀ o, w.cell? ⟨b, o, none⟩ = c[o]?) (hf : ∀ o, w.frozen? ⟨b, o, none⟩ = false) :
    (∀ o, w'.cell? ⟨b, o, none⟩ = c[o]?) ∧ ∀ o, w'.frozen? ⟨b, o, none⟩ = false :=
  ⟨fun o => by rw [hb.cell (p := ⟨b, o, none⟩) hb1]; exact hc o, fun o => by rw [hb.frozen (p := ⟨b, o, none⟩) hb1]; exact hf o⟩
theorem keepSetB {B : Nat} {w : World} {a : Addr} {v : Value} (ha : a.block < B) : Keeps B w (w.setCell a v) := Keeps.set w ha v
theorem RdI.keeps {w w' : World} {B b N : Nat} {f : Nat → Int} (h : RdI w (some ⟨b, 0, none⟩) N f) (hB : B ≤ b) (hk : Keeps B w w') : RdI w' (some ⟨b, 0, none⟩) N f := fun hn => by
  obtain ⟨b', o, e, hc⟩ := h hn
  simp only [Option.some.injEq, Addr.mk.injEq, and_true] at e
  obtain ⟨rfl, rfl⟩ := e
  exact ⟨b, 0, rfl, fun j hj => hk _ _ _ hB (hc j hj)⟩

theorem cells_set {w : World} {g j : Nat} {c c' : Array Value} {v x : Value} (hc : ∀ o, w.cell? ⟨g, o, none⟩ = c[o]?) (hj : c[j]? = some x) (h1 : c'[j]? = some v) (h2 : ∀ o, o ≠ j → c'[o]? = c[o]?) : ∀ o, (w.setCell ⟨g, j, none⟩ v).cell? ⟨g, o, none⟩ = c'[o]? := fun o => by
  by_cases e : o = j
  · subst e
    rw [World.cell?_setCell_same w ⟨g, o, none⟩ v ((hc o).trans hj)]; exact h1.symm
  · rw [World.cell?_setCell_other (h := fun q => e (by simp only [Addr.mk.injEq] at q; omega)), hc o]; exact (h2 o e).symm
theorem five {a b c d e a' b' c' d' e' : Value} (j : Nat) (h : ∀ o, o < 5 → o ≠ j → (#[a', b', c', d', e'] : Array Value)[o]? = (#[a, b, c, d, e] : Array Value)[o]?) : ∀ o, o ≠ j → (#[a', b', c', d', e'] : Array Value)[o]? = (#[a, b, c, d, e] : Array Value)[o]? := fun o ho => by
  by_cases h5 : o < 5
  · exact h o h5 ho
  · rw [Array.getElem?_eq_none (by simp; omega), Array.getElem?_eq_none (by simp; omega)]
theorem five2 {a b c d e v : Value} : ∀ o, o ≠ 2 → (#[a, b, v, d, e] : Array Value)[o]? = (#[a, b, c, d, e] : Array Value)[o]? := five 2 fun o h5 ho => by
  match o, ho, h5 with
  | 0, _, _ => rfl
  | 1, _, _ => rfl
  | 2, h, _ => exact absurd rfl h
  | 3, _, _ => rfl
  | 4, _, _ => rfl
  | n + 5, _, h => omega
theorem five3 {a b c d e v : Value} : ∀ o, o ≠ 3 → (#[a, b, c, v, e] : Array Value)[o]? = (#[a, b, c, d, e] : Array Value)[o]? := five 3 fun o h5 ho => by
  match o, ho, h5 with
  | 0, _, _ => rfl
  | 1, _, _ => rfl
  | 2, _, _ => rfl
  | 3, h, _ => exact absurd rfl h
  | 4, _, _ => rfl
  | n + 5, _, h => omega
theorem five4 {a b c d e v : Value} : ∀ o, o ≠ 4 → (#[a, b, c, d, v] : Array Value)[o]? = (#[a, b, c, d, e] : Array Value)[o]? := five 4 fun o h5 ho => by
  match o, ho, h5 with
  | 0, _, _ => rfl
  | 1, _, _ => rfl
  | 2, _, _ => rfl
  | 3, _, _ => rfl
  | 4, h, _ => exact absurd rfl h
  | n + 5, _, h => omega
theorem three_first9 {w w1 : World} {c1 c2 c3 : Array Value} {t1 t2 t3 : TypeId}
    (hb : Below (((w.alloc (.cells c1 t1)).alloc (.cells c2 t2)).alloc (.cells c3 t3)).heap.size (((w.alloc (.cells c1 t1)).alloc (.cells c2 t2)).alloc (.cells c3 t3)) w1) : ∀ o, w1.cell? ⟨w.heap.size, o, none⟩ = c1[o]? := fun o => by
  have e2 : (((w.alloc (.cells c1 t1)).alloc (.cells c2 t2)).alloc (.cells c3 t3)).heap[w.heap.size]? = some (.cells c1 t1 (0, 0)) := by
    show (((w.heap.push _).push _).push _)[w.heap.size]? = _
    rw [Array.getElem?_push, if_neg (by simp; omega), Array.getElem?_push, if_neg (by simp), Array.getElem?_push, if_pos (by simp)]
  rw [hb.cell (p := ⟨w.heap.size, o, none⟩) (by show w.heap.size < _; simp; omega)]; exact cell_of e2
/-- What toActor has in hand: its argument's box, the result's and its own. -/
structure To3 (w w1 : World) (c1 c2 c3 : Array Value) : Prop where
  be : Below w.heap.size w w1
  sz : w.heap.size + 3 ≤ w1.heap.size
  q1 : ∀ o, w1.cell? ⟨w.heap.size, o, none⟩ = c1[o]?
  q2 : ∀ o, w1.cell? ⟨w.heap.size + 1, o, none⟩ = c2[o]?
  q3 : ∀ o, w1.cell? ⟨w.heap.size + 1 + 1, o, none⟩ = c3[o]?
  f2 : ∀ o, w1.frozen? ⟨w.heap.size + 1, o, none⟩ = false
  f3 : ∀ o, w1.frozen? ⟨w.heap.size + 1 + 1, o, none⟩ = false
theorem To3.call {w w1 w2 : World} {c1 c2 c3 : Array Value} (h : To3 w w1 c1 c2 c3) (hb : Below w1.heap.size w1 w2) : To3 w w2 c1 c2 c3 := by
  have hz := h.sz
  exact ⟨h.be.trans (hb.mono h.be.size), Nat.le_trans h.sz hb.size, fun o => by rw [hb.cell (p := ⟨w.heap.size, o, none⟩) (by show w.heap.size < _; omega)]; exact h.q1 o,
    fun o => by rw [hb.cell (p := ⟨w.heap.size + 1, o, none⟩) (by show w.heap.size + 1 < _; omega)]; exact h.q2 o, fun o => by rw [hb.cell (p := ⟨w.heap.size + 1 + 1, o, none⟩) (by show w.heap.size + 1 + 1 < _; omega)]; exact h.q3 o,
    fun o => by rw [hb.frozen (p := ⟨w.heap.size + 1, o, none⟩) (by show w.heap.size + 1 < _; omega)]; exact h.f2 o, fun o => by rw [hb.frozen (p := ⟨w.heap.size + 1 + 1, o, none⟩) (by show w.heap.size + 1 + 1 < _; omega)]; exact h.f3 o⟩
theorem To3.set {w w1 : World} {c1 c2 c3 c3' : Array Value} (h : To3 w w1 c1 c2 c3) (j : Nat) {x v : Value} (hj : c3[j]? = some x) (h1 : c3'[j]? = some v) (h2 : ∀ o, o ≠ j → c3'[o]? = c3[o]?) : To3 w (w1.setCell ⟨w.heap.size + 1 + 1, j, none⟩ v) c1 c2 c3' := by
  refine ⟨h.be.setCell (by show w.heap.size ≤ w.heap.size + 1 + 1; omega) _, by rw [World.size_setCell]; exact h.sz, fun o => ?_, fun o => ?_, cells_set h.q3 hj h1 h2, fun o => by rw [World.frozen?_setCell]; exact h.f2 o, fun o => by rw [World.frozen?_setCell]; exact h.f3 o⟩
  · rw [World.cell?_setCell_other (h := fun q => by simp only [Addr.mk.injEq] at q; omega)]; exact h.q1 o
  · rw [World.cell?_setCell_other (h := fun q => by simp only [Addr.mk.injEq] at q; omega)]; exact h.q2 o

set_option maxHeartbeats 1000000 in
set_option maxRecDepth 100000 in
theorem toActor_any (a : Ac) (h : Wh) (w : World) (hr : AcR w a h) (hs : AcS a) :
    Calls Tryz.prog 87 #[acV a h] w fun e w' => ∃ g : Wh, e = .returned (acV a g) ∧ AcR w' a g ∧ Below w.heap.size w w' := by
  obtain ⟨pid, pc, regs, box, N, f⟩ := a
  obtain ⟨ra, rc, ba, bc, la, lc⟩ := h
  have HR : Hid (AcR w ⟨pid, pc, regs, box, N, f⟩ ⟨ra, rc, ba, bc, la, lc⟩) := hr
  have HS : Hid (SmL regs ∧ SmL box ∧ N ≤ 1048576) := hs
  have HBIG : Hid (regs.length ≤ maxLen ∧ box.length ≤ maxLen ∧ N ≤ maxLen) := ⟨Nat.le_trans hr.r1 hr.r2, Nat.le_trans hr.b1 hr.b2, Nat.le_trans hr.l1 hr.l2⟩
  clear hr hs
  obtain ⟨s, hs⟩ : ∃ s, s = w.heap.size := ⟨_, rfl⟩
  go_enter Tryz.func87, Tryz.ntmps87
  go_wp2_with fail
  refine (toL_any regs ra rc _ ((HR.out.below ?_).regs) HR.out.r1 HR.out.r2 HS.out.1).mono ?_
  · exact (((Below.refl _ _).alloc (Nat.le_refl _) _).alloc (by simp) _).alloc (by simp; omega) _
  rintro e w1 ⟨ra', rfl, hb1, hr1⟩
  obtain ⟨hz, q2, q3, f2, f3⟩ := three_new hb1
  have q1 := three_first9 hb1
  have H1 : To3 w w1 #[.int .i64 pid, .int .i64 pc, .slice ra regs.length rc, .slice ba box.length bc, .slice la N lc] #[.int .i64 0, .int .i64 0, .slice none 0 0, .slice none 0 0, .slice none 0 0] #[.int .i64 pid, .int .i64 pc, .slice none 0 0, .slice none 0 0, .slice none 0 0] :=
    ⟨((((Below.refl _ _).alloc (Nat.le_refl _) _).alloc (by simp) _).alloc (by simp; omega) _).trans (hb1.mono (by simp; omega)), hz, q1, q2, q3, f2, f3⟩
  have HR1 : Hid (RepL (w.heap.size + 3) w1 regs ra') := RepL.mono (by simp) regs ra' hr1
  have H1s : Hid (To3 w (w1.setCell ⟨w.heap.size + 1 + 1, 2, none⟩ (.slice ra' regs.length regs.length)) #[.int .i64 pid, .int .i64 pc, .slice ra regs.length rc, .slice ba box.length bc, .slice la N lc] #[.int .i64 0, .int .i64 0, .slice none 0 0, .slice none 0 0, .slice none 0 0] #[.int .i64 pid, .int .i64 pc, .slice ra' regs.length regs.length, .slice none 0 0, .slice none 0 0]) :=
    H1.set 2 rfl rfl five2
  clear hb1 hr1 H1
  go_wp2_with fail
  obtain ⟨W1, hW1⟩ : ∃ W1, W1 = w1.setCell ⟨w.heap.size + 1 + 1, 2, none⟩ (.slice ra' regs.length regs.length) := ⟨_, rfl⟩
  rw [← hW1] at H1s ⊢
  have KP1 : Hid (Keeps (w.heap.size + 3) w1 W1) := by rw [hW1]; exact Keeps.set w1 (a := ⟨w.heap.size + 1 + 1, 2, none⟩) (by show w.heap.size + 1 + 1 < _; omega) _
  clear hW1 q1 q2 q3 f2 f3 hz
  refine (toL_any box ba bc W1 ((HR.out.below H1s.out.be).box) HR.out.b1 HR.out.b2 HS.out.2.1).mono ?_
  rintro e w2 ⟨ba', rfl, hb2, hr2⟩
  have H2 := H1s.out.call hb2
  have HZ1 := H1s.out.sz
  have HR2 : Hid (RepL (w.heap.size + 3) w2 regs ra' ∧ RepL (w.heap.size + 3) w2 box ba') := ⟨(Keeps.below hb2 _).repL _ _ (KP1.out.repL _ _ HR1.out), RepL.mono HZ1 box ba' hr2⟩
  have H2s : Hid (To3 w (w2.setCell ⟨w.heap.size + 1 + 1, 3, none⟩ (.slice ba' box.length box.length)) #[.int .i64 pid, .int .i64 pc, .slice ra regs.length rc, .slice ba box.length bc, .slice la N lc] #[.int .i64 0, .int .i64 0, .slice none 0 0, .slice none 0 0, .slice none 0 0] #[.int .i64 pid, .int .i64 pc, .slice ra' regs.length regs.length, .slice ba' box.length box.length, .slice none 0 0]) :=
    H2.set 3 rfl rfl five3
  have q1 := H2.q1
  have q3 := H2.q3
  have f3 := H2.f3
  clear hb2 hr2 H2 HZ1
  go_wp2_with fail
  obtain ⟨W2, hW2⟩ : ∃ W2, W2 = w2.setCell ⟨w.heap.size + 1 + 1, 3, none⟩ (.slice ba' box.length box.length) := ⟨_, rfl⟩
  rw [← hW2] at H2s ⊢
  have KP2 : Hid (Keeps (w.heap.size + 3) w2 W2) := by rw [hW2]; exact Keeps.set w2 (a := ⟨w.heap.size + 1 + 1, 3, none⟩) (by show w.heap.size + 1 + 1 < _; omega) _
  clear hW2 q1 q3 f3
  refine (toIntS_any la N lc f W2 ((HR.out.below H2s.out.be).links) HS.out.2.2).mono ?_
  rintro e w3 ⟨rfl, hi3, hl3, hb3⟩
  have H3 := H2s.out.call hb3
  have HZ2 : Hid (w.heap.size + 3 ≤ W2.heap.size) := H2s.out.sz
  have HR3 : Hid (RepL (w.heap.size + 3) w3 regs ra' ∧ RepL (w.heap.size + 3) w3 box ba' ∧ RdI w3 (some ⟨W2.heap.size, 0, none⟩) N f) := ⟨(Keeps.below hb3 _).repL _ _ (KP2.out.repL _ _ HR2.out.1), (Keeps.below hb3 _).repL _ _ (KP2.out.repL _ _ HR2.out.2), hi3.rdI⟩
  have HB3 : Hid (Below w.heap.size w w3) := H3.be
  have q2 := H3.q2
  have q3 := H3.q3
  have f2 := H3.f2
  have f3 := H3.f3
  clear hb3 hi3 hl3 H3
  generalize W2.heap.size = gl at *
  go_wp2_with fail
  have hk : Keeps (w.heap.size + 3) w3 _ := (((((Keeps.set w3 (a := ⟨w.heap.size + 1 + 1, 4, none⟩) (by show w.heap.size + 1 + 1 < _; omega) (Value.slice (some ⟨gl, 0, none⟩) N N)).trans
    (Keeps.set _ (a := ⟨w.heap.size + 1, 0, none⟩) (by show w.heap.size + 1 < _; omega) (.int .i64 pid))).trans (Keeps.set _ (a := ⟨w.heap.size + 1, 1, none⟩) (by show w.heap.size + 1 < _; omega) (.int .i64 pc))).trans
    (Keeps.set _ (a := ⟨w.heap.size + 1, 2, none⟩) (by show w.heap.size + 1 < _; omega) (.slice ra' regs.length regs.length))).trans (Keeps.set _ (a := ⟨w.heap.size + 1, 3, none⟩) (by show w.heap.size + 1 < _; omega) (.slice ba' box.length box.length))).trans
    (Keeps.set _ (a := ⟨w.heap.size + 1, 4, none⟩) (by show w.heap.size + 1 < _; omega) (.slice (some ⟨gl, 0, none⟩) N N))
  refine bodyPost_ret (v := .agg #[.int .i64 pid, .int .i64 pc, .slice ra' regs.length regs.length, .slice ba' box.length box.length, .slice (some ⟨gl, 0, none⟩) N N]) (by simp [results, Tryz.results87, go_sem, q2]) rfl ⟨⟨ra', regs.length, ba', box.length, some ⟨gl, 0, none⟩, N⟩, rfl, ?_, ?_⟩
  · exact ⟨RepL.mono (Nat.zero_le _) _ _ (hk.repL _ _ HR3.out.1), RepL.mono (Nat.zero_le _) _ _ (hk.repL _ _ HR3.out.2.1), HR3.out.2.2.keeps HZ2.out hk, Nat.le_refl _, HBIG.out.1, Nat.le_refl _, HBIG.out.2.1, Nat.le_refl _, HBIG.out.2.2⟩
  · exact (((((HB3.out.setCell (by show w.heap.size ≤ w.heap.size + 1 + 1; omega) _).setCell (by show w.heap.size ≤ w.heap.size + 1; omega) _).setCell (by show w.heap.size ≤ w.heap.size + 1; omega) _).setCell (by show w.heap.size ≤ w.heap.size + 1; omega) _).setCell (by show w.heap.size ≤ w.heap.size + 1; omega) _).setCell (by show w.heap.size ≤ w.heap.size + 1; omega) _
end Go.Proofs.YtjibnlpjpbileaaGreatDoor
namespace Go.Proofs.YtjibnlpjpbileaaGreatDoor
open Go.RowKit
set_option linter.unusedVariables false

/-- Texts and lists in it have at most so many. -/
def StS : Tm → Prop
  | .mk _ _ s l => s.size ≤ 1048576 ∧ l.length ≤ 1048576 ∧ ∀ t, t ∈ l → StS t
theorem sz_sts : ∀ (t : Tm) (a : Int), 0 ≤ a → a ≤ 1048576 → 0 ≤ szT t a → StS t := by
  refine Tm.ind ?_
  intro k n s l ih a ha hm h
  rw [szT] at h
  rw [StS]
  split at h
  · omega
  · split at h
    · omega
    · refine ⟨by omega, by omega, ?_⟩
      have go : ∀ (m : List Tm) (c : Int), (∀ t, t ∈ m → t ∈ l) → 0 ≤ c → c ≤ 1048576 → 0 ≤ szGo m c → ∀ t, t ∈ m → StS t := by
        intro m
        induction m with
        | nil => intro c _ _ _ _ t ht; cases ht
        | cons x r ihr =>
          intro c hsub h0 h1 hz t ht
          rw [szGo] at hz
          have hx := szT_le x c h0
          split at hz
          · omega
          · rcases List.mem_cons.1 ht with rfl | ht
            · exact ih t (hsub t (by simp)) c h0 h1 (by omega)
            · exact ihr (szT x c) (fun y hy => hsub y (by simp [hy])) (by omega) (by omega) hz t ht
      exact go l _ (fun t h => h) (by omega) (by omega) h
/-- What is counted. -/
theorem szGo_nt : ∀ (l : List Tm) (a : Int), 0 ≤ a → 0 ≤ szGo l a → szGo l a + (inL l : Int) ≤ a
  | [], a, h0, h => by rw [szGo, inL]; omega
  | .mk k n s l :: r, a, h0, h => by
    rw [szGo] at h ⊢
    have hx := szT_le (.mk k n s l) a h0
    split at h
    · omega
    · rename_i hq
      rw [if_neg hq]
      have h1 := szGo_nt r (szT (.mk k n s l) a) (by omega) h
      have h2 : szT (.mk k n s l) a + (ntL l : Int) ≤ a := by
        rw [szT] at hq ⊢
        split
        · rename_i h3; rw [if_pos h3] at hq; omega
        · rename_i h3
          rw [if_neg h3] at hq
          split
          · rename_i h4; rw [if_pos h4] at hq; omega
          · rename_i h4
            rw [if_neg h4] at hq
            have h5 := szGo_nt l (a - s.size - l.length) (by omega) (by omega)
            have h6 := ntL_eq l
            omega
      rw [inL]
      omega
theorem szT_nt (k n : Int) (s : ByteArray) (l : List Tm) (a : Int) (h0 : 0 ≤ a) (h : 0 ≤ szT (.mk k n s l) a) : (ntL l : Int) ≤ a := by
  rw [szT] at h
  split at h
  · omega
  · split at h
    · omega
    · have h5 := szGo_nt l (a - s.size - l.length) (by omega) h
      have h6 := ntL_eq l
      omega

structure MadeO (w wr : World) (g : Nat) (l : List Tm) (k : Nat) (bs : List Nat) : Prop where
  below : Below w.heap.size w wr
  lt : g < wr.heap.size
  some : ∀ j, j < l.length * 4 → (wr.cell? ⟨g, j, none⟩).isSome = true
  free : ∀ o, wr.frozen? ⟨g, o, none⟩ = false
  row : OsR wr (l.take k) bs g 0
  nd : (g :: bs).Nodup
  lo : ∀ b ∈ bs, w.heap.size ≤ b
theorem MadeO.call {w wr w1 : World} {g : Nat} {l : List Tm} {k : Nat} {bs : List Nat} (h : MadeO w wr g l k bs) (hb : Below wr.heap.size wr w1) : MadeO w w1 g l k bs where
  below := h.below.trans (hb.mono h.below.size)
  lt := Nat.lt_of_lt_of_le h.lt hb.size
  some := fun j hj => by rw [hb.cell (p := ⟨g, j, none⟩) h.lt]; exact h.some j hj
  free := fun o => by rw [hb.frozen (p := ⟨g, o, none⟩) h.lt]; exact h.free o
  row := OsR.keep _ _ _ _ (fun x _ hx => hb.block x hx) (fun o v _ _ hv => by rw [hb.cell (p := ⟨g, o, none⟩) h.lt]; exact hv) h.row
  nd := h.nd
  lo := h.lo
theorem set4_blk {w : World} {g o x : Nat} {a b c d : Value} (h : x ≠ g) : (set4 w g o a b c d).heap[x]? = w.heap[x]? := by
  unfold set4
  rw [Below.heap_setCell _ ⟨g, o + 3, none⟩ _ x h, Below.heap_setCell _ ⟨g, o + 2, none⟩ _ x h, Below.heap_setCell _ ⟨g, o + 1, none⟩ _ x h, Below.heap_setCell _ ⟨g, o, none⟩ _ x h]
theorem MadeO.store {w wr : World} {g : Nat} {l : List Tm} {k B : Nat} {bs bt : List Nat} (h : MadeO w wr g l k bs) (hg : w.heap.size ≤ g) (hk : k < l.length) {a b c d : Value} (hv : OsV wr bt l[k] (.agg #[a, b, c, d])) (hnt : bt.Nodup) (hB : ∀ x ∈ bt, B ≤ x) (hold : ∀ x ∈ bs, x < B) (hgB : g < B) : MadeO w (set4 wr g (k * 4) a b c d) g l (k + 1) (bs ++ (bt ++ [])) := by
  have hin := set4_in (w := wr) (g := g) (o := k * 4) (a := a) (b := b) (c := c) (d := d) (fun j hj => h.some (k * 4 + j) (by omega))
  have hlen : (l.take k).length = k := by simp; omega
  have hwg : ∀ x ∈ bs, x ≠ g := fun x hx e => (List.nodup_cons.1 h.nd).1 (by rw [← e]; exact hx)
  refine ⟨?_, by rw [set4_size]; exact h.lt, ?_, fun o => by rw [set4_frozen]; exact h.free o, ?_, ?_, fun x hx => ?_⟩
  · exact ((((h.below.setCell (p := ⟨g, k * 4, none⟩) hg _).setCell (p := ⟨g, k * 4 + 1, none⟩) hg _).setCell (p := ⟨g, k * 4 + 2, none⟩) hg _).setCell (p := ⟨g, k * 4 + 3, none⟩) hg _)
  · intro j hj
    by_cases hj1 : j < k * 4 ∨ k * 4 + 3 < j
    · rw [set4_far (p := ⟨g, j, none⟩) (Or.inr hj1)]; exact h.some j hj
    · have : j = k * 4 ∨ j = k * 4 + 1 ∨ j = k * 4 + 2 ∨ j = k * 4 + 3 := by omega
      rcases this with rfl | rfl | rfl | rfl
      · rw [hin.1]; rfl
      · rw [hin.2.1]; rfl
      · rw [hin.2.2.1]; rfl
      · rw [hin.2.2.2]; rfl
  · rw [List.take_succ_eq_append_getElem hk]
    revert hv
    generalize l[k] = t
    intro hv
    obtain ⟨k', n', s', l'⟩ := t
    obtain ⟨ao, cap, e, hs, hl, hc, hr⟩ := hv
    simp only [Value.agg.injEq, Array.mk.injEq, List.cons.injEq, and_true] at e
    obtain ⟨rfl, rfl, rfl, rfl⟩ := e
    refine OsR.join (OsR.keep _ _ _ _ (fun x hx _ => set4_blk (hwg x hx)) (fun o v _ ho hv => ?_) h.row) ?_ (by rw [OsR])
    · rw [hlen] at ho
      rw [set4_far (p := ⟨g, o, none⟩) (Or.inr (by show o < k * 4 ∨ _; omega))]; exact hv
    · rw [hlen, Nat.zero_add, OsT]
      exact ⟨hin.1, hin.2.1, hin.2.2.1, hs, ao, cap, hin.2.2.2, hl, hc, OsL.keep _ _ _ (fun x hx _ => set4_blk (by have := hB x hx; omega)) hr⟩
  · rw [List.append_nil, List.nodup_cons]
    obtain ⟨n1, n2⟩ := List.nodup_cons.1 h.nd
    refine ⟨fun hm => ?_, List.nodup_append.2 ⟨n2, hnt, fun x hx y hy e => ?_⟩⟩
    · rcases List.mem_append.1 hm with h1 | h1
      · exact n1 h1
      · have := hB g h1; omega
    · have h1 := hold x hx
      have h2 := hB y hy
      omega
  · rw [List.append_nil] at hx
    rcases List.mem_append.1 hx with h1 | h1
    · exact h.lo x h1
    · have := hB x h1; omega
def ToOT (t : Tm) : Prop := ∀ (B : Nat) (w : World) (v : Value), RepV B w t v →
  Calls Tryz.prog 10 #[v] w fun e w' => ∃ v' bs, e = .returned v' ∧ Below w.heap.size w w' ∧ OsV w' bs t v' ∧ bs.Nodup ∧ ∀ b ∈ bs, w.heap.size ≤ b
def ToOS (l : List Tm) : Prop := ∀ (B : Nat) (w : World) (ao : Option Addr) (cap : Nat), RepL B w l ao → l.length ≤ cap → cap ≤ maxLen →
  Calls Tryz.prog 31 #[.slice ao l.length cap] w fun e w' => ∃ ao' bs, e = .returned (.slice ao' l.length l.length) ∧ Below w.heap.size w w' ∧ OsL w' l bs ao' ∧ bs.Nodup ∧ ∀ b ∈ bs, w.heap.size ≤ b

theorem madeO_start (w : World) (l : List Tm) : MadeO w (w.alloc (.cells (zeros l.length) 38)) w.heap.size l 0 [] := by
  have h := made_start w l
  exact ⟨h.below, h.lt, h.some, h.free, by simp [OsR], by simp, fun b hb => by cases hb⟩

set_option maxHeartbeats 400000 in
theorem toOS_of (l : List Tm) (hsm : l.length ≤ 1048576) (ih : ∀ t, t ∈ l → ToOT t) : ToOS l := by
  intro B w ao cap hr hl hc
  have IH : Hid (∀ t, t ∈ l → ToOT t) := ih
  have HR : Hid (RepL B w l ao) := hr
  have HC : Hid (cap ≤ maxLen) := hc
  clear ih hr hc
  have hmk := run_zeros l.length hsm
  go_enter Tryz.func31, Tryz.ntmps31
  go_wp2_with fail
  clear hmk
  go_loopw [4] (fun i w' => ∃ (k : Nat) (bs : List Nat), k ≤ l.length ∧ i = .int .i64 k ∧ MadeO w w' w.heap.size l k bs) (fun i _ => l.length - (intOf i).toNat)
  case atStart => exact ⟨0, [], Nat.zero_le _, rfl, madeO_start w l⟩
  case round =>
    obtain ⟨k, bs, hk, rfl, hm⟩ := hrel
    have HM : Hid (MadeO w wr w.heap.size l k bs) := hm
    clear hm
    by_cases hlt : k < l.length
    · obtain ⟨b, off, rfl, hB, ht⟩ := RepL.at l ao ((Keeps.below HM.out.below B).repL _ _ HR.out) k hlt
      obtain ⟨tk, tn, ts, tao, tlen, tcap, c0, c1, c2, c3, hv⟩ := ht.cells
      have HV : Hid (RepV B wr l[k] (.agg #[.int .i64 tk, .int .i64 tn, .string ts, .slice tao tlen tcap])) := hv
      have HT : Hid (ToOT l[k]) := IH.out _ (List.getElem_mem hlt)
      clear hv ht
      go_wp2_with fail
      refine (HT.out B _ _ HV.out).mono ?_
      rintro e w1 ⟨v', bt, rfl, hb1, hv1, hnt, hlo⟩
      have HM1 : Hid (MadeO w w1 w.heap.size l k bs) := HM.out.call hb1
      obtain ⟨va, vb, vc, vd, ve, vf, rfl⟩ := hv1.form
      have HV1 : Hid (OsV w1 bt l[k] (.agg #[.int .i64 va, .int .i64 vb, .string vc, .slice vd ve vf]) ∧ bt.Nodup ∧ ∀ b ∈ bt, wr.heap.size ≤ b) := ⟨hv1, hnt, hlo⟩
      have HOLD : Hid (∀ x ∈ bs, x < wr.heap.size) := OsR.lt _ _ _ _ HM.out.row
      have hf := HM1.out.free
      obtain ⟨x0, hs0⟩ := Option.isSome_iff_exists.1 (HM1.out.some (k * 4) (by omega))
      obtain ⟨x1, hs1⟩ := Option.isSome_iff_exists.1 (HM1.out.some (k * 4 + 1) (by omega))
      obtain ⟨x2, hs2⟩ := Option.isSome_iff_exists.1 (HM1.out.some (k * 4 + 2) (by omega))
      obtain ⟨x3, hs3⟩ := Option.isSome_iff_exists.1 (HM1.out.some (k * 4 + 3) (by omega))
      clear hb1 hv1 hnt hlo c0 c1 c2 c3
      go_wp2_with fail
      have HM2 := HM1.out.store (Nat.le_refl _) hlt HV1.out.1 HV1.out.2.1 HV1.out.2.2 HOLD.out HM.out.lt
      go_roundw
      case rel => exact ⟨k + 1, _, by omega, by go_num, HM2⟩
      case measure => simp [intOf]; omega
    · go_wp2_with fail
      go_ret
      have hkl : k = l.length := by omega
      subst hkl
      have hm := HM.out
      have hrow := hm.row
      rw [List.take_of_length_le (Nat.le_refl _)] at hrow
      by_cases hnil : l = []
      · subst hnil
        exact ⟨_, [], rfl, hm.below, by rw [OsL], by simp, fun b hb => by cases hb⟩
      · exact ⟨_, w.heap.size :: bs, rfl, hm.below, (OsL.iff hnil).2 ⟨w.heap.size, 0, bs, rfl, rfl, hm.free, hrow⟩, hm.nd, fun b hb => by
          rcases List.mem_cons.1 hb with rfl | hb
          · exact Nat.le_refl _
          · exact hm.lo b hb⟩

set_option maxHeartbeats 400000 in
theorem toOT_of (k n : Int) (s : ByteArray) (l : List Tm) (hsz : s.size ≤ 1048576) (h : ToOS l) : ToOT (.mk k n s l) := by
  intro B w v hv
  obtain ⟨ao, cap, rfl, hs, hl, hc, hr⟩ := hv
  have HS : Hid (ToOS l) := h
  have HR : Hid (RepL B w l ao) := hr
  have HC : Hid (s.size ≤ 1048576 ∧ l.length ≤ cap ∧ cap ≤ maxLen) := ⟨hsz, hl, hc⟩
  clear h hr hs hl hc hsz
  go_enter Tryz.func10, Tryz.ntmps10
  go_wp2_with fail
  refine (HS.out B _ _ _ ((Keeps.below ?_ B).repL _ _ HR.out) HC.out.2.1 HC.out.2.2).mono ?_
  · exact (((Below.refl _ _).alloc (Nat.le_refl _) _).alloc (by simp) _).alloc (by simp; omega) _
  rintro e w1 ⟨ao', bs, rfl, hb1, hr1, hnd, hlo⟩
  obtain ⟨hz, q2, q3, f2, f3⟩ := three_new hb1
  have HB1 : Hid (Below w.heap.size w w1) := ((((Below.refl _ _).alloc (Nat.le_refl _) _).alloc (by simp) _).alloc (by simp; omega) _).trans (hb1.mono (by simp; omega))
  have HR1 : Hid (OsL w1 l bs ao' ∧ bs.Nodup ∧ ∀ b ∈ bs, w.heap.size + 3 ≤ b) := ⟨hr1, hnd, fun b hb => by have := hlo b hb; simp at this; omega⟩
  clear hb1 hr1 hnd hlo
  go_wp2_with fail
  refine bodyPost_ret (v := .agg #[.int .i64 k, .int .i64 n, .string s, .slice ao' l.length l.length]) (by simp [results, Tryz.results10, go_sem, q2]) rfl ⟨_, bs, rfl, ?_, ?_, HR1.out.2.1, fun b hb => by have := HR1.out.2.2 b hb; omega⟩
  · exact ((((HB1.out.setCell (by show w.heap.size ≤ w.heap.size + 1 + 1; omega) _).setCell (by show w.heap.size ≤ w.heap.size + 1; omega) _).setCell (by show w.heap.size ≤ w.heap.size + 1; omega) _).setCell (by show w.heap.size ≤ w.heap.size + 1; omega) _).setCell (by show w.heap.size ≤ w.heap.size + 1; omega) _
  · refine ⟨ao', l.length, rfl, HC.out.1, Nat.le_refl _, Nat.le_trans HC.out.2.1 HC.out.2.2, OsL.keep _ _ _ (fun x hx _ => ?_) HR1.out.1⟩
    have hx3 := HR1.out.2.2 x hx
    rw [Below.heap_setCell _ ⟨w.heap.size + 1, 3, none⟩ _ x (by show x ≠ w.heap.size + 1; omega), Below.heap_setCell _ ⟨w.heap.size + 1, 2, none⟩ _ x (by show x ≠ w.heap.size + 1; omega), Below.heap_setCell _ ⟨w.heap.size + 1, 1, none⟩ _ x (by show x ≠ w.heap.size + 1; omega), Below.heap_setCell _ ⟨w.heap.size + 1, 0, none⟩ _ x (by show x ≠ w.heap.size + 1; omega), Below.heap_setCell _ ⟨w.heap.size + 1 + 1, 3, none⟩ _ x (by show x ≠ w.heap.size + 1 + 1; omega)]
theorem toOT_all : ∀ t, StS t → ToOT t := Tm.ind fun k n s l ih h => by
  rw [StS] at h
  exact toOT_of k n s l h.1 (toOS_of l h.2.1 fun t ht => ih t ht (h.2.2 t ht))
end Go.Proofs.YtjibnlpjpbileaaGreatDoor
namespace Go.Proofs.YtjibnlpjpbileaaGreatDoor
open Go.RowKit Atom
open Go.Proofs.YtjibnlpjpbileaaGreatDoor.Code
set_option linter.unusedVariables false

/-- Lists and texts of an actor are within limits. -/
def StL (l : List Tm) : Prop := l.length ≤ 1048576 ∧ ∀ t ∈ l, StS t
def AcT (a : Ac) : Prop := StL a.regs ∧ StL a.box ∧ a.N ≤ 1048576
theorem toLO_any (l : List Tm) (ao : Option Addr) (cap : Nat) (w : World) (hr : RepL 0 w l ao) (hl : l.length ≤ cap) (hc : cap ≤ maxLen) (hs : StL l) :
    Calls Tryz.prog 31 #[.slice ao l.length cap] w fun e w' => ∃ ao' bs, e = .returned (.slice ao' l.length l.length) ∧ Below w.heap.size w w' ∧ OsL w' l bs ao' ∧ bs.Nodup ∧ ∀ b ∈ bs, w.heap.size ≤ b :=
  toOS_of l hs.1 (fun t ht => toOT_all t (hs.2 t ht)) 0 w ao cap hr hl hc
theorem ownN_of {w : World} {g N : Nat} {f : Nat → Int} (h : Ints w g 0 N f) : ∃ bs, OwnN w N f bs (some ⟨g, 0, none⟩) ∧ bs.Nodup ∧ ∀ b ∈ bs, b = g := by
  by_cases h0 : N = 0
  · exact ⟨[], .inl ⟨h0, rfl⟩, by simp, fun b hb => by cases hb⟩
  · exact ⟨[g], .inr ⟨h0, g, 0, rfl, rfl, h.free, h.cell⟩, by simp, fun b hb => List.mem_singleton.1 hb⟩

set_option maxHeartbeats 1000000 in
set_option maxRecDepth 100000 in
theorem toActorO_any (a : Ac) (h : Wh) (w : World) (hr : AcR w a h) (hs : AcT a) :
    Calls Tryz.prog 87 #[acV a h] w fun e w' => ∃ (g : Wh) (bs : List Nat), e = .returned (acV a g) ∧ AqO w' a g bs ∧ bs.Nodup ∧ (∀ b ∈ bs, w.heap.size ≤ b) ∧ Below w.heap.size w w' := by
  obtain ⟨pid, pc, regs, box, N, f⟩ := a
  obtain ⟨ra, rc, ba, bc, la, lc⟩ := h
  have HR : Hid (AcR w ⟨pid, pc, regs, box, N, f⟩ ⟨ra, rc, ba, bc, la, lc⟩) := hr
  have HS : Hid (StL regs ∧ StL box ∧ N ≤ 1048576) := hs
  have HBIG : Hid (regs.length ≤ maxLen ∧ box.length ≤ maxLen ∧ N ≤ maxLen) := ⟨Nat.le_trans hr.r1 hr.r2, Nat.le_trans hr.b1 hr.b2, Nat.le_trans hr.l1 hr.l2⟩
  clear hr hs
  obtain ⟨s, hs⟩ : ∃ s, s = w.heap.size := ⟨_, rfl⟩
  go_enter Tryz.func87, Tryz.ntmps87
  go_wp2_with fail
  refine (toLO_any regs ra rc _ ((HR.out.below ?_).regs) HR.out.r1 HR.out.r2 HS.out.1).mono ?_
  · exact (((Below.refl _ _).alloc (Nat.le_refl _) _).alloc (by simp) _).alloc (by simp; omega) _
  rintro e w1 ⟨ra', b1, rfl, hb1, hr1, hn1, hl1⟩
  obtain ⟨hz, q2, q3, f2, f3⟩ := three_new hb1
  have q1 := three_first9 hb1
  have H1 : To3 w w1 #[.int .i64 pid, .int .i64 pc, .slice ra regs.length rc, .slice ba box.length bc, .slice la N lc] #[.int .i64 0, .int .i64 0, .slice none 0 0, .slice none 0 0, .slice none 0 0] #[.int .i64 pid, .int .i64 pc, .slice none 0 0, .slice none 0 0, .slice none 0 0] :=
    ⟨((((Below.refl _ _).alloc (Nat.le_refl _) _).alloc (by simp) _).alloc (by simp; omega) _).trans (hb1.mono (by simp; omega)), hz, q1, q2, q3, f2, f3⟩
  have HR1 : Hid (OsL w1 regs b1 ra' ∧ b1.Nodup ∧ (∀ b ∈ b1, w.heap.size + 3 ≤ b) ∧ ∀ b ∈ b1, b < w1.heap.size) := ⟨hr1, hn1, fun b hb => by have := hl1 b hb; simp at this; omega, OsL.lt _ _ _ hr1⟩
  have H1s : Hid (To3 w (w1.setCell ⟨w.heap.size + 1 + 1, 2, none⟩ (.slice ra' regs.length regs.length)) #[.int .i64 pid, .int .i64 pc, .slice ra regs.length rc, .slice ba box.length bc, .slice la N lc] #[.int .i64 0, .int .i64 0, .slice none 0 0, .slice none 0 0, .slice none 0 0] #[.int .i64 pid, .int .i64 pc, .slice ra' regs.length regs.length, .slice none 0 0, .slice none 0 0]) :=
    H1.set 2 rfl rfl five2
  clear hb1 hr1 H1 hn1 hl1
  go_wp2_with fail
  obtain ⟨W1, hW1⟩ : ∃ W1, W1 = w1.setCell ⟨w.heap.size + 1 + 1, 2, none⟩ (.slice ra' regs.length regs.length) := ⟨_, rfl⟩
  rw [← hW1] at H1s ⊢
  have HO1 : Hid (OsL W1 regs b1 ra' ∧ w1.heap.size = W1.heap.size) := by
    refine ⟨?_, by rw [hW1, World.size_setCell]⟩
    rw [hW1]
    exact OsL.keep _ _ _ (fun x hx _ => Below.heap_setCell _ ⟨w.heap.size + 1 + 1, 2, none⟩ _ x (by show x ≠ w.heap.size + 1 + 1; have := HR1.out.2.2.1 x hx; omega)) HR1.out.1
  clear hW1 q1 q2 q3 f2 f3 hz
  refine (toLO_any box ba bc W1 ((HR.out.below H1s.out.be).box) HR.out.b1 HR.out.b2 HS.out.2.1).mono ?_
  rintro e w2 ⟨ba', b2, rfl, hb2, hr2, hn2, hl2⟩
  have H2 := H1s.out.call hb2
  have HZ1 := H1s.out.sz
  have HR2 : Hid (OsL w2 regs b1 ra' ∧ OsL w2 box b2 ba' ∧ b2.Nodup ∧ (∀ b ∈ b2, W1.heap.size ≤ b) ∧ (∀ b ∈ b2, b < w2.heap.size) ∧ w.heap.size + 3 ≤ W1.heap.size ∧ W1.heap.size ≤ w2.heap.size) := ⟨OsL.below hb2 HO1.out.1, hr2, hn2, hl2, OsL.lt _ _ _ hr2, HZ1, hb2.size⟩
  have H2s : Hid (To3 w (w2.setCell ⟨w.heap.size + 1 + 1, 3, none⟩ (.slice ba' box.length box.length)) #[.int .i64 pid, .int .i64 pc, .slice ra regs.length rc, .slice ba box.length bc, .slice la N lc] #[.int .i64 0, .int .i64 0, .slice none 0 0, .slice none 0 0, .slice none 0 0] #[.int .i64 pid, .int .i64 pc, .slice ra' regs.length regs.length, .slice ba' box.length box.length, .slice none 0 0]) :=
    H2.set 3 rfl rfl five3
  have q1 := H2.q1
  have q3 := H2.q3
  have f3 := H2.f3
  clear hb2 hr2 H2 HZ1 hn2 hl2
  go_wp2_with fail
  obtain ⟨W2, hW2⟩ : ∃ W2, W2 = w2.setCell ⟨w.heap.size + 1 + 1, 3, none⟩ (.slice ba' box.length box.length) := ⟨_, rfl⟩
  rw [← hW2] at H2s ⊢
  have HO2 : Hid (OsL W2 regs b1 ra' ∧ OsL W2 box b2 ba' ∧ w2.heap.size = W2.heap.size) := by
    rw [hW2]
    exact ⟨OsL.keep _ _ _ (fun x hx _ => Below.heap_setCell _ ⟨w.heap.size + 1 + 1, 3, none⟩ _ x (by show x ≠ w.heap.size + 1 + 1; have := HR1.out.2.2.1 x hx; omega)) HR2.out.1,
      OsL.keep _ _ _ (fun x hx _ => Below.heap_setCell _ ⟨w.heap.size + 1 + 1, 3, none⟩ _ x (by show x ≠ w.heap.size + 1 + 1; have := HR2.out.2.2.2.1 x hx; have := HR2.out.2.2.2.2.2.1; omega)) HR2.out.2.1, by rw [World.size_setCell]⟩
  clear hW2 q1 q3 f3
  refine (toIntS_any la N lc f W2 ((HR.out.below H2s.out.be).links) HS.out.2.2).mono ?_
  rintro e w3 ⟨rfl, hi3, hl3, hb3⟩
  have H3 := H2s.out.call hb3
  have HZ2 : Hid (w.heap.size + 3 ≤ W2.heap.size) := H2s.out.sz
  obtain ⟨b3, ho3, hn3, hg3⟩ := ownN_of hi3
  have HR3 : Hid (OsL w3 regs b1 ra' ∧ OsL w3 box b2 ba' ∧ OwnN w3 N f b3 (some ⟨W2.heap.size, 0, none⟩) ∧ b3.Nodup ∧ (∀ b ∈ b3, b = W2.heap.size)) := ⟨OsL.below hb3 HO2.out.1, OsL.below hb3 HO2.out.2.1, ho3, hn3, hg3⟩
  have HB3 : Hid (Below w.heap.size w w3) := H3.be
  have HND : Hid ((b1 ++ (b2 ++ b3)).Nodup ∧ ∀ b ∈ b1 ++ (b2 ++ b3), w.heap.size + 3 ≤ b) := by
    have z1 := HO1.out.2
    have z2 := HO2.out.2.2
    have z3 := HR2.out.2.2.2.2.2.1
    have z4 := HZ2.out
    refine ⟨?_, fun b hb => ?_⟩
    · rw [List.nodup_append]
      refine ⟨HR1.out.2.1, ?_, fun x hx y hy q => ?_⟩
      · rw [List.nodup_append]
        refine ⟨HR2.out.2.2.1, hn3, fun x hx y hy q => ?_⟩
        have := HR2.out.2.2.2.2.1 x hx
        have := hg3 y hy
        omega
      · have h1 := HR1.out.2.2.2 x hx
        rcases List.mem_append.1 hy with hy | hy
        · have := HR2.out.2.2.2.1 y hy; omega
        · have := hg3 y hy
          have h6 := HR2.out.2.2.2.2.2.2
          omega
    · rcases List.mem_append.1 hb with hb | hb
      · exact HR1.out.2.2.1 b hb
      · rcases List.mem_append.1 hb with hb | hb
        · have := HR2.out.2.2.2.1 b hb; omega
        · have := hg3 b hb; omega
  have q2 := H3.q2
  have q3 := H3.q3
  have f2 := H3.f2
  have f3 := H3.f3
  clear hb3 hi3 hl3 H3 ho3 hn3 hg3
  generalize W2.heap.size = gl at *
  go_wp2_with fail
  have hk : ∀ x ∈ b1 ++ (b2 ++ b3), ((((((w3.setCell ⟨w.heap.size + 1 + 1, 4, none⟩ (Value.slice (some ⟨gl, 0, none⟩) N N)).setCell ⟨w.heap.size + 1, 0, none⟩ (.int .i64 pid)).setCell ⟨w.heap.size + 1, 1, none⟩ (.int .i64 pc)).setCell ⟨w.heap.size + 1, 2, none⟩ (.slice ra' regs.length regs.length)).setCell ⟨w.heap.size + 1, 3, none⟩ (.slice ba' box.length box.length)).setCell ⟨w.heap.size + 1, 4, none⟩ (.slice (some ⟨gl, 0, none⟩) N N)).heap[x]? = w3.heap[x]? := fun x hx => by
    have hx3 := HND.out.2 x hx
    rw [Below.heap_setCell _ ⟨w.heap.size + 1, 4, none⟩ _ x (by show x ≠ w.heap.size + 1; omega), Below.heap_setCell _ ⟨w.heap.size + 1, 3, none⟩ _ x (by show x ≠ w.heap.size + 1; omega), Below.heap_setCell _ ⟨w.heap.size + 1, 2, none⟩ _ x (by show x ≠ w.heap.size + 1; omega), Below.heap_setCell _ ⟨w.heap.size + 1, 1, none⟩ _ x (by show x ≠ w.heap.size + 1; omega), Below.heap_setCell _ ⟨w.heap.size + 1, 0, none⟩ _ x (by show x ≠ w.heap.size + 1; omega), Below.heap_setCell _ ⟨w.heap.size + 1 + 1, 4, none⟩ _ x (by show x ≠ w.heap.size + 1 + 1; omega)]
  refine bodyPost_ret (v := .agg #[.int .i64 pid, .int .i64 pc, .slice ra' regs.length regs.length, .slice ba' box.length box.length, .slice (some ⟨gl, 0, none⟩) N N]) (by simp [results, Tryz.results87, go_sem, q2]) rfl ⟨⟨ra', regs.length, ba', box.length, some ⟨gl, 0, none⟩, N⟩, b1 ++ (b2 ++ b3), rfl, ?_, HND.out.1, fun b hb => by have := HND.out.2 b hb; omega, ?_⟩
  · exact ⟨b1, b2, b3, rfl, OsL.keep _ _ _ (fun x hx _ => hk x (by simp [hx])) HR3.out.1, OsL.keep _ _ _ (fun x hx _ => hk x (by simp [hx])) HR3.out.2.1, HR3.out.2.2.1.keep (fun x hx _ => hk x (by simp [hx])), Nat.le_refl _, HBIG.out.1, Nat.le_refl _, HBIG.out.2.1, Nat.le_refl _, HBIG.out.2.2⟩
  · exact (((((HB3.out.setCell (by show w.heap.size ≤ w.heap.size + 1 + 1; omega) _).setCell (by show w.heap.size ≤ w.heap.size + 1; omega) _).setCell (by show w.heap.size ≤ w.heap.size + 1; omega) _).setCell (by show w.heap.size ≤ w.heap.size + 1; omega) _).setCell (by show w.heap.size ≤ w.heap.size + 1; omega) _).setCell (by show w.heap.size ≤ w.heap.size + 1; omega) _

theorem infoAct : (Tryz.prog.info? 61).map (fun i => (i.zero, i.size, i.bytes)) = some (some (.agg #[.int .i64 0, .int .i64 0, .slice none 0 0, .slice none 0 0, .slice none 0 0]), 5, 88) := by kernel_rfl
theorem undActS : Tryz.prog.underlying 29 = some (.slice 61) := by kernel_rfl
def zeros5 (n : Nat) : Array Value := madeCells #[.int .i64 0, .int .i64 0, .slice none 0 0, .slice none 0 0, .slice none 0 0] (n * 5)
theorem run_zeros5 (n : Nat) (hn : n ≤ 1048576) (w : World) :
    (Instr.makeSlice 29 (.int .i64 (n : Int)) (.int .i64 (n : Int))).run Tryz.prog w = .ok (.slice (some ⟨w.heap.size, 0, none⟩) n n) (w.alloc (.cells (zeros5 n) 61)) := by
  obtain ⟨i, hi, hzz⟩ := Option.map_eq_some_iff.1 infoAct
  simp only [Prod.mk.injEq] at hzz
  obtain ⟨hz, hs, hb⟩ := hzz
  have hr := run_make (P := Tryz.prog) w 29 61 i _ undActS hi hz .i64 .i64 n n (by omega) (Int.le_refl _) (by rw [hb]; omega) (by omega)
  rw [hs] at hr
  simp only [Int.toNat_natCast] at hr
  exact hr
theorem madeG_start {α : Type} {e : Elt α} (w : World) (l : List α) (z : Array Value) (hz : z.size = l.length * e.s) (t : TypeId) : MadeG e w (w.alloc (.cells z t)) w.heap.size l 0 [] where
  below := (Below.refl _ _).alloc (Nat.le_refl _) _
  lt := by show w.heap.size < (w.heap.push _).size; simp
  some := fun j hj => by
    rw [World.cell?_alloc_new]
    have : j < z.size := by rw [hz]; exact hj
    simp [this]
  free := fun o => by simp
  row := by simp [GR]
  nd := by simp
  lo := fun b hb => by cases hb

set_option maxHeartbeats 1000000 in
set_option maxRecDepth 100000 in
theorem toActorS_any (l : List Ac) (ao : Option Addr) (cap : Nat) (w : World) (hr : RowA w ao l) (hl : l.length ≤ 1048576) (hs : ∀ a ∈ l, AcT a) :
    Calls Tryz.prog 53 #[.slice ao l.length cap] w fun e w' => (∃ (g : Nat) (bs : List Nat), e = .returned (.slice (some ⟨g, 0, none⟩) l.length l.length) ∧ GL eltA w' l bs (some ⟨g, 0, none⟩) ∧ bs.Nodup ∧ ∀ b ∈ bs, w.heap.size ≤ b) ∧ Below w.heap.size w w' := by
  have HRW : Hid (RowA w ao l) := hr
  have HS : Hid (∀ a ∈ l, AcT a) := hs
  clear hr hs
  have hmk := run_zeros5 l.length hl
  go_enter Tryz.func53, Tryz.ntmps53
  go_wp2_with fail
  clear hmk
  go_loopw [4] (fun i w' => ∃ (k : Nat) (bs : List Nat), k ≤ l.length ∧ i = .int .i64 k ∧ MadeG eltA w w' w.heap.size l k bs) (fun i _ => l.length - (intOf i).toNat)
  case atStart => exact ⟨0, [], Nat.zero_le _, rfl, madeG_start w l _ (by unfold zeros5; rw [size_madeCells]; rfl) _⟩
  case round =>
    obtain ⟨k, bs, hk, rfl, hm⟩ := hrel
    have HM : Hid (MadeG eltA w wr w.heap.size l k bs) := hm
    clear hm
    by_cases hlt : k < l.length
    · rcases HRW.out with h | ⟨b, o, rfl, hrow⟩
      · rw [h] at hlt; simp at hlt
      obtain ⟨h, hbx0, hac0⟩ := hrow k hlt
      have hbx := hbx0.below HM.out.below
      have HAC : Hid (AcR wr l[k] h) := hac0.below HM.out.below
      have HT : Hid (AcT l[k]) := HS.out _ (List.getElem_mem hlt)
      have HST : Hid (∀ w1 g bt, MadeG eltA w w1 w.heap.size l k bs → AqO w1 l[k] g bt → bt.Nodup → (∀ x ∈ bt, wr.heap.size ≤ x) → (∀ x ∈ bs, x < wr.heap.size) → MadeG eltA w (w1.setCells w.heap.size (k * 5) [.int .i64 l[k].pid, .int .i64 l[k].pc, .slice g.ra l[k].regs.length g.rc, .slice g.ba l[k].box.length g.bc, .slice g.la l[k].N g.lc]) w.heap.size l (k + 1) (bs ++ (bt ++ []))) := fun w1 g bt h1 h2 h3 h4 h5 => by
        refine h1.store (e := eltA) (B := wr.heap.size) (Nat.le_refl _) hlt _ rfl (fun w' hc hb => ⟨g, ⟨hc 0 (by show 0 < 5; omega), hc 1 (by show 1 < 5; omega), hc 2 (by show 2 < 5; omega), hc 3 (by show 3 < 5; omega), hc 4 (by show 4 < 5; omega)⟩, h2.keep hb⟩) h3 h4 h5 HM.out.lt
      have HC : Hid (Calls Tryz.prog 87 #[acV l[k] h] wr fun e w' => ∃ (g : Wh) (bt : List Nat), e = .returned (acV l[k] g) ∧ AqO w' l[k] g bt ∧ bt.Nodup ∧ (∀ b ∈ bt, wr.heap.size ≤ b) ∧ Below wr.heap.size wr w') := toActorO_any l[k] h wr HAC.out HT.out
      generalize l[k] = x at hbx HST HC
      obtain ⟨pid, pc, regs, box, N, f⟩ := x
      have d0 := hbx.c0
      have d1 := hbx.c1
      have d2 := hbx.c2
      have d3 := hbx.c3
      have d4 := hbx.c4
      clear hbx hrow hbx0 hac0 HAC HT
      go_wp2_with fail
      refine HC.out.mono ?_
      rintro e w1 ⟨g, bt, rfl, hq, hnd, hlo, hb1⟩
      have HM1 : Hid (MadeG eltA w w1 w.heap.size l k bs) := HM.out.call hb1
      have HOLD : Hid (∀ x ∈ bs, x < wr.heap.size) := HM.out.row.lt
      have HQ : Hid (AqO w1 ⟨pid, pc, regs, box, N, f⟩ g bt ∧ bt.Nodup ∧ ∀ b ∈ bt, wr.heap.size ≤ b) := ⟨hq, hnd, hlo⟩
      have hf := HM1.out.free
      obtain ⟨x0, hs0⟩ := Option.isSome_iff_exists.1 (HM1.out.some (k * 5) (by show k * 5 < l.length * 5; omega))
      obtain ⟨x1, hs1⟩ := Option.isSome_iff_exists.1 (HM1.out.some (k * 5 + 1) (by show k * 5 + 1 < l.length * 5; omega))
      obtain ⟨x2, hs2⟩ := Option.isSome_iff_exists.1 (HM1.out.some (k * 5 + 2) (by show k * 5 + 2 < l.length * 5; omega))
      obtain ⟨x3, hs3⟩ := Option.isSome_iff_exists.1 (HM1.out.some (k * 5 + 3) (by show k * 5 + 3 < l.length * 5; omega))
      obtain ⟨x4, hs4⟩ := Option.isSome_iff_exists.1 (HM1.out.some (k * 5 + 4) (by show k * 5 + 4 < l.length * 5; omega))
      clear hb1 hq hnd hlo d0 d1 d2 d3 d4
      obtain ⟨ra', rc', ba', bc', la', lc'⟩ := g
      have HM2 := HST.out w1 _ _ HM1.out HQ.out.1 HQ.out.2.1 HQ.out.2.2 HOLD.out
      have HM2' : Hid (MadeG eltA w (w1.setCells w.heap.size (k * 5) [.int .i64 pid, .int .i64 pc, .slice ra' regs.length rc', .slice ba' box.length bc', .slice la' N lc']) w.heap.size l (k + 1) (bs ++ (bt ++ []))) := HM2
      clear HM2
      go_wp2_with fail
      go_roundw
      case rel => exact ⟨k + 1, _, by omega, by go_num, HM2'.out⟩
      case measure => simp [intOf]; omega
    · go_wp2_with fail
      go_ret
      have hkl : k = l.length := by omega
      subst hkl
      obtain ⟨bs', h1, h2, h3⟩ := HM.out.done (Nat.le_refl _)
      exact ⟨⟨w.heap.size, bs', rfl, h1, h2, h3⟩, HM.out.below⟩

/-! ### What was said -/
theorem infoSaid : (Tryz.prog.info? 96).map (fun i => (i.zero, i.size, i.bytes)) = some (some (.agg #[.int .i64 0, .int .i64 0, .int .i64 0, .int .i64 0, .string ⟨#[]⟩, .slice none 0 0]), 6, 72) := by kernel_rfl
theorem undSaidS : Tryz.prog.underlying 30 = some (.slice 96) := by kernel_rfl
def zerosS (n : Nat) : Array Value := madeCells #[.int .i64 0, .int .i64 0, .int .i64 0, .int .i64 0, .string ⟨#[]⟩, .slice none 0 0] (n * 6)
theorem run_zerosS (n : Nat) (hn : n ≤ 1048576) (w : World) :
    (Instr.makeSlice 30 (.int .i64 (n : Int)) (.int .i64 (n : Int))).run Tryz.prog w = .ok (.slice (some ⟨w.heap.size, 0, none⟩) n n) (w.alloc (.cells (zerosS n) 96)) := by
  obtain ⟨i, hi, hzz⟩ := Option.map_eq_some_iff.1 infoSaid
  simp only [Prod.mk.injEq] at hzz
  obtain ⟨hz, hs, hb⟩ := hzz
  have hr := run_make (P := Tryz.prog) w 30 96 i _ undSaidS hi hz .i64 .i64 n n (by omega) (Int.le_refl _) (by rw [hb]; omega) (by omega)
  rw [hs] at hr
  simp only [Int.toNat_natCast] at hr
  exact hr
end Go.Proofs.YtjibnlpjpbileaaGreatDoor
namespace Go.Proofs.YtjibnlpjpbileaaGreatDoor
open Go.RowKit Atom
open Go.Proofs.YtjibnlpjpbileaaGreatDoor.Code
set_option linter.unusedVariables false

abbrev sdV (kind pid k n : Int) (s : ByteArray) (ao : Option Addr) (len cap : Nat) : Value := .agg #[.int .i64 kind, .int .i64 pid, .int .i64 k, .int .i64 n, .string s, .slice ao len cap]
set_option maxHeartbeats 1000000 in
set_option maxRecDepth 100000 in
theorem toSaidO_any (kind pid k n : Int) (s : ByteArray) (l : List Tm) (ao : Option Addr) (cap : Nat) (w : World) (hv : RepV 0 w (.mk k n s l) (.agg #[.int .i64 k, .int .i64 n, .string s, .slice ao l.length cap])) (hst : StS (.mk k n s l)) :
    Calls Tryz.prog 88 #[sdV kind pid k n s ao l.length cap] w fun e w' => ∃ ao' cap' bs, e = .returned (sdV kind pid k n s ao' l.length cap') ∧ OsV w' bs (.mk k n s l) (.agg #[.int .i64 k, .int .i64 n, .string s, .slice ao' l.length cap']) ∧ bs.Nodup ∧ (∀ b ∈ bs, w.heap.size ≤ b) ∧ Below w.heap.size w w' := by
  have HV : Hid (RepV 0 w (.mk k n s l) (.agg #[.int .i64 k, .int .i64 n, .string s, .slice ao l.length cap])) := hv
  have HT : Hid (ToOT (.mk k n s l)) := toOT_all _ hst
  clear hv hst
  go_enter Tryz.func88, Tryz.ntmps88
  go_wp2_with fail
  refine (HT.out 0 _ _ ((Keeps.below ?_ 0).repV HV.out)).mono ?_
  · exact (((Below.refl _ _).alloc (Nat.le_refl _) _).alloc (by simp) _).alloc (by simp; omega) _
  rintro e w1 ⟨v', bs, rfl, hb1, hr1, hnd, hlo⟩
  obtain ⟨hz, q2, q3, f2, f3⟩ := three_new hb1
  have HB1 : Hid (Below w.heap.size w w1) := ((((Below.refl _ _).alloc (Nat.le_refl _) _).alloc (by simp) _).alloc (by simp; omega) _).trans (hb1.mono (by simp; omega))
  obtain ⟨ao', cap', rfl, hs1, hl1, hc1, ho1⟩ := hr1
  have HR1 : Hid (OsL w1 l bs ao' ∧ bs.Nodup ∧ (∀ b ∈ bs, w.heap.size + 3 ≤ b) ∧ s.size ≤ 1048576 ∧ l.length ≤ cap' ∧ cap' ≤ maxLen) := ⟨ho1, hnd, fun b hb => by have := hlo b hb; simp at this; omega, hs1, hl1, hc1⟩
  clear hb1 ho1 hnd hlo hs1 hl1 hc1
  go_wp2_with fail
  refine bodyPost_ret (v := sdV kind pid k n s ao' l.length cap') (by simp [results, Tryz.results88, go_sem, q2]) rfl ⟨ao', cap', bs, rfl, ⟨ao', cap', rfl, HR1.out.2.2.2.1, HR1.out.2.2.2.2.1, HR1.out.2.2.2.2.2, OsL.keep _ _ _ (fun x hx _ => ?_) HR1.out.1⟩, HR1.out.2.1, fun b hb => by have := HR1.out.2.2.1 b hb; omega, ?_⟩
  · have hx3 := HR1.out.2.2.1 x hx
    have n1 : x ≠ w.heap.size + 1 := by omega
    have n2 : x ≠ w.heap.size + 1 + 1 := by omega
    rw [Below.heap_setCell _ ⟨w.heap.size + 1, 5, none⟩ _ x n1, Below.heap_setCell _ ⟨w.heap.size + 1, 4, none⟩ _ x n1, Below.heap_setCell _ ⟨w.heap.size + 1, 3, none⟩ _ x n1, Below.heap_setCell _ ⟨w.heap.size + 1, 2, none⟩ _ x n1, Below.heap_setCell _ ⟨w.heap.size + 1, 1, none⟩ _ x n1, Below.heap_setCell _ ⟨w.heap.size + 1, 0, none⟩ _ x n1,
      Below.heap_setCell _ ⟨w.heap.size + 1 + 1, 5, none⟩ _ x n2, Below.heap_setCell _ ⟨w.heap.size + 1 + 1, 4, none⟩ _ x n2, Below.heap_setCell _ ⟨w.heap.size + 1 + 1, 3, none⟩ _ x n2, Below.heap_setCell _ ⟨w.heap.size + 1 + 1, 2, none⟩ _ x n2]
  · have n1 : w.heap.size ≤ w.heap.size + 1 := by omega
    have n2 : w.heap.size ≤ w.heap.size + 1 + 1 := by omega
    exact (((((((((HB1.out.setCell (p := ⟨w.heap.size + 1 + 1, 2, none⟩) n2 _).setCell (p := ⟨w.heap.size + 1 + 1, 3, none⟩) n2 _).setCell (p := ⟨w.heap.size + 1 + 1, 4, none⟩) n2 _).setCell (p := ⟨w.heap.size + 1 + 1, 5, none⟩) n2 _).setCell (p := ⟨w.heap.size + 1, 0, none⟩) n1 _).setCell (p := ⟨w.heap.size + 1, 1, none⟩) n1 _).setCell (p := ⟨w.heap.size + 1, 2, none⟩) n1 _).setCell (p := ⟨w.heap.size + 1, 3, none⟩) n1 _).setCell (p := ⟨w.heap.size + 1, 4, none⟩) n1 _).setCell (p := ⟨w.heap.size + 1, 5, none⟩) n1 _

set_option maxHeartbeats 1000000 in
set_option maxRecDepth 100000 in
theorem toSaidS_any (l : List Sd) (ao : Option Addr) (cap : Nat) (w : World) (hr : RowS w ao l) (hl : l.length ≤ 1048576) (hs : ∀ x ∈ l, StS x.t) :
    Calls Tryz.prog 54 #[.slice ao l.length cap] w fun e w' => (∃ (g : Nat) (bs : List Nat), e = .returned (.slice (some ⟨g, 0, none⟩) l.length l.length) ∧ GL eltS w' l bs (some ⟨g, 0, none⟩) ∧ bs.Nodup ∧ ∀ b ∈ bs, w.heap.size ≤ b) ∧ Below w.heap.size w w' := by
  have HRW : Hid (RowS w ao l) := hr
  have HS : Hid (∀ x ∈ l, StS x.t) := hs
  clear hr hs
  have hmk := run_zerosS l.length hl
  go_enter Tryz.func54, Tryz.ntmps54
  go_wp2_with fail
  clear hmk
  go_loopw [4] (fun i w' => ∃ (k : Nat) (bs : List Nat), k ≤ l.length ∧ i = .int .i64 k ∧ MadeG eltS w w' w.heap.size l k bs) (fun i _ => l.length - (intOf i).toNat)
  case atStart => exact ⟨0, [], Nat.zero_le _, rfl, madeG_start w l _ (by unfold zerosS; rw [size_madeCells]; rfl) _⟩
  case round =>
    obtain ⟨k, bs, hk, rfl, hm⟩ := hrel
    have HM : Hid (MadeG eltS w wr w.heap.size l k bs) := hm
    clear hm
    by_cases hlt : k < l.length
    · rcases HRW.out.below HM.out.below with h | ⟨b, o, rfl, hrow⟩
      · rw [h] at hlt; simp at hlt
      have hbx := hrow k hlt
      have hT := HS.out _ (List.getElem_mem hlt)
      have HST : Hid (∀ w1 bt tk tn ts tl tao tcap, l[k].t = .mk tk tn ts tl → MadeG eltS w w1 w.heap.size l k bs → OsV w1 bt (.mk tk tn ts tl) (.agg #[.int .i64 tk, .int .i64 tn, .string ts, .slice tao tl.length tcap]) → bt.Nodup → (∀ x ∈ bt, wr.heap.size ≤ x) → (∀ x ∈ bs, x < wr.heap.size) → MadeG eltS w (w1.setCells w.heap.size (k * 6) [.int .i64 l[k].kind, .int .i64 l[k].pid, .int .i64 tk, .int .i64 tn, .string ts, .slice tao tl.length tcap]) w.heap.size l (k + 1) (bs ++ (bt ++ []))) := fun w1 bt tk tn ts tl tao tcap et h1 h2 h3 h4 h5 => by
        refine h1.store (e := eltS) (B := wr.heap.size) (Nat.le_refl _) hlt _ rfl (fun w' hc hb => ⟨hc 0 (by show 0 < 6; omega), hc 1 (by show 1 < 6; omega), ?_⟩) h3 h4 h5 HM.out.lt
        obtain ⟨ao', cap', e, b1, b2, b3, b4⟩ := h2
        simp only [Value.agg.injEq, Array.mk.injEq, List.cons.injEq, and_true, Value.slice.injEq, true_and] at e
        obtain ⟨rfl, rfl⟩ := e
        rw [et, OsT]
        exact ⟨hc 2 (by show 2 < 6; omega), hc 3 (by show 3 < 6; omega), hc 4 (by show 4 < 6; omega), b1, tao, tcap, hc 5 (by show 5 < 6; omega), b2, b3, OsL.keep _ _ _ hb b4⟩
      generalize l[k] = x at hbx HST hT
      obtain ⟨kind, pid, t⟩ := x
      obtain ⟨tk, tn, ts, tl⟩ := t
      have d0 := hbx.c0
      have d1 := hbx.c1
      have hRT := hbx.t
      rw [RepT] at hRT
      obtain ⟨d2, d3, d4, hs4, tao, tcap, d5, hl5, hc5, hr5⟩ := hRT
      have HC : Hid (Calls Tryz.prog 88 #[sdV kind pid tk tn ts tao tl.length tcap] wr fun e w' => ∃ ao' cap' bt, e = .returned (sdV kind pid tk tn ts ao' tl.length cap') ∧ OsV w' bt (.mk tk tn ts tl) (.agg #[.int .i64 tk, .int .i64 tn, .string ts, .slice ao' tl.length cap']) ∧ bt.Nodup ∧ (∀ b ∈ bt, wr.heap.size ≤ b) ∧ Below wr.heap.size wr w') :=
        toSaidO_any kind pid tk tn ts tl tao tcap wr ⟨tao, tcap, rfl, hs4, hl5, hc5, hr5⟩ hT
      clear hbx hrow hT hr5 hs4 hl5 hc5
      go_wp2_with fail
      refine HC.out.mono ?_
      rintro e w1 ⟨ao', cap', bt, rfl, hq, hnd, hlo, hb1⟩
      have HM1 : Hid (MadeG eltS w w1 w.heap.size l k bs) := HM.out.call hb1
      have HOLD : Hid (∀ x ∈ bs, x < wr.heap.size) := HM.out.row.lt
      have HQ : Hid (OsV w1 bt (.mk tk tn ts tl) (.agg #[.int .i64 tk, .int .i64 tn, .string ts, .slice ao' tl.length cap']) ∧ bt.Nodup ∧ ∀ b ∈ bt, wr.heap.size ≤ b) := ⟨hq, hnd, hlo⟩
      have hf := HM1.out.free
      obtain ⟨x0, hs0⟩ := Option.isSome_iff_exists.1 (HM1.out.some (k * 6) (by show k * 6 < l.length * 6; omega))
      obtain ⟨x1, hs1⟩ := Option.isSome_iff_exists.1 (HM1.out.some (k * 6 + 1) (by show k * 6 + 1 < l.length * 6; omega))
      obtain ⟨x2, hs2⟩ := Option.isSome_iff_exists.1 (HM1.out.some (k * 6 + 2) (by show k * 6 + 2 < l.length * 6; omega))
      obtain ⟨x3, hs3⟩ := Option.isSome_iff_exists.1 (HM1.out.some (k * 6 + 3) (by show k * 6 + 3 < l.length * 6; omega))
      obtain ⟨x4, hs4⟩ := Option.isSome_iff_exists.1 (HM1.out.some (k * 6 + 4) (by show k * 6 + 4 < l.length * 6; omega))
      obtain ⟨x5, hs5⟩ := Option.isSome_iff_exists.1 (HM1.out.some (k * 6 + 5) (by show k * 6 + 5 < l.length * 6; omega))
      clear hb1 hq hnd hlo d0 d1 d2 d3 d4 d5
      have HM2 : Hid (MadeG eltS w (w1.setCells w.heap.size (k * 6) [.int .i64 kind, .int .i64 pid, .int .i64 tk, .int .i64 tn, .string ts, .slice ao' tl.length cap']) w.heap.size l (k + 1) (bs ++ (bt ++ []))) := HST.out w1 bt tk tn ts tl ao' cap' rfl HM1.out HQ.out.1 HQ.out.2.1 HQ.out.2.2 HOLD.out
      go_wp2_with fail
      go_roundw
      case rel => exact ⟨k + 1, _, by omega, by go_num, HM2.out⟩
      case measure => simp [intOf]; omega
    · go_wp2_with fail
      go_ret
      have hkl : k = l.length := by omega
      subst hkl
      obtain ⟨bs', h1, h2, h3⟩ := HM.out.done (Nat.le_refl _)
      exact ⟨⟨w.heap.size, bs', rfl, h1, h2, h3⟩, HM.out.below⟩

set_option maxHeartbeats 1000000 in
theorem toInsSO_any (l : List I) (ao : Option Addr) (cap : Nat) (w : World) (hr : RowI w ao l) (hl : l.length ≤ 1048576) :
    Calls Tryz.prog 9 #[.slice ao l.length cap] w fun e w' => (∃ (g : Nat) (bs : List Nat), e = .returned (.slice (some ⟨g, 0, none⟩) l.length l.length) ∧ GL eltI w' l bs (some ⟨g, 0, none⟩) ∧ bs.Nodup ∧ ∀ b ∈ bs, w.heap.size ≤ b) ∧ Below w.heap.size w w' := by
  have HRW : Hid (RowI w ao l) := hr
  clear hr
  have hmk := run_zeros6 l.length hl
  go_enter Tryz.func9, Tryz.ntmps9
  go_wp2_with fail
  clear hmk
  go_loopw [4] (fun i w' => ∃ (k : Nat) (bs : List Nat), k ≤ l.length ∧ i = .int .i64 k ∧ MadeG eltI w w' w.heap.size l k bs) (fun i _ => l.length - (intOf i).toNat)
  case atStart => exact ⟨0, [], Nat.zero_le _, rfl, madeG_start w l _ (by unfold zeros6; rw [size_madeCells]; rfl) _⟩
  case round =>
    obtain ⟨k, bs, hk, rfl, hm⟩ := hrel
    have HM : Hid (MadeG eltI w wr w.heap.size l k bs) := hm
    clear hm
    by_cases hlt : k < l.length
    · rcases HRW.out with h | ⟨b, o, rfl, hrow⟩
      · rw [h] at hlt; simp at hlt
      have hbx := (hrow k hlt).below HM.out.below
      have HST : Hid (∀ w1, MadeG eltI w w1 w.heap.size l k bs → MadeG eltI w (w1.setCells w.heap.size (k * 6) (insL l[k])) w.heap.size l (k + 1) (bs ++ ([] ++ []))) := fun w1 h1 =>
        h1.store (e := eltI) (B := wr.heap.size) (bt := []) (Nat.le_refl _) hlt _ rfl (fun w' hc hb => ⟨rfl, hc 0 (by show 0 < 6; omega), hc 1 (by show 1 < 6; omega), hc 2 (by show 2 < 6; omega), hc 3 (by show 3 < 6; omega), hc 4 (by show 4 < 6; omega), hc 5 (by show 5 < 6; omega)⟩) (by simp) (fun x hx => by cases hx) HM.out.row.lt HM.out.lt
      generalize l[k] = x at hbx HST
      obtain ⟨op, xa, xb, xc, xn, xs⟩ := x
      have d0 := hbx.c0
      have d1 := hbx.c1
      have d2 := hbx.c2
      have d3 := hbx.c3
      have d4 := hbx.c4
      have d5 := hbx.c5
      clear hbx hrow
      go_wp2_with fail
      refine (toIns_any op xa xb xc xn xs _).mono ?_
      rintro e w1 ⟨rfl, hb1⟩
      have HM1 : Hid (MadeG eltI w w1 w.heap.size l k bs) := HM.out.call hb1
      have hf := HM1.out.free
      obtain ⟨x0, hs0⟩ := Option.isSome_iff_exists.1 (HM1.out.some (k * 6) (by show k * 6 < l.length * 6; omega))
      obtain ⟨x1, hs1⟩ := Option.isSome_iff_exists.1 (HM1.out.some (k * 6 + 1) (by show k * 6 + 1 < l.length * 6; omega))
      obtain ⟨x2, hs2⟩ := Option.isSome_iff_exists.1 (HM1.out.some (k * 6 + 2) (by show k * 6 + 2 < l.length * 6; omega))
      obtain ⟨x3, hs3⟩ := Option.isSome_iff_exists.1 (HM1.out.some (k * 6 + 3) (by show k * 6 + 3 < l.length * 6; omega))
      obtain ⟨x4, hs4⟩ := Option.isSome_iff_exists.1 (HM1.out.some (k * 6 + 4) (by show k * 6 + 4 < l.length * 6; omega))
      obtain ⟨x5, hs5⟩ := Option.isSome_iff_exists.1 (HM1.out.some (k * 6 + 5) (by show k * 6 + 5 < l.length * 6; omega))
      clear hb1 d0 d1 d2 d3 d4 d5
      go_wp2_with fail
      have HM2 := HST.out w1 HM1.out
      go_roundw
      case rel => exact ⟨k + 1, _, by omega, by go_num, HM2⟩
      case measure => simp [intOf]; omega
    · go_wp2_with fail
      go_ret
      have hkl : k = l.length := by omega
      subst hkl
      obtain ⟨bs', h1, h2, h3⟩ := HM.out.done (Nat.le_refl _)
      exact ⟨⟨w.heap.size, bs', rfl, h1, h2, h3⟩, HM.out.below⟩

/-! ### A system -/
/-- All in it is within limits. -/
structure PlS (p : Pl) : Prop where
  c : p.code.length ≤ 1048576
  cs : SmI 1048576 p.code
  a : p.acts.length ≤ 1048576
  ax : ∀ x ∈ p.acts, AcT x
  o : p.out.length ≤ 1048576
  ox : ∀ x ∈ p.out, StS x.t
theorem four {a b c d a' b' c' d' : Value} (j : Nat) (h : ∀ o, o < 4 → o ≠ j → (#[a', b', c', d'] : Array Value)[o]? = (#[a, b, c, d] : Array Value)[o]?) : ∀ o, o ≠ j → (#[a', b', c', d'] : Array Value)[o]? = (#[a, b, c, d] : Array Value)[o]? := fun o ho => by
  by_cases h5 : o < 4
  · exact h o h5 ho
  · rw [Array.getElem?_eq_none (by simp; omega), Array.getElem?_eq_none (by simp; omega)]
theorem four0 {a b c d v : Value} : ∀ o, o ≠ 0 → (#[v, b, c, d] : Array Value)[o]? = (#[a, b, c, d] : Array Value)[o]? := four 0 fun o h5 ho => by
  match o, ho, h5 with
  | 0, h, _ => exact absurd rfl h
  | 1, _, _ => rfl
  | 2, _, _ => rfl
  | 3, _, _ => rfl
  | n + 4, _, h => omega
theorem four1 {a b c d v : Value} : ∀ o, o ≠ 1 → (#[a, v, c, d] : Array Value)[o]? = (#[a, b, c, d] : Array Value)[o]? := four 1 fun o h5 ho => by
  match o, ho, h5 with
  | 0, _, _ => rfl
  | 1, h, _ => exact absurd rfl h
  | 2, _, _ => rfl
  | 3, _, _ => rfl
  | n + 4, _, h => omega
theorem four2 {a b c d v : Value} : ∀ o, o ≠ 2 → (#[a, b, v, d] : Array Value)[o]? = (#[a, b, c, d] : Array Value)[o]? := four 2 fun o h5 ho => by
  match o, ho, h5 with
  | 0, _, _ => rfl
  | 1, _, _ => rfl
  | 2, h, _ => exact absurd rfl h
  | 3, _, _ => rfl
  | n + 4, _, h => omega
theorem nodup3 {b1 b2 b3 : List Nat} {x y z : Nat} (h1 : b1.Nodup) (h2 : b2.Nodup) (h3 : b3.Nodup) (k1 : ∀ b ∈ b1, b < x) (k2 : ∀ b ∈ b2, x ≤ b ∧ b < y) (k3 : ∀ b ∈ b3, y ≤ b) (hxy : x ≤ y) : (b1 ++ (b2 ++ b3)).Nodup := by
  rw [List.nodup_append]
  refine ⟨h1, List.nodup_append.2 ⟨h2, h3, fun p hp q hq e => ?_⟩, fun p hp q hq e => ?_⟩
  · have := k2 p hp; have := k3 q hq; omega
  · have := k1 p hp
    rcases List.mem_append.1 hq with hq | hq
    · have := k2 q hq; omega
    · have := k3 q hq; omega

set_option maxHeartbeats 2000000 in
set_option maxRecDepth 100000 in
theorem toPlain_any (p : Pl) (h : Pw) (w : World) (hr : PlR w p h) (hs : PlS p) :
    Calls Tryz.prog 21 #[plV p h] w fun e w' => ∃ (g : Pw) (bs : List Nat), e = .returned (plV p g) ∧ PlO w' p g bs ∧ bs.Nodup ∧ (∀ b ∈ bs, w.heap.size ≤ b) ∧ Below w.heap.size w w' := by
  obtain ⟨code, acts, next, out⟩ := p
  obtain ⟨ca, cc, aa, ac, oa, oc⟩ := h
  have HR : Hid (PlR w ⟨code, acts, next, out⟩ ⟨ca, cc, aa, ac, oa, oc⟩) := hr
  have HS : Hid (PlS ⟨code, acts, next, out⟩) := hs
  clear hr hs
  go_enter Tryz.func21, Tryz.ntmps21
  go_wp2_with fail
  refine (toInsSO_any code ca cc _ ((HR.out.below ?_).code) HS.out.c).mono ?_
  · exact (((Below.refl _ _).alloc (Nat.le_refl _) _).alloc (by simp) _).alloc (by simp; omega) _
  rintro e w1 ⟨⟨g1, b1, rfl, hr1, hn1, hl1⟩, hb1⟩
  obtain ⟨hz, q2, q3, f2, f3⟩ := three_new hb1
  have q1 := three_first9 hb1
  have H1 : To3 w w1 #[.slice ca code.length cc, .slice aa acts.length ac, .int .i64 next, .slice oa out.length oc] #[.slice none 0 0, .slice none 0 0, .int .i64 0, .slice none 0 0] #[.slice none 0 0, .slice none 0 0, .int .i64 0, .slice none 0 0] :=
    ⟨((((Below.refl _ _).alloc (Nat.le_refl _) _).alloc (by simp) _).alloc (by simp; omega) _).trans (hb1.mono (by simp; omega)), hz, q1, q2, q3, f2, f3⟩
  have HR1 : Hid (GL eltI w1 code b1 (some ⟨g1, 0, none⟩) ∧ b1.Nodup ∧ (∀ b ∈ b1, w.heap.size + 3 ≤ b)) := ⟨hr1, hn1, fun b hb => by have := hl1 b hb; simp at this; omega⟩
  have H1s : Hid (To3 w (w1.setCell ⟨w.heap.size + 1 + 1, 0, none⟩ (.slice (some ⟨g1, 0, none⟩) code.length code.length)) #[.slice ca code.length cc, .slice aa acts.length ac, .int .i64 next, .slice oa out.length oc] #[.slice none 0 0, .slice none 0 0, .int .i64 0, .slice none 0 0] #[.slice (some ⟨g1, 0, none⟩) code.length code.length, .slice none 0 0, .int .i64 0, .slice none 0 0]) :=
    H1.set 0 rfl rfl four0
  clear hb1 hr1 H1 hn1 hl1
  go_wp2_with fail
  obtain ⟨W1, hW1⟩ : ∃ W1, W1 = w1.setCell ⟨w.heap.size + 1 + 1, 0, none⟩ (.slice (some ⟨g1, 0, none⟩) code.length code.length) := ⟨_, rfl⟩
  rw [← hW1] at H1s ⊢
  have HO1 : Hid (GL eltI W1 code b1 (some ⟨g1, 0, none⟩)) := by
    rw [hW1]
    exact HR1.out.1.keep (fun x hx _ => Below.heap_setCell _ ⟨w.heap.size + 1 + 1, 0, none⟩ _ x (by show x ≠ w.heap.size + 1 + 1; have := HR1.out.2.2 x hx; omega))
  clear hW1 q1 q2 q3 f2 f3 hz
  refine (toActorS_any acts aa ac W1 ((HR.out.below H1s.out.be).acts) HS.out.a HS.out.ax).mono ?_
  rintro e w2 ⟨⟨g2, b2, rfl, hr2, hn2, hl2⟩, hb2⟩
  have H2 := H1s.out.call hb2
  have HZ1 := H1s.out.sz
  have HR2 : Hid (GL eltI w2 code b1 (some ⟨g1, 0, none⟩) ∧ GL eltA w2 acts b2 (some ⟨g2, 0, none⟩) ∧ b2.Nodup ∧ (∀ b ∈ b2, W1.heap.size ≤ b) ∧ (∀ b ∈ b1, b < W1.heap.size) ∧ w.heap.size + 3 ≤ W1.heap.size ∧ W1.heap.size ≤ w2.heap.size) := ⟨HO1.out.below hb2, hr2, hn2, hl2, HO1.out.lt, HZ1, hb2.size⟩
  have H2s : Hid (To3 w ((w2.setCell ⟨w.heap.size + 1 + 1, 1, none⟩ (.slice (some ⟨g2, 0, none⟩) acts.length acts.length)).setCell ⟨w.heap.size + 1 + 1, 2, none⟩ (.int .i64 next)) #[.slice ca code.length cc, .slice aa acts.length ac, .int .i64 next, .slice oa out.length oc] #[.slice none 0 0, .slice none 0 0, .int .i64 0, .slice none 0 0] #[.slice (some ⟨g1, 0, none⟩) code.length code.length, .slice (some ⟨g2, 0, none⟩) acts.length acts.length, .int .i64 next, .slice none 0 0]) :=
    To3.set (H2.set (c3' := #[.slice (some ⟨g1, 0, none⟩) code.length code.length, .slice (some ⟨g2, 0, none⟩) acts.length acts.length, .int .i64 0, .slice none 0 0]) 1 rfl rfl four1) 2 rfl rfl four2
  have q1 := H2.q1
  have q3 := H2.q3
  have f3 := H2.f3
  clear hb2 hr2 H2 HZ1 hn2 hl2
  go_wp2_with fail
  obtain ⟨W2, hW2⟩ : ∃ W2, W2 = (w2.setCell ⟨w.heap.size + 1 + 1, 1, none⟩ (.slice (some ⟨g2, 0, none⟩) acts.length acts.length)).setCell ⟨w.heap.size + 1 + 1, 2, none⟩ (.int .i64 next) := ⟨_, rfl⟩
  rw [← hW2] at H2s ⊢
  have HO2 : Hid (GL eltI W2 code b1 (some ⟨g1, 0, none⟩) ∧ GL eltA W2 acts b2 (some ⟨g2, 0, none⟩) ∧ w2.heap.size = W2.heap.size) := by
    rw [hW2]
    have hk : ∀ x, w.heap.size + 3 ≤ x → ((w2.setCell ⟨w.heap.size + 1 + 1, 1, none⟩ (.slice (some ⟨g2, 0, none⟩) acts.length acts.length)).setCell ⟨w.heap.size + 1 + 1, 2, none⟩ (.int .i64 next)).heap[x]? = w2.heap[x]? := fun x hx => by
      rw [Below.heap_setCell _ ⟨w.heap.size + 1 + 1, 2, none⟩ _ x (by show x ≠ w.heap.size + 1 + 1; omega), Below.heap_setCell _ ⟨w.heap.size + 1 + 1, 1, none⟩ _ x (by show x ≠ w.heap.size + 1 + 1; omega)]
    exact ⟨HR2.out.1.keep (fun x hx _ => hk x (HR1.out.2.2 x hx)), HR2.out.2.1.keep (fun x hx _ => hk x (by have := HR2.out.2.2.2.1 x hx; have := HR2.out.2.2.2.2.2.1; omega)), by rw [World.size_setCell, World.size_setCell]⟩
  clear hW2 q1 q3 f3
  refine (toSaidS_any out oa oc W2 ((HR.out.below H2s.out.be).out) HS.out.o HS.out.ox).mono ?_
  rintro e w3 ⟨⟨g3, b3, rfl, hr3, hn3, hl3⟩, hb3⟩
  have H3 := H2s.out.call hb3
  have HR3 : Hid (GL eltI w3 code b1 (some ⟨g1, 0, none⟩) ∧ GL eltA w3 acts b2 (some ⟨g2, 0, none⟩) ∧ GL eltS w3 out b3 (some ⟨g3, 0, none⟩)) := ⟨HO2.out.1.below hb3, HO2.out.2.1.below hb3, hr3⟩
  have HB3 : Hid (Below w.heap.size w w3) := H3.be
  have HND : Hid ((b1 ++ (b2 ++ b3)).Nodup ∧ ∀ b ∈ b1 ++ (b2 ++ b3), w.heap.size + 3 ≤ b) := by
    have z2 := HO2.out.2.2
    have z3 := HR2.out.2.2.2.2.2.1
    have z4 := HR2.out.2.2.2.2.2.2
    refine ⟨nodup3 (x := W1.heap.size) (y := W2.heap.size) (z := 0) HR1.out.2.1 HR2.out.2.2.1 hn3 HR2.out.2.2.2.2.1 (fun b hb => ⟨HR2.out.2.2.2.1 b hb, HO2.out.2.1.lt b hb⟩) hl3 (by omega), fun b hb => ?_⟩
    rcases List.mem_append.1 hb with hb | hb
    · exact HR1.out.2.2 b hb
    · rcases List.mem_append.1 hb with hb | hb
      · have := HR2.out.2.2.2.1 b hb; omega
      · have := hl3 b hb; omega
  have q2 := H3.q2
  have q3 := H3.q3
  have f2 := H3.f2
  have f3 := H3.f3
  clear hb3 H3 hr3 hn3 hl3
  go_wp2_with fail
  have hk : ∀ x ∈ b1 ++ (b2 ++ b3), (((((w3.setCell ⟨w.heap.size + 1 + 1, 3, none⟩ (Value.slice (some ⟨g3, 0, none⟩) out.length out.length)).setCell ⟨w.heap.size + 1, 0, none⟩ (.slice (some ⟨g1, 0, none⟩) code.length code.length)).setCell ⟨w.heap.size + 1, 1, none⟩ (.slice (some ⟨g2, 0, none⟩) acts.length acts.length)).setCell ⟨w.heap.size + 1, 2, none⟩ (.int .i64 next)).setCell ⟨w.heap.size + 1, 3, none⟩ (Value.slice (some ⟨g3, 0, none⟩) out.length out.length)).heap[x]? = w3.heap[x]? := fun x hx => by
    have hx3 := HND.out.2 x hx
    have n1 : x ≠ w.heap.size + 1 := by omega
    rw [Below.heap_setCell _ ⟨w.heap.size + 1, 3, none⟩ _ x n1, Below.heap_setCell _ ⟨w.heap.size + 1, 2, none⟩ _ x n1, Below.heap_setCell _ ⟨w.heap.size + 1, 1, none⟩ _ x n1, Below.heap_setCell _ ⟨w.heap.size + 1, 0, none⟩ _ x n1, Below.heap_setCell _ ⟨w.heap.size + 1 + 1, 3, none⟩ _ x (by show x ≠ w.heap.size + 1 + 1; omega)]
  have HMX : Hid (SmI maxLen code ∧ code.length ≤ maxLen ∧ acts.length ≤ maxLen ∧ out.length ≤ maxLen) := ⟨HR.out.sm, HR.out.c1, HR.out.a1, HR.out.o1⟩
  refine bodyPost_ret (v := .agg #[.slice (some ⟨g1, 0, none⟩) code.length code.length, .slice (some ⟨g2, 0, none⟩) acts.length acts.length, .int .i64 next, .slice (some ⟨g3, 0, none⟩) out.length out.length]) (by simp [results, Tryz.results21, go_sem, q2]) rfl ⟨⟨some ⟨g1, 0, none⟩, code.length, some ⟨g2, 0, none⟩, acts.length, some ⟨g3, 0, none⟩, out.length⟩, b1 ++ (b2 ++ b3), rfl, ?_, HND.out.1, fun b hb => by have := HND.out.2 b hb; omega, ?_⟩
  · exact ⟨b1, b2, b3, rfl, HR3.out.1.keep (fun x hx _ => hk x (by simp [hx])), HR3.out.2.1.keep (fun x hx _ => hk x (by simp [hx])), HR3.out.2.2.keep (fun x hx _ => hk x (by simp [hx])), HMX.out.1, HMX.out.2.1, HMX.out.2.2.1, HMX.out.2.2.2⟩
  · have n1 : w.heap.size ≤ w.heap.size + 1 := by omega
    exact ((((HB3.out.setCell (p := ⟨w.heap.size + 1 + 1, 3, none⟩) (by show w.heap.size ≤ w.heap.size + 1 + 1; omega) _).setCell (p := ⟨w.heap.size + 1, 0, none⟩) n1 _).setCell (p := ⟨w.heap.size + 1, 1, none⟩) n1 _).setCell (p := ⟨w.heap.size + 1, 2, none⟩) n1 _).setCell (p := ⟨w.heap.size + 1, 3, none⟩) n1 _
end Go.Proofs.YtjibnlpjpbileaaGreatDoor
