/-
  The program's PlainOk: it answers plB.
  (Ahead of it, in this text: Maps whose keys are numbers: lookup, update, told by the list of what stands in them. Copies that the laws make of actors and of what was said: all in blocks of their own. Copies that the laws make of what was said, of code, of a system: all in blocks of their own. The specification's PlainOk: it answers plB. The program's PlainOk, its parts: actors by their Pids, links of both sides, what was said.)
-/
import Derived.Test.YtgbopbpiciopdaaGreatDoorProg
import Derived.Test.YtgbopbpiciopdaaGreatDoorCurA
import Derived.Laws.World
import Derived.LaidEql
import Derived.Below
import Derived.MapKept
import Derived.MapFrom
import Derived.Test.YtgbopbpiciopdaaGreatDoorU1
import Derived.Test.YtgbopbpiciopdaaGreatDoorAcF
import Derived.Test.YtgbopbpiciopdaaGreatDoorTmK
import Derived.Test.YtgbopbpiciopdaaGreatDoorCkC
import Derived.Test.YtgbopbpiciopdaaGreatDoorShelf
import Derived.Test.YtgbopbpiciopdaaGreatDoorInn
namespace Go.Proofs.YtgbopbpiciopdaaGreatDoor
open Go.RowKit
set_option linter.unusedVariables false

/-- The block mb is a map of these numbers to these values, in the order in which they came. -/
def ImMap (w : World) (mb : Nat) (es : List (Int × Value)) : Prop := ∃ arr clk, w.heap[mb]? = some (.map arr clk) ∧ arr.toList.map (fun e => (e.key, e.val)) = es.map (fun p => (Value.int .i64 p.1, p.2)) ∧ MapKept.Stamped arr clk
theorem ImMap.keep {w w' : World} {mb : Nat} {es : List (Int × Value)} (h : ImMap w mb es) (hk : w'.heap[mb]? = w.heap[mb]?) : ImMap w' mb es := by
  obtain ⟨arr, clk, hm, he⟩ := h
  exact ⟨arr, clk, hk.trans hm, he⟩
theorem ImMap.lt {w : World} {mb : Nat} {es : List (Int × Value)} (h : ImMap w mb es) : mb < w.heap.size := by
  obtain ⟨arr, clk, hm, he⟩ := h
  rcases Nat.lt_or_ge mb w.heap.size with h | h
  · exact h
  · rw [Array.getElem?_eq_none h] at hm; cases hm
theorem ImMap.below {w w' : World} {mb : Nat} {es : List (Int × Value)} (h : ImMap w mb es) (hb : Below w.heap.size w w') : ImMap w' mb es := h.keep (hb.block mb h.lt)
theorem ImMap.made (w : World) : ImMap (w.alloc (.map #[] 0)) w.heap.size [] := ⟨#[], 0, (MapKept.heap_alloc w _).1, rfl, MapKept.stamped_empty 0⟩
def imFind (p : Int) : List (Int × Value) → Nat → Option (Nat × Value)
  | [], _ => none
  | x :: es, i => if p = x.1 then some (i, x.2) else imFind p es (i + 1)
def imGet (es : List (Int × Value)) (p : Int) : Option Value := (imFind p es 0).map (·.2)
theorem imFind_shift (p : Int) : ∀ (es : List (Int × Value)) (i : Nat), imFind p es (i + 1) = (imFind p es i).map (fun x => (x.1 + 1, x.2))
  | [], i => rfl
  | x :: es, i => by
    rw [imFind, imFind]
    split
    · rfl
    · exact imFind_shift p es (i + 1)
theorem imGet_nil (p : Int) : imGet [] p = none := rfl
theorem imGet_cons (p : Int) (x : Int × Value) (es : List (Int × Value)) : imGet (x :: es) p = if p = x.1 then some x.2 else imGet es p := by
  unfold imGet
  rw [imFind]
  split
  · rfl
  · rw [imFind_shift]
    cases imFind p es 0 <;> rfl
theorem findNow_int (p : Int) : ∀ (l : List MapEntry) (es : List (Int × Value)) (i : Nat), l.map (fun e => (e.key, e.val)) = es.map (fun p => (Value.int .i64 p.1, p.2)) → Instr.findNow (.int .i64) (.int .i64 p) l i = some (imFind p es i)
  | [], es, i, h => by
    have : es = [] := by simpa using h.symm
    subst this; rfl
  | e :: l, es, i, h => by
    cases es with
    | nil => simp at h
    | cons x es =>
      simp only [List.map_cons, List.cons.injEq, Prod.mk.injEq] at h
      obtain ⟨⟨hk, hv⟩, hr⟩ := h
      have ih := findNow_int p l es (i + 1) hr
      rw [Instr.findNow, hk, imFind]
      by_cases hq : p = x.1
      · rw [if_pos hq]
        simp [Instr.sameNow, hq, hv]
      · rw [if_neg hq]
        have : (p == x.1) = false := by simp [hq]
        simp [Instr.sameNow, this, ih]
theorem run_check_int {w : World} (em : Bool) (d : Nat) (v : Value) : (Instr.checkKey em (d + 1) 3 v).run Tryz.prog w = .ok () w := by simp [Instr.checkKey, run_underlying Tryz.underlying3]
theorem run_find_int {w : World} {arr : Array MapEntry} {es : List (Int × Value)} (p : Int) (h : arr.toList.map (fun e => (e.key, e.val)) = es.map (fun p => (Value.int .i64 p.1, p.2))) : (Instr.findKey 3 (.int .i64 p) arr.toList).run Tryz.prog w = .ok (imFind p es 0) w :=
  MapKept.run_findKey Tryz.underlying3 (findNow_int p arr.toList es 0 h)
/-- Lookup that tells whether there is one; z is the zero value. -/
theorem look_int {w : World} {mb : Nat} {es : List (Int × Value)} (h : ImMap w mb es) {t e : TypeId} (ht : Tryz.prog.underlying t = some (.map 3 e)) {z : Value} (hz : ∀ w', (zeroValue e).run Tryz.prog w' = .ok z w') (p : Int) :
    ∀ w' : World, w'.heap[mb]? = w.heap[mb]? → (Instr.lookup t (.map (some mb)) (.int .i64 p) true).run Tryz.prog w' = .ok (.tuple #[(imGet es p).getD z, .bool (imGet es p).isSome]) w' := by
  obtain ⟨arr, clk, hm, he, _⟩ := h
  intro w' hw
  have hm' : w'.heap[mb]? = some (.map arr clk) := hw.trans hm
  have hf := run_find_int (w := w') p he
  have hc := run_check_int (w := w') arr.isEmpty 9999 (.int .i64 p)
  unfold imGet
  cases hr : imFind p es 0 with
  | none =>
    rw [hr] at hf
    simp [Instr.lookup, run_underlying ht, MapKept.run_getObj_map hm', hc, hf, hz]
  | some x =>
    rw [hr] at hf
    simp [Instr.lookup, run_underlying ht, MapKept.run_getObj_map hm', hc, hf]
/-- Lookup of the value alone. -/
theorem look_int1 {w : World} {mb : Nat} {es : List (Int × Value)} (h : ImMap w mb es) {t e : TypeId} (ht : Tryz.prog.underlying t = some (.map 3 e)) {z : Value} (hz : ∀ w', (zeroValue e).run Tryz.prog w' = .ok z w') (p : Int) :
    ∀ w' : World, w'.heap[mb]? = w.heap[mb]? → (Instr.lookup t (.map (some mb)) (.int .i64 p) false).run Tryz.prog w' = .ok ((imGet es p).getD z) w' := by
  obtain ⟨arr, clk, hm, he, _⟩ := h
  intro w' hw
  have hm' : w'.heap[mb]? = some (.map arr clk) := hw.trans hm
  have hf := run_find_int (w := w') p he
  have hc := run_check_int (w := w') arr.isEmpty 9999 (.int .i64 p)
  unfold imGet
  cases hr : imFind p es 0 with
  | none =>
    rw [hr] at hf
    simp [Instr.lookup, run_underlying ht, MapKept.run_getObj_map hm', hc, hf, hz]
  | some x =>
    rw [hr] at hf
    simp [Instr.lookup, run_underlying ht, MapKept.run_getObj_map hm', hc, hf]
theorem imFind_none {p : Int} : ∀ {es : List (Int × Value)} {i : Nat}, (∀ x ∈ es, x.1 ≠ p) → imFind p es i = none
  | [], i, h => rfl
  | x :: es, i, h => by
    rw [imFind, if_neg (fun q => h x (by simp) q.symm)]
    exact imFind_none (fun y hy => h y (by simp [hy]))
theorem imGet_none {p : Int} {es : List (Int × Value)} (h : ∀ x ∈ es, x.1 ≠ p) : imGet es p = none := by unfold imGet; rw [imFind_none h]; rfl
/-- A number that is new: it stands last. -/
theorem add_int {w : World} {mb : Nat} {es : List (Int × Value)} (h : ImMap w mb es) {t e : TypeId} (ht : Tryz.prog.underlying t = some (.map 3 e)) (p : Int) (v : Value) (hn : ∀ x ∈ es, x.1 ≠ p) :
    ∃ w', (Instr.mapUpdate t (.map (some mb)) (.int .i64 p) v).run Tryz.prog w = .ok () w' ∧ Turn mb w w' ∧ ImMap w' mb (es ++ [(p, v)]) := by
  have hml := h.lt
  obtain ⟨arr, clk, hm, he, hs⟩ := h
  have hf := run_find_int (w := w) p he
  rw [imFind_none hn] at hf
  have hc := run_check_int (w := w) false 9999 (.int .i64 p)
  refine ⟨{ w with heap := w.heap.setIfInBounds mb (.map (arr.push ⟨.int .i64 p, v, clk⟩) (clk + 1)) }, by simp [Instr.mapUpdate, run_underlying ht, MapKept.run_getObj_map hm, hc, hf, MapKept.run_setObj_map _ hm], ⟨rfl, rfl, rfl, by simp, fun k hk hne => by
    show (w.heap.setIfInBounds mb _)[k]? = _
    rw [Array.getElem?_setIfInBounds_ne (Ne.symm hne)]⟩, arr.push ⟨.int .i64 p, v, clk⟩, clk + 1, ?_, ?_, ?_⟩
  · show (w.heap.setIfInBounds mb _)[mb]? = _
    rw [Array.getElem?_setIfInBounds_self_of_lt hml]
  · rw [Array.toList_push, List.map_append, he, List.map_append]; rfl
  · refine MapKept.stamped_push hs (fun x hx => ?_)
    intro q
    have h1 : (x.key, x.val) ∈ es.map (fun p => (Value.int .i64 p.1, p.2)) := by rw [← he]; exact List.mem_map.2 ⟨x, hx, rfl⟩
    obtain ⟨y, hy, e1⟩ := List.mem_map.1 h1
    simp only [Prod.mk.injEq] at e1
    rw [q] at e1
    simp only [Value.int.injEq, true_and] at e1
    exact hn y hy e1.1
end Go.Proofs.YtgbopbpiciopdaaGreatDoor
namespace Go.Proofs.YtgbopbpiciopdaaGreatDoor
open Go.RowKit Atom
open Go.Proofs.YtgbopbpiciopdaaGreatDoor.Code
set_option linter.unusedVariables false

/-- Lists and texts of an actor are within limits. -/
def StL (l : List Tm) : Prop := l.length ≤ 1048576 ∧ ∀ t ∈ l, StS t
def AcT (a : Ac) : Prop := StL a.regs ∧ StL a.box ∧ a.N ≤ 1048576
theorem toLO_any (l : List Tm) (ao : Option Addr) (cap : Nat) (w : World) (hr : RepL 0 w l ao) (hl : l.length ≤ cap) (hc : cap ≤ maxLen) (hs : StL l) :
    Calls Tryz.prog 47 #[.slice ao l.length cap] w fun e w' => ∃ ao' bs, e = .returned (.slice ao' l.length l.length) ∧ Below w.heap.size w w' ∧ OsL w' l bs ao' ∧ bs.Nodup ∧ ∀ b ∈ bs, w.heap.size ≤ b :=
  toOS_of l hs.1 (fun t ht => toOT_all t (hs.2 t ht)) 0 w ao cap hr hl hc
theorem ownI_of {w : World} {g N : Nat} {f : Nat → Int} (h : Ints w g 0 N f) : ∃ bs, OwnI w N f bs (some ⟨g, 0, none⟩) ∧ bs.Nodup ∧ ∀ b ∈ bs, b = g := by
  by_cases h0 : N = 0
  · exact ⟨[], .inl ⟨h0, rfl⟩, by simp, fun b hb => by cases hb⟩
  · exact ⟨[g], .inr ⟨h0, g, 0, rfl, rfl, h.free, h.cell⟩, by simp, fun b hb => List.mem_singleton.1 hb⟩

set_option maxHeartbeats 1000000 in
set_option maxRecDepth 100000 in
theorem toActorO_any (a : Ac) (h : Wh) (w : World) (hr : AcR w a h) (hs : AcT a) :
    Calls Tryz.prog 75 #[acV a h] w fun e w' => ∃ (g : Wh) (bs : List Nat), e = .returned (acV a g) ∧ AqO w' a g bs ∧ bs.Nodup ∧ (∀ b ∈ bs, w.heap.size ≤ b) ∧ Below w.heap.size w w' := by
  obtain ⟨pid, pc, regs, box, N, f⟩ := a
  obtain ⟨ra, rc, ba, bc, la, lc⟩ := h
  have HR : Hid (AcR w ⟨pid, pc, regs, box, N, f⟩ ⟨ra, rc, ba, bc, la, lc⟩) := hr
  have HS : Hid (StL regs ∧ StL box ∧ N ≤ 1048576) := hs
  have HBIG : Hid (regs.length ≤ maxLen ∧ box.length ≤ maxLen ∧ N ≤ maxLen) := ⟨Nat.le_trans hr.r1 hr.r2, Nat.le_trans hr.b1 hr.b2, Nat.le_trans hr.l1 hr.l2⟩
  clear hr hs
  obtain ⟨s, hs⟩ : ∃ s, s = w.heap.size := ⟨_, rfl⟩
  go_enter Tryz.func75, Tryz.ntmps75
  go_wp2_with fail
  refine (toLO_any regs ra rc _ ((HR.out.below ?_).regs) HR.out.r1 HR.out.r2 HS.out.1).mono ?_
  · exact (((Below.refl _ _).alloc (Nat.le_refl _) _).alloc (by simp) _).alloc (by simp; omega) _
  rintro e w1 ⟨ra', b1, rfl, hb1, hr1, hn1, hl1⟩
  obtain ⟨hz, q2, q3, f2, f3⟩ := three_new hb1
  have q1 := three_first9 hb1
  have H1 : To3 w w1 #[.int .i64 pid, .int .i64 pc, .slice ra regs.length rc, .slice ba box.length bc, .slice la N lc] #[.int .i64 0, .int .i64 0, .slice none 0 0, .slice none 0 0, .slice none 0 0] #[.int .i64 pid, .int .i64 pc, .slice none 0 0, .slice none 0 0, .slice none 0 0] :=
    ⟨((((Below.refl _ _).alloc (Nat.le_refl _) _).alloc (by simp) _).alloc (by simp; omega) _).trans (hb1.mono (by simp; omega)), hz, q1, q2, q3, f2, f3⟩
  have HR1 : Hid (OsL w1 regs b1 ra' ∧ b1.Nodup ∧ (∀ b ∈ b1, w.heap.size + 3 ≤ b) ∧ ∀ b ∈ b1, b < w1.heap.size) := ⟨hr1, hn1, fun b hb => by have := hl1 b hb; simp at this; omega, OsL.lt _ _ _ hr1⟩
  have H1s : Hid (To3 w (w1.setCell ⟨w.heap.size + 1 + 1, 2, none⟩ (.slice ra' regs.length regs.length)) #[.int .i64 pid, .int .i64 pc, .slice ra regs.length rc, .slice ba box.length bc, .slice la N lc] #[.int .i64 0, .int .i64 0, .slice none 0 0, .slice none 0 0, .slice none 0 0] #[.int .i64 pid, .int .i64 pc, .slice ra' regs.length regs.length, .slice none 0 0, .slice none 0 0]) :=
    H1.set 2 rfl rfl five2
  clear hb1 hr1 H1 hn1 hl1
  go_wp2_with fail
  obtain ⟨W1, hW1⟩ : ∃ W1, W1 = w1.setCell ⟨w.heap.size + 1 + 1, 2, none⟩ (.slice ra' regs.length regs.length) := ⟨_, rfl⟩
  rw [← hW1] at H1s ⊢
  have HO1 : Hid (OsL W1 regs b1 ra' ∧ w1.heap.size = W1.heap.size) := by
    refine ⟨?_, by rw [hW1, World.size_setCell]⟩
    rw [hW1]
    exact OsL.keep _ _ _ (fun x hx _ => Below.heap_setCell _ ⟨w.heap.size + 1 + 1, 2, none⟩ _ x (by show x ≠ w.heap.size + 1 + 1; have := HR1.out.2.2.1 x hx; omega)) HR1.out.1
  clear hW1 q1 q2 q3 f2 f3 hz
  refine (toLO_any box ba bc W1 ((HR.out.below H1s.out.be).box) HR.out.b1 HR.out.b2 HS.out.2.1).mono ?_
  rintro e w2 ⟨ba', b2, rfl, hb2, hr2, hn2, hl2⟩
  have H2 := H1s.out.call hb2
  have HZ1 := H1s.out.sz
  have HR2 : Hid (OsL w2 regs b1 ra' ∧ OsL w2 box b2 ba' ∧ b2.Nodup ∧ (∀ b ∈ b2, W1.heap.size ≤ b) ∧ (∀ b ∈ b2, b < w2.heap.size) ∧ w.heap.size + 3 ≤ W1.heap.size ∧ W1.heap.size ≤ w2.heap.size) := ⟨OsL.below hb2 HO1.out.1, hr2, hn2, hl2, OsL.lt _ _ _ hr2, HZ1, hb2.size⟩
  have H2s : Hid (To3 w (w2.setCell ⟨w.heap.size + 1 + 1, 3, none⟩ (.slice ba' box.length box.length)) #[.int .i64 pid, .int .i64 pc, .slice ra regs.length rc, .slice ba box.length bc, .slice la N lc] #[.int .i64 0, .int .i64 0, .slice none 0 0, .slice none 0 0, .slice none 0 0] #[.int .i64 pid, .int .i64 pc, .slice ra' regs.length regs.length, .slice ba' box.length box.length, .slice none 0 0]) :=
    H2.set 3 rfl rfl five3
  have q1 := H2.q1
  have q3 := H2.q3
  have f3 := H2.f3
  clear hb2 hr2 H2 HZ1 hn2 hl2
  go_wp2_with fail
  obtain ⟨W2, hW2⟩ : ∃ W2, W2 = w2.setCell ⟨w.heap.size + 1 + 1, 3, none⟩ (.slice ba' box.length box.length) := ⟨_, rfl⟩
  rw [← hW2] at H2s ⊢
  have HO2 : Hid (OsL W2 regs b1 ra' ∧ OsL W2 box b2 ba' ∧ w2.heap.size = W2.heap.size) := by
    rw [hW2]
    exact ⟨OsL.keep _ _ _ (fun x hx _ => Below.heap_setCell _ ⟨w.heap.size + 1 + 1, 3, none⟩ _ x (by show x ≠ w.heap.size + 1 + 1; have := HR1.out.2.2.1 x hx; omega)) HR2.out.1,
      OsL.keep _ _ _ (fun x hx _ => Below.heap_setCell _ ⟨w.heap.size + 1 + 1, 3, none⟩ _ x (by show x ≠ w.heap.size + 1 + 1; have := HR2.out.2.2.2.1 x hx; have := HR2.out.2.2.2.2.2.1; omega)) HR2.out.2.1, by rw [World.size_setCell]⟩
  clear hW2 q1 q3 f3
  refine (toIntS_any la N lc f W2 ((HR.out.below H2s.out.be).links) HS.out.2.2).mono ?_
  rintro e w3 ⟨rfl, hi3, hl3, hb3⟩
  have H3 := H2s.out.call hb3
  have HZ2 : Hid (w.heap.size + 3 ≤ W2.heap.size) := H2s.out.sz
  obtain ⟨b3, ho3, hn3, hg3⟩ := ownI_of hi3
  have HR3 : Hid (OsL w3 regs b1 ra' ∧ OsL w3 box b2 ba' ∧ OwnI w3 N f b3 (some ⟨W2.heap.size, 0, none⟩) ∧ b3.Nodup ∧ (∀ b ∈ b3, b = W2.heap.size)) := ⟨OsL.below hb3 HO2.out.1, OsL.below hb3 HO2.out.2.1, ho3, hn3, hg3⟩
  have HB3 : Hid (Below w.heap.size w w3) := H3.be
  have HND : Hid ((b1 ++ (b2 ++ b3)).Nodup ∧ ∀ b ∈ b1 ++ (b2 ++ b3), w.heap.size + 3 ≤ b) := by
    have z1 := HO1.out.2
    have z2 := HO2.out.2.2
    have z3 := HR2.out.2.2.2.2.2.1
    have z4 := HZ2.out
    refine ⟨?_, fun b hb => ?_⟩
    · rw [List.nodup_append]
      refine ⟨HR1.out.2.1, ?_, fun x hx y hy q => ?_⟩
      · rw [List.nodup_append]
        refine ⟨HR2.out.2.2.1, hn3, fun x hx y hy q => ?_⟩
        have := HR2.out.2.2.2.2.1 x hx
        have := hg3 y hy
        omega
      · have h1 := HR1.out.2.2.2 x hx
        rcases List.mem_append.1 hy with hy | hy
        · have := HR2.out.2.2.2.1 y hy; omega
        · have := hg3 y hy
          have h6 := HR2.out.2.2.2.2.2.2
          omega
    · rcases List.mem_append.1 hb with hb | hb
      · exact HR1.out.2.2.1 b hb
      · rcases List.mem_append.1 hb with hb | hb
        · have := HR2.out.2.2.2.1 b hb; omega
        · have := hg3 b hb; omega
  have q2 := H3.q2
  have q3 := H3.q3
  have f2 := H3.f2
  have f3 := H3.f3
  clear hb3 hi3 hl3 H3 ho3 hn3 hg3
  generalize W2.heap.size = gl at *
  go_wp2_with fail
  have hk : ∀ x ∈ b1 ++ (b2 ++ b3), ((((((w3.setCell ⟨w.heap.size + 1 + 1, 4, none⟩ (Value.slice (some ⟨gl, 0, none⟩) N N)).setCell ⟨w.heap.size + 1, 0, none⟩ (.int .i64 pid)).setCell ⟨w.heap.size + 1, 1, none⟩ (.int .i64 pc)).setCell ⟨w.heap.size + 1, 2, none⟩ (.slice ra' regs.length regs.length)).setCell ⟨w.heap.size + 1, 3, none⟩ (.slice ba' box.length box.length)).setCell ⟨w.heap.size + 1, 4, none⟩ (.slice (some ⟨gl, 0, none⟩) N N)).heap[x]? = w3.heap[x]? := fun x hx => by
    have hx3 := HND.out.2 x hx
    rw [Below.heap_setCell _ ⟨w.heap.size + 1, 4, none⟩ _ x (by show x ≠ w.heap.size + 1; omega), Below.heap_setCell _ ⟨w.heap.size + 1, 3, none⟩ _ x (by show x ≠ w.heap.size + 1; omega), Below.heap_setCell _ ⟨w.heap.size + 1, 2, none⟩ _ x (by show x ≠ w.heap.size + 1; omega), Below.heap_setCell _ ⟨w.heap.size + 1, 1, none⟩ _ x (by show x ≠ w.heap.size + 1; omega), Below.heap_setCell _ ⟨w.heap.size + 1, 0, none⟩ _ x (by show x ≠ w.heap.size + 1; omega), Below.heap_setCell _ ⟨w.heap.size + 1 + 1, 4, none⟩ _ x (by show x ≠ w.heap.size + 1 + 1; omega)]
  refine bodyPost_ret (v := .agg #[.int .i64 pid, .int .i64 pc, .slice ra' regs.length regs.length, .slice ba' box.length box.length, .slice (some ⟨gl, 0, none⟩) N N]) (by simp [results, Tryz.results75, go_sem, q2]) rfl ⟨⟨ra', regs.length, ba', box.length, some ⟨gl, 0, none⟩, N⟩, b1 ++ (b2 ++ b3), rfl, ?_, HND.out.1, fun b hb => by have := HND.out.2 b hb; omega, ?_⟩
  · exact ⟨b1, b2, b3, rfl, OsL.keep _ _ _ (fun x hx _ => hk x (by simp [hx])) HR3.out.1, OsL.keep _ _ _ (fun x hx _ => hk x (by simp [hx])) HR3.out.2.1, HR3.out.2.2.1.keep (fun x hx _ => hk x (by simp [hx])), Nat.le_refl _, HBIG.out.1, Nat.le_refl _, HBIG.out.2.1, Nat.le_refl _, HBIG.out.2.2⟩
  · exact (((((HB3.out.setCell (by show w.heap.size ≤ w.heap.size + 1 + 1; omega) _).setCell (by show w.heap.size ≤ w.heap.size + 1; omega) _).setCell (by show w.heap.size ≤ w.heap.size + 1; omega) _).setCell (by show w.heap.size ≤ w.heap.size + 1; omega) _).setCell (by show w.heap.size ≤ w.heap.size + 1; omega) _).setCell (by show w.heap.size ≤ w.heap.size + 1; omega) _

theorem infoAct : (Tryz.prog.info? 64).map (fun i => (i.zero, i.size, i.bytes)) = some (some (.agg #[.int .i64 0, .int .i64 0, .slice none 0 0, .slice none 0 0, .slice none 0 0]), 5, 88) := by kernel_rfl
theorem undActS : Tryz.prog.underlying 30 = some (.slice 64) := by kernel_rfl
def zeros5 (n : Nat) : Array Value := madeCells #[.int .i64 0, .int .i64 0, .slice none 0 0, .slice none 0 0, .slice none 0 0] (n * 5)
theorem run_zeros5 (n : Nat) (hn : n ≤ 1048576) (w : World) :
    (Instr.makeSlice 30 (.int .i64 (n : Int)) (.int .i64 (n : Int))).run Tryz.prog w = .ok (.slice (some ⟨w.heap.size, 0, none⟩) n n) (w.alloc (.cells (zeros5 n) 64)) := by
  obtain ⟨i, hi, hzz⟩ := Option.map_eq_some_iff.1 infoAct
  simp only [Prod.mk.injEq] at hzz
  obtain ⟨hz, hs, hb⟩ := hzz
  have hr := run_make (P := Tryz.prog) w 30 64 i _ undActS hi hz .i64 .i64 n n (by omega) (Int.le_refl _) (by rw [hb]; omega) (by omega)
  rw [hs] at hr
  simp only [Int.toNat_natCast] at hr
  exact hr
theorem madeG_start {α : Type} {e : Elt α} (w : World) (l : List α) (z : Array Value) (hz : z.size = l.length * e.s) (t : TypeId) : MadeG e w (w.alloc (.cells z t)) w.heap.size l 0 [] where
  below := (Below.refl _ _).alloc (Nat.le_refl _) _
  lt := by show w.heap.size < (w.heap.push _).size; simp
  some := fun j hj => by
    rw [World.cell?_alloc_new]
    have : j < z.size := by rw [hz]; exact hj
    simp [this]
  free := fun o => by simp
  row := by simp [GR]
  nd := by simp
  lo := fun b hb => by cases hb

set_option maxHeartbeats 1000000 in
set_option maxRecDepth 100000 in
theorem toActorS_any (l : List Ac) (ao : Option Addr) (cap : Nat) (w : World) (hr : RowA w ao l) (hl : l.length ≤ 1048576) (hs : ∀ a ∈ l, AcT a) :
    Calls Tryz.prog 35 #[.slice ao l.length cap] w fun e w' => (∃ (g : Nat) (bs : List Nat), e = .returned (.slice (some ⟨g, 0, none⟩) l.length l.length) ∧ GL eltA w' l bs (some ⟨g, 0, none⟩) ∧ bs.Nodup ∧ ∀ b ∈ bs, w.heap.size ≤ b) ∧ Below w.heap.size w w' := by
  have HRW : Hid (RowA w ao l) := hr
  have HS : Hid (∀ a ∈ l, AcT a) := hs
  clear hr hs
  have hmk := run_zeros5 l.length hl
  go_enter Tryz.func35, Tryz.ntmps35
  go_wp2_with fail
  clear hmk
  go_loopw [4] (fun i w' => ∃ (k : Nat) (bs : List Nat), k ≤ l.length ∧ i = .int .i64 k ∧ MadeG eltA w w' w.heap.size l k bs) (fun i _ => l.length - (intOf i).toNat)
  case atStart => exact ⟨0, [], Nat.zero_le _, rfl, madeG_start w l _ (by unfold zeros5; rw [size_madeCells]; rfl) _⟩
  case round =>
    obtain ⟨k, bs, hk, rfl, hm⟩ := hrel
    have HM : Hid (MadeG eltA w wr w.heap.size l k bs) := hm
    clear hm
    by_cases hlt : k < l.length
    · rcases HRW.out with h | ⟨b, o, rfl, hrow⟩
      · rw [h] at hlt; simp at hlt
      obtain ⟨h, hbx0, hac0⟩ := hrow k hlt
      have hbx := hbx0.below HM.out.below
      have HAC : Hid (AcR wr l[k] h) := hac0.below HM.out.below
      have HT : Hid (AcT l[k]) := HS.out _ (List.getElem_mem hlt)
      have HST : Hid (∀ w1 g bt, MadeG eltA w w1 w.heap.size l k bs → AqO w1 l[k] g bt → bt.Nodup → (∀ x ∈ bt, wr.heap.size ≤ x) → (∀ x ∈ bs, x < wr.heap.size) → MadeG eltA w (w1.setCells w.heap.size (k * 5) [.int .i64 l[k].pid, .int .i64 l[k].pc, .slice g.ra l[k].regs.length g.rc, .slice g.ba l[k].box.length g.bc, .slice g.la l[k].N g.lc]) w.heap.size l (k + 1) (bs ++ (bt ++ []))) := fun w1 g bt h1 h2 h3 h4 h5 => by
        refine h1.store (e := eltA) (B := wr.heap.size) (Nat.le_refl _) hlt _ rfl (fun w' hc hb => ⟨g, ⟨hc 0 (by show 0 < 5; omega), hc 1 (by show 1 < 5; omega), hc 2 (by show 2 < 5; omega), hc 3 (by show 3 < 5; omega), hc 4 (by show 4 < 5; omega)⟩, h2.keep hb⟩) h3 h4 h5 HM.out.lt
      have HC : Hid (Calls Tryz.prog 75 #[acV l[k] h] wr fun e w' => ∃ (g : Wh) (bt : List Nat), e = .returned (acV l[k] g) ∧ AqO w' l[k] g bt ∧ bt.Nodup ∧ (∀ b ∈ bt, wr.heap.size ≤ b) ∧ Below wr.heap.size wr w') := toActorO_any l[k] h wr HAC.out HT.out
      generalize l[k] = x at hbx HST HC
      obtain ⟨pid, pc, regs, box, N, f⟩ := x
      have d0 := hbx.c0
      have d1 := hbx.c1
      have d2 := hbx.c2
      have d3 := hbx.c3
      have d4 := hbx.c4
      clear hbx hrow hbx0 hac0 HAC HT
      go_wp2_with fail
      refine HC.out.mono ?_
      rintro e w1 ⟨g, bt, rfl, hq, hnd, hlo, hb1⟩
      have HM1 : Hid (MadeG eltA w w1 w.heap.size l k bs) := HM.out.call hb1
      have HOLD : Hid (∀ x ∈ bs, x < wr.heap.size) := HM.out.row.lt
      have HQ : Hid (AqO w1 ⟨pid, pc, regs, box, N, f⟩ g bt ∧ bt.Nodup ∧ ∀ b ∈ bt, wr.heap.size ≤ b) := ⟨hq, hnd, hlo⟩
      have hf := HM1.out.free
      obtain ⟨x0, hs0⟩ := Option.isSome_iff_exists.1 (HM1.out.some (k * 5) (by show k * 5 < l.length * 5; omega))
      obtain ⟨x1, hs1⟩ := Option.isSome_iff_exists.1 (HM1.out.some (k * 5 + 1) (by show k * 5 + 1 < l.length * 5; omega))
      obtain ⟨x2, hs2⟩ := Option.isSome_iff_exists.1 (HM1.out.some (k * 5 + 2) (by show k * 5 + 2 < l.length * 5; omega))
      obtain ⟨x3, hs3⟩ := Option.isSome_iff_exists.1 (HM1.out.some (k * 5 + 3) (by show k * 5 + 3 < l.length * 5; omega))
      obtain ⟨x4, hs4⟩ := Option.isSome_iff_exists.1 (HM1.out.some (k * 5 + 4) (by show k * 5 + 4 < l.length * 5; omega))
      clear hb1 hq hnd hlo d0 d1 d2 d3 d4
      obtain ⟨ra', rc', ba', bc', la', lc'⟩ := g
      have HM2 := HST.out w1 _ _ HM1.out HQ.out.1 HQ.out.2.1 HQ.out.2.2 HOLD.out
      have HM2' : Hid (MadeG eltA w (w1.setCells w.heap.size (k * 5) [.int .i64 pid, .int .i64 pc, .slice ra' regs.length rc', .slice ba' box.length bc', .slice la' N lc']) w.heap.size l (k + 1) (bs ++ (bt ++ []))) := HM2
      clear HM2
      go_wp2_with fail
      go_roundw
      case rel => exact ⟨k + 1, _, by omega, by go_num, HM2'.out⟩
      case measure => simp [intOf]; omega
    · go_wp2_with fail
      go_ret
      have hkl : k = l.length := by omega
      subst hkl
      obtain ⟨bs', h1, h2, h3⟩ := HM.out.done (Nat.le_refl _)
      exact ⟨⟨w.heap.size, bs', rfl, h1, h2, h3⟩, HM.out.below⟩

/-! ### What was said -/
theorem infoSaid : (Tryz.prog.info? 106).map (fun i => (i.zero, i.size, i.bytes)) = some (some (.agg #[.int .i64 0, .int .i64 0, .int .i64 0, .int .i64 0, .string ⟨#[]⟩, .slice none 0 0]), 6, 72) := by kernel_rfl
theorem undSaidS : Tryz.prog.underlying 31 = some (.slice 106) := by kernel_rfl
def zerosS (n : Nat) : Array Value := madeCells #[.int .i64 0, .int .i64 0, .int .i64 0, .int .i64 0, .string ⟨#[]⟩, .slice none 0 0] (n * 6)
theorem run_zerosS (n : Nat) (hn : n ≤ 1048576) (w : World) :
    (Instr.makeSlice 31 (.int .i64 (n : Int)) (.int .i64 (n : Int))).run Tryz.prog w = .ok (.slice (some ⟨w.heap.size, 0, none⟩) n n) (w.alloc (.cells (zerosS n) 106)) := by
  obtain ⟨i, hi, hzz⟩ := Option.map_eq_some_iff.1 infoSaid
  simp only [Prod.mk.injEq] at hzz
  obtain ⟨hz, hs, hb⟩ := hzz
  have hr := run_make (P := Tryz.prog) w 31 106 i _ undSaidS hi hz .i64 .i64 n n (by omega) (Int.le_refl _) (by rw [hb]; omega) (by omega)
  rw [hs] at hr
  simp only [Int.toNat_natCast] at hr
  exact hr
end Go.Proofs.YtgbopbpiciopdaaGreatDoor
namespace Go.Proofs.YtgbopbpiciopdaaGreatDoor
open Go.RowKit Atom
open Go.Proofs.YtgbopbpiciopdaaGreatDoor.Code
set_option linter.unusedVariables false

abbrev sdV (kind pid k n : Int) (s : ByteArray) (ao : Option Addr) (len cap : Nat) : Value := .agg #[.int .i64 kind, .int .i64 pid, .int .i64 k, .int .i64 n, .string s, .slice ao len cap]
set_option maxHeartbeats 1000000 in
set_option maxRecDepth 100000 in
theorem toSaidO_any (kind pid k n : Int) (s : ByteArray) (l : List Tm) (ao : Option Addr) (cap : Nat) (w : World) (hv : RepV 0 w (.mk k n s l) (.agg #[.int .i64 k, .int .i64 n, .string s, .slice ao l.length cap])) (hst : StS (.mk k n s l)) :
    Calls Tryz.prog 76 #[sdV kind pid k n s ao l.length cap] w fun e w' => ∃ ao' cap' bs, e = .returned (sdV kind pid k n s ao' l.length cap') ∧ OsV w' bs (.mk k n s l) (.agg #[.int .i64 k, .int .i64 n, .string s, .slice ao' l.length cap']) ∧ bs.Nodup ∧ (∀ b ∈ bs, w.heap.size ≤ b) ∧ Below w.heap.size w w' := by
  have HV : Hid (RepV 0 w (.mk k n s l) (.agg #[.int .i64 k, .int .i64 n, .string s, .slice ao l.length cap])) := hv
  have HT : Hid (ToOT (.mk k n s l)) := toOT_all _ hst
  clear hv hst
  go_enter Tryz.func76, Tryz.ntmps76
  go_wp2_with fail
  refine (HT.out 0 _ _ ((Keeps.below ?_ 0).repV HV.out)).mono ?_
  · exact (((Below.refl _ _).alloc (Nat.le_refl _) _).alloc (by simp) _).alloc (by simp; omega) _
  rintro e w1 ⟨v', bs, rfl, hb1, hr1, hnd, hlo⟩
  obtain ⟨hz, q2, q3, f2, f3⟩ := three_new hb1
  have HB1 : Hid (Below w.heap.size w w1) := ((((Below.refl _ _).alloc (Nat.le_refl _) _).alloc (by simp) _).alloc (by simp; omega) _).trans (hb1.mono (by simp; omega))
  obtain ⟨ao', cap', rfl, hs1, hl1, hc1, ho1⟩ := hr1
  have HR1 : Hid (OsL w1 l bs ao' ∧ bs.Nodup ∧ (∀ b ∈ bs, w.heap.size + 3 ≤ b) ∧ s.size ≤ 1048576 ∧ l.length ≤ cap' ∧ cap' ≤ maxLen) := ⟨ho1, hnd, fun b hb => by have := hlo b hb; simp at this; omega, hs1, hl1, hc1⟩
  clear hb1 ho1 hnd hlo hs1 hl1 hc1
  go_wp2_with fail
  refine bodyPost_ret (v := sdV kind pid k n s ao' l.length cap') (by simp [results, Tryz.results76, go_sem, q2]) rfl ⟨ao', cap', bs, rfl, ⟨ao', cap', rfl, HR1.out.2.2.2.1, HR1.out.2.2.2.2.1, HR1.out.2.2.2.2.2, OsL.keep _ _ _ (fun x hx _ => ?_) HR1.out.1⟩, HR1.out.2.1, fun b hb => by have := HR1.out.2.2.1 b hb; omega, ?_⟩
  · have hx3 := HR1.out.2.2.1 x hx
    have n1 : x ≠ w.heap.size + 1 := by omega
    have n2 : x ≠ w.heap.size + 1 + 1 := by omega
    rw [Below.heap_setCell _ ⟨w.heap.size + 1, 5, none⟩ _ x n1, Below.heap_setCell _ ⟨w.heap.size + 1, 4, none⟩ _ x n1, Below.heap_setCell _ ⟨w.heap.size + 1, 3, none⟩ _ x n1, Below.heap_setCell _ ⟨w.heap.size + 1, 2, none⟩ _ x n1, Below.heap_setCell _ ⟨w.heap.size + 1, 1, none⟩ _ x n1, Below.heap_setCell _ ⟨w.heap.size + 1, 0, none⟩ _ x n1,
      Below.heap_setCell _ ⟨w.heap.size + 1 + 1, 5, none⟩ _ x n2, Below.heap_setCell _ ⟨w.heap.size + 1 + 1, 4, none⟩ _ x n2, Below.heap_setCell _ ⟨w.heap.size + 1 + 1, 3, none⟩ _ x n2, Below.heap_setCell _ ⟨w.heap.size + 1 + 1, 2, none⟩ _ x n2]
  · have n1 : w.heap.size ≤ w.heap.size + 1 := by omega
    have n2 : w.heap.size ≤ w.heap.size + 1 + 1 := by omega
    exact (((((((((HB1.out.setCell (p := ⟨w.heap.size + 1 + 1, 2, none⟩) n2 _).setCell (p := ⟨w.heap.size + 1 + 1, 3, none⟩) n2 _).setCell (p := ⟨w.heap.size + 1 + 1, 4, none⟩) n2 _).setCell (p := ⟨w.heap.size + 1 + 1, 5, none⟩) n2 _).setCell (p := ⟨w.heap.size + 1, 0, none⟩) n1 _).setCell (p := ⟨w.heap.size + 1, 1, none⟩) n1 _).setCell (p := ⟨w.heap.size + 1, 2, none⟩) n1 _).setCell (p := ⟨w.heap.size + 1, 3, none⟩) n1 _).setCell (p := ⟨w.heap.size + 1, 4, none⟩) n1 _).setCell (p := ⟨w.heap.size + 1, 5, none⟩) n1 _

set_option maxHeartbeats 1000000 in
set_option maxRecDepth 100000 in
theorem toSaidS_any (l : List Sd) (ao : Option Addr) (cap : Nat) (w : World) (hr : RowS w ao l) (hl : l.length ≤ 1048576) (hs : ∀ x ∈ l, StS x.t) :
    Calls Tryz.prog 36 #[.slice ao l.length cap] w fun e w' => (∃ (g : Nat) (bs : List Nat), e = .returned (.slice (some ⟨g, 0, none⟩) l.length l.length) ∧ GL eltS w' l bs (some ⟨g, 0, none⟩) ∧ bs.Nodup ∧ ∀ b ∈ bs, w.heap.size ≤ b) ∧ Below w.heap.size w w' := by
  have HRW : Hid (RowS w ao l) := hr
  have HS : Hid (∀ x ∈ l, StS x.t) := hs
  clear hr hs
  have hmk := run_zerosS l.length hl
  go_enter Tryz.func36, Tryz.ntmps36
  go_wp2_with fail
  clear hmk
  go_loopw [4] (fun i w' => ∃ (k : Nat) (bs : List Nat), k ≤ l.length ∧ i = .int .i64 k ∧ MadeG eltS w w' w.heap.size l k bs) (fun i _ => l.length - (intOf i).toNat)
  case atStart => exact ⟨0, [], Nat.zero_le _, rfl, madeG_start w l _ (by unfold zerosS; rw [size_madeCells]; rfl) _⟩
  case round =>
    obtain ⟨k, bs, hk, rfl, hm⟩ := hrel
    have HM : Hid (MadeG eltS w wr w.heap.size l k bs) := hm
    clear hm
    by_cases hlt : k < l.length
    · rcases HRW.out.below HM.out.below with h | ⟨b, o, rfl, hrow⟩
      · rw [h] at hlt; simp at hlt
      have hbx := hrow k hlt
      have hT := HS.out _ (List.getElem_mem hlt)
      have HST : Hid (∀ w1 bt tk tn ts tl tao tcap, l[k].t = .mk tk tn ts tl → MadeG eltS w w1 w.heap.size l k bs → OsV w1 bt (.mk tk tn ts tl) (.agg #[.int .i64 tk, .int .i64 tn, .string ts, .slice tao tl.length tcap]) → bt.Nodup → (∀ x ∈ bt, wr.heap.size ≤ x) → (∀ x ∈ bs, x < wr.heap.size) → MadeG eltS w (w1.setCells w.heap.size (k * 6) [.int .i64 l[k].kind, .int .i64 l[k].pid, .int .i64 tk, .int .i64 tn, .string ts, .slice tao tl.length tcap]) w.heap.size l (k + 1) (bs ++ (bt ++ []))) := fun w1 bt tk tn ts tl tao tcap et h1 h2 h3 h4 h5 => by
        refine h1.store (e := eltS) (B := wr.heap.size) (Nat.le_refl _) hlt _ rfl (fun w' hc hb => ⟨hc 0 (by show 0 < 6; omega), hc 1 (by show 1 < 6; omega), ?_⟩) h3 h4 h5 HM.out.lt
        obtain ⟨ao', cap', e, b1, b2, b3, b4⟩ := h2
        simp only [Value.agg.injEq, Array.mk.injEq, List.cons.injEq, and_true, Value.slice.injEq, true_and] at e
        obtain ⟨rfl, rfl⟩ := e
        rw [et, OsT]
        exact ⟨hc 2 (by show 2 < 6; omega), hc 3 (by show 3 < 6; omega), hc 4 (by show 4 < 6; omega), b1, tao, tcap, hc 5 (by show 5 < 6; omega), b2, b3, OsL.keep _ _ _ hb b4⟩
      generalize l[k] = x at hbx HST hT
      obtain ⟨kind, pid, t⟩ := x
      obtain ⟨tk, tn, ts, tl⟩ := t
      have d0 := hbx.c0
      have d1 := hbx.c1
      have hRT := hbx.t
      rw [RepT] at hRT
      obtain ⟨d2, d3, d4, hs4, tao, tcap, d5, hl5, hc5, hr5⟩ := hRT
      have HC : Hid (Calls Tryz.prog 76 #[sdV kind pid tk tn ts tao tl.length tcap] wr fun e w' => ∃ ao' cap' bt, e = .returned (sdV kind pid tk tn ts ao' tl.length cap') ∧ OsV w' bt (.mk tk tn ts tl) (.agg #[.int .i64 tk, .int .i64 tn, .string ts, .slice ao' tl.length cap']) ∧ bt.Nodup ∧ (∀ b ∈ bt, wr.heap.size ≤ b) ∧ Below wr.heap.size wr w') :=
        toSaidO_any kind pid tk tn ts tl tao tcap wr ⟨tao, tcap, rfl, hs4, hl5, hc5, hr5⟩ hT
      clear hbx hrow hT hr5 hs4 hl5 hc5
      go_wp2_with fail
      refine HC.out.mono ?_
      rintro e w1 ⟨ao', cap', bt, rfl, hq, hnd, hlo, hb1⟩
      have HM1 : Hid (MadeG eltS w w1 w.heap.size l k bs) := HM.out.call hb1
      have HOLD : Hid (∀ x ∈ bs, x < wr.heap.size) := HM.out.row.lt
      have HQ : Hid (OsV w1 bt (.mk tk tn ts tl) (.agg #[.int .i64 tk, .int .i64 tn, .string ts, .slice ao' tl.length cap']) ∧ bt.Nodup ∧ ∀ b ∈ bt, wr.heap.size ≤ b) := ⟨hq, hnd, hlo⟩
      have hf := HM1.out.free
      obtain ⟨x0, hs0⟩ := Option.isSome_iff_exists.1 (HM1.out.some (k * 6) (by show k * 6 < l.length * 6; omega))
      obtain ⟨x1, hs1⟩ := Option.isSome_iff_exists.1 (HM1.out.some (k * 6 + 1) (by show k * 6 + 1 < l.length * 6; omega))
      obtain ⟨x2, hs2⟩ := Option.isSome_iff_exists.1 (HM1.out.some (k * 6 + 2) (by show k * 6 + 2 < l.length * 6; omega))
      obtain ⟨x3, hs3⟩ := Option.isSome_iff_exists.1 (HM1.out.some (k * 6 + 3) (by show k * 6 + 3 < l.length * 6; omega))
      obtain ⟨x4, hs4⟩ := Option.isSome_iff_exists.1 (HM1.out.some (k * 6 + 4) (by show k * 6 + 4 < l.length * 6; omega))
      obtain ⟨x5, hs5⟩ := Option.isSome_iff_exists.1 (HM1.out.some (k * 6 + 5) (by show k * 6 + 5 < l.length * 6; omega))
      clear hb1 hq hnd hlo d0 d1 d2 d3 d4 d5
      have HM2 : Hid (MadeG eltS w (w1.setCells w.heap.size (k * 6) [.int .i64 kind, .int .i64 pid, .int .i64 tk, .int .i64 tn, .string ts, .slice ao' tl.length cap']) w.heap.size l (k + 1) (bs ++ (bt ++ []))) := HST.out w1 bt tk tn ts tl ao' cap' rfl HM1.out HQ.out.1 HQ.out.2.1 HQ.out.2.2 HOLD.out
      go_wp2_with fail
      go_roundw
      case rel => exact ⟨k + 1, _, by omega, by go_num, HM2.out⟩
      case measure => simp [intOf]; omega
    · go_wp2_with fail
      go_ret
      have hkl : k = l.length := by omega
      subst hkl
      obtain ⟨bs', h1, h2, h3⟩ := HM.out.done (Nat.le_refl _)
      exact ⟨⟨w.heap.size, bs', rfl, h1, h2, h3⟩, HM.out.below⟩

set_option maxHeartbeats 1000000 in
theorem toInsSO_any (l : List I) (ao : Option Addr) (cap : Nat) (w : World) (hr : RowI w ao l) (hl : l.length ≤ 1048576) :
    Calls Tryz.prog 15 #[.slice ao l.length cap] w fun e w' => (∃ (g : Nat) (bs : List Nat), e = .returned (.slice (some ⟨g, 0, none⟩) l.length l.length) ∧ GL eltI w' l bs (some ⟨g, 0, none⟩) ∧ bs.Nodup ∧ ∀ b ∈ bs, w.heap.size ≤ b) ∧ Below w.heap.size w w' := by
  have HRW : Hid (RowI w ao l) := hr
  clear hr
  have hmk := run_zeros6 l.length hl
  go_enter Tryz.func15, Tryz.ntmps15
  go_wp2_with fail
  clear hmk
  go_loopw [4] (fun i w' => ∃ (k : Nat) (bs : List Nat), k ≤ l.length ∧ i = .int .i64 k ∧ MadeG eltI w w' w.heap.size l k bs) (fun i _ => l.length - (intOf i).toNat)
  case atStart => exact ⟨0, [], Nat.zero_le _, rfl, madeG_start w l _ (by unfold zeros6; rw [size_madeCells]; rfl) _⟩
  case round =>
    obtain ⟨k, bs, hk, rfl, hm⟩ := hrel
    have HM : Hid (MadeG eltI w wr w.heap.size l k bs) := hm
    clear hm
    by_cases hlt : k < l.length
    · rcases HRW.out with h | ⟨b, o, rfl, hrow⟩
      · rw [h] at hlt; simp at hlt
      have hbx := (hrow k hlt).below HM.out.below
      have HST : Hid (∀ w1, MadeG eltI w w1 w.heap.size l k bs → MadeG eltI w (w1.setCells w.heap.size (k * 6) (insL l[k])) w.heap.size l (k + 1) (bs ++ ([] ++ []))) := fun w1 h1 =>
        h1.store (e := eltI) (B := wr.heap.size) (bt := []) (Nat.le_refl _) hlt _ rfl (fun w' hc hb => ⟨rfl, hc 0 (by show 0 < 6; omega), hc 1 (by show 1 < 6; omega), hc 2 (by show 2 < 6; omega), hc 3 (by show 3 < 6; omega), hc 4 (by show 4 < 6; omega), hc 5 (by show 5 < 6; omega)⟩) (by simp) (fun x hx => by cases hx) HM.out.row.lt HM.out.lt
      generalize l[k] = x at hbx HST
      obtain ⟨op, xa, xb, xc, xn, xs⟩ := x
      have d0 := hbx.c0
      have d1 := hbx.c1
      have d2 := hbx.c2
      have d3 := hbx.c3
      have d4 := hbx.c4
      have d5 := hbx.c5
      clear hbx hrow
      go_wp2_with fail
      refine (toIns_any op xa xb xc xn xs _).mono ?_
      rintro e w1 ⟨rfl, hb1⟩
      have HM1 : Hid (MadeG eltI w w1 w.heap.size l k bs) := HM.out.call hb1
      have hf := HM1.out.free
      obtain ⟨x0, hs0⟩ := Option.isSome_iff_exists.1 (HM1.out.some (k * 6) (by show k * 6 < l.length * 6; omega))
      obtain ⟨x1, hs1⟩ := Option.isSome_iff_exists.1 (HM1.out.some (k * 6 + 1) (by show k * 6 + 1 < l.length * 6; omega))
      obtain ⟨x2, hs2⟩ := Option.isSome_iff_exists.1 (HM1.out.some (k * 6 + 2) (by show k * 6 + 2 < l.length * 6; omega))
      obtain ⟨x3, hs3⟩ := Option.isSome_iff_exists.1 (HM1.out.some (k * 6 + 3) (by show k * 6 + 3 < l.length * 6; omega))
      obtain ⟨x4, hs4⟩ := Option.isSome_iff_exists.1 (HM1.out.some (k * 6 + 4) (by show k * 6 + 4 < l.length * 6; omega))
      obtain ⟨x5, hs5⟩ := Option.isSome_iff_exists.1 (HM1.out.some (k * 6 + 5) (by show k * 6 + 5 < l.length * 6; omega))
      clear hb1 d0 d1 d2 d3 d4 d5
      go_wp2_with fail
      have HM2 := HST.out w1 HM1.out
      go_roundw
      case rel => exact ⟨k + 1, _, by omega, by go_num, HM2⟩
      case measure => simp [intOf]; omega
    · go_wp2_with fail
      go_ret
      have hkl : k = l.length := by omega
      subst hkl
      obtain ⟨bs', h1, h2, h3⟩ := HM.out.done (Nat.le_refl _)
      exact ⟨⟨w.heap.size, bs', rfl, h1, h2, h3⟩, HM.out.below⟩

/-! ### A system -/
/-- All in it is within limits. -/
structure PlS (p : Pl) : Prop where
  c : p.code.length ≤ 1048576
  cs : SmI 1048576 p.code
  a : p.acts.length ≤ 1048576
  ax : ∀ x ∈ p.acts, AcT x
  o : p.out.length ≤ 1048576
  ox : ∀ x ∈ p.out, StS x.t
theorem four {a b c d a' b' c' d' : Value} (j : Nat) (h : ∀ o, o < 4 → o ≠ j → (#[a', b', c', d'] : Array Value)[o]? = (#[a, b, c, d] : Array Value)[o]?) : ∀ o, o ≠ j → (#[a', b', c', d'] : Array Value)[o]? = (#[a, b, c, d] : Array Value)[o]? := fun o ho => by
  by_cases h5 : o < 4
  · exact h o h5 ho
  · rw [Array.getElem?_eq_none (by simp; omega), Array.getElem?_eq_none (by simp; omega)]
theorem four0 {a b c d v : Value} : ∀ o, o ≠ 0 → (#[v, b, c, d] : Array Value)[o]? = (#[a, b, c, d] : Array Value)[o]? := four 0 fun o h5 ho => by
  match o, ho, h5 with
  | 0, h, _ => exact absurd rfl h
  | 1, _, _ => rfl
  | 2, _, _ => rfl
  | 3, _, _ => rfl
  | n + 4, _, h => omega
theorem four1 {a b c d v : Value} : ∀ o, o ≠ 1 → (#[a, v, c, d] : Array Value)[o]? = (#[a, b, c, d] : Array Value)[o]? := four 1 fun o h5 ho => by
  match o, ho, h5 with
  | 0, _, _ => rfl
  | 1, h, _ => exact absurd rfl h
  | 2, _, _ => rfl
  | 3, _, _ => rfl
  | n + 4, _, h => omega
theorem four2 {a b c d v : Value} : ∀ o, o ≠ 2 → (#[a, b, v, d] : Array Value)[o]? = (#[a, b, c, d] : Array Value)[o]? := four 2 fun o h5 ho => by
  match o, ho, h5 with
  | 0, _, _ => rfl
  | 1, _, _ => rfl
  | 2, h, _ => exact absurd rfl h
  | 3, _, _ => rfl
  | n + 4, _, h => omega
theorem nodup3 {b1 b2 b3 : List Nat} {x y z : Nat} (h1 : b1.Nodup) (h2 : b2.Nodup) (h3 : b3.Nodup) (k1 : ∀ b ∈ b1, b < x) (k2 : ∀ b ∈ b2, x ≤ b ∧ b < y) (k3 : ∀ b ∈ b3, y ≤ b) (hxy : x ≤ y) : (b1 ++ (b2 ++ b3)).Nodup := by
  rw [List.nodup_append]
  refine ⟨h1, List.nodup_append.2 ⟨h2, h3, fun p hp q hq e => ?_⟩, fun p hp q hq e => ?_⟩
  · have := k2 p hp; have := k3 q hq; omega
  · have := k1 p hp
    rcases List.mem_append.1 hq with hq | hq
    · have := k2 q hq; omega
    · have := k3 q hq; omega

set_option maxHeartbeats 2000000 in
set_option maxRecDepth 100000 in
theorem toPlain_any (p : Pl) (h : Pw) (w : World) (hr : PlR w p h) (hs : PlS p) :
    Calls Tryz.prog 9 #[plV p h] w fun e w' => ∃ (g : Pw) (bs : List Nat), e = .returned (plV p g) ∧ PlO w' p g bs ∧ bs.Nodup ∧ (∀ b ∈ bs, w.heap.size ≤ b) ∧ Below w.heap.size w w' := by
  obtain ⟨code, acts, next, out⟩ := p
  obtain ⟨ca, cc, aa, ac, oa, oc⟩ := h
  have HR : Hid (PlR w ⟨code, acts, next, out⟩ ⟨ca, cc, aa, ac, oa, oc⟩) := hr
  have HS : Hid (PlS ⟨code, acts, next, out⟩) := hs
  clear hr hs
  go_enter Tryz.func9, Tryz.ntmps9
  go_wp2_with fail
  refine (toInsSO_any code ca cc _ ((HR.out.below ?_).code) HS.out.c).mono ?_
  · exact (((Below.refl _ _).alloc (Nat.le_refl _) _).alloc (by simp) _).alloc (by simp; omega) _
  rintro e w1 ⟨⟨g1, b1, rfl, hr1, hn1, hl1⟩, hb1⟩
  obtain ⟨hz, q2, q3, f2, f3⟩ := three_new hb1
  have q1 := three_first9 hb1
  have H1 : To3 w w1 #[.slice ca code.length cc, .slice aa acts.length ac, .int .i64 next, .slice oa out.length oc] #[.slice none 0 0, .slice none 0 0, .int .i64 0, .slice none 0 0] #[.slice none 0 0, .slice none 0 0, .int .i64 0, .slice none 0 0] :=
    ⟨((((Below.refl _ _).alloc (Nat.le_refl _) _).alloc (by simp) _).alloc (by simp; omega) _).trans (hb1.mono (by simp; omega)), hz, q1, q2, q3, f2, f3⟩
  have HR1 : Hid (GL eltI w1 code b1 (some ⟨g1, 0, none⟩) ∧ b1.Nodup ∧ (∀ b ∈ b1, w.heap.size + 3 ≤ b)) := ⟨hr1, hn1, fun b hb => by have := hl1 b hb; simp at this; omega⟩
  have H1s : Hid (To3 w (w1.setCell ⟨w.heap.size + 1 + 1, 0, none⟩ (.slice (some ⟨g1, 0, none⟩) code.length code.length)) #[.slice ca code.length cc, .slice aa acts.length ac, .int .i64 next, .slice oa out.length oc] #[.slice none 0 0, .slice none 0 0, .int .i64 0, .slice none 0 0] #[.slice (some ⟨g1, 0, none⟩) code.length code.length, .slice none 0 0, .int .i64 0, .slice none 0 0]) :=
    H1.set 0 rfl rfl four0
  clear hb1 hr1 H1 hn1 hl1
  go_wp2_with fail
  obtain ⟨W1, hW1⟩ : ∃ W1, W1 = w1.setCell ⟨w.heap.size + 1 + 1, 0, none⟩ (.slice (some ⟨g1, 0, none⟩) code.length code.length) := ⟨_, rfl⟩
  rw [← hW1] at H1s ⊢
  have HO1 : Hid (GL eltI W1 code b1 (some ⟨g1, 0, none⟩)) := by
    rw [hW1]
    exact HR1.out.1.keep (fun x hx _ => Below.heap_setCell _ ⟨w.heap.size + 1 + 1, 0, none⟩ _ x (by show x ≠ w.heap.size + 1 + 1; have := HR1.out.2.2 x hx; omega))
  clear hW1 q1 q2 q3 f2 f3 hz
  refine (toActorS_any acts aa ac W1 ((HR.out.below H1s.out.be).acts) HS.out.a HS.out.ax).mono ?_
  rintro e w2 ⟨⟨g2, b2, rfl, hr2, hn2, hl2⟩, hb2⟩
  have H2 := H1s.out.call hb2
  have HZ1 := H1s.out.sz
  have HR2 : Hid (GL eltI w2 code b1 (some ⟨g1, 0, none⟩) ∧ GL eltA w2 acts b2 (some ⟨g2, 0, none⟩) ∧ b2.Nodup ∧ (∀ b ∈ b2, W1.heap.size ≤ b) ∧ (∀ b ∈ b1, b < W1.heap.size) ∧ w.heap.size + 3 ≤ W1.heap.size ∧ W1.heap.size ≤ w2.heap.size) := ⟨HO1.out.below hb2, hr2, hn2, hl2, HO1.out.lt, HZ1, hb2.size⟩
  have H2s : Hid (To3 w ((w2.setCell ⟨w.heap.size + 1 + 1, 1, none⟩ (.slice (some ⟨g2, 0, none⟩) acts.length acts.length)).setCell ⟨w.heap.size + 1 + 1, 2, none⟩ (.int .i64 next)) #[.slice ca code.length cc, .slice aa acts.length ac, .int .i64 next, .slice oa out.length oc] #[.slice none 0 0, .slice none 0 0, .int .i64 0, .slice none 0 0] #[.slice (some ⟨g1, 0, none⟩) code.length code.length, .slice (some ⟨g2, 0, none⟩) acts.length acts.length, .int .i64 next, .slice none 0 0]) :=
    To3.set (H2.set (c3' := #[.slice (some ⟨g1, 0, none⟩) code.length code.length, .slice (some ⟨g2, 0, none⟩) acts.length acts.length, .int .i64 0, .slice none 0 0]) 1 rfl rfl four1) 2 rfl rfl four2
  have q1 := H2.q1
  have q3 := H2.q3
  have f3 := H2.f3
  clear hb2 hr2 H2 HZ1 hn2 hl2
  go_wp2_with fail
  obtain ⟨W2, hW2⟩ : ∃ W2, W2 = (w2.setCell ⟨w.heap.size + 1 + 1, 1, none⟩ (.slice (some ⟨g2, 0, none⟩) acts.length acts.length)).setCell ⟨w.heap.size + 1 + 1, 2, none⟩ (.int .i64 next) := ⟨_, rfl⟩
  rw [← hW2] at H2s ⊢
  have HO2 : Hid (GL eltI W2 code b1 (some ⟨g1, 0, none⟩) ∧ GL eltA W2 acts b2 (some ⟨g2, 0, none⟩) ∧ w2.heap.size = W2.heap.size) := by
    rw [hW2]
    have hk : ∀ x, w.heap.size + 3 ≤ x → ((w2.setCell ⟨w.heap.size + 1 + 1, 1, none⟩ (.slice (some ⟨g2, 0, none⟩) acts.length acts.length)).setCell ⟨w.heap.size + 1 + 1, 2, none⟩ (.int .i64 next)).heap[x]? = w2.heap[x]? := fun x hx => by
      rw [Below.heap_setCell _ ⟨w.heap.size + 1 + 1, 2, none⟩ _ x (by show x ≠ w.heap.size + 1 + 1; omega), Below.heap_setCell _ ⟨w.heap.size + 1 + 1, 1, none⟩ _ x (by show x ≠ w.heap.size + 1 + 1; omega)]
    exact ⟨HR2.out.1.keep (fun x hx _ => hk x (HR1.out.2.2 x hx)), HR2.out.2.1.keep (fun x hx _ => hk x (by have := HR2.out.2.2.2.1 x hx; have := HR2.out.2.2.2.2.2.1; omega)), by rw [World.size_setCell, World.size_setCell]⟩
  clear hW2 q1 q3 f3
  refine (toSaidS_any out oa oc W2 ((HR.out.below H2s.out.be).out) HS.out.o HS.out.ox).mono ?_
  rintro e w3 ⟨⟨g3, b3, rfl, hr3, hn3, hl3⟩, hb3⟩
  have H3 := H2s.out.call hb3
  have HR3 : Hid (GL eltI w3 code b1 (some ⟨g1, 0, none⟩) ∧ GL eltA w3 acts b2 (some ⟨g2, 0, none⟩) ∧ GL eltS w3 out b3 (some ⟨g3, 0, none⟩)) := ⟨HO2.out.1.below hb3, HO2.out.2.1.below hb3, hr3⟩
  have HB3 : Hid (Below w.heap.size w w3) := H3.be
  have HND : Hid ((b1 ++ (b2 ++ b3)).Nodup ∧ ∀ b ∈ b1 ++ (b2 ++ b3), w.heap.size + 3 ≤ b) := by
    have z2 := HO2.out.2.2
    have z3 := HR2.out.2.2.2.2.2.1
    have z4 := HR2.out.2.2.2.2.2.2
    refine ⟨nodup3 (x := W1.heap.size) (y := W2.heap.size) (z := 0) HR1.out.2.1 HR2.out.2.2.1 hn3 HR2.out.2.2.2.2.1 (fun b hb => ⟨HR2.out.2.2.2.1 b hb, HO2.out.2.1.lt b hb⟩) hl3 (by omega), fun b hb => ?_⟩
    rcases List.mem_append.1 hb with hb | hb
    · exact HR1.out.2.2 b hb
    · rcases List.mem_append.1 hb with hb | hb
      · have := HR2.out.2.2.2.1 b hb; omega
      · have := hl3 b hb; omega
  have q2 := H3.q2
  have q3 := H3.q3
  have f2 := H3.f2
  have f3 := H3.f3
  clear hb3 H3 hr3 hn3 hl3
  go_wp2_with fail
  have hk : ∀ x ∈ b1 ++ (b2 ++ b3), (((((w3.setCell ⟨w.heap.size + 1 + 1, 3, none⟩ (Value.slice (some ⟨g3, 0, none⟩) out.length out.length)).setCell ⟨w.heap.size + 1, 0, none⟩ (.slice (some ⟨g1, 0, none⟩) code.length code.length)).setCell ⟨w.heap.size + 1, 1, none⟩ (.slice (some ⟨g2, 0, none⟩) acts.length acts.length)).setCell ⟨w.heap.size + 1, 2, none⟩ (.int .i64 next)).setCell ⟨w.heap.size + 1, 3, none⟩ (Value.slice (some ⟨g3, 0, none⟩) out.length out.length)).heap[x]? = w3.heap[x]? := fun x hx => by
    have hx3 := HND.out.2 x hx
    have n1 : x ≠ w.heap.size + 1 := by omega
    rw [Below.heap_setCell _ ⟨w.heap.size + 1, 3, none⟩ _ x n1, Below.heap_setCell _ ⟨w.heap.size + 1, 2, none⟩ _ x n1, Below.heap_setCell _ ⟨w.heap.size + 1, 1, none⟩ _ x n1, Below.heap_setCell _ ⟨w.heap.size + 1, 0, none⟩ _ x n1, Below.heap_setCell _ ⟨w.heap.size + 1 + 1, 3, none⟩ _ x (by show x ≠ w.heap.size + 1 + 1; omega)]
  have HMX : Hid (SmI maxLen code ∧ code.length ≤ maxLen ∧ acts.length ≤ maxLen ∧ out.length ≤ maxLen) := ⟨HR.out.sm, HR.out.c1, HR.out.a1, HR.out.o1⟩
  refine bodyPost_ret (v := .agg #[.slice (some ⟨g1, 0, none⟩) code.length code.length, .slice (some ⟨g2, 0, none⟩) acts.length acts.length, .int .i64 next, .slice (some ⟨g3, 0, none⟩) out.length out.length]) (by simp [results, Tryz.results9, go_sem, q2]) rfl ⟨⟨some ⟨g1, 0, none⟩, code.length, some ⟨g2, 0, none⟩, acts.length, some ⟨g3, 0, none⟩, out.length⟩, b1 ++ (b2 ++ b3), rfl, ?_, HND.out.1, fun b hb => by have := HND.out.2 b hb; omega, ?_⟩
  · exact ⟨b1, b2, b3, rfl, HR3.out.1.keep (fun x hx _ => hk x (by simp [hx])), HR3.out.2.1.keep (fun x hx _ => hk x (by simp [hx])), HR3.out.2.2.keep (fun x hx _ => hk x (by simp [hx])), HMX.out.1, HMX.out.2.1, HMX.out.2.2.1, HMX.out.2.2.2⟩
  · have n1 : w.heap.size ≤ w.heap.size + 1 := by omega
    exact ((((HB3.out.setCell (p := ⟨w.heap.size + 1 + 1, 3, none⟩) (by show w.heap.size ≤ w.heap.size + 1 + 1; omega) _).setCell (p := ⟨w.heap.size + 1, 0, none⟩) n1 _).setCell (p := ⟨w.heap.size + 1, 1, none⟩) n1 _).setCell (p := ⟨w.heap.size + 1, 2, none⟩) n1 _).setCell (p := ⟨w.heap.size + 1, 3, none⟩) n1 _
end Go.Proofs.YtgbopbpiciopdaaGreatDoor
namespace Go.Proofs.YtgbopbpiciopdaaGreatDoor
open Go.RowKit Atom
open Go.Proofs.YtgbopbpiciopdaaGreatDoor.Code
set_option linter.unusedVariables false

theorem keepP {w w' : World} (h : Below w.heap.size w w') {b : Nat} {c : Array Value} (hl : b < w.heap.size) (hc : ∀ x, w.cell? ⟨b, x, none⟩ = c[x]?) : ∀ x, w'.cell? ⟨b, x, none⟩ = c[x]? := fun x => by
  rw [h.cell (p := ⟨b, x, none⟩) hl]; exact hc x
/-- All that the loop asks of the k-th. -/
def AtP (p : Pl) (k : Nat) (hk : k < p.acts.length) : Prop := ActP p k hk ∧ bothB p.acts p.acts[k] = true
theorem plB_loop {p : Pl} (h1 : codeB p.code = true) (h2 : 1 ≤ p.next ∧ p.next ≤ 90000) (h3 : p.acts.length ≤ 20) (h4 : saidB p.out = true) (h : ∀ k (hk : k < p.acts.length), AtP p k hk) : plB p = true :=
  plB_yes ⟨h1, h2, ⟨h3, fun i hi => (h i hi).1, fun i hi => (h i hi).2⟩, h4⟩
theorem plB_stop {p : Pl} {k : Nat} (hk : k < p.acts.length) (h : ¬ AtP p k hk) : plB p = false :=
  plB_no fun q => h ⟨q.2.2.1.2.1 k hk, q.2.2.1.2.2 k hk⟩

set_option maxHeartbeats 4000000 in
set_option maxRecDepth 100000 in
theorem specPlainOk_any (p : Pl) (h : Pw) (w : World) (hr : PlR w p h) (hs : PlS p) :
    Calls Tryz.prog 8 #[plV p h] w fun e w' => e = .returned (.bool (plB p)) ∧ Below w.heap.size w w' := by
  have KBO : Hid (∀ (wc : World), Below w.heap.size w wc → ∀ k (hk : k < p.acts.length), Calls Tryz.prog 34 #[plV p h, .int .i64 k] wc fun e w' => e = .returned (.bool (bothB p.acts p.acts[k])) ∧ Below wc.heap.size wc w') := fun wc hb k hk => l11Both_any p h k hk wc (hr.acts.below hb) hr.a1
  have KAC : Hid (∀ (wc : World), Below w.heap.size w wc → ∀ k (hk : k < p.acts.length) (hh : Wh), AcR wc p.acts[k] hh → Calls Tryz.prog 33 #[.slice h.ca p.code.length h.cc, acV p.acts[k] hh] wc fun e w' => e = .returned (.bool (acB p.code p.acts[k])) ∧ Below wc.heap.size wc w') := fun wc hb k hk hh hac => specActorOk_any p.code h.ca h.cc p.acts[k] hh wc (hr.code.below hb) hr.sm hs.c hac (hs.ax _ (List.getElem_mem hk)).2.2
  have KCO : Hid (∀ (wc : World), Below w.heap.size w wc → Calls Tryz.prog 30 #[.slice h.ca p.code.length h.cc] wc fun e w' => e = .returned (.bool (codeB p.code)) ∧ Below wc.heap.size wc w') := fun wc hb => specCode_any p.code h.ca h.cc wc (hr.code.below hb) hr.sm hr.c1
  have KSA : Hid (∀ (wc : World), Below w.heap.size w wc → Calls Tryz.prog 32 #[.slice h.oa p.out.length h.oc] wc fun e w' => e = .returned (.bool (saidB p.out)) ∧ Below wc.heap.size wc w') := fun wc hb => l11Said_any p.out h.oa h.oc wc (hr.out.below hb) hr.o1
  have HSTOP : Hid (∀ k (hk : k < p.acts.length), ¬ AtP p k hk → plB p = false) := fun k hk hn => plB_stop hk hn
  have HLOOP : Hid (codeB p.code = true → (1 ≤ p.next ∧ p.next ≤ 90000) → p.acts.length ≤ 20 → saidB p.out = true → (∀ k (hk : k < p.acts.length), AtP p k hk) → plB p = true) := plB_loop
  have HNO : Hid (¬ PlP p → plB p = false) := plB_no
  have HROW : Hid (∀ wc, Below w.heap.size w wc → RowA wc h.aa p.acts) := fun wc hb => hr.acts.below hb
  have HAT : Hid (∀ k (hk : k < p.acts.length), AtP p k hk ↔ (acB p.code p.acts[k] = true ∧ p.acts[k].pid < p.next ∧ (∀ j (hj : j + 1 = k), (p.acts[j]'(by omega)).pid < p.acts[k].pid) ∧ bothB p.acts p.acts[k] = true)) := fun k hk => ⟨fun ⟨⟨a, b, c⟩, d⟩ => ⟨a, b, c, d⟩, fun ⟨a, b, c, d⟩ => ⟨⟨a, b, c⟩, d⟩⟩
  have hl := hr.a1
  unfold maxLen at hl
  obtain ⟨p0, hp0⟩ : ∃ p0, p0 = p := ⟨_, rfl⟩
  obtain ⟨h0, hh0⟩ : ∃ h0, h0 = h := ⟨_, rfl⟩
  have HP0 : Hid (p0 = p) := hp0
  obtain ⟨code, acts, next, out⟩ := p
  obtain ⟨ca, cc, aa, ac, oa, oc⟩ := h
  dsimp only at hl KBO KAC KCO KSA HLOOP HROW HAT HSTOP
  obtain ⟨w0, hw0⟩ : ∃ w0, w0 = w.alloc (.cells #[.slice ca code.length cc, .slice aa acts.length ac, .int .i64 next, .slice oa out.length oc] 33) := ⟨_, rfl⟩
  have hb0 : Below w.heap.size w w0 := by rw [hw0]; exact (Below.refl _ _).alloc (Nat.le_refl _) _
  have HB0 : Hid (Below w.heap.size w w0) := hb0
  have q0 : ∀ x, w0.cell? ⟨w.heap.size, x, none⟩ = (#[.slice ca code.length cc, .slice aa acts.length ac, .int .i64 next, .slice oa out.length oc] : Array Value)[x]? := fun x => by rw [hw0, World.cell?_alloc_new]
  have hz0 : w.heap.size < w0.heap.size := by rw [hw0, World.size_alloc]; omega
  have HQ : Hid (∀ wc, Below w0.heap.size w0 wc → ∀ x, wc.cell? ⟨w.heap.size, x, none⟩ = (#[.slice ca code.length cc, .slice aa acts.length ac, .int .i64 next, .slice oa out.length oc] : Array Value)[x]?) := fun wc hb => keepP hb hz0 q0
  have HW : Hid (∀ wc, Below w0.heap.size w0 wc → Below w.heap.size w wc) := fun wc hb => HB0.out.trans (hb.mono HB0.out.size)
  clear hr hs hb0 q0 hz0 hp0 hh0
  go_enter Tryz.func8, Tryz.ntmps8
  go_wp2_with fail
  rw [← hw0]
  clear hw0
  refine (KCO.out w0 HB0.out).mono ?_
  rintro e w1 ⟨he, hb1⟩
  have HB1 : Hid (Below w0.heap.size w0 w1) := hb1
  have q1 := HQ.out w1 hb1
  clear hb1
  cases hc : codeB code
  · rw [hc] at he; subst he
    have HF : Hid (plB ⟨code, acts, next, out⟩ = false) := HNO.out fun q => by have := q.1; dsimp only at this; rw [hc] at this; cases this
    clear hc
    go_wp2_with fail
    go_ret
    exact ⟨ret_bool HF.out.symm, HW.out _ HB1.out⟩
  rw [hc] at he; subst he
  have HC1 : Hid (codeB code = true) := hc
  clear hc
  by_cases h2 : 1 ≤ next ∧ next ≤ 90000
  rotate_left
  · have i2 : Atom.inB next 1 90000 = false := decide_eq_false h2
    have HF : Hid (plB ⟨code, acts, next, out⟩ = false) := HNO.out fun q => h2 q.2.1
    clear h2
    go_wp2_with (first | (go_at_call 31; refine (Atom.in_any _ _ _ _).mono ?_; rintro e w' ⟨rfl, hw'⟩; obtain rfl := hw'.symm))
    go_ret
    exact ⟨ret_bool HF.out.symm, HW.out _ HB1.out⟩
  have i2 : Atom.inB next 1 90000 = true := decide_eq_true h2
  have H2 : Hid (1 ≤ next ∧ next ≤ 90000) := h2
  clear h2
  by_cases h3 : acts.length ≤ 20
  rotate_left
  · have i3 : (20 : Int) < acts.length := by omega
    have HF : Hid (plB ⟨code, acts, next, out⟩ = false) := HNO.out fun q => h3 q.2.2.1.1
    clear h3
    go_wp2_with (first | (go_at_call 31; refine (Atom.in_any _ _ _ _).mono ?_; rintro e w' ⟨rfl, hw'⟩; obtain rfl := hw'.symm))
    go_ret
    exact ⟨ret_bool HF.out.symm, HW.out _ HB1.out⟩
  have i3 : ¬ (20 : Int) < acts.length := by omega
  have H3 : Hid (acts.length ≤ 20) := h3
  go_wp2_with (first | (go_at_call 31; refine (Atom.in_any _ _ _ _).mono ?_; rintro e w' ⟨rfl, hw'⟩; obtain rfl := hw'.symm) | (go_at_call 32; fail))
  refine (KSA.out w1 (HW.out _ HB1.out)).mono ?_
  rintro e w2 ⟨he, hb2⟩
  have HB2 : Hid (Below w0.heap.size w0 w2) := HB1.out.trans (hb2.mono HB1.out.size)
  clear hb2 q1
  cases h4 : saidB out
  · rw [h4] at he; subst he
    have HF : Hid (plB ⟨code, acts, next, out⟩ = false) := HNO.out fun q => by have := q.2.2.2; dsimp only at this; rw [h4] at this; cases this
    clear h4
    go_wp2_with fail
    go_ret
    exact ⟨ret_bool HF.out.symm, HW.out _ HB2.out⟩
  rw [h4] at he; subst he
  have HFIN : Hid ((∀ k (hk : k < acts.length), AtP ⟨code, acts, next, out⟩ k hk) → plB ⟨code, acts, next, out⟩ = true) := HLOOP.out HC1.out H2.out H3.out h4
  clear h4 i2 i3
  go_wp2_with fail
  go_loopw [3] (fun iv wr => ∃ k : Nat, k ≤ acts.length ∧ iv = .int .i64 k ∧ Below w0.heap.size w0 wr ∧ ∀ j (hj : j < acts.length), j < k → AtP ⟨code, acts, next, out⟩ j hj) (fun iv _ => acts.length - (intOf iv).toNat)
  case atStart => exact ⟨0, Nat.zero_le _, rfl, HB2.out, fun j _ hj => absurd hj (Nat.not_lt_zero _)⟩
  case round =>
    obtain ⟨k, hk, rfl, hb, hn⟩ := hrel
    have HB : Hid (Below w0.heap.size w0 wr) := hb
    have HN : Hid (∀ j (hj : j < acts.length), j < k → AtP ⟨code, acts, next, out⟩ j hj) := hn
    have q0 := HQ.out wr hb
    clear hn hb
    by_cases hlt : k < acts.length
    · rcases HROW.out wr (HW.out _ HB.out) with h0' | ⟨b, o, rfl, hrow⟩
      · rw [h0'] at hlt; simp at hlt
      obtain ⟨hh, hbx, hac⟩ := hrow k hlt
      have HS : Hid (AtP ⟨code, acts, next, out⟩ k hlt → ∀ j (hj : j < acts.length), j < k + 1 → AtP ⟨code, acts, next, out⟩ j hj) := fun hq j hj hjk => by
        rcases Nat.lt_or_ge j k with h | h
        · exact HN.out j hj h
        · have : j = k := by omega
          subst this; exact hq
      have HX : Hid (¬ AtP ⟨code, acts, next, out⟩ k hlt → plB ⟨code, acts, next, out⟩ = false) := HSTOP.out k hlt
      have HATK := HAT.out k hlt
      have HPREV : Hid (∀ j (hj : j + 1 = k), ∃ hb', Bx5 wr b (o + j * 5) (acts[j]'(by omega)) hb') := fun j hj => by obtain ⟨x, y, _⟩ := hrow j (by omega); exact ⟨x, y⟩
      obtain ⟨wa, hwa⟩ : ∃ wa, wa = wr.alloc (.cells #[.int .i64 acts[k].pid, .int .i64 acts[k].pc, .slice hh.ra acts[k].regs.length hh.rc, .slice hh.ba acts[k].box.length hh.bc, .slice hh.la acts[k].N hh.lc] 64) := ⟨_, rfl⟩
      have hba : Below wr.heap.size wr wa := by rw [hwa]; exact (Below.refl _ _).alloc (Nat.le_refl _) _
      have HBA : Hid (Below wr.heap.size wr wa) := hba
      have HBA0 : Hid (Below w0.heap.size w0 wa) := HB.out.trans (hba.mono HB.out.size)
      have KA : Hid (∀ y : Inn wa, Calls Tryz.prog 33 #[.slice ca code.length cc, .agg #[.int .i64 acts[k].pid, .int .i64 acts[k].pc, .slice hh.ra acts[k].regs.length hh.rc, .slice hh.ba acts[k].box.length hh.bc, .slice hh.la acts[k].N hh.lc]] y.val fun e w' => e = .returned (.bool (acB code acts[k])) ∧ Below y.val.heap.size y.val w') := fun y => KAC.out y.val (HW.out _ (HBA0.out.trans (y.bel.mono HBA0.out.size))) k hlt hh ((hac.below hba).below y.bel)
      have KB : Hid (∀ y : Inn wa, Calls Tryz.prog 34 #[.agg #[.slice ca code.length cc, .slice (some ⟨b, o, none⟩) acts.length ac, .int .i64 next, .slice oa out.length oc], .int .i64 k] y.val fun e w' => e = .returned (.bool (bothB acts acts[k])) ∧ Below y.val.heap.size y.val w') := fun y => KBO.out y.val (HW.out _ (HBA0.out.trans (y.bel.mono HBA0.out.size))) k hlt
      have qa : ∀ x, wa.cell? ⟨wr.heap.size, x, none⟩ = (#[.int .i64 acts[k].pid, .int .i64 acts[k].pc, .slice hh.ra acts[k].regs.length hh.rc, .slice hh.ba acts[k].box.length hh.bc, .slice hh.la acts[k].N hh.lc] : Array Value)[x]? := fun x => by rw [hwa, World.cell?_alloc_new]
      have c0 := hbx.c0
      have c1 := hbx.c1
      have c2 := hbx.c2
      have c3 := hbx.c3
      have c4 := hbx.c4
      have d0 : ∀ x : Inn wa, x.val.cell? ⟨w.heap.size, 0, none⟩ = some (.slice ca code.length cc) := Inn.keep (keepA hba (q0 0))
      have d1 : ∀ x : Inn wa, x.val.cell? ⟨w.heap.size, 1, none⟩ = some (.slice (some ⟨b, o, none⟩) acts.length ac) := Inn.keep (keepA hba (q0 1))
      have d2 : ∀ x : Inn wa, x.val.cell? ⟨w.heap.size, 2, none⟩ = some (.int .i64 next) := Inn.keep (keepA hba (q0 2))
      have d3 : ∀ x : Inn wa, x.val.cell? ⟨w.heap.size, 3, none⟩ = some (.slice oa out.length oc) := Inn.keep (keepA hba (q0 3))
      have a0 : ∀ x : Inn wa, x.val.cell? ⟨wr.heap.size, 0, none⟩ = some (.int .i64 acts[k].pid) := Inn.keep (qa 0)
      have a1 : ∀ x : Inn wa, x.val.cell? ⟨wr.heap.size, 1, none⟩ = some (.int .i64 acts[k].pc) := Inn.keep (qa 1)
      have a2 : ∀ x : Inn wa, x.val.cell? ⟨wr.heap.size, 2, none⟩ = some (.slice hh.ra acts[k].regs.length hh.rc) := Inn.keep (qa 2)
      have a3 : ∀ x : Inn wa, x.val.cell? ⟨wr.heap.size, 3, none⟩ = some (.slice hh.ba acts[k].box.length hh.bc) := Inn.keep (qa 3)
      have a4 : ∀ x : Inn wa, x.val.cell? ⟨wr.heap.size, 4, none⟩ = some (.slice hh.la acts[k].N hh.lc) := Inn.keep (qa 4)
      have HPC : Hid (∀ j (hj : j + 1 = k), ∀ y : Inn wa, y.val.cell? ⟨b, o + j * 5, none⟩ = some (.int .i64 (acts[j]'(by omega)).pid)) := fun j hj y => by obtain ⟨_, x⟩ := HPREV.out j hj; exact Inn.keep (keepA hba x.c0) y
      clear hbx hac hrow qa hba HPREV
      generalize acB code acts[k] = qA at *
      generalize bothB acts acts[k] = qB at *
      generalize acts[k].pid = pid at *
      generalize acts[k].pc = pc at *
      generalize acts[k].regs.length = nR at *
      generalize acts[k].box.length = nB at *
      generalize acts[k].N = nL at *
      haveI := inn_ne wa
      cases qA
      · have HF : Hid (plB ⟨code, acts, next, out⟩ = false) := HX.out fun q => by have := (HATK.1 q).1; cases this
        clear HATK
        go_wp2_with fail
        rw [← hwa]
        clear hwa
        refine wp_region_inn ?_ ?_ ?_
        · kernel_rfl
        · kernel_rfl
        repeat (go_big_quiet_step (first | (go_at_call 33; exact calls_inn (KA.out _)) | (go_at_call 34; exact calls_inn (KB.out _))))
        refine wpQuiet_nil ?_
        intro w8 h8
        have HB8 : Hid (Below w0.heap.size w0 w8) := by
          obtain ⟨y, rfl⟩ := h8
          exact HBA0.out.trans (y.bel.mono HBA0.out.size)
        clear h8 d0 d1 d2 d3 a0 a1 a2 a3 a4 c0 c1 c2 c3 c4 q0
        go_wp2_with fail
        go_ret
        exact ⟨ret_bool HF.out.symm, HW.out _ HB8.out⟩
      · by_cases hp : pid < next
        rotate_left
        · have p1 : decide (pid ≥ next) = true := decide_eq_true (by omega)
          have p2 : decide (next ≤ pid) = true := decide_eq_true (by omega)
          have HF : Hid (plB ⟨code, acts, next, out⟩ = false) := HX.out fun q => hp (HATK.1 q).2.1
          clear HATK hp
          go_wp2_with fail
          rw [← hwa]
          clear hwa
          refine wp_region_inn ?_ ?_ ?_
          · kernel_rfl
          · kernel_rfl
          repeat (go_big_quiet_step (first | (go_at_call 33; exact calls_inn (KA.out _)) | (go_at_call 34; exact calls_inn (KB.out _))))
          refine wpQuiet_nil ?_
          intro w8 h8
          have HB8 : Hid (Below w0.heap.size w0 w8) := by
            obtain ⟨y, rfl⟩ := h8
            exact HBA0.out.trans (y.bel.mono HBA0.out.size)
          clear h8 d0 d1 d2 d3 a0 a1 a2 a3 a4 c0 c1 c2 c3 c4 q0
          go_wp2_with fail
          go_ret
          exact ⟨ret_bool HF.out.symm, HW.out _ HB8.out⟩
        have p1 : decide (pid ≥ next) = false := decide_eq_false (by omega)
        have p2 : decide (next ≤ pid) = false := decide_eq_false (by omega)
        rcases Nat.eq_zero_or_pos k with hk0 | hk0
        · have e0 : decide ((k : Int) > 0) = false := decide_eq_false (by omega)
          have e0' : decide ((0 : Int) < (k : Int)) = false := decide_eq_false (by omega)
          have e0'' : decide (0 < k) = false := decide_eq_false (by omega)
          have HK0 : Hid (k = 0) := hk0
          have HY : Hid (qB = true → AtP ⟨code, acts, next, out⟩ k hlt) := fun hq => HATK.2 ⟨rfl, hp, fun j hj => absurd hj (by omega), hq⟩
          have HZ : Hid (qB = false → ¬ AtP ⟨code, acts, next, out⟩ k hlt) := fun hq q => by have := (HATK.1 q).2.2.2; rw [hq] at this; cases this
          clear HATK hp hk0
          cases qB
          · have HF : Hid (plB ⟨code, acts, next, out⟩ = false) := HX.out (HZ.out (by trivial))
            go_wp2_with fail
            rw [← hwa]
            clear hwa
            refine wp_region_inn ?_ ?_ ?_
            · kernel_rfl
            · kernel_rfl
            repeat (go_big_quiet_step (first | (go_at_call 33; exact calls_inn (KA.out _)) | (go_at_call 34; exact calls_inn (KB.out _))))
            refine wpQuiet_nil ?_
            intro w8 h8
            have HB8 : Hid (Below w0.heap.size w0 w8) := by
              obtain ⟨y, rfl⟩ := h8
              exact HBA0.out.trans (y.bel.mono HBA0.out.size)
            clear h8 d0 d1 d2 d3 a0 a1 a2 a3 a4 c0 c1 c2 c3 c4 q0
            go_wp2_with fail
            go_ret
            exact ⟨ret_bool HF.out.symm, HW.out _ HB8.out⟩
          · have HF : Hid (∀ j (hj : j < acts.length), j < k + 1 → AtP ⟨code, acts, next, out⟩ j hj) := HS.out (HY.out (by trivial))
            go_wp2_with fail
            rw [← hwa]
            clear hwa
            refine wp_region_inn ?_ ?_ ?_
            · kernel_rfl
            · kernel_rfl
            repeat (go_big_quiet_step (first | (go_at_call 33; exact calls_inn (KA.out _)) | (go_at_call 34; exact calls_inn (KB.out _))))
            refine wpQuiet_nil ?_
            intro w8 h8
            have HB8 : Hid (Below w0.heap.size w0 w8) := by
              obtain ⟨y, rfl⟩ := h8
              exact HBA0.out.trans (y.bel.mono HBA0.out.size)
            clear h8 d0 d1 d2 d3 a0 a1 a2 a3 a4 c0 c1 c2 c3 c4 q0
            go_wp2_with fail
            go_roundw
            case rel => exact ⟨k + 1, by omega, by go_num, HB8.out, HF.out⟩
            case measure => simp [intOf]; omega
        · obtain ⟨m, rfl⟩ : ∃ m, k = m + 1 := ⟨k - 1, by omega⟩
          clear hk0
          have cm := HPC.out m rfl
          have e1 : IntKind.i64.wrap (((m + 1 : Nat) : Int) - 1) = (m : Int) := by rw [IntKind.wrap_i64]; omega
          have e2 : decide (((m + 1 : Nat) : Int) > 0) = true := decide_eq_true (by omega)
          have hPV : (∀ j (hj : j + 1 = m + 1), (acts[j]'(by omega)).pid < pid) ↔ (acts[m]'(by omega)).pid < pid := ⟨fun q => q m rfl, fun q j hj => by
              have : j = m := by omega
              subst this; exact q⟩
          rw [hPV] at HATK
          clear hPV
          generalize (acts[m]'(by omega)).pid = prev at *
          by_cases hv : prev < pid
          rotate_left
          · have p3 : decide (prev ≥ pid) = true := decide_eq_true (by omega)
            have p4 : decide (pid ≤ prev) = true := decide_eq_true (by omega)
            have HF : Hid (plB ⟨code, acts, next, out⟩ = false) := HX.out fun q => hv (HATK.1 q).2.2.1
            clear HATK hp hv
            go_wp2_with fail
            rw [← hwa]
            clear hwa
            refine wp_region_inn ?_ ?_ ?_
            · kernel_rfl
            · kernel_rfl
            repeat (go_big_quiet_step (first | (go_at_call 33; exact calls_inn (KA.out _)) | (go_at_call 34; exact calls_inn (KB.out _))))
            refine wpQuiet_nil ?_
            intro w8 h8
            have HB8 : Hid (Below w0.heap.size w0 w8) := by
              obtain ⟨y, rfl⟩ := h8
              exact HBA0.out.trans (y.bel.mono HBA0.out.size)
            clear h8 d0 d1 d2 d3 a0 a1 a2 a3 a4 c0 c1 c2 c3 c4 q0 cm
            go_wp2_with fail
            go_ret
            exact ⟨ret_bool HF.out.symm, HW.out _ HB8.out⟩
          have p3 : decide (prev ≥ pid) = false := decide_eq_false (by omega)
          have p4 : decide (pid ≤ prev) = false := decide_eq_false (by omega)
          have HY : Hid (qB = true → AtP ⟨code, acts, next, out⟩ (m + 1) hlt) := fun hq => HATK.2 ⟨rfl, hp, hv, hq⟩
          have HZ : Hid (qB = false → ¬ AtP ⟨code, acts, next, out⟩ (m + 1) hlt) := fun hq q => by have := (HATK.1 q).2.2.2; rw [hq] at this; cases this
          clear HATK hp hv
          cases qB
          · have HF : Hid (plB ⟨code, acts, next, out⟩ = false) := HX.out (HZ.out (by trivial))
            go_wp2_with fail
            rw [← hwa]
            clear hwa
            refine wp_region_inn ?_ ?_ ?_
            · kernel_rfl
            · kernel_rfl
            repeat (go_big_quiet_step (first | (go_at_call 33; exact calls_inn (KA.out _)) | (go_at_call 34; exact calls_inn (KB.out _))))
            refine wpQuiet_nil ?_
            intro w8 h8
            have HB8 : Hid (Below w0.heap.size w0 w8) := by
              obtain ⟨y, rfl⟩ := h8
              exact HBA0.out.trans (y.bel.mono HBA0.out.size)
            clear h8 d0 d1 d2 d3 a0 a1 a2 a3 a4 c0 c1 c2 c3 c4 q0 cm
            go_wp2_with fail
            go_ret
            exact ⟨ret_bool HF.out.symm, HW.out _ HB8.out⟩
          · have HF : Hid (∀ j (hj : j < acts.length), j < m + 1 + 1 → AtP ⟨code, acts, next, out⟩ j hj) := HS.out (HY.out (by trivial))
            go_wp2_with fail
            rw [← hwa]
            clear hwa
            refine wp_region_inn ?_ ?_ ?_
            · kernel_rfl
            · kernel_rfl
            repeat (go_big_quiet_step (first | (go_at_call 33; exact calls_inn (KA.out _)) | (go_at_call 34; exact calls_inn (KB.out _))))
            refine wpQuiet_nil ?_
            intro w8 h8
            have HB8 : Hid (Below w0.heap.size w0 w8) := by
              obtain ⟨y, rfl⟩ := h8
              exact HBA0.out.trans (y.bel.mono HBA0.out.size)
            clear h8 d0 d1 d2 d3 a0 a1 a2 a3 a4 c0 c1 c2 c3 c4 q0 cm
            go_wp2_with fail
            go_roundw
            case rel => exact ⟨m + 1 + 1, by omega, by go_num, HB8.out, HF.out⟩
            case measure => simp [intOf]; omega
    · have HF : Hid (plB ⟨code, acts, next, out⟩ = true) := HFIN.out fun j hj => HN.out j hj (by omega)
      go_wp2_with fail
      go_ret
      exact ⟨ret_bool HF.out.symm, HW.out _ HB.out⟩
end Go.Proofs.YtgbopbpiciopdaaGreatDoor
namespace Go.Proofs.YtgbopbpiciopdaaGreatDoor
open Go.RowKit Atom
open Go.Proofs.YtgbopbpiciopdaaGreatDoor.Code
set_option linter.unusedVariables false

theorem contains_any (ao : Option Addr) (N cap : Nat) (f : Nat → Int) (x : Int) (w : World) (hr : RdI w ao N f) (hN : N ≤ maxLen) :
    Calls Tryz.prog 118 #[.slice ao N cap, .int .i64 x] w fun e w' => e = .returned (.bool (hasB f N x)) ∧ w' = w := by
  unfold maxLen at hN
  by_cases h0 : N = 0
  · subst h0
    exact Tryz.slices_Contains_int_empty ao cap x w
  · obtain ⟨b, o, rfl, hc⟩ := hr h0
    have hg : ∀ j, j < N → ((List.range N).map f).getD j 0 = f j := fun j hj => by simp [List.getD, hj]
    have := Tryz.slices_Contains_int b o N cap ((List.range N).map f) x w (by simp) hN (fun j hj => by
      have hj' : j < N := by simpa using hj
      rw [hg j hj']; exact hc j hj')
    have e : (((List.range N).map f).take N).contains x = hasB f N x := by
      rw [List.take_of_length_le (by simp)]
      unfold hasB
      rw [List.contains_eq_any_beq, List.any_map]
      congr 1
      funext j
      simp [Bool.beq_comm]
    rw [e] at this
    exact this

/-! ### Actors by their Pids -/
/-- es are the actors of l by their Pids. -/
def EntA (w : World) : List (Int × Value) → List Ac → Prop
  | [], [] => True
  | e :: es, a :: l => (∃ h, e = (a.pid, acV a h) ∧ AcR w a h) ∧ EntA w es l
  | _, _ => False
theorem EntA.below {w w' : World} (hb : Below w.heap.size w w') : ∀ {es : List (Int × Value)} {l : List Ac}, EntA w es l → EntA w' es l
  | [], [], _ => trivial
  | e :: es, a :: l, ⟨⟨h, e1, x⟩, r⟩ => ⟨⟨h, e1, x.below hb⟩, EntA.below hb r⟩
  | [], _ :: _, h => h.elim
  | _ :: _, [], h => h.elim
theorem EntA.turn {w w' : World} {mb : Nat} (ht : ∀ a h, AcR w a h → AcR w' a h) : ∀ {es : List (Int × Value)} {l : List Ac}, EntA w es l → EntA w' es l
  | [], [], _ => trivial
  | e :: es, a :: l, ⟨⟨h, e1, x⟩, r⟩ => ⟨⟨h, e1, ht _ _ x⟩, EntA.turn (mb := mb) ht r⟩
  | [], _ :: _, h => h.elim
  | _ :: _, [], h => h.elim
theorem EntA.snoc {w : World} {a : Ac} {h : Wh} (hr : AcR w a h) : ∀ {es : List (Int × Value)} {l : List Ac}, EntA w es l → EntA w (es ++ [(a.pid, acV a h)]) (l ++ [a])
  | [], [], _ => ⟨⟨h, rfl, hr⟩, trivial⟩
  | e :: es, b :: l, ⟨x, r⟩ => ⟨x, EntA.snoc hr r⟩
  | [], _ :: _, h => h.elim
  | _ :: _, [], h => h.elim
theorem EntA.keys {w : World} : ∀ {es : List (Int × Value)} {l : List Ac}, EntA w es l → es.map (·.1) = l.map (·.pid)
  | [], [], _ => rfl
  | e :: es, a :: l, ⟨⟨h, e1, x⟩, r⟩ => by rw [List.map_cons, List.map_cons, EntA.keys r, e1]
  | [], _ :: _, h => h.elim
  | _ :: _, [], h => h.elim
theorem EntA.get {w : World} (p : Int) : ∀ {es : List (Int × Value)} {l : List Ac}, EntA w es l → (imGet es p = none ∧ findA l p = none) ∨ ∃ a h, imGet es p = some (acV a h) ∧ findA l p = some a ∧ AcR w a h
  | [], [], _ => .inl ⟨rfl, rfl⟩
  | e :: es, a :: l, ⟨⟨h, e1, x⟩, r⟩ => by
    subst e1
    rw [imGet_cons]
    have hf : findA (a :: l) p = if p = a.pid then some a else findA l p := by
      unfold findA
      rw [List.find?_cons]
      by_cases hq : p = a.pid
      · subst hq; simp
      · have : (a.pid == p) = false := by simp; omega
        rw [this, if_neg hq]
    rw [hf]
    by_cases hq : p = a.pid
    · right
      exact ⟨a, h, by simp [hq], by simp [hq], x⟩
    · have hq' : ¬ p = (a.pid, acV a h).1 := hq
      rw [if_neg hq', if_neg hq]
      exact EntA.get p r
  | [], _ :: _, h => h.elim
  | _ :: _, [], h => h.elim
theorem und_mapA : Tryz.prog.underlying 121 = some (.map 3 64) := by kernel_rfl
theorem run_makeMapN (n : Nat) (w : World) : (Instr.makeMap 121 (some (.int .i64 (n : Int)))).run Tryz.prog w = .ok (.map (some w.heap.size)) (w.alloc (.map #[] 0)) := by
  simp [Instr.makeMap, run_underlying und_mapA, asInt, newObj, Result.andThen]
  rfl
theorem acR_turn {w w' : World} {mb : Nat} {es : Array MapEntry} {clk : Nat} (ht : Turn mb w w') (hm : w.heap[mb]? = some (.map es clk)) {a : Ac} {h : Wh} (x : AcR w a h) : AcR w' a h := by
  have hc : ∀ b o v, w.cell? ⟨b, o, none⟩ = some v → w'.cell? ⟨b, o, none⟩ = some v := fun b o v hv => by
    have hne : b ≠ mb := fun e => by
      subst e
      simp [World.cell?, hm] at hv
    rw [World.cell?_of_block (w := w) (ht.block b (World.block_lt_of_cell? w _ hv) hne)]; exact hv
  have hk : Keeps 0 w w' := fun b o v _ hv => hc b o v hv
  refine ⟨hk.repL _ _ x.regs, hk.repL _ _ x.box, fun hn => ?_, x.r1, x.r2, x.b1, x.b2, x.l1, x.l2⟩
  obtain ⟨b, o, e, hj⟩ := x.links hn
  exact ⟨b, o, e, fun j hjn => hc _ _ _ (hj j hjn)⟩

set_option maxHeartbeats 1000000 in
set_option maxRecDepth 100000 in
theorem byPid_any (l : List Ac) (ao : Option Addr) (cap : Nat) (w : World) (hr : RowA w ao l) (hl : l.length ≤ maxLen) (hd : ∀ i j (hi : i < l.length) (hj : j < l.length), i ≠ j → l[i].pid ≠ l[j].pid) :
    Calls Tryz.prog 87 #[.slice ao l.length cap] w fun e w' => ∃ mb es, e = .returned (.map (some mb)) ∧ ImMap w' mb es ∧ EntA w' es l ∧ w.heap.size ≤ mb ∧ Below w.heap.size w w' := by
  have HR : Hid (RowA w ao l) := hr
  have HD : Hid (∀ i j (hi : i < l.length) (hj : j < l.length), i ≠ j → l[i].pid ≠ l[j].pid) := hd
  clear hr hd
  unfold maxLen at hl
  have hmm := run_makeMapN l.length
  go_enter Tryz.func87, Tryz.ntmps87
  go_wp2_with fail
  clear hmm
  go_loopw [11] (fun iv wr => ∃ (k : Nat) (es : List (Int × Value)), k ≤ l.length ∧ iv = .int .i64 k ∧ ImMap wr w.heap.size es ∧ EntA wr es (l.take k) ∧ Below w.heap.size w wr) (fun iv _ => l.length - (intOf iv).toNat)
  case atStart => exact ⟨0, [], Nat.zero_le _, rfl, ImMap.made w, trivial, (Below.refl _ _).alloc (Nat.le_refl _) _⟩
  case round =>
    obtain ⟨k, es, hk, rfl, hm, he, hb⟩ := hrel
    have HM : Hid (ImMap wr w.heap.size es ∧ EntA wr es (l.take k)) := ⟨hm, he⟩
    have HB : Hid (Below w.heap.size w wr) := hb
    clear hm he hb
    by_cases hlt : k < l.length
    · rcases HR.out.below HB.out with h0 | ⟨b, o, rfl, hrow⟩
      · rw [h0] at hlt; simp at hlt
      obtain ⟨hh, hbx, hac⟩ := hrow k hlt
      have hnew : ∀ x ∈ es, x.1 ≠ l[k].pid := fun x hx hq => by
        have h1 : x.1 ∈ (l.take k).map (·.pid) := by rw [← HM.out.2.keys]; exact List.mem_map.2 ⟨x, hx, rfl⟩
        obtain ⟨a, ha, e1⟩ := List.mem_map.1 h1
        obtain ⟨j, hj, rfl⟩ := List.mem_iff_getElem.1 ha
        have hj' : j < k := by simp at hj; omega
        have := HD.out j k (by omega) hlt (by omega)
        rw [List.getElem_take] at e1
        rw [← e1] at hq
        exact this hq
      have HTK : Hid (l.take (k + 1) = l.take k ++ [l[k]]) := List.take_succ_eq_append_getElem hlt
      obtain ⟨wa, hwa⟩ : ∃ wa, wa = wr.alloc (.cells #[.int .i64 l[k].pid, .int .i64 l[k].pc, .slice hh.ra l[k].regs.length hh.rc, .slice hh.ba l[k].box.length hh.bc, .slice hh.la l[k].N hh.lc] 64) := ⟨_, rfl⟩
      have hba : Below wr.heap.size wr wa := by rw [hwa]; exact (Below.refl _ _).alloc (Nat.le_refl _) _
      obtain ⟨w2, hup, ht, hm2⟩ := add_int (HM.out.1.below hba) und_mapA l[k].pid (acV l[k] hh) hnew
      have HE2 : Hid (EntA w2 (es ++ [(l[k].pid, acV l[k] hh)]) (l.take k ++ [l[k]]) ∧ ImMap w2 w.heap.size (es ++ [(l[k].pid, acV l[k] hh)]) ∧ Below w.heap.size w w2) := by
        obtain ⟨arr, clk, hmb, _⟩ := HM.out.1.below hba
        refine ⟨EntA.snoc (acR_turn ht hmb (hac.below hba)) (EntA.turn (mb := 0) (fun a h x => acR_turn ht hmb x) (HM.out.2.below hba)), hm2, ?_⟩
        have h1 : Below w.heap.size w wa := HB.out.trans (hba.mono HB.out.size)
        exact ⟨ht.os.trans h1.os, ht.tape.trans h1.tape, ht.output.trans h1.output, Nat.le_trans h1.size ht.size, fun x hx => (ht.block x (Nat.lt_of_lt_of_le hx h1.size) (by omega)).trans (h1.block x hx)⟩
      have c0 := hbx.c0
      have c1 := hbx.c1
      have c2 := hbx.c2
      have c3 := hbx.c3
      have c4 := hbx.c4
      rw [hwa] at hup
      clear hbx hac hrow hnew ht hm2 hba hwa
      rw [← HTK.out] at HE2
      clear HTK
      generalize l[k] = a at *
      obtain ⟨pid, pc, regs, box, N, f⟩ := a
      dsimp only at c0 c1 c2 c3 c4 hup HE2
      go_wp2_with fail
      go_roundw
      case rel => exact ⟨k + 1, _, by omega, by go_num, HE2.out.2.1, HE2.out.1, HE2.out.2.2⟩
      case measure => simp [intOf]; omega
    · have HF : Hid (ImMap wr w.heap.size es ∧ EntA wr es l) := by
        have := HM.out
        rw [List.take_of_length_le (by omega)] at this
        exact this
      go_wp2_with fail
      go_ret
      exact ⟨w.heap.size, es, rfl, HF.out.1, HF.out.2, Nat.le_refl _, HB.out⟩

/-! ### Links of both sides -/
def linkB (l : List Ac) : Bool := l.all (bothB l)
theorem linkB_no {l : List Ac} {k : Nat} (hk : k < l.length) (h : bothB l l[k] = false) : linkB l = false := by
  unfold linkB
  rw [List.all_eq_false]
  exact ⟨l[k], List.getElem_mem hk, by rw [h]; simp⟩
theorem linkB_yes {l : List Ac} (h : ∀ k (hk : k < l.length), bothB l l[k] = true) : linkB l = true := by
  unfold linkB
  rw [List.all_eq_true]
  intro x hx
  obtain ⟨k, hk, rfl⟩ := List.mem_iff_getElem.1 hx
  exact h k hk

set_option maxHeartbeats 2000000 in
set_option maxRecDepth 100000 in
theorem linked_any (l : List Ac) (ao : Option Addr) (cap : Nat) (w : World) (hr : RowA w ao l) (hl : l.length ≤ maxLen) (hd : ∀ i j (hi : i < l.length) (hj : j < l.length), i ≠ j → l[i].pid ≠ l[j].pid) :
    Calls Tryz.prog 80 #[.slice ao l.length cap] w fun e w' => e = .returned (.bool (linkB l)) ∧ Below w.heap.size w w' := by
  have HR : Hid (RowA w ao l) := hr
  have HC : Hid (Calls Tryz.prog 87 #[.slice ao l.length cap] w fun e w' => ∃ mb es, e = .returned (.map (some mb)) ∧ ImMap w' mb es ∧ EntA w' es l ∧ w.heap.size ≤ mb ∧ Below w.heap.size w w') := byPid_any l ao cap w hr hl hd
  clear hr hd
  unfold maxLen at hl
  go_enter Tryz.func80, Tryz.ntmps80
  go_wp2_with (go_at_call 87; fail)
  refine HC.out.mono ?_
  rintro e w1 ⟨mb, es, rfl, hm, hen, hmb, hb1⟩
  have HM : Hid (ImMap w1 mb es ∧ EntA w1 es l) := ⟨hm, hen⟩
  have HB1 : Hid (Below w.heap.size w w1) := hb1
  clear hm hen hmb hb1 HC
  go_wp2_with fail
  go_loopw [14] (fun iv wr => ∃ k : Nat, k ≤ l.length ∧ iv = .int .i64 k ∧ Below w1.heap.size w1 wr ∧ ∀ j (hj : j < l.length), j < k → bothB l l[j] = true) (fun iv _ => l.length - (intOf iv).toNat)
  case atStart => exact ⟨0, Nat.zero_le _, rfl, Below.refl _ _, fun j _ hj => absurd hj (Nat.not_lt_zero _)⟩
  case round =>
    obtain ⟨k, hk, rfl, hb, hn⟩ := hrel
    have HB : Hid (Below w1.heap.size w1 wr) := hb
    have HBW : Hid (Below w.heap.size w wr) := HB1.out.trans (hb.mono HB1.out.size)
    have HN : Hid (∀ j (hj : j < l.length), j < k → bothB l l[j] = true) := hn
    clear hn hb
    by_cases hlt : k < l.length
    · rcases HR.out.below HBW.out with h0 | ⟨b, o, rfl, hrow⟩
      · rw [h0] at hlt; simp at hlt
      obtain ⟨hh, hbx, hac⟩ := hrow k hlt
      have HS : Hid (bothB l l[k] = true → ∀ j (hj : j < l.length), j < k + 1 → bothB l l[j] = true) := fun hq j hj hjk => by
        rcases Nat.lt_or_ge j k with h | h
        · exact HN.out j hj h
        · have : j = k := by omega
          subst this; exact hq
      have HX : Hid (bothB l l[k] = false → linkB l = false) := fun h => linkB_no hlt h
      have HBO : Hid (∀ j, j < l[k].N → bothAt l l[k] j = false → bothB l l[k] = false) := fun j hj hf => bothB_no hj hf
      have HBY : Hid ((∀ j, j < l[k].N → bothAt l l[k] j = true) → bothB l l[k] = true) := bothB_yes
      have HBN : Hid (∀ j, findA l (l[k].f j) = none → bothAt l l[k] j = true) := fun j hq => bothAt_none hq
      have HBS : Hid (∀ j m, findA l (l[k].f j) = some m → bothAt l l[k] j = hasB m.f m.N l[k].pid) := fun j m hq => bothAt_some hq
      have c0 := hbx.c0
      have c1 := hbx.c1
      have c2 := hbx.c2
      have c3 := hbx.c3
      have c4 := hbx.c4
      have HLK : Hid (RdI wr hh.la l[k].N l[k].f ∧ l[k].N ≤ maxLen) := ⟨hac.links, Nat.le_trans hac.l1 hac.l2⟩
      clear hbx hac hrow
      generalize hbk : bothB l l[k] = bk at HS HX HBO HBY
      generalize bothAt l l[k] = bat at *
      clear hbk
      generalize l[k].f = f at *
      generalize l[k].pid = pid at *
      generalize l[k].pc = pc at *
      generalize l[k].regs.length = nR at *
      generalize l[k].box.length = nB at *
      generalize l[k].N = N at *
      have hNm : N ≤ 9223372036854775807 := by have := HLK.out.2; unfold maxLen at this; omega
      obtain ⟨wa, hwa⟩ : ∃ wa, wa = wr.alloc (.cells #[.int .i64 pid, .int .i64 pc, .slice hh.ra nR hh.rc, .slice hh.ba nB hh.bc, .slice hh.la N hh.lc] 64) := ⟨_, rfl⟩
      have hba : Below wr.heap.size wr wa := by rw [hwa]; exact (Below.refl _ _).alloc (Nat.le_refl _) _
      have HBA : Hid (Below w1.heap.size w1 wa ∧ Below w.heap.size w wa ∧ RdI wa hh.la N f) := ⟨HB.out.trans (hba.mono HB.out.size), HBW.out.trans (hba.mono HBW.out.size), HLK.out.1.below hba⟩
      have HQA : Hid (∀ wc, Below wa.heap.size wa wc → wc.cell? ⟨wr.heap.size, 0, none⟩ = some (.int .i64 pid)) := fun wc hb => keepA hb (by rw [hwa, World.cell?_alloc_new]; rfl)
      clear hba
      go_wp2_with fail
      rw [← hwa]
      clear hwa c0 c1 c2 c3 c4
      obtain ⟨A, hA⟩ : ∃ A, A = wr.heap.size := ⟨_, rfl⟩
      rw [← hA] at HQA ⊢
      clear hA
      clear HLK HB HBW
      revert wr
      intro wo
      go_loopw [21] (fun iv wr => ∃ j : Nat, j ≤ N ∧ iv = .int .i64 j ∧ Below wa.heap.size wa wr ∧ ∀ i, i < j → bat i = true) (fun iv _ => N - (intOf iv).toNat)
      case atStart => exact ⟨0, Nat.zero_le _, rfl, Below.refl _ _, fun j hj => absurd hj (Nat.not_lt_zero _)⟩
      case round =>
        obtain ⟨j, hj, rfl, hb, hn⟩ := hrel
        have HBj : Hid (Below wa.heap.size wa wr) := hb
        have HW1 : Hid (Below w1.heap.size w1 wr ∧ Below w.heap.size w wr) := ⟨HBA.out.1.trans (hb.mono HBA.out.1.size), HBA.out.2.1.trans (hb.mono HBA.out.2.1.size)⟩
        have HNj : Hid (∀ i, i < j → bat i = true) := hn
        clear hn hb
        by_cases hjl : j < N
        · obtain ⟨lb, lo, hla, hc⟩ := HBA.out.2.2.below HBj.out (by omega)
          have ck := hc j hjl
          have HSj : Hid (bat j = true → ∀ i, i < j + 1 → bat i = true) := fun hq i hi => by
            rcases Nat.lt_or_ge i j with h | h
            · exact HNj.out i h
            · have : i = j := by omega
              subst this; exact hq
          have HNOj : Hid (bat j = false → linkB l = false) := fun hq => HX.out (HBO.out j hjl hq)
          have HNK : Hid (findA l (f j) = none → bat j = true) := HBN.out j
          have HSK : Hid (∀ m, findA l (f j) = some m → bat j = hasB m.f m.N pid) := HBS.out j
          have hlk := look_int (HM.out.1.below HW1.out.1) und_mapA Tryz.zeroValue64 (f j) wr rfl
          have hget := EntA.get (f j) (HM.out.2.below HW1.out.1)
          generalize f j = x at *
          generalize bat j = bj at *
          rw [hla]
          clear hc hla
          rcases hget with ⟨g1, g2⟩ | ⟨a, h, g1, g2, g3⟩
          · rw [g1] at hlk
            have HF : Hid (∀ i, i < j + 1 → bat i = true) := HSj.out (HNK.out g2)
            clear g1 g2
            simp only [Option.getD_none, Option.isSome_none] at hlk
            go_wp2_with fail
            go_roundw
            case rel => exact ⟨j + 1, by omega, by go_num, HBj.out.alloc HBj.out.size _, HF.out⟩
            case measure => simp [intOf]; omega
          · rw [g1] at hlk
            have HE : Hid (bj = hasB a.f a.N pid) := HSK.out a g2
            obtain ⟨pid2, pc2, regs2, box2, N2, f2⟩ := a
            obtain ⟨ra2, rc2, ba2, bc2, la2, lc2⟩ := h
            have KC : Hid (∀ wc, Below wr.heap.size wr wc → Calls Tryz.prog 118 #[.slice la2 N2 lc2, .int .i64 pid] wc fun e w' => e = .returned (.bool (hasB f2 N2 pid)) ∧ w' = wc) := fun wc hb => contains_any la2 N2 lc2 f2 pid wc (g3.links.below hb) (Nat.le_trans g3.l1 g3.l2)
            clear g1 g2 g3
            simp only [Option.getD_some, Option.isSome_some] at hlk
            dsimp only at HE
            generalize hasB f2 N2 pid = q at *
            have HBb : Hid (Below wr.heap.size wr (wr.alloc (.cells #[.int .i64 pid2, .int .i64 pc2, .slice ra2 regs2.length rc2, .slice ba2 box2.length bc2, .slice la2 N2 lc2] 64))) := (Below.refl _ _).alloc (Nat.le_refl _) _
            have hq0 := keepA HBb.out (HQA.out wr HBj.out)
            have HBc : Hid (Below wa.heap.size wa (wr.alloc (.cells #[.int .i64 pid2, .int .i64 pc2, .slice ra2 regs2.length rc2, .slice ba2 box2.length bc2, .slice la2 N2 lc2] 64))) := HBj.out.alloc HBj.out.size _
            cases q
            · have HF : Hid (linkB l = false) := HNOj.out HE.out
              have HBd : Hid (Below w.heap.size w (wr.alloc (.cells #[.int .i64 pid2, .int .i64 pc2, .slice ra2 regs2.length rc2, .slice ba2 box2.length bc2, .slice la2 N2 lc2] 64))) := HW1.out.2.alloc HW1.out.2.size _
              go_wp2_with (go_at_call 118; refine (KC.out _ HBb.out).mono ?_; rintro e w' ⟨rfl, hw'⟩; obtain rfl := hw'.symm)
              go_ret
              exact ⟨ret_bool HF.out.symm, HBd.out⟩
            · have HF : Hid (∀ i, i < j + 1 → bat i = true) := HSj.out HE.out
              go_wp2_with (go_at_call 118; refine (KC.out _ HBb.out).mono ?_; rintro e w' ⟨rfl, hw'⟩; obtain rfl := hw'.symm)
              go_roundw
              case rel => exact ⟨j + 1, by omega, by go_num, HBc.out, HF.out⟩
              case measure => simp [intOf]; omega
        · have HF : Hid (∀ i (hi : i < l.length), i < k + 1 → bothB l l[i] = true) := HS.out (HBY.out fun i hi => HNj.out i (by omega))
          go_wp2_with fail
          go_roundw
          case rel => exact ⟨k + 1, by omega, by go_num, HW1.out.1, HF.out⟩
          case measure => simp [intOf]; omega
    · have HF : Hid (linkB l = true) := linkB_yes fun j hj => HN.out j hj (by omega)
      go_wp2_with fail
      go_ret
      exact ⟨ret_bool HF.out.symm, HBW.out⟩
end Go.Proofs.YtgbopbpiciopdaaGreatDoor
namespace Go.Proofs.YtgbopbpiciopdaaGreatDoor
open Go.RowKit Atom
open Go.Proofs.YtgbopbpiciopdaaGreatDoor.Code
set_option linter.unusedVariables false

set_option maxHeartbeats 2000000 in
set_option maxRecDepth 100000 in
theorem outOk_any (l : List Sd) (ao : Option Addr) (cap : Nat) (w : World) (hr : RowS w ao l) (hl : l.length ≤ maxLen) :
    Calls Tryz.prog 39 #[.slice ao l.length cap] w fun e w' => e = .returned (.bool (saidB l)) ∧ Below w.heap.size w w' := by
  have HR : Hid (RowS w ao l) := hr
  clear hr
  unfold maxLen at hl
  by_cases hlong : (500 : Int) < l.length
  · have HF : Hid (saidB l = false) := saidB_long (by omega)
    go_enter Tryz.func39, Tryz.ntmps39
    go_wp2_with fail
    go_ret
    exact ⟨ret_bool HF.out.symm, Below.refl _ _⟩
  go_enter Tryz.func39, Tryz.ntmps39
  go_wp2_with fail
  go_loopw [10] (fun i wr => ∃ k : Nat, k ≤ l.length ∧ i = .int .i64 k ∧ Below w.heap.size w wr ∧ ∀ j (hj : j < l.length), j < k → sdB l[j] = true) (fun i _ => l.length - (intOf i).toNat)
  case atStart => exact ⟨0, Nat.zero_le _, rfl, Below.refl _ _, fun j _ hj => absurd hj (Nat.not_lt_zero _)⟩
  case round =>
    obtain ⟨k, hk, rfl, hb, hn⟩ := hrel
    have HB : Hid (Below w.heap.size w wr) := hb
    have HN : Hid (∀ j (hj : j < l.length), j < k → sdB l[j] = true) := hn
    clear hn hb
    by_cases hlt : k < l.length
    · rcases HR.out.below HB.out with h0 | ⟨b, o, rfl, hrow⟩
      · rw [h0] at hlt; simp at hlt
      have hbx := hrow k hlt
      have HS : Hid (sdB l[k] = true → ∀ j (hj : j < l.length), j < k + 1 → sdB l[j] = true) := fun hq j hj hjk => by
        rcases Nat.lt_or_ge j k with h | h
        · exact HN.out j hj h
        · have : j = k := by omega
          subst this; exact hq
      have HNO : Hid (sdB l[k] = false → saidB l = false) := fun h => saidB_no hlt h
      obtain ⟨tk, tn, ts, tao, tlen, tcap, e0, e1, e2, e3, hv⟩ := hbx.t.cells
      have d0 := hbx.c0
      have d1 := hbx.c1
      have HC : Hid (∀ wc, Below wr.heap.size wr wc → Calls Tryz.prog 82 #[.agg #[.int .i64 tk, .int .i64 tn, .string ts, .slice tao tlen tcap]] wc fun e w' => e = .returned (.bool (okT l[k].t)) ∧ Below wc.heap.size wc w') := fun wc hb => implOk_any l[k].t 0 wc _ (Below.repV hb hv)
      have HD : Hid (sdB l[k] = (decide (1 ≤ l[k].kind ∧ l[k].kind ≤ 3) && (pidB l[k].pid && okT l[k].t))) := rfl
      generalize okT l[k].t = q at HC HD
      generalize l[k].kind = kk at d0 HD
      generalize l[k].pid = pp at d1 HD
      generalize sdB l[k] = sb at HS HNO HD
      clear hrow hbx hv
      have HBX : Hid (Below wr.heap.size wr (wr.alloc (.cells #[.int .i64 kk, .int .i64 pp, .int .i64 tk, .int .i64 tn, .string ts, .slice tao tlen tcap] 106)) ∧ Below w.heap.size w (wr.alloc (.cells #[.int .i64 kk, .int .i64 pp, .int .i64 tk, .int .i64 tn, .string ts, .slice tao tlen tcap] 106))) := ⟨(Below.refl _ _).alloc (Nat.le_refl _) _, HB.out.alloc HB.out.size _⟩
      by_cases h1 : 1 ≤ kk
      rotate_left
      · have HF : Hid (saidB l = false) := HNO.out (by rw [HD.out, decide_eq_false (by omega)]; simp)
        clear HD
        go_wp2_with fail
        go_ret
        exact ⟨ret_bool HF.out.symm, HBX.out.2⟩
      by_cases h1' : kk ≤ 3
      rotate_left
      · have HF : Hid (saidB l = false) := HNO.out (by rw [HD.out, decide_eq_false (by omega)]; simp)
        clear HD
        go_wp2_with fail
        go_ret
        exact ⟨ret_bool HF.out.symm, HBX.out.2⟩
      by_cases h2 : 1 ≤ pp ∧ pp ≤ 99999
      · have i2 : pidB pp = true := decide_eq_true h2
        have HE : Hid (sb = q) := by
          show _ = _
          rw [HD.out, decide_eq_true ⟨h1, h1'⟩, i2]; simp
        clear h2 HD
        cases q
        · have HF : Hid (saidB l = false) := HNO.out HE.out
          go_wp2_with (first | (go_at_call 81; refine (isPid_any _ _).mono ?_; rintro e w' ⟨rfl, hw'⟩; obtain rfl := hw'.symm) | (go_at_call 82; refine (HC.out _ HBX.out.1).mono ?_; rintro e w3 ⟨rfl, hb3⟩; have HB3 : Hid (Below w.heap.size w w3) := HBX.out.2.trans (hb3.mono HBX.out.2.size); clear hb3))
          go_ret
          exact ⟨ret_bool HF.out.symm, HB3.out⟩
        · have HF : Hid (∀ j (hj : j < l.length), j < k + 1 → sdB l[j] = true) := HS.out HE.out
          go_wp2_with (first | (go_at_call 81; refine (isPid_any _ _).mono ?_; rintro e w' ⟨rfl, hw'⟩; obtain rfl := hw'.symm) | (go_at_call 82; refine (HC.out _ HBX.out.1).mono ?_; rintro e w3 ⟨rfl, hb3⟩; have HB3 : Hid (Below w.heap.size w w3) := HBX.out.2.trans (hb3.mono HBX.out.2.size); clear hb3))
          go_roundw
          case rel => exact ⟨k + 1, by omega, by go_num, HB3.out, HF.out⟩
          case measure => simp [intOf]; omega
      · have i2 : pidB pp = false := decide_eq_false h2
        have HF : Hid (saidB l = false) := HNO.out (by rw [HD.out, i2]; simp)
        clear h2 HD
        go_wp2_with (first | (go_at_call 81; refine (isPid_any _ _).mono ?_; rintro e w' ⟨rfl, hw'⟩; obtain rfl := hw'.symm))
        go_ret
        exact ⟨ret_bool HF.out.symm, HBX.out.2⟩
    · have HF : Hid (saidB l = true) := by
        show _ = _
        rw [saidB_is fun j hj => HN.out j hj (by omega)]
        exact decide_eq_true (by omega)
      go_wp2_with fail
      go_ret
      exact ⟨ret_bool HF.out.symm, HB.out⟩

theorem acB_pid {l : List I} {a : Ac} (h : acB l a = true) : 1 ≤ a.pid := by
  by_cases hq : 1 ≤ a.pid ∧ a.pid ≤ 99999
  · exact hq.1
  · rw [acB_no2 hq] at h; cases h
theorem acsB_is {p : Pl} (h1 : p.acts.length ≤ 20) (h2 : ∀ i (hi : i < p.acts.length), ActP p i hi) : acsB p = linkB p.acts := by
  cases h : linkB p.acts
  · refine acsB_no fun q => ?_
    rw [linkB_yes q.2.2] at h; cases h
  · refine acsB_yes ⟨h1, h2, fun i hi => ?_⟩
    cases hb : bothB p.acts p.acts[i]
    · rw [linkB_no hi hb] at h; cases h
    · rfl

set_option maxHeartbeats 4000000 in
set_option maxRecDepth 100000 in
theorem actorsOk_any (p : Pl) (h : Pw) (w : World) (hr : PlR w p h) (hs : PlS p) (hS : Shp w) (hP : Pow w) (hE : Es.Ety w) :
    Calls Tryz.prog 38 #[plV p h] w fun e w' => e = .returned (.bool (acsB p)) ∧ Below w.heap.size w w' := by
  have KAC : Hid (∀ (wc : World), Below w.heap.size w wc → ∀ k (hk : k < p.acts.length) (hh : Wh), AcR wc p.acts[k] hh → Calls Tryz.prog 79 #[.slice h.ca p.code.length h.cc, acV p.acts[k] hh] wc fun e w' => e = .returned (.bool (acB p.code p.acts[k])) ∧ Below wc.heap.size wc w') := fun wc hb k hk hh hac => implActorOk_any p.code h.ca h.cc p.acts[k] hh wc (hr.code.below hb) hr.sm hs.c hac (hs.ax _ (List.getElem_mem hk)).2.2 (hS.below hb) (hP.below hb) (hE.below hb)
  have KLI : Hid (∀ (wc : World), Below w.heap.size w wc → (∀ i (hi : i < p.acts.length), ActP p i hi) → Calls Tryz.prog 80 #[.slice h.aa p.acts.length h.ac] wc fun e w' => e = .returned (.bool (linkB p.acts)) ∧ Below wc.heap.size wc w') := fun wc hb ha => linked_any p.acts h.aa h.ac wc (hr.acts.below hb) hr.a1 (fun i j hi hj hne => unlike ha i j hi hj hne)
  have HNO : Hid (¬ AcsP p → acsB p = false) := acsB_no
  have HIS : Hid (p.acts.length ≤ 20 → (∀ i (hi : i < p.acts.length), ActP p i hi) → acsB p = linkB p.acts) := acsB_is
  have HROW : Hid (∀ wc, Below w.heap.size w wc → RowA wc h.aa p.acts) := fun wc hb => hr.acts.below hb
  have HAT : Hid (∀ k (hk : k < p.acts.length) (y : Int), (k = 0 → y = 0) → (∀ j (hj : j + 1 = k), y = (p.acts[j]'(by omega)).pid) → (ActP p k hk ↔ (y < p.acts[k].pid ∧ p.acts[k].pid < p.next ∧ acB p.code p.acts[k] = true))) := fun k hk y h0 h1 => by
    constructor
    · rintro ⟨a, b, c⟩
      refine ⟨?_, b, a⟩
      rcases Nat.eq_zero_or_pos k with hk0 | hk0
      · have := h0 hk0; have := acB_pid a; omega
      · obtain ⟨m, rfl⟩ : ∃ m, k = m + 1 := ⟨k - 1, by omega⟩
        rw [h1 m rfl]; exact c m rfl
    · rintro ⟨a, b, c⟩
      exact ⟨c, b, fun j hj => by rw [← h1 j hj]; exact a⟩
  have hl := hr.a1
  unfold maxLen at hl
  obtain ⟨code, acts, next, out⟩ := p
  obtain ⟨ca, cc, aa, ac, oa, oc⟩ := h
  dsimp only at hl KAC KLI HNO HIS HROW HAT
  obtain ⟨w0, hw0⟩ : ∃ w0, w0 = w.alloc (.cells #[.slice ca code.length cc, .slice aa acts.length ac, .int .i64 next, .slice oa out.length oc] 33) := ⟨_, rfl⟩
  have hb0 : Below w.heap.size w w0 := by rw [hw0]; exact (Below.refl _ _).alloc (Nat.le_refl _) _
  have HB0 : Hid (Below w.heap.size w w0) := hb0
  have q0 : ∀ x, w0.cell? ⟨w.heap.size, x, none⟩ = (#[.slice ca code.length cc, .slice aa acts.length ac, .int .i64 next, .slice oa out.length oc] : Array Value)[x]? := fun x => by rw [hw0, World.cell?_alloc_new]
  have hz0 : w.heap.size < w0.heap.size := by rw [hw0, World.size_alloc]; omega
  have HQ : Hid (∀ wc, Below w0.heap.size w0 wc → wc.cell? ⟨w.heap.size, 0, none⟩ = some (.slice ca code.length cc) ∧ wc.cell? ⟨w.heap.size, 1, none⟩ = some (.slice aa acts.length ac) ∧ wc.cell? ⟨w.heap.size, 2, none⟩ = some (.int .i64 next)) := fun wc hb => ⟨keepA hb (q0 0), keepA hb (q0 1), keepA hb (q0 2)⟩
  have HW : Hid (∀ wc, Below w0.heap.size w0 wc → Below w.heap.size w wc) := fun wc hb => HB0.out.trans (hb.mono HB0.out.size)
  clear hr hs hb0 q0 hz0 hS hP hE
  by_cases hlong : (20 : Int) < acts.length
  · have HF : Hid (acsB ⟨code, acts, next, out⟩ = false) := HNO.out fun q => by have := q.1; dsimp only at this; omega
    go_enter Tryz.func38, Tryz.ntmps38
    go_wp2_with fail
    rw [← hw0]
    go_ret
    exact ⟨ret_bool HF.out.symm, HB0.out⟩
  have H20 : Hid (acts.length ≤ 20) := by show _ ≤ _; omega
  go_enter Tryz.func38, Tryz.ntmps38
  go_wp2_with fail
  rw [← hw0]
  clear hw0
  go_loopw [3, 13] (fun yv iv wr => ∃ (k : Nat) (y : Int), k ≤ acts.length ∧ iv = .int .i64 k ∧ yv = .int .i64 y ∧ Below w0.heap.size w0 wr ∧ (k = 0 → y = 0) ∧ (∀ j (hj : j < acts.length), j + 1 = k → y = acts[j].pid) ∧ ∀ j (hj : j < acts.length), j < k → ActP ⟨code, acts, next, out⟩ j hj) (fun _ iv _ => acts.length - (intOf iv).toNat)
  case atStart => exact ⟨0, 0, Nat.zero_le _, rfl, rfl, Below.refl _ _, fun _ => rfl, fun j _ hj => absurd hj (by omega), fun j _ hj => absurd hj (Nat.not_lt_zero _)⟩
  case round =>
    obtain ⟨k, y, hk, rfl, rfl, hb, hy0, hy1, hn⟩ := hrel
    have HB : Hid (Below w0.heap.size w0 wr) := hb
    have HN : Hid (∀ j (hj : j < acts.length), j < k → ActP ⟨code, acts, next, out⟩ j hj) := hn
    obtain ⟨d0, d1, d2⟩ := HQ.out wr hb
    clear hn hb
    by_cases hlt : k < acts.length
    · rcases HROW.out wr (HW.out _ HB.out) with h0' | ⟨b, o, rfl, hrow⟩
      · rw [h0'] at hlt; simp at hlt
      obtain ⟨hh, hbx, hac⟩ := hrow k hlt
      have HATK := HAT.out k hlt y hy0 (fun j hj => hy1 j (by omega) hj)
      have HS : Hid (ActP ⟨code, acts, next, out⟩ k hlt → ∀ j (hj : j < acts.length), j < k + 1 → ActP ⟨code, acts, next, out⟩ j hj) := fun hq j hj hjk => by
        rcases Nat.lt_or_ge j k with h | h
        · exact HN.out j hj h
        · have : j = k := by omega
          subst this; exact hq
      have HX : Hid (¬ ActP ⟨code, acts, next, out⟩ k hlt → acsB ⟨code, acts, next, out⟩ = false) := fun hq => HNO.out fun q => hq (q.2.1 k hlt)
      have HL : Hid (∀ j (hj : j < acts.length), j + 1 = k + 1 → acts[k].pid = acts[j].pid) := fun j hj hjk => by
        have : j = k := by omega
        subst this; rfl
      have c0 := hbx.c0
      have c1 := hbx.c1
      have c2 := hbx.c2
      have c3 := hbx.c3
      have c4 := hbx.c4
      obtain ⟨wa, hwa⟩ : ∃ wa, wa = wr.alloc (.cells #[.int .i64 acts[k].pid, .int .i64 acts[k].pc, .slice hh.ra acts[k].regs.length hh.rc, .slice hh.ba acts[k].box.length hh.bc, .slice hh.la acts[k].N hh.lc] 64) := ⟨_, rfl⟩
      have hba : Below wr.heap.size wr wa := by rw [hwa]; exact (Below.refl _ _).alloc (Nat.le_refl _) _
      have HBA : Hid (Below w0.heap.size w0 wa) := HB.out.trans (hba.mono HB.out.size)
      have KA : Hid (Calls Tryz.prog 79 #[.slice ca code.length cc, .agg #[.int .i64 acts[k].pid, .int .i64 acts[k].pc, .slice hh.ra acts[k].regs.length hh.rc, .slice hh.ba acts[k].box.length hh.bc, .slice hh.la acts[k].N hh.lc]] wa fun e w' => e = .returned (.bool (acB code acts[k])) ∧ Below wa.heap.size wa w') := KAC.out wa (HW.out _ HBA.out) k hlt hh (hac.below hba)
      have HQA : Hid (∀ wc, Below wa.heap.size wa wc → wc.cell? ⟨wr.heap.size, 0, none⟩ = some (.int .i64 acts[k].pid)) := fun wc hb => keepA hb (by rw [hwa, World.cell?_alloc_new]; rfl)
      have g0 := keepA hba d0
      have g2 := keepA hba d2
      rw [hwa] at g0 g2
      clear hbx hac hrow hba hy0 hy1
      generalize acB code acts[k] = qA at *
      generalize acts[k].pid = pid at *
      generalize acts[k].pc = pc at *
      generalize acts[k].regs.length = nR at *
      generalize acts[k].box.length = nB at *
      generalize acts[k].N = nL at *
      by_cases h1 : y < pid
      rotate_left
      · have HF : Hid (acsB ⟨code, acts, next, out⟩ = false) := HX.out fun q => h1 (HATK.1 q).1
        clear HATK
        go_wp2_with fail
        rw [← hwa]
        go_ret
        exact ⟨ret_bool HF.out.symm, HW.out _ HBA.out⟩
      by_cases h2 : pid < next
      rotate_left
      · have HF : Hid (acsB ⟨code, acts, next, out⟩ = false) := HX.out fun q => h2 (HATK.1 q).2.1
        clear HATK
        go_wp2_with fail
        rw [← hwa]
        go_ret
        exact ⟨ret_bool HF.out.symm, HW.out _ HBA.out⟩
      have HY : Hid (qA = true → ActP ⟨code, acts, next, out⟩ k hlt) := fun hq => HATK.2 ⟨h1, h2, hq⟩
      have HZ : Hid (qA = false → ¬ ActP ⟨code, acts, next, out⟩ k hlt) := fun hq q => by have := (HATK.1 q).2.2; rw [hq] at this; cases this
      clear HATK
      go_wp2_with (go_at_call 79; fail)
      rw [← hwa]
      clear hwa
      refine KA.out.mono ?_
      rintro e w3 ⟨rfl, hb3⟩
      have HB3 : Hid (Below w0.heap.size w0 w3) := HBA.out.trans (hb3.mono HBA.out.size)
      have a0 := HQA.out w3 hb3
      clear hb3 c0 c1 c2 c3 c4 d0 d1 d2 g0 g2
      cases qA
      · have HF : Hid (acsB ⟨code, acts, next, out⟩ = false) := HX.out (HZ.out (by trivial))
        go_wp2_with fail
        go_ret
        exact ⟨ret_bool HF.out.symm, HW.out _ HB3.out⟩
      · have HF : Hid (∀ j (hj : j < acts.length), j < k + 1 → ActP ⟨code, acts, next, out⟩ j hj) := HS.out (HY.out (by trivial))
        go_wp2_with fail
        go_roundw
        case rel => exact ⟨k + 1, pid, by omega, by go_num, rfl, HB3.out, fun h => absurd h (by omega), HL.out, HF.out⟩
        case measure => simp [intOf]; omega
    · have hall : ∀ i (hi : i < acts.length), ActP ⟨code, acts, next, out⟩ i hi := fun i hi => HN.out i hi (by omega)
      have HF : Hid (acsB ⟨code, acts, next, out⟩ = linkB acts) := HIS.out H20.out hall
      have KL : Hid (Calls Tryz.prog 80 #[.slice aa acts.length ac] wr fun e w' => e = .returned (.bool (linkB acts)) ∧ Below wr.heap.size wr w') := KLI.out wr (HW.out _ HB.out) hall
      clear hall hy0 hy1
      generalize linkB acts = q at *
      go_wp2_with (go_at_call 80; refine KL.out.mono ?_; rintro e w3 ⟨rfl, hb3⟩; have HB3 : Hid (Below w0.heap.size w0 w3) := HB.out.trans (hb3.mono HB.out.size); clear hb3)
      go_ret
      exact ⟨ret_bool HF.out.symm, HW.out _ HB3.out⟩

set_option maxHeartbeats 4000000 in
set_option maxRecDepth 100000 in
theorem implPlainOk_any (p : Pl) (h : Pw) (w : World) (hr : PlR w p h) (hs : PlS p) (hS : Shp w) (hP : Pow w) (hE : Es.Ety w) :
    Calls Tryz.prog 10 #[plV p h] w fun e w' => e = .returned (.bool (plB p)) ∧ Below w.heap.size w w' := by
  have KCO : Hid (∀ (wc : World), Below w.heap.size w wc → Calls Tryz.prog 37 #[.slice h.ca p.code.length h.cc] wc fun e w' => e = .returned (.bool (codeB p.code)) ∧ Below wc.heap.size wc w') := fun wc hb => implCode_any p.code h.ca h.cc wc (hr.code.below hb) hr.sm hr.c1 (hS.below hb) (hP.below hb) (hE.below hb)
  have KAC : Hid (∀ (wc : World), Below w.heap.size w wc → Calls Tryz.prog 38 #[plV p h] wc fun e w' => e = .returned (.bool (acsB p)) ∧ Below wc.heap.size wc w') := fun wc hb => actorsOk_any p h wc (hr.below hb) hs (hS.below hb) (hP.below hb) (hE.below hb)
  have KOU : Hid (∀ (wc : World), Below w.heap.size w wc → Calls Tryz.prog 39 #[.slice h.oa p.out.length h.oc] wc fun e w' => e = .returned (.bool (saidB p.out)) ∧ Below wc.heap.size wc w') := fun wc hb => outOk_any p.out h.oa h.oc wc (hr.out.below hb) hr.o1
  have HNO : Hid (¬ PlP p → plB p = false) := plB_no
  have HIS : Hid (codeB p.code = true → (1 ≤ p.next ∧ p.next ≤ 90000) → acsB p = true → plB p = saidB p.out) := plB_is
  have HNA : Hid (acsB p = false → ¬ PlP p) := fun hq q => by rw [acsB_yes q.2.2.1] at hq; cases hq
  obtain ⟨code, acts, next, out⟩ := p
  obtain ⟨ca, cc, aa, ac, oa, oc⟩ := h
  dsimp only at KCO KAC KOU HNO HIS HNA
  obtain ⟨w0, hw0⟩ : ∃ w0, w0 = w.alloc (.cells #[.slice ca code.length cc, .slice aa acts.length ac, .int .i64 next, .slice oa out.length oc] 33) := ⟨_, rfl⟩
  have hb0 : Below w.heap.size w w0 := by rw [hw0]; exact (Below.refl _ _).alloc (Nat.le_refl _) _
  have HB0 : Hid (Below w.heap.size w w0) := hb0
  have q0 : ∀ x, w0.cell? ⟨w.heap.size, x, none⟩ = (#[.slice ca code.length cc, .slice aa acts.length ac, .int .i64 next, .slice oa out.length oc] : Array Value)[x]? := fun x => by rw [hw0, World.cell?_alloc_new]
  have HQ : Hid (∀ wc, Below w0.heap.size w0 wc → wc.cell? ⟨w.heap.size, 0, none⟩ = some (.slice ca code.length cc) ∧ wc.cell? ⟨w.heap.size, 1, none⟩ = some (.slice aa acts.length ac) ∧ wc.cell? ⟨w.heap.size, 2, none⟩ = some (.int .i64 next) ∧ wc.cell? ⟨w.heap.size, 3, none⟩ = some (.slice oa out.length oc)) := fun wc hb => ⟨keepA hb (q0 0), keepA hb (q0 1), keepA hb (q0 2), keepA hb (q0 3)⟩
  have HW : Hid (∀ wc, Below w0.heap.size w0 wc → Below w.heap.size w wc) := fun wc hb => HB0.out.trans (hb.mono HB0.out.size)
  clear hr hs hb0 q0 hS hP hE
  go_enter Tryz.func10, Tryz.ntmps10
  go_wp2_with (go_at_call 37; fail)
  rw [← hw0]
  clear hw0
  refine (KCO.out w0 HB0.out).mono ?_
  rintro e w1 ⟨he, hb1⟩
  have HB1 : Hid (Below w0.heap.size w0 w1) := hb1
  obtain ⟨d0, d1, d2, d3⟩ := HQ.out w1 hb1
  clear hb1
  cases hc : codeB code
  · rw [hc] at he; subst he
    have HF : Hid (plB ⟨code, acts, next, out⟩ = false) := HNO.out fun q => by have := q.1; dsimp only at this; rw [hc] at this; cases this
    clear hc
    go_wp2_with fail
    go_ret
    exact ⟨ret_bool HF.out.symm, HW.out _ HB1.out⟩
  rw [hc] at he; subst he
  have HC1 : Hid (codeB code = true) := hc
  clear hc
  by_cases h2 : 1 ≤ next
  rotate_left
  · have HF : Hid (plB ⟨code, acts, next, out⟩ = false) := HNO.out fun q => h2 q.2.1.1
    go_wp2_with fail
    go_ret
    exact ⟨ret_bool HF.out.symm, HW.out _ HB1.out⟩
  by_cases h3 : next ≤ 90000
  rotate_left
  · have HF : Hid (plB ⟨code, acts, next, out⟩ = false) := HNO.out fun q => h3 q.2.1.2
    go_wp2_with fail
    go_ret
    exact ⟨ret_bool HF.out.symm, HW.out _ HB1.out⟩
  go_wp2_with (go_at_call 38; fail)
  refine (KAC.out w1 (HW.out _ HB1.out)).mono ?_
  rintro e w2 ⟨he, hb2⟩
  have HB2 : Hid (Below w0.heap.size w0 w2) := HB1.out.trans (hb2.mono HB1.out.size)
  clear hb2 d0 d1 d2 d3
  obtain ⟨d0, d1, d2, d3⟩ := HQ.out w2 HB2.out
  cases h4 : acsB ⟨code, acts, next, out⟩
  · rw [h4] at he; subst he
    have HF : Hid (plB ⟨code, acts, next, out⟩ = false) := HNO.out (HNA.out h4)
    clear h4
    go_wp2_with fail
    go_ret
    exact ⟨ret_bool HF.out.symm, HW.out _ HB2.out⟩
  rw [h4] at he; subst he
  have HF : Hid (plB ⟨code, acts, next, out⟩ = saidB out) := HIS.out HC1.out ⟨h2, h3⟩ h4
  clear h4
  go_wp2_with (go_at_call 39; fail)
  refine (KOU.out w2 (HW.out _ HB2.out)).mono ?_
  rintro e w3 ⟨rfl, hb3⟩
  have HB3 : Hid (Below w0.heap.size w0 w3) := HB2.out.trans (hb3.mono HB2.out.size)
  clear hb3 d0 d1 d2 d3
  generalize saidB out = q at *
  go_wp2_with fail
  go_ret
  exact ⟨ret_bool HF.out.symm, HW.out _ HB3.out⟩
end Go.Proofs.YtgbopbpiciopdaaGreatDoor
