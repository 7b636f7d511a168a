/-
  The program's ReadTerm and GensRead.
-/
import Derived.Test.YtadihpbleomlkaaRgH
namespace Go.Proofs.Ytadihpbleomlkaa.Gn
open Go.RowKit
set_option linter.unusedVariables false

theorem heapFrom_any (wv : Option Addr) (N cap : Nat) (w : World) : Calls Try.prog 58 #[.agg #[.slice wv N cap]] w fun e w' => e = .returned (.func (.func 84) #[] #[.pointer (some ⟨w.heap.size, 0, none⟩)]) ∧ w' = w.alloc (.cells #[.slice wv N cap] 32) := by
  have hmf : ∀ (fn : Fn) (first cap : Array Value) (w : World), (Instr.makeFunc fn first cap).run Try.prog w = .ok (.func fn first cap) w := fun _ _ _ _ => rfl
  go_enter Try.func58, Try.ntmps58
  go_wp2_with fail
  go_ret
  exact ⟨rfl, rfl⟩
theorem gensFrom_any (wv : Option Addr) (N cap : Nat) (yv : Option Addr) (M ycap : Nat) (k : Int) (w : World) : Calls Try.prog 67 #[.agg #[.slice wv N cap, .slice yv M ycap, .int .i64 k]] w fun e w' => e = .returned (.func (.func 97) #[] #[.pointer (some ⟨w.heap.size, 0, none⟩)]) ∧ w' = w.alloc (.cells #[.slice wv N cap, .slice yv M ycap, .int .i64 k] 57) := by
  have hmf : ∀ (fn : Fn) (first cap : Array Value) (w : World), (Instr.makeFunc fn first cap).run Try.prog w = .ok (.func fn first cap) w := fun _ _ _ _ => rfl
  go_enter Try.func67, Try.ntmps67
  go_wp2_with fail
  go_ret
  exact ⟨rfl, rfl⟩

/-! ### A heap -/
/-- The heap E, told by the function value whose variable stands in the block gb of W. -/
abbrev ofHeap (E : Ytadihpbleomlkaa.Env) (W : World) (gb : Nat) : Env := ⟨flat E.H, W, 0, 84, gb, fun _ => E.b, fun p => E.o + p, E.av, E.ab, E.ao, E.acap⟩
theorem ofHeap_src {E : Ytadihpbleomlkaa.Env} {W : World} {gb : Nat} (h : Ytadihpbleomlkaa.Src E W) (hl : Lst E.wv E.b E.o E.H.N E.cap) (hc : W.cell? ⟨gb, 0, none⟩ = some (.slice E.wv E.H.N E.cap)) : Src (ofHeap E W gb) := by
  refine ⟨flat_ok h.ok, ⟨.inl rfl, fun w p ha hp => ?_, fun p j hj => ?_⟩, h.al, h.ats, fun p j => h.big _, h.txt⟩
  · exact heapTells E.wv E.b E.o E.H.N E.cap p gb hl h.ok.n hp w (ha.cell hc)
  · have hj' : j < E.H.N - p := hj
    show W.cell? ⟨E.b, E.o + p + j, none⟩ = some (.int .i64 (E.H.f (p + j)))
    rw [Nat.add_assoc]
    exact h.ws (p + j) (by omega)
theorem off_form {o : Option Tm} {e : Ending} {w' : World} {lo : Nat} (h : (∃ t v, o = some t ∧ e = .returned (.tuple #[v, .bool true]) ∧ OwV w' lo w'.heap.size t v) ∨ (o = none ∧ e = .returned (.tuple #[zT, .bool false]))) :
    ∃ va vb vc vd ve vf ok, e = .returned (.tuple #[.agg #[.int .i64 va, .int .i64 vb, .string vc, .slice vd ve vf], .bool ok]) ∧ ((∃ t, o = some t ∧ ok = true ∧ OwV w' lo w'.heap.size t (.agg #[.int .i64 va, .int .i64 vb, .string vc, .slice vd ve vf])) ∨ (o = none ∧ ok = false ∧ (.agg #[.int .i64 va, .int .i64 vb, .string vc, .slice vd ve vf]) = zT)) := by
  rcases h with ⟨t, v, h1, rfl, h3⟩ | ⟨h1, rfl⟩
  · obtain ⟨va, vb, vc, vd, ve, vf, rfl⟩ := h3.form
    exact ⟨va, vb, vc, vd, ve, vf, true, rfl, .inl ⟨t, h1, rfl, h3⟩⟩
  · exact ⟨0, 0, _, _, _, _, false, rfl, .inr ⟨h1, rfl, rfl⟩⟩
set_option maxHeartbeats 2000000 in
set_option maxRecDepth 100000 in
theorem implRead_any (E : Ytadihpbleomlkaa.Env) (w : World) (h : Ytadihpbleomlkaa.Src E w) (hl : Lst E.wv E.b E.o E.H.N E.cap) (x : Int) (hx : x ≤ 9223372036854775807) :
    Calls Try.prog 26 #[.agg #[.slice E.wv E.H.N E.cap], .slice E.av E.H.A.length E.acap, .int .i64 x] w fun e w' => Below w.heap.size w w' ∧
      ((∃ t v, Ytadihpbleomlkaa.readT E.H x = some t ∧ e = .returned (.tuple #[v, .bool true]) ∧ OwV w' (w.heap.size) w'.heap.size t v) ∨ (Ytadihpbleomlkaa.readT E.H x = none ∧ e = .returned (.tuple #[zT, .bool false]))) := by
  have HS : Hid (Ytadihpbleomlkaa.Src E w) := h
  have HL : Hid (Lst E.wv E.b E.o E.H.N E.cap) := hl
  have HX : Hid (x ≤ 9223372036854775807) := hx
  clear h hl hx
  go_enter Try.func26, Try.ntmps26
  go_wp2_with fail
  refine (heapFrom_any _ _ _ _).mono ?_
  rintro e w1 ⟨rfl, hw1⟩
  obtain ⟨wa, hwa⟩ : ∃ wa, wa = w.alloc (.cells #[.slice E.wv E.H.N E.cap] 32) := ⟨_, rfl⟩
  have hsa : wa.heap.size = w.heap.size + 1 := by rw [hwa, World.size_alloc]
  have hba : Below w.heap.size w wa := by rw [hwa]; exact (Below.refl _ _).alloc (Nat.le_refl _) _
  rw [← hwa] at hw1 ⊢
  obtain ⟨wb, hwb⟩ : ∃ wb, wb = wa.alloc (.cells #[.int .i64 0, .int .i64 0, .string ⟨#[]⟩, .slice none 0 0] 39) := ⟨_, rfl⟩
  have hsb : wb.heap.size = w.heap.size + 2 := by rw [hwb, World.size_alloc, hsa]
  have hbb : Below w.heap.size w wb := by rw [hwb]; exact hba.alloc (by omega) _
  have qb : ∀ o, wb.cell? ⟨wa.heap.size, o, none⟩ = (#[.int .i64 0, .int .i64 0, .string ⟨#[]⟩, .slice none 0 0] : Array Value)[o]? := fun o => by rw [hwb]; exact World.cell?_alloc_new wa _ _ o
  have fb : ∀ o, wb.frozen? ⟨wa.heap.size, o, none⟩ = false := fun o => by rw [hwb]; exact World.frozen?_alloc_new wa _ _ o
  rw [← hwb] at hw1 ⊢
  have hs1 : w1.heap.size = w.heap.size + 3 := by rw [hw1, World.size_alloc, hsb]
  have hb1 : Below w.heap.size w w1 := by rw [hw1]; exact hbb.alloc (by omega) _
  have kb1 : Below wb.heap.size wb w1 := by rw [hw1]; exact (Below.refl _ _).alloc (Nat.le_refl _) _
  have q1 : ∀ o, w1.cell? ⟨wa.heap.size, o, none⟩ = (#[.int .i64 0, .int .i64 0, .string ⟨#[]⟩, .slice none 0 0] : Array Value)[o]? := fun o => by rw [kb1.cell (p := ⟨wa.heap.size, o, none⟩) (by show wa.heap.size < _; omega)]; exact qb o
  have f1 : ∀ o, w1.frozen? ⟨wa.heap.size, o, none⟩ = false := fun o => by rw [kb1.frozen (p := ⟨wa.heap.size, o, none⟩) (by show wa.heap.size < _; omega)]; exact fb o
  have HSR : Hid (Src (ofHeap E w1 wb.heap.size)) := ofHeap_src (HS.out.below hb1) HL.out (by rw [hw1]; exact World.cell?_alloc_new wb _ _ 0)
  have HB1 : Hid (Below w.heap.size w w1) := hb1
  clear hw1 hwb hwa qb fb kb1 hb1 hbb hba
  have HC : Hid (Calls Try.prog 57 #[.func (.func 84) #[] #[.pointer (some ⟨wb.heap.size, 0, none⟩)], .slice E.av E.H.A.length E.acap, .int .i64 x] w1 fun e w5 => ∃ va vb vc vd ve vf ok, e = .returned (.tuple #[.agg #[.int .i64 va, .int .i64 vb, .string vc, .slice vd ve vf], .bool ok]) ∧ Below w1.heap.size w1 w5 ∧ ((∃ t, Ytadihpbleomlkaa.readT E.H x = some t ∧ ok = true ∧ OwV w5 w1.heap.size w5.heap.size t (.agg #[.int .i64 va, .int .i64 vb, .string vc, .slice vd ve vf])) ∨ (Ytadihpbleomlkaa.readT E.H x = none ∧ ok = false ∧ (.agg #[.int .i64 va, .int .i64 vb, .string vc, .slice vd ve vf]) = zT)) ∧ (∀ o, w5.cell? ⟨w.heap.size + 1, o, none⟩ = (#[.int .i64 0, .int .i64 0, .string ⟨#[]⟩, .slice none 0 0] : Array Value)[o]?) ∧ (∀ o, w5.frozen? ⟨w.heap.size + 1, o, none⟩ = false)) := by
    refine Calls.mono (readOff_any (ofHeap E w1 wb.heap.size) w1 rfl HSR.out x HX.out) ?_
    rintro e w5 ⟨hb5, hh5⟩
    obtain ⟨va, vb, vc, vd, ve, vf, ok, rfl, hh6⟩ := off_form hh5
    refine ⟨va, vb, vc, vd, ve, vf, ok, rfl, hb5, ?_, fun o => ?_, fun o => ?_⟩
    · rw [← flat_readT]; exact hh6
    · rw [← hsa, hb5.cell (p := ⟨wa.heap.size, o, none⟩) (by show wa.heap.size < _; omega)]; exact q1 o
    · rw [← hsa, hb5.frozen (p := ⟨wa.heap.size, o, none⟩) (by show wa.heap.size < _; omega)]; exact f1 o
  have HZ : Hid (wa.heap.size = w.heap.size + 1 ∧ wb.heap.size = w.heap.size + 2 ∧ w1.heap.size = w.heap.size + 3) := ⟨hsa, hsb, hs1⟩
  clear q1 f1 hsa hsb hs1
  go_wp2_with (go_at_call 57; refine HC.out.mono ?_; rintro e w5 ⟨va, vb, vc, vd, ve, vf, ok, rfl, hb5, hh5, q5, f5⟩; have HB5 : Hid (Below w1.heap.size w1 w5) := hb5; have HH6 : Hid (((∃ t, Ytadihpbleomlkaa.readT E.H x = some t ∧ ok = true ∧ OwV w5 w1.heap.size w5.heap.size t (.agg #[.int .i64 va, .int .i64 vb, .string vc, .slice vd ve vf])) ∨ (Ytadihpbleomlkaa.readT E.H x = none ∧ ok = false ∧ (.agg #[.int .i64 va, .int .i64 vb, .string vc, .slice vd ve vf]) = zT))) := hh5; clear hb5 hh5)
  obtain ⟨hsa, hsb, hs1⟩ := HZ.out
  have hb6 : Below w.heap.size w w5 := HB1.out.trans (HB5.out.mono HB1.out.size)
  have hpost : Below w.heap.size w (lay4 w5 (w.heap.size + 1) (.int .i64 va) (.int .i64 vb) (.string vc) (.slice vd ve vf)) ∧ ((∃ t v, Ytadihpbleomlkaa.readT E.H x = some t ∧ Ending.returned (.tuple #[.agg #[.int .i64 va, .int .i64 vb, .string vc, .slice vd ve vf], .bool ok]) = .returned (.tuple #[v, .bool true]) ∧ OwV (lay4 w5 (w.heap.size + 1) (.int .i64 va) (.int .i64 vb) (.string vc) (.slice vd ve vf)) w.heap.size (lay4 w5 (w.heap.size + 1) (.int .i64 va) (.int .i64 vb) (.string vc) (.slice vd ve vf)).heap.size t v) ∨ (Ytadihpbleomlkaa.readT E.H x = none ∧ Ending.returned (.tuple #[.agg #[.int .i64 va, .int .i64 vb, .string vc, .slice vd ve vf], .bool ok]) = .returned (.tuple #[zT, .bool false]))) := by
    refine ⟨lay4_below hb6 (by omega) _ _ _ _, ?_⟩
    rcases HH6.out with ⟨t, h1, rfl, h3⟩ | ⟨h1, rfl, h3⟩
    · refine .inl ⟨t, _, h1, rfl, ((OwV.keep (fun b' h1 h2 hbl => ?_) h3).mono (by omega) (Nat.le_of_eq ?_))⟩
      · exact lay4_heap (by omega)
      · exact lay4_size.symm
    · exact .inr ⟨h1, by rw [h3]⟩
  exact bodyPost_ret (v := .tuple #[.agg #[.int .i64 va, .int .i64 vb, .string vc, .slice vd ve vf], .bool ok]) (by simp [results, Try.results26, go_sem, q5]) rfl hpost

/-! ### Two lists -/
/-- Both lists, their mark, and the atoms: where they stand. -/
structure GE where
  N : Nat
  f : Nat → Int
  wv : Option Addr
  b : Nat
  o : Nat
  cap : Nat
  M : Nat
  g : Nat → Int
  yv : Option Addr
  yb : Nat
  yo : Nat
  ycap : Nat
  mark : Int
  A : List ByteArray
  av : Option Addr
  ab : Nat
  ao : Nat
  acap : Nat
def GE.len (G : GE) (p : Nat) : Nat := if p < 100000 then G.N - p else G.M - (p - 100000)
def GE.w (G : GE) (p j : Nat) : Int := if p < 100000 then G.f (p + j) else G.g (p - 100000 + j)
def GE.H (G : GE) : Hp := ⟨G.len, G.w, G.A⟩
structure GSrc (G : GE) (w : World) : Prop where
  n : G.N ≤ 1048576
  m : G.M ≤ 1048576
  a : G.A.length ≤ 1048576
  ol : Lst G.wv G.b G.o G.N G.cap
  yl : Lst G.yv G.yb G.yo G.M G.ycap
  al : G.A.length ≠ 0 → G.av = some ⟨G.ab, G.ao, none⟩
  ws : ∀ j, j < G.N → w.cell? ⟨G.b, G.o + j, none⟩ = some (.int .i64 (G.f j))
  ys : ∀ j, j < G.M → w.cell? ⟨G.yb, G.yo + j, none⟩ = some (.int .i64 (G.g j))
  ats : Txt w G.ab G.ao G.A
  big : ∀ j, G.f j ≤ 9223372036854775807
  bigy : ∀ j, G.g j ≤ 9223372036854775807
  txt : ∀ s, s ∈ G.A → s.size ≤ maxLen
theorem GSrc.below {E : GE} {w w' : World} (h : GSrc E w) (hb : Below w.heap.size w w') : GSrc E w' := by
  have e : ∀ b o v, w.cell? ⟨b, o, none⟩ = some v → w'.cell? ⟨b, o, none⟩ = some v := fun b o v hc => by
    rw [hb.cell (p := ⟨b, o, none⟩) (World.block_lt_of_cell? w _ hc)]; exact hc
  exact ⟨h.n, h.m, h.a, h.ol, h.yl, h.al, fun j hj => e _ _ _ (h.ws j hj), fun j hj => e _ _ _ (h.ys j hj), h.ats.below hb, h.big, h.bigy, h.txt⟩
theorem GE.ok {G : GE} (n : G.N ≤ 1048576) (m : G.M ≤ 1048576) (a : G.A.length ≤ 1048576) : G.H.ok := by
  refine ⟨fun p => ?_, fun p hp => ?_, a⟩
  · show G.len p ≤ _
    unfold GE.len
    split <;> omega
  · have hp' : G.len p ≠ 0 := hp
    unfold GE.len at hp'
    split at hp' <;> omega
abbrev ofGens (G : GE) (W : World) (gb : Nat) : Env := ⟨G.H, W, 0, 97, gb, fun p => if p < 100000 then G.b else G.yb, fun p => if p < 100000 then G.o + p else G.yo + (p - 100000), G.av, G.ab, G.ao, G.acap⟩
theorem ofGens_src {E : GE} {W : World} {gb : Nat} (h : GSrc E W) (hc : W.cell? ⟨gb, 0, none⟩ = some (.slice E.wv E.N E.cap)) (hd : W.cell? ⟨gb, 1, none⟩ = some (.slice E.yv E.M E.ycap)) : Src (ofGens E W gb) := by
  refine ⟨GE.ok h.n h.m h.a, ⟨.inr rfl, fun w p ha hp => ?_, fun p j hj => ?_⟩, h.al, h.ats, fun p j => ?_, h.txt⟩
  · exact gensTells E.wv E.b E.o E.N E.cap E.yv E.yb E.yo E.M E.ycap p gb h.ol h.yl h.n h.m hp w (ha.cell hc) (ha.cell hd)
  · have hj' : j < E.len p := hj
    show W.cell? ⟨if p < 100000 then E.b else E.yb, (if p < 100000 then E.o + p else E.yo + (p - 100000)) + j, none⟩ = some (.int .i64 (E.w p j))
    unfold GE.len at hj'
    unfold GE.w
    by_cases h1 : p < 100000
    · rw [if_pos h1] at hj' ⊢
      rw [if_pos h1, if_pos h1, Nat.add_assoc]
      exact h.ws (p + j) (by omega)
    · rw [if_neg h1] at hj' ⊢
      rw [if_neg h1, if_neg h1, Nat.add_assoc]
      exact h.ys (p - 100000 + j) (by omega)
  · show E.w p j ≤ _
    unfold GE.w
    split
    · exact h.big _
    · exact h.bigy _
set_option maxHeartbeats 2000000 in
set_option maxRecDepth 100000 in
theorem implGensRead_any (E : GE) (w : World) (h : GSrc E w) (x : Int) (hx : x ≤ 9223372036854775807) :
    Calls Try.prog 40 #[.agg #[.slice E.wv E.N E.cap, .slice E.yv E.M E.ycap, .int .i64 E.mark], .slice E.av E.A.length E.acap, .int .i64 x] w fun e w' => Below w.heap.size w w' ∧
      ((∃ t v, readT E.H x = some t ∧ e = .returned (.tuple #[v, .bool true]) ∧ OwV w' (w.heap.size) w'.heap.size t v) ∨ (readT E.H x = none ∧ e = .returned (.tuple #[zT, .bool false]))) := by
  have HS : Hid (GSrc E w) := h
  have HX : Hid (x ≤ 9223372036854775807) := hx
  clear h hx
  go_enter Try.func40, Try.ntmps40
  go_wp2_with fail
  refine (gensFrom_any _ _ _ _ _ _ _ _).mono ?_
  rintro e w1 ⟨rfl, hw1⟩
  obtain ⟨wa, hwa⟩ : ∃ wa, wa = w.alloc (.cells #[.slice E.wv E.N E.cap, .slice E.yv E.M E.ycap, .int .i64 E.mark] 57) := ⟨_, rfl⟩
  have hsa : wa.heap.size = w.heap.size + 1 := by rw [hwa, World.size_alloc]
  have hba : Below w.heap.size w wa := by rw [hwa]; exact (Below.refl _ _).alloc (Nat.le_refl _) _
  rw [← hwa] at hw1 ⊢
  obtain ⟨wb, hwb⟩ : ∃ wb, wb = wa.alloc (.cells #[.int .i64 0, .int .i64 0, .string ⟨#[]⟩, .slice none 0 0] 39) := ⟨_, rfl⟩
  have hsb : wb.heap.size = w.heap.size + 2 := by rw [hwb, World.size_alloc, hsa]
  have hbb : Below w.heap.size w wb := by rw [hwb]; exact hba.alloc (by omega) _
  have qb : ∀ o, wb.cell? ⟨wa.heap.size, o, none⟩ = (#[.int .i64 0, .int .i64 0, .string ⟨#[]⟩, .slice none 0 0] : Array Value)[o]? := fun o => by rw [hwb]; exact World.cell?_alloc_new wa _ _ o
  have fb : ∀ o, wb.frozen? ⟨wa.heap.size, o, none⟩ = false := fun o => by rw [hwb]; exact World.frozen?_alloc_new wa _ _ o
  rw [← hwb] at hw1 ⊢
  have hs1 : w1.heap.size = w.heap.size + 3 := by rw [hw1, World.size_alloc, hsb]
  have hb1 : Below w.heap.size w w1 := by rw [hw1]; exact hbb.alloc (by omega) _
  have kb1 : Below wb.heap.size wb w1 := by rw [hw1]; exact (Below.refl _ _).alloc (Nat.le_refl _) _
  have q1 : ∀ o, w1.cell? ⟨wa.heap.size, o, none⟩ = (#[.int .i64 0, .int .i64 0, .string ⟨#[]⟩, .slice none 0 0] : Array Value)[o]? := fun o => by rw [kb1.cell (p := ⟨wa.heap.size, o, none⟩) (by show wa.heap.size < _; omega)]; exact qb o
  have f1 : ∀ o, w1.frozen? ⟨wa.heap.size, o, none⟩ = false := fun o => by rw [kb1.frozen (p := ⟨wa.heap.size, o, none⟩) (by show wa.heap.size < _; omega)]; exact fb o
  have HSR : Hid (Src (ofGens E w1 wb.heap.size)) := ofGens_src (HS.out.below hb1) (by rw [hw1]; exact World.cell?_alloc_new wb _ _ 0) (by rw [hw1]; exact World.cell?_alloc_new wb _ _ 1)
  have HB1 : Hid (Below w.heap.size w w1) := hb1
  clear hw1 hwb hwa qb fb kb1 hb1 hbb hba
  have HC : Hid (Calls Try.prog 57 #[.func (.func 97) #[] #[.pointer (some ⟨wb.heap.size, 0, none⟩)], .slice E.av E.A.length E.acap, .int .i64 x] w1 fun e w5 => ∃ va vb vc vd ve vf ok, e = .returned (.tuple #[.agg #[.int .i64 va, .int .i64 vb, .string vc, .slice vd ve vf], .bool ok]) ∧ Below w1.heap.size w1 w5 ∧ ((∃ t, readT E.H x = some t ∧ ok = true ∧ OwV w5 w1.heap.size w5.heap.size t (.agg #[.int .i64 va, .int .i64 vb, .string vc, .slice vd ve vf])) ∨ (readT E.H x = none ∧ ok = false ∧ (.agg #[.int .i64 va, .int .i64 vb, .string vc, .slice vd ve vf]) = zT)) ∧ (∀ o, w5.cell? ⟨w.heap.size + 1, o, none⟩ = (#[.int .i64 0, .int .i64 0, .string ⟨#[]⟩, .slice none 0 0] : Array Value)[o]?) ∧ (∀ o, w5.frozen? ⟨w.heap.size + 1, o, none⟩ = false)) := by
    refine Calls.mono (readOff_any (ofGens E w1 wb.heap.size) w1 rfl HSR.out x HX.out) ?_
    rintro e w5 ⟨hb5, hh5⟩
    obtain ⟨va, vb, vc, vd, ve, vf, ok, rfl, hh6⟩ := off_form hh5
    refine ⟨va, vb, vc, vd, ve, vf, ok, rfl, hb5, ?_, fun o => ?_, fun o => ?_⟩
    · exact hh6
    · rw [← hsa, hb5.cell (p := ⟨wa.heap.size, o, none⟩) (by show wa.heap.size < _; omega)]; exact q1 o
    · rw [← hsa, hb5.frozen (p := ⟨wa.heap.size, o, none⟩) (by show wa.heap.size < _; omega)]; exact f1 o
  have HZ : Hid (wa.heap.size = w.heap.size + 1 ∧ wb.heap.size = w.heap.size + 2 ∧ w1.heap.size = w.heap.size + 3) := ⟨hsa, hsb, hs1⟩
  clear q1 f1 hsa hsb hs1
  go_wp2_with (go_at_call 57; refine HC.out.mono ?_; rintro e w5 ⟨va, vb, vc, vd, ve, vf, ok, rfl, hb5, hh5, q5, f5⟩; have HB5 : Hid (Below w1.heap.size w1 w5) := hb5; have HH6 : Hid (((∃ t, readT E.H x = some t ∧ ok = true ∧ OwV w5 w1.heap.size w5.heap.size t (.agg #[.int .i64 va, .int .i64 vb, .string vc, .slice vd ve vf])) ∨ (readT E.H x = none ∧ ok = false ∧ (.agg #[.int .i64 va, .int .i64 vb, .string vc, .slice vd ve vf]) = zT))) := hh5; clear hb5 hh5)
  obtain ⟨hsa, hsb, hs1⟩ := HZ.out
  have hb6 : Below w.heap.size w w5 := HB1.out.trans (HB5.out.mono HB1.out.size)
  have hpost : Below w.heap.size w (lay4 w5 (w.heap.size + 1) (.int .i64 va) (.int .i64 vb) (.string vc) (.slice vd ve vf)) ∧ ((∃ t v, readT E.H x = some t ∧ Ending.returned (.tuple #[.agg #[.int .i64 va, .int .i64 vb, .string vc, .slice vd ve vf], .bool ok]) = .returned (.tuple #[v, .bool true]) ∧ OwV (lay4 w5 (w.heap.size + 1) (.int .i64 va) (.int .i64 vb) (.string vc) (.slice vd ve vf)) w.heap.size (lay4 w5 (w.heap.size + 1) (.int .i64 va) (.int .i64 vb) (.string vc) (.slice vd ve vf)).heap.size t v) ∨ (readT E.H x = none ∧ Ending.returned (.tuple #[.agg #[.int .i64 va, .int .i64 vb, .string vc, .slice vd ve vf], .bool ok]) = .returned (.tuple #[zT, .bool false]))) := by
    refine ⟨lay4_below hb6 (by omega) _ _ _ _, ?_⟩
    rcases HH6.out with ⟨t, h1, rfl, h3⟩ | ⟨h1, rfl, h3⟩
    · refine .inl ⟨t, _, h1, rfl, ((OwV.keep (fun b' h1 h2 hbl => ?_) h3).mono (by omega) (Nat.le_of_eq ?_))⟩
      · exact lay4_heap (by omega)
      · exact lay4_size.symm
    · exact .inr ⟨h1, by rw [h3]⟩
  exact bodyPost_ret (v := .tuple #[.agg #[.int .i64 va, .int .i64 vb, .string vc, .slice vd ve vf], .bool ok]) (by simp [results, Try.results40, go_sem, q5]) rfl hpost
end Go.Proofs.Ytadihpbleomlkaa.Gn
