/-
  The program reads a term by a function value that tells words.
-/
import Derived.Test.YtadihpbleomlkaaRgF
import Derived.Test.YtadihpbleomlkaaRgG
namespace Go.Proofs.Ytadihpbleomlkaa.Gn
open Go.RowKit
set_option linter.unusedVariables false

/-- The words and the atoms are there. -/
structure Src (E : Env) : Prop where
  ok : E.H.ok
  told : Told E
  al : E.H.A.length ≠ 0 → E.av = some ⟨E.ab, E.ao, none⟩
  ats : Txt E.W E.ab E.ao E.H.A
  big : ∀ p j, E.H.w p j ≤ 9223372036854775807
  txt : ∀ s, s ∈ E.H.A → s.size ≤ maxLen
theorem catch_read (B1 B2 : Nat) (z : Value) (w : World) (older : List PanicEntry) (u : TypeId) (pv : Value) (c : Array Value) (hc : c.size = 4)
    (q : ∀ o, w.cell? ⟨B1, o, none⟩ = c[o]?) (f : ∀ o, w.frozen? ⟨B1, o, none⟩ = false) (q2 : w.cell? ⟨B2, 0, none⟩ = some z) (f2 : w.frozen? ⟨B2, 0, none⟩ = false) (hn : B1 ≠ B2) :
    CallsD Try.prog 82 #[.pointer (some ⟨B1, 0, none⟩), .pointer (some ⟨B2, 0, none⟩)] (.panicking ({ v := .iface u pv, recovered := false } :: older)) w fun e u' w' =>
      e = .returned (.tuple #[]) ∧ u' = .panicking ({ v := .iface u pv, recovered := true } :: older) ∧ w' = (lay4 w B1 (.int .i64 0) (.int .i64 0) (.string ⟨#[]⟩) (.slice none 0 0)).setCell ⟨B2, 0, none⟩ (.bool false) := by
  refine callsD_of_wpS Try.func82 rfl fun c₀ cs hu => ?_
  have c0 : w.cell? ⟨B1, 0, none⟩ = some c[0] := by rw [q, Array.getElem?_eq_getElem (by omega)]
  have c1 : w.cell? ⟨B1, 1, none⟩ = some c[1] := by rw [q, Array.getElem?_eq_getElem (by omega)]
  have c2 : w.cell? ⟨B1, 2, none⟩ = some c[2] := by rw [q, Array.getElem?_eq_getElem (by omega)]
  have c3 : w.cell? ⟨B1, 3, none⟩ = some c[3] := by rw [q, Array.getElem?_eq_getElem (by omega)]
  clear q
  apply wpS_seq
  apply wpS_region
  simp [wpOpsS, go_sem, recoverD, hu, Try.ntmps82, Exit.thenS]
  refine wpS_cond (t := true) (by simp [Act.eval, Array.replicate]) ?_
  simp only [if_true]
  apply wpS_region
  simp [wpOpsS, go_sem, c0, c1, c2, c3, q2, f, f2, bodyPostS, results, Try.results82, lay4]
theorem catch_idle (p1 p2 : Value) (w : World) :
    CallsD Try.prog 82 #[p1, p2] .returning w fun e u' w' => e = .returned (.tuple #[]) ∧ u' = .returning ∧ w' = w := by
  refine callsD_of_wpS Try.func82 rfl fun c₀ cs hu => ?_
  apply wpS_seq
  apply wpS_region
  simp [wpOpsS, go_sem, recoverD, hu, Try.ntmps82, Exit.thenS]
  refine wpS_cond (t := false) (by simp [Act.eval, Array.replicate]) ?_
  simp only [Bool.false_eq_true, if_false]
  refine wpS_of_wp (wp_skip ?_)
  cases c₀
  simp_all [bodyPostS, results, Try.results82]

abbrev fvE (E : Env) : Value := .func (.func E.fk) #[] #[.pointer (some ⟨E.gb, 0, none⟩)]
abbrev E4 (E : Env) (w : World) : Env := { E with rb := w.heap.size + 1 + 1 }
theorem read_in {E : Env} {w : World} (hE : E.W = w) (h : Src E) (W : World) (hW : W = ((w.alloc (.cells #[.int .i64 0, .int .i64 0, .string ⟨#[]⟩, .slice none 0 0] 39)).alloc (.cells #[.bool false] 4)).alloc (.cells #[fvE E, .slice E.av E.H.A.length E.acap, .int .i64 100] 116)) :
    Rr (E4 E w) 100 W ∧ (∀ o, W.cell? ⟨w.heap.size, o, none⟩ = (#[.int .i64 0, .int .i64 0, .string ⟨#[]⟩, .slice none 0 0] : Array Value)[o]?) ∧ (∀ o, W.frozen? ⟨w.heap.size, o, none⟩ = false) ∧ (∀ o, W.cell? ⟨w.heap.size + 1, o, none⟩ = (#[.bool false] : Array Value)[o]?) ∧ (∀ o, W.frozen? ⟨w.heap.size + 1, o, none⟩ = false) ∧ W.heap.size = w.heap.size + 3 ∧ Below w.heap.size w W := by
  have s2 : (w.alloc (.cells #[.int .i64 0, .int .i64 0, .string ⟨#[]⟩, .slice none 0 0] 39)).heap.size = w.heap.size + 1 := by rw [World.size_alloc]
  have b2 : Below w.heap.size w (w.alloc (.cells #[.int .i64 0, .int .i64 0, .string ⟨#[]⟩, .slice none 0 0] 39)) := (Below.refl _ _).alloc (Nat.le_refl _) _
  have q2 : ∀ o, (w.alloc (.cells #[.int .i64 0, .int .i64 0, .string ⟨#[]⟩, .slice none 0 0] 39)).cell? ⟨w.heap.size, o, none⟩ = (#[.int .i64 0, .int .i64 0, .string ⟨#[]⟩, .slice none 0 0] : Array Value)[o]? := fun o => World.cell?_alloc_new w _ _ o
  have f2 : ∀ o, (w.alloc (.cells #[.int .i64 0, .int .i64 0, .string ⟨#[]⟩, .slice none 0 0] 39)).frozen? ⟨w.heap.size, o, none⟩ = false := fun o => World.frozen?_alloc_new w _ _ o
  generalize (w.alloc (.cells #[.int .i64 0, .int .i64 0, .string ⟨#[]⟩, .slice none 0 0] 39)) = w2 at *
  have s3 : (w2.alloc (.cells #[.bool false] 4)).heap.size = w.heap.size + 1 + 1 := by rw [World.size_alloc, s2]
  have b3 := b2.alloc (by omega) (.cells #[.bool false] 4)
  have k3 : Below w2.heap.size w2 (w2.alloc (.cells #[.bool false] 4)) := (Below.refl _ _).alloc (Nat.le_refl _) _
  have q3 : ∀ o, (w2.alloc (.cells #[.bool false] 4)).cell? ⟨w.heap.size + 1, o, none⟩ = (#[.bool false] : Array Value)[o]? := fun o => by rw [← s2]; exact World.cell?_alloc_new w2 _ _ o
  have f3 : ∀ o, (w2.alloc (.cells #[.bool false] 4)).frozen? ⟨w.heap.size + 1, o, none⟩ = false := fun o => by rw [← s2]; exact World.frozen?_alloc_new w2 _ _ o
  generalize (w2.alloc (.cells #[.bool false] 4)) = w3 at *
  have s4 : (w3.alloc (.cells #[fvE E, .slice E.av E.H.A.length E.acap, .int .i64 100] 116)).heap.size = w.heap.size + 3 := by rw [World.size_alloc, s3]
  have b4 := b3.alloc (by omega) (.cells #[fvE E, .slice E.av E.H.A.length E.acap, .int .i64 100] 116)
  have k4 : Below w3.heap.size w3 (w3.alloc (.cells #[fvE E, .slice E.av E.H.A.length E.acap, .int .i64 100] 116)) := (Below.refl _ _).alloc (Nat.le_refl _) _
  have q4 : ∀ o, (w3.alloc (.cells #[fvE E, .slice E.av E.H.A.length E.acap, .int .i64 100] 116)).cell? ⟨w.heap.size + 1 + 1, o, none⟩ = (#[fvE E, .slice E.av E.H.A.length E.acap, .int .i64 100] : Array Value)[o]? := fun o => by rw [← s3]; exact World.cell?_alloc_new w3 _ _ o
  have f4 : ∀ o, (w3.alloc (.cells #[fvE E, .slice E.av E.H.A.length E.acap, .int .i64 100] 116)).frozen? ⟨w.heap.size + 1 + 1, o, none⟩ = false := fun o => by rw [← s3]; exact World.frozen?_alloc_new w3 _ _ o
  generalize (w3.alloc (.cells #[fvE E, .slice E.av E.H.A.length E.acap, .int .i64 100] 116)) = W4 at *
  subst hW
  refine ⟨⟨q4 0, q4 1, q4 2, f4 2, h.ok, ⟨h.told.one, h.told.call, h.told.ws⟩, ?_, ?_, h.al, h.ats, h.big, h.txt⟩, fun o => ?_, fun o => ?_, fun o => ?_, fun o => ?_, s4, b4⟩
  · show Agr E.W _
    rw [hE]
    exact ⟨by omega, fun k hk => b4.block k hk⟩
  · show E.W.heap.size ≤ w.heap.size + 1 + 1
    rw [hE]; omega
  · rw [k4.cell (p := ⟨w.heap.size, o, none⟩) (by show w.heap.size < _; omega), k3.cell (p := ⟨w.heap.size, o, none⟩) (by show w.heap.size < _; omega)]; exact q2 o
  · rw [k4.frozen (p := ⟨w.heap.size, o, none⟩) (by show w.heap.size < _; omega), k3.frozen (p := ⟨w.heap.size, o, none⟩) (by show w.heap.size < _; omega)]; exact f2 o
  · rw [k4.cell (p := ⟨w.heap.size + 1, o, none⟩) (by show w.heap.size + 1 < _; omega)]; exact q3 o
  · rw [k4.frozen (p := ⟨w.heap.size + 1, o, none⟩) (by show w.heap.size + 1 < _; omega)]; exact f3 o
set_option maxHeartbeats 2000000 in
set_option maxRecDepth 100000 in
theorem readOff_any (E : Env) (w : World) (hE : E.W = w) (h : Src E) (x : Int) (hx : x ≤ 9223372036854775807) :
    Calls Try.prog 57 #[fvE E, .slice E.av E.H.A.length E.acap, .int .i64 x] w fun e w' => Below w.heap.size w w' ∧
      ((∃ t v, readT E.H x = some t ∧ e = .returned (.tuple #[v, .bool true]) ∧ OwV w' (w.heap.size) w'.heap.size t v) ∨ (readT E.H x = none ∧ e = .returned (.tuple #[zT, .bool false]))) := by
  have hmf : ∀ (fn : Fn) (first cap : Array Value) (w : World), (Instr.makeFunc fn first cap).run Try.prog w = .ok (.func fn first cap) w := fun _ _ _ _ => rfl
  have HS : Hid (Src E) := h
  have HEW : Hid (E.W = w) := hE
  have HX : Hid (x ≤ 9223372036854775807) := hx
  clear h hx hE
  go_enter_defers Try.func57, Try.ntmps57
  go_wp2_with fail
  generalize hW : ((w.alloc (.cells #[.int .i64 0, .int .i64 0, .string ⟨#[]⟩, .slice none 0 0] 39)).alloc (.cells #[.bool false] 4)).alloc (.cells #[fvE E, .slice E.av E.H.A.length E.acap, .int .i64 100] 116) = W
  obtain ⟨hr4, q1, f1, q2, f2, hz4, hb4⟩ := read_in HEW.out HS.out W hW.symm
  have HB4 : Hid (Below w.heap.size w W) := hb4
  clear hW hb4
  have hrt : ∀ o, rT true E.H 6 x 100 = o → readT E.H x = o.map Prod.fst := fun o h => by rw [readT, h]
  cases hq : rT true E.H 6 x 100 with
  | none =>
    have HN : Hid (readT E.H x = none) := hrt _ hq
    refine (term_no (E := E4 E w) (term_all _ 6 (Nat.le_refl _)) hr4 (by decide) HX.out hq).mono ?_
    rintro e w5 ⟨rfl, ht5⟩
    obtain ⟨q15, f15⟩ := ht5.keep (by show w.heap.size + 1 + 1 ≠ _; omega) (by omega) q1 f1
    obtain ⟨q25, f25⟩ := ht5.keep (by show w.heap.size + 1 + 1 ≠ _; omega) (by omega) q2 f2
    have HB5 : Hid (Below w.heap.size w w5) := Turn.below HB4.out (by omega) ht5 (by show _ ≤ w.heap.size + 1 + 1; omega)
    clear hr4 q1 f1 q2 f2 hrt hq ht5
    go_wp2_with fail
    refine leaves_cons (f := 82) (args := #[.pointer (some ⟨w.heap.size, 0, none⟩), .pointer (some ⟨w.heap.size + 1, 0, none⟩)]) (by simp) (by simp [go_sem]) ?_
    refine (catch_read (w.heap.size) (w.heap.size + 1) (.bool false) _ [] _ _ _ rfl q15 f15 (q25 0) (f25 0) (by omega)).mono ?_
    rintro e u' w'' ⟨rfl, rfl, rfl⟩
    simp only [settle, List.dropWhile, Leaves]
    refine ⟨.tuple #[zT, .bool false], by simp [results, Try.results57, go_sem, q15, q25, lay4], ?_⟩
    exact ⟨(lay4_below HB5.out (by omega) _ _ _ _).setCell (by show _ ≤ w.heap.size + 1; omega) _, .inr ⟨HN.out, rfl⟩⟩
  | some ty =>
    obtain ⟨t, y⟩ := ty
    have HN : Hid (readT E.H x = some t) := hrt _ hq
    refine (term_yes (E := E4 E w) (term_all _ 6 (Nat.le_refl _)) hr4 (by decide) HX.out hq).mono ?_
    rintro e w5 ⟨va, vb, vc, vd, ve, vf, rfl, ht5, hv5, hr5⟩
    obtain ⟨q15, f15⟩ := ht5.keep (by show w.heap.size + 1 + 1 ≠ _; omega) (by omega) q1 f1
    obtain ⟨q25, f25⟩ := ht5.keep (by show w.heap.size + 1 + 1 ≠ _; omega) (by omega) q2 f2
    have HB5 : Hid (Below w.heap.size w w5) := Turn.below HB4.out (by omega) ht5 (by show _ ≤ w.heap.size + 1 + 1; omega)
    have HV5 : Hid (OwV w5 (w.heap.size + 3) w5.heap.size t (.agg #[.int .i64 va, .int .i64 vb, .string vc, .slice vd ve vf])) := by rw [hz4] at hv5; exact hv5
    clear hr4 q1 f1 q2 f2 hrt hq ht5 hv5 hr5
    go_wp2_with fail
    refine leaves_cons (f := 82) (args := #[.pointer (some ⟨w.heap.size, 0, none⟩), .pointer (some ⟨w.heap.size + 1, 0, none⟩)]) (by simp) (by simp [go_sem]) ?_
    refine (catch_idle _ _ _).mono ?_
    rintro e u' w'' ⟨rfl, rfl, rfl⟩
    simp only [settle, Leaves]
    refine ⟨.tuple #[.agg #[.int .i64 va, .int .i64 vb, .string vc, .slice vd ve vf], .bool true], by simp [results, Try.results57, go_sem, q15, q25], ?_⟩
    refine ⟨(lay4_below HB5.out (by omega) _ _ _ _).setCell (by show _ ≤ w.heap.size + 1; omega) _, .inl ⟨t, _, HN.out, rfl, (OwV.keep (fun b' h1 h2 hbl => ?_) HV5.out).mono (by omega) (Nat.le_of_eq ?_)⟩⟩
    · rw [Below.heap_setCell _ ⟨w.heap.size + 1, 0, none⟩ _ b' (by show b' ≠ w.heap.size + 1; omega)]
      exact lay4_heap (by omega)
    · rw [World.size_setCell, World.size_setCell, World.size_setCell, World.size_setCell, World.size_setCell]
end Go.Proofs.Ytadihpbleomlkaa.Gn
