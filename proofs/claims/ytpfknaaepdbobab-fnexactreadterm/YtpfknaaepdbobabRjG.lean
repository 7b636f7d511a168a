/-
  The program's reading, the lists of what is read apart.
-/
import Derived.Test.YtpfknaaepdbobabRjF
namespace Go.Proofs.Ytpfknaaepdbobab.Apart
open Go.RowKit
set_option linter.unusedVariables false

set_option maxHeartbeats 2000000 in
set_option maxRecDepth 100000 in
theorem implRead_any (E : Env) (w : World) (h : Src E w) (x : Int) (hx : x ≤ 9223372036854775807) :
    Calls Try.prog 10 #[.agg #[.slice E.wv E.H.N E.cap], .slice E.av E.H.A.length E.acap, .int .i64 x] w fun e w' => Below w.heap.size w w' ∧
      ((∃ t v, readT E.H x = some t ∧ e = .returned (.tuple #[v, .bool true]) ∧ OwV w' (w.heap.size) w'.heap.size t v) ∨ (readT E.H x = none ∧ e = .returned (.tuple #[zT, .bool false]))) := by
  have hmf : ∀ (fn : Fn) (first cap : Array Value) (w : World), (Instr.makeFunc fn first cap).run Try.prog w = .ok (.func fn first cap) w := fun _ _ _ _ => rfl
  have HS : Hid (Src E w) := h
  have HX : Hid (x ≤ 9223372036854775807) := hx
  clear h hx
  go_enter_defers Try.func10, Try.ntmps10
  go_wp2_with fail
  generalize hW : (((w.alloc (.cells #[.slice E.wv E.H.N E.cap] 33)).alloc (.cells #[.int .i64 0, .int .i64 0, .string ⟨#[]⟩, .slice none 0 0] 30)).alloc (.cells #[.bool false] 4)).alloc (.cells #[.slice E.wv E.H.N E.cap, .slice E.av E.H.A.length E.acap, .int .i64 100] 49) = W
  obtain ⟨hr4, q1, f1, q2, f2, hz4, hb4⟩ := read_in HS.out W hW.symm
  have HB4 : Hid (Below w.heap.size w W) := hb4
  clear hW hb4
  have hrt : ∀ o, rT true E.H 6 x 100 = o → readT E.H x = o.map Prod.fst := fun o h => by rw [readT, h]
  cases hq : rT true E.H 6 x 100 with
  | none =>
    have HN : Hid (readT E.H x = none) := hrt _ hq
    refine (term_no (E := E4 E w) (term_all _ 6 (Nat.le_refl _)) hr4 (by decide) HX.out hq).mono ?_
    rintro e w5 ⟨rfl, ht5⟩
    obtain ⟨q15, f15⟩ := ht5.keep (by show w.heap.size + 1 + 1 + 1 ≠ _; omega) (by omega) q1 f1
    obtain ⟨q25, f25⟩ := ht5.keep (by show w.heap.size + 1 + 1 + 1 ≠ _; omega) (by omega) q2 f2
    have HB5 : Hid (Below w.heap.size w w5) := Turn.below HB4.out (by omega) ht5 (by show _ ≤ w.heap.size + 1 + 1 + 1; omega)
    clear hr4 q1 f1 q2 f2 hrt hq ht5
    go_wp2_with fail
    refine leaves_cons (f := 24) (args := #[.pointer (some ⟨w.heap.size + 1, 0, none⟩), .pointer (some ⟨w.heap.size + 1 + 1, 0, none⟩)]) (by simp) (by simp [go_sem]) ?_
    refine (catch_read (w.heap.size + 1) (w.heap.size + 1 + 1) (.bool false) _ [] _ _ _ rfl q15 f15 (q25 0) (f25 0) (by omega)).mono ?_
    rintro e u' w'' ⟨rfl, rfl, rfl⟩
    simp only [settle, List.dropWhile, Leaves]
    refine ⟨.tuple #[zT, .bool false], by simp [results, Try.results10, go_sem, q15, q25, lay4], ?_⟩
    exact ⟨(lay4_below HB5.out (by omega) _ _ _ _).setCell (by show _ ≤ w.heap.size + 1 + 1; omega) _, .inr ⟨HN.out, rfl⟩⟩
  | some ty =>
    obtain ⟨t, y⟩ := ty
    have HN : Hid (readT E.H x = some t) := hrt _ hq
    refine (term_yes (E := E4 E w) (term_all _ 6 (Nat.le_refl _)) hr4 (by decide) HX.out hq).mono ?_
    rintro e w5 ⟨va, vb, vc, vd, ve, vf, rfl, ht5, hv5, hr5⟩
    obtain ⟨q15, f15⟩ := ht5.keep (by show w.heap.size + 1 + 1 + 1 ≠ _; omega) (by omega) q1 f1
    obtain ⟨q25, f25⟩ := ht5.keep (by show w.heap.size + 1 + 1 + 1 ≠ _; omega) (by omega) q2 f2
    have HB5 : Hid (Below w.heap.size w w5) := Turn.below HB4.out (by omega) ht5 (by show _ ≤ w.heap.size + 1 + 1 + 1; omega)
    have HV5 : Hid (OwV w5 (w.heap.size + 4) w5.heap.size t (.agg #[.int .i64 va, .int .i64 vb, .string vc, .slice vd ve vf])) := by rw [hz4] at hv5; exact hv5
    clear hr4 q1 f1 q2 f2 hrt hq ht5 hv5 hr5
    go_wp2_with fail
    refine leaves_cons (f := 24) (args := #[.pointer (some ⟨w.heap.size + 1, 0, none⟩), .pointer (some ⟨w.heap.size + 1 + 1, 0, none⟩)]) (by simp) (by simp [go_sem]) ?_
    refine (catch_idle _ _ _).mono ?_
    rintro e u' w'' ⟨rfl, rfl, rfl⟩
    simp only [settle, Leaves]
    refine ⟨.tuple #[.agg #[.int .i64 va, .int .i64 vb, .string vc, .slice vd ve vf], .bool true], by simp [results, Try.results10, go_sem, q15, q25], ?_⟩
    refine ⟨(lay4_below HB5.out (by omega) _ _ _ _).setCell (by show _ ≤ w.heap.size + 1 + 1; omega) _, .inl ⟨t, _, HN.out, rfl, (OwV.keep (fun b' h1 h2 hbl => ?_) HV5.out).mono (by omega) (Nat.le_of_eq ?_)⟩⟩
    · rw [Below.heap_setCell _ ⟨w.heap.size + 1 + 1, 0, none⟩ _ b' (by show b' ≠ w.heap.size + 1 + 1; omega)]
      exact lay4_heap (by omega)
    · rw [World.size_setCell, World.size_setCell, World.size_setCell, World.size_setCell, World.size_setCell]
end Go.Proofs.Ytpfknaaepdbobab.Apart
