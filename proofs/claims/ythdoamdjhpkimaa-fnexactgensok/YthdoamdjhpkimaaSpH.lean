/-
  The specification's ReadTerm.
  Both kinds of HeapOk.
-/
import Derived.Test.YthdoamdjhpkimaaSpF
namespace Go.Proofs.Ythdoamdjhpkimaa
open Go.RowKit
set_option linter.unusedVariables false

theorem sread_yes {E : Env} {d : Nat} (hc : ReadC E d) {w : World} {left : Nat} {x : Int} (hs : Sr E left false w) (hl : left ≤ 100) (hx : x ≤ 9223372036854775807) {t : Tm} {y : Nat} (he : rT false E.H d x left = some (t, y)) :
    Calls Try.prog 71 #[.pointer (some ⟨E.rb, 0, none⟩), .int .i64 x, .int .i64 d] w fun e w' => ∃ a b c d' e' f, e = .returned (.agg #[.int .i64 a, .int .i64 b, .string c, .slice d' e' f]) ∧ RpV (fun b => w.heap.size ≤ b) w' t (.agg #[.int .i64 a, .int .i64 b, .string c, .slice d' e' f]) ∧ Turn E.rb w w' ∧ Sr E y false w' := by
  refine (hc w left x hs hl hx).mono ?_
  rintro e w' ⟨t', v, rfl, hv, ht, ⟨y', hy, hs'⟩ | ⟨hn, _⟩⟩
  · rw [he] at hy
    simp only [Option.some.injEq, Prod.mk.injEq] at hy
    obtain ⟨rfl, rfl⟩ := hy
    obtain ⟨a, b, c, d', e', f, rfl⟩ := hv.form
    exact ⟨a, b, c, d', e', f, rfl, hv, ht, hs'⟩
  · rw [he] at hn; cases hn
theorem sread_no {E : Env} {d : Nat} (hc : ReadC E d) {w : World} {left : Nat} {x : Int} (hs : Sr E left false w) (hl : left ≤ 100) (hx : x ≤ 9223372036854775807) (he : rT false E.H d x left = none) :
    Calls Try.prog 71 #[.pointer (some ⟨E.rb, 0, none⟩), .int .i64 x, .int .i64 d] w fun e w' => ∃ a b c d' e' f, e = .returned (.agg #[.int .i64 a, .int .i64 b, .string c, .slice d' e' f]) ∧ Turn E.rb w w' ∧ ∃ z : Int, Sr E z true w' := by
  refine (hc w left x hs hl hx).mono ?_
  rintro e w' ⟨t', v, rfl, hv, ht, ⟨y', hy, hs'⟩ | ⟨hn, z, hs'⟩⟩
  · rw [he] at hy; cases hy
  · obtain ⟨a, b, c, d', e', f, rfl⟩ := hv.form
    exact ⟨a, b, c, d', e', f, rfl, ht, z, hs'⟩
abbrev E2 (E : Env) (w : World) : Env := { E with rb := w.heap.size + 1 }
theorem sread_in {E : Env} {w : World} (h : Src E w) (W : World) (hW : ((w.alloc (.cells #[.int .i64 0, .int .i64 0, .string ⟨#[]⟩, .slice none 0 0] 32)).alloc (.cells #[.slice E.wv E.H.N E.cap, .slice E.av E.H.A.length E.acap, .int .i64 100, .bool false] 102)) = W) :
    Sr (E2 E w) 100 false W ∧ (∀ o, W.cell? ⟨w.heap.size, o, none⟩ = (#[.int .i64 0, .int .i64 0, .string ⟨#[]⟩, .slice none 0 0] : Array Value)[o]?) ∧ (∀ o, W.frozen? ⟨w.heap.size, o, none⟩ = false) ∧ W.heap.size = w.heap.size + 2 ∧ Below w.heap.size w W := by
  have s1 : (w.alloc (.cells #[.int .i64 0, .int .i64 0, .string ⟨#[]⟩, .slice none 0 0] 32)).heap.size = w.heap.size + 1 := World.size_alloc _ _
  have b1 : Below w.heap.size w (w.alloc (.cells #[.int .i64 0, .int .i64 0, .string ⟨#[]⟩, .slice none 0 0] 32)) := (Below.refl _ _).alloc (Nat.le_refl _) _
  have q1 : ∀ o, (w.alloc (.cells #[.int .i64 0, .int .i64 0, .string ⟨#[]⟩, .slice none 0 0] 32)).cell? ⟨w.heap.size, o, none⟩ = (#[.int .i64 0, .int .i64 0, .string ⟨#[]⟩, .slice none 0 0] : Array Value)[o]? := fun o => World.cell?_alloc_new w _ _ o
  have f1 : ∀ o, (w.alloc (.cells #[.int .i64 0, .int .i64 0, .string ⟨#[]⟩, .slice none 0 0] 32)).frozen? ⟨w.heap.size, o, none⟩ = false := fun o => World.frozen?_alloc_new w _ _ o
  generalize (w.alloc (.cells #[.int .i64 0, .int .i64 0, .string ⟨#[]⟩, .slice none 0 0] 32)) = w1 at *
  have k2 : Below w1.heap.size w1 (w1.alloc (.cells #[.slice E.wv E.H.N E.cap, .slice E.av E.H.A.length E.acap, .int .i64 100, .bool false] 102)) := (Below.refl _ _).alloc (Nat.le_refl _) _
  have q2 : ∀ o, (w1.alloc (.cells #[.slice E.wv E.H.N E.cap, .slice E.av E.H.A.length E.acap, .int .i64 100, .bool false] 102)).cell? ⟨w.heap.size + 1, o, none⟩ = (#[.slice E.wv E.H.N E.cap, .slice E.av E.H.A.length E.acap, .int .i64 100, .bool false] : Array Value)[o]? := fun o => by rw [← s1]; exact World.cell?_alloc_new w1 _ _ o
  have f2 : ∀ o, (w1.alloc (.cells #[.slice E.wv E.H.N E.cap, .slice E.av E.H.A.length E.acap, .int .i64 100, .bool false] 102)).frozen? ⟨w.heap.size + 1, o, none⟩ = false := fun o => by rw [← s1]; exact World.frozen?_alloc_new w1 _ _ o
  have s2 : (w1.alloc (.cells #[.slice E.wv E.H.N E.cap, .slice E.av E.H.A.length E.acap, .int .i64 100, .bool false] 102)).heap.size = w.heap.size + 2 := by rw [World.size_alloc, s1]
  rw [hW] at k2 q2 f2 s2
  have hb : Below w.heap.size w W := b1.trans (k2.mono (by omega))
  have hs := h.below hb
  refine ⟨⟨q2 0, q2 1, q2 2, q2 3, f2, ⟨hs.ok, hs.wl, hs.al, hs.ws, hs.ats, hs.cp, hs.big, hs.txt⟩, fun hn => ?_, fun hn => ?_⟩, fun o => ?_, fun o => ?_, s2, hb⟩
  · have : E.b < w.heap.size := World.block_lt_of_cell? w _ (h.ws 0 (by show 0 < E.H.N; have : E.H.N ≠ 0 := hn; omega))
    show E.b ≠ w.heap.size + 1
    omega
  · have : E.ab < w.heap.size := World.block_lt_of_cell? w _ (h.ats 0 (by have : E.H.A.length ≠ 0 := hn; omega))
    show E.ab ≠ w.heap.size + 1
    omega
  · rw [k2.cell (p := ⟨w.heap.size, o, none⟩) (by show w.heap.size < _; omega)]; exact q1 o
  · rw [k2.frozen (p := ⟨w.heap.size, o, none⟩) (by show w.heap.size < _; omega)]; exact f1 o

/-- What both kinds of ReadTerm answer. -/
def ReadP (E : Env) (w : World) (x : Int) (e : Ending) (w' : World) : Prop :=
  ∃ a b c d' e' f, e = .returned (.tuple #[.agg #[.int .i64 a, .int .i64 b, .string c, .slice d' e' f], .bool (readT E.H x).isSome]) ∧ Below w.heap.size w w' ∧
    ((∃ t, readT E.H x = some t ∧ RpV (fun b => w.heap.size ≤ b) w' t (.agg #[.int .i64 a, .int .i64 b, .string c, .slice d' e' f])) ∨ (readT E.H x = none ∧ Value.agg #[.int .i64 a, .int .i64 b, .string c, .slice d' e' f] = zT))
theorem readT_spec {H : Hp} (ho : H.ok) (x : Int) : (∀ t y, rT false H 6 x 100 = some (t, y) → readT H x = if (look t 6 100).isSome then some t else none) ∧ (rT false H 6 x 100 = none → readT H x = none) := by
  have key := read_one ho x
  refine ⟨fun t y h => ?_, fun h => ?_⟩
  · unfold readT
    cases hq : rT true H 6 x 100 with
    | none =>
      split
      · rename_i hl
        have := (key t y).2 ⟨h, hl⟩
        rw [hq] at this; cases this
      · rfl
    | some p =>
      obtain ⟨t', y'⟩ := p
      obtain ⟨h1, h2⟩ := (key t' y').1 hq
      rw [h] at h1
      simp only [Option.some.injEq, Prod.mk.injEq] at h1
      obtain ⟨rfl, rfl⟩ := h1
      rw [if_pos h2]; rfl
  · unfold readT
    cases hq : rT true H 6 x 100 with
    | none => rfl
    | some p =>
      obtain ⟨t', y'⟩ := p
      have := ((key t' y').1 hq).1
      rw [h] at this; cases this

set_option maxHeartbeats 2000000 in
set_option maxRecDepth 100000 in
theorem l5Term_any (E : Env) (w : World) (h : Src E w) (x : Int) (hx : x ≤ 9223372036854775807) :
    Calls Try.prog 44 #[.slice E.wv E.H.N E.cap, .slice E.av E.H.A.length E.acap, .int .i64 x] w (ReadP E w x) := by
  have HS : Hid (Src E w) := h
  have HX : Hid (x ≤ 9223372036854775807) := hx
  have HK := readT_spec h.ok x
  have HKK : Hid ((∀ t y, rT false E.H 6 x 100 = some (t, y) → readT E.H x = if (look t 6 100).isSome then some t else none) ∧ (rT false E.H 6 x 100 = none → readT E.H x = none)) := HK
  clear h hx HK
  unfold ReadP
  generalize hRR : readT E.H x = RR
  have HRR : Hid (readT E.H x = RR) := hRR
  clear hRR
  go_enter Try.func44, Try.ntmps44
  go_wp2_with fail
  generalize hW : ((w.alloc (.cells #[.int .i64 0, .int .i64 0, .string ⟨#[]⟩, .slice none 0 0] 32)).alloc (.cells #[.slice E.wv E.H.N E.cap, .slice E.av E.H.A.length E.acap, .int .i64 100, .bool false] 102)) = W
  obtain ⟨hs2, q2, f2, hz2, hb2⟩ := sread_in HS.out W hW
  have HB2 : Hid (Below w.heap.size w W) := hb2
  clear hW hb2
  cases hq : rT false E.H 6 x 100 with
  | none =>
    have HRN : Hid (RR = none) := by show _ = _; rw [← HRR.out]; exact HKK.out.2 hq
    refine (sread_no (E := E2 E w) (read_all _ 6 (Nat.le_refl _)) (left := 100) hs2 (by decide) HX.out hq).mono ?_
    rintro e w5 ⟨va, vb, vc, vd, ve, vf, rfl, ht5, z, hs5⟩
    have c3 : w5.cell? ⟨w.heap.size + 1, 3, none⟩ = some (.bool true) := hs5.c3
    obtain ⟨q5, f5⟩ := ht5.keep (W := w.heap.size) (by show w.heap.size + 1 ≠ _; omega) (by omega) q2 f2
    have hz5 := ht5.size
    have HB5 : Hid (Below w.heap.size w w5) := Turn.below HB2.out (by omega) ht5 (by show _ ≤ w.heap.size + 1; omega)
    clear hs2 q2 f2 hq ht5 hs5
    have hk5 : Below w5.heap.size w5 (w5.alloc (.cells #[.int .i64 va, .int .i64 vb, .string vc, .slice vd ve vf] 32)) := (Below.refl _ _).alloc (Nat.le_refl _) _
    have q6 : ∀ o, (w5.alloc (.cells #[.int .i64 va, .int .i64 vb, .string vc, .slice vd ve vf] 32)).cell? ⟨w.heap.size, o, none⟩ = (#[.int .i64 0, .int .i64 0, .string ⟨#[]⟩, .slice none 0 0] : Array Value)[o]? := fun o => by rw [hk5.cell (p := ⟨w.heap.size, o, none⟩) (by show w.heap.size < _; omega)]; exact q5 o
    have f6 : ∀ o, (w5.alloc (.cells #[.int .i64 va, .int .i64 vb, .string vc, .slice vd ve vf] 32)).frozen? ⟨w.heap.size, o, none⟩ = false := fun o => by rw [hk5.frozen (p := ⟨w.heap.size, o, none⟩) (by show w.heap.size < _; omega)]; exact f5 o
    have c36 : (w5.alloc (.cells #[.int .i64 va, .int .i64 vb, .string vc, .slice vd ve vf] 32)).cell? ⟨w.heap.size + 1, 3, none⟩ = _ := (hk5.cell (p := ⟨w.heap.size + 1, 3, none⟩) (by show w.heap.size + 1 < _; omega)).trans c3
    have HB6 : Hid (Below w.heap.size w (w5.alloc (.cells #[.int .i64 va, .int .i64 vb, .string vc, .slice vd ve vf] 32))) := HB5.out.trans (hk5.mono (by omega))
    clear hk5
    go_wp2_with fail
    refine bodyPost_ret (v := .tuple #[zT, .bool false]) (by simp [results, Try.results44, go_sem, q6]) rfl ⟨0, 0, ⟨#[]⟩, none, 0, 0, by rw [HRN.out]; rfl, lay4_below HB6.out (Nat.le_refl _) _ _ _ _, .inr ⟨HRN.out, rfl⟩⟩
  | some ty =>
    obtain ⟨t, y⟩ := ty
    have HRT : Hid (RR = if (look t 6 100).isSome then some t else none) := by show _ = _; rw [← HRR.out]; exact HKK.out.1 t y hq
    refine (sread_yes (E := E2 E w) (read_all _ 6 (Nat.le_refl _)) (left := 100) hs2 (by decide) HX.out hq).mono ?_
    rintro e w5 ⟨va, vb, vc, vd, ve, vf, rfl, hv5, ht5, hs5⟩
    have c3 : w5.cell? ⟨w.heap.size + 1, 3, none⟩ = some (.bool false) := hs5.c3
    obtain ⟨q5, f5⟩ := ht5.keep (W := w.heap.size) (by show w.heap.size + 1 ≠ _; omega) (by omega) q2 f2
    have hz5 := ht5.size
    have HB5 : Hid (Below w.heap.size w w5) := Turn.below HB2.out (by omega) ht5 (by show _ ≤ w.heap.size + 1; omega)
    have HV5 : Hid (RpV (fun b => w.heap.size + 2 ≤ b) w5 t (.agg #[.int .i64 va, .int .i64 vb, .string vc, .slice vd ve vf])) := by rw [hz2] at hv5; exact hv5
    clear hs2 q2 f2 hq ht5 hs5 hv5
    have hk5 : Below w5.heap.size w5 (w5.alloc (.cells #[.int .i64 va, .int .i64 vb, .string vc, .slice vd ve vf] 32)) := (Below.refl _ _).alloc (Nat.le_refl _) _
    have q6 : ∀ o, (w5.alloc (.cells #[.int .i64 va, .int .i64 vb, .string vc, .slice vd ve vf] 32)).cell? ⟨w.heap.size, o, none⟩ = (#[.int .i64 0, .int .i64 0, .string ⟨#[]⟩, .slice none 0 0] : Array Value)[o]? := fun o => by rw [hk5.cell (p := ⟨w.heap.size, o, none⟩) (by show w.heap.size < _; omega)]; exact q5 o
    have f6 : ∀ o, (w5.alloc (.cells #[.int .i64 va, .int .i64 vb, .string vc, .slice vd ve vf] 32)).frozen? ⟨w.heap.size, o, none⟩ = false := fun o => by rw [hk5.frozen (p := ⟨w.heap.size, o, none⟩) (by show w.heap.size < _; omega)]; exact f5 o
    have c36 : (w5.alloc (.cells #[.int .i64 va, .int .i64 vb, .string vc, .slice vd ve vf] 32)).cell? ⟨w.heap.size + 1, 3, none⟩ = _ := (hk5.cell (p := ⟨w.heap.size + 1, 3, none⟩) (by show w.heap.size + 1 < _; omega)).trans c3
    have HB6 : Hid (Below w.heap.size w (w5.alloc (.cells #[.int .i64 va, .int .i64 vb, .string vc, .slice vd ve vf] 32))) := HB5.out.trans (hk5.mono (by omega))
    have HV6 : Hid (RpV (fun b => w.heap.size + 2 ≤ b) (w5.alloc (.cells #[.int .i64 va, .int .i64 vb, .string vc, .slice vd ve vf] 32)) t (.agg #[.int .i64 va, .int .i64 vb, .string vc, .slice vd ve vf])) := (Moves.below hk5).repV HV5.out
    clear hk5
    cases hlk : (look t 6 100).isSome with
    | true =>
      have HLK : Hid ((look t 6 100).isSome = true) := hlk
      have HRS : Hid (RR = some t) := by show _ = _; rw [HRT.out, if_pos hlk]
      clear hlk
      go_wp2_with (first | (go_at_call 56; refine (specOk_any t 0 _ _ HV6.out.rep).mono ?_; rintro e w7 ⟨rfl, hb7⟩; rw [HLK.out]; obtain ⟨b7, hk7, hz7, o7, t7, p7⟩ := box_two hb7; have q7 : ∀ o, w7.cell? ⟨w.heap.size, o, none⟩ = (#[.int .i64 0, .int .i64 0, .string ⟨#[]⟩, .slice none 0 0] : Array Value)[o]? := (fun o => by rw [hb7.cell (p := ⟨w.heap.size, o, none⟩) (by rw [World.size_alloc]; show w.heap.size < _; omega)]; exact q6 o); have f7 : ∀ o, w7.frozen? ⟨w.heap.size, o, none⟩ = false := (fun o => by rw [hb7.frozen (p := ⟨w.heap.size, o, none⟩) (by rw [World.size_alloc]; show w.heap.size < _; omega)]; exact f6 o); have HB7 : Hid (Below w.heap.size w w7) := HB6.out.trans (hb7.mono (by rw [World.size_alloc]; omega)); have HV7 : Hid (RpV (fun b => w.heap.size + 2 ≤ b) w7 t (.agg #[.int .i64 va, .int .i64 vb, .string vc, .slice vd ve vf])) := (Moves.below hb7).repV HV6.out; clear hb7 hk7 o7 t7 p7 q6 f6 c36))
      refine bodyPost_ret (v := .tuple #[.agg #[.int .i64 va, .int .i64 vb, .string vc, .slice vd ve vf], .bool true]) (by simp [results, Try.results44, go_sem, q7]) rfl ⟨va, vb, vc, vd, ve, vf, by rw [HRS.out]; rfl, lay4_below HB7.out (Nat.le_refl _) _ _ _ _, .inl ⟨t, HRS.out, ?_⟩⟩
      refine Moves.repV (S := fun b => w.heap.size + 2 ≤ b) (fun b' o' v' hb' hc' => ?_) HV7.out
      have : w.heap.size + 2 ≤ b' := hb'
      exact ⟨by show w.heap.size ≤ b'; omega, (lay4_cell (by omega)).trans hc'⟩
    | false =>
      have HLK : Hid ((look t 6 100).isSome = false) := hlk
      have HRN : Hid (RR = none) := by show _ = _; rw [HRT.out, if_neg (by rw [hlk]; simp)]
      clear hlk
      go_wp2_with (first | (go_at_call 56; refine (specOk_any t 0 _ _ HV6.out.rep).mono ?_; rintro e w7 ⟨rfl, hb7⟩; rw [HLK.out]; have q7 : ∀ o, w7.cell? ⟨w.heap.size, o, none⟩ = (#[.int .i64 0, .int .i64 0, .string ⟨#[]⟩, .slice none 0 0] : Array Value)[o]? := (fun o => by rw [hb7.cell (p := ⟨w.heap.size, o, none⟩) (by rw [World.size_alloc]; show w.heap.size < _; omega)]; exact q6 o); have f7 : ∀ o, w7.frozen? ⟨w.heap.size, o, none⟩ = false := (fun o => by rw [hb7.frozen (p := ⟨w.heap.size, o, none⟩) (by rw [World.size_alloc]; show w.heap.size < _; omega)]; exact f6 o); have HB7 : Hid (Below w.heap.size w w7) := HB6.out.trans (hb7.mono (by rw [World.size_alloc]; omega)); clear hb7 q6 f6 c36))
      exact bodyPost_ret (v := .tuple #[zT, .bool false]) (by simp [results, Try.results44, go_sem, q7]) rfl ⟨0, 0, ⟨#[]⟩, none, 0, 0, by rw [HRN.out]; rfl, lay4_below HB7.out (Nat.le_refl _) _ _ _ _, .inr ⟨HRN.out, rfl⟩⟩
end Go.Proofs.Ythdoamdjhpkimaa

namespace Go.Proofs.Ythdoamdjhpkimaa
open Go.RowKit
set_option linter.unusedVariables false

set_option maxHeartbeats 1000000 in
theorem specReadP (E : Env) (w : World) (h : Src E w) (x : Int) (hx : x ≤ 9223372036854775807) :
    Calls Try.prog 12 #[.agg #[.slice E.wv E.H.N E.cap], .slice E.av E.H.A.length E.acap, .int .i64 x] w (ReadP E w x) := by
  have HS : Hid (Src E w) := h
  have HX : Hid (x ≤ 9223372036854775807) := hx
  clear h hx
  unfold ReadP
  generalize hRR : readT E.H x = RR
  have HRR : Hid (readT E.H x = RR) := hRR
  clear hRR
  go_enter Try.func12, Try.ntmps12
  go_wp2_with fail
  generalize hW : (w.alloc (.cells #[.slice E.wv E.H.N E.cap] 26)).alloc (.cells #[.int .i64 0, .int .i64 0, .string ⟨#[]⟩, .slice none 0 0] 32) = W
  have hk1 : Below w.heap.size w (w.alloc (.cells #[.slice E.wv E.H.N E.cap] 26)) := (Below.refl _ _).alloc (Nat.le_refl _) _
  have hz1 : (w.alloc (.cells #[.slice E.wv E.H.N E.cap] 26)).heap.size = w.heap.size + 1 := World.size_alloc _ _
  generalize (w.alloc (.cells #[.slice E.wv E.H.N E.cap] 26)) = w1 at *
  have hb2 : Below w.heap.size w W := by rw [← hW]; exact hk1.alloc (by omega) _
  have hz2 : W.heap.size = w.heap.size + 2 := by rw [← hW, World.size_alloc, hz1]
  have q2 : ∀ o, W.cell? ⟨w.heap.size + 1, o, none⟩ = (#[.int .i64 0, .int .i64 0, .string ⟨#[]⟩, .slice none 0 0] : Array Value)[o]? := fun o => by rw [← hW, ← hz1]; exact World.cell?_alloc_new w1 _ _ o
  have f2 : ∀ o, W.frozen? ⟨w.heap.size + 1, o, none⟩ = false := fun o => by rw [← hW, ← hz1]; exact World.frozen?_alloc_new w1 _ _ o
  have HB2 : Hid (Below w.heap.size w W) := hb2
  clear hW hk1 hz1 hb2
  refine (l5Term_any E W (HS.out.below HB2.out) x HX.out).mono ?_
  rintro e w5 ⟨va, vb, vc, vd, ve, vf, rfl, hb5, hd5⟩
  rw [HRR.out] at hd5 ⊢
  have q5 : ∀ o, w5.cell? ⟨w.heap.size + 1, o, none⟩ = (#[.int .i64 0, .int .i64 0, .string ⟨#[]⟩, .slice none 0 0] : Array Value)[o]? := fun o => by rw [hb5.cell (p := ⟨w.heap.size + 1, o, none⟩) (by show w.heap.size + 1 < _; omega)]; exact q2 o
  have f5 : ∀ o, w5.frozen? ⟨w.heap.size + 1, o, none⟩ = false := fun o => by rw [hb5.frozen (p := ⟨w.heap.size + 1, o, none⟩) (by show w.heap.size + 1 < _; omega)]; exact f2 o
  have HB5 : Hid (Below w.heap.size w w5) := HB2.out.trans (hb5.mono (by omega))
  have HD5 : Hid ((∃ t, RR = some t ∧ RpV (fun b => W.heap.size ≤ b) w5 t (.agg #[.int .i64 va, .int .i64 vb, .string vc, .slice vd ve vf])) ∨ (RR = none ∧ Value.agg #[.int .i64 va, .int .i64 vb, .string vc, .slice vd ve vf] = zT)) := hd5
  clear hb5 hd5 q2 f2
  go_wp2_with fail
  refine bodyPost_ret (v := .tuple #[.agg #[.int .i64 va, .int .i64 vb, .string vc, .slice vd ve vf], .bool RR.isSome]) (by simp [results, Try.results12, go_sem, q5]) rfl ⟨va, vb, vc, vd, ve, vf, rfl, lay4_below HB5.out (by omega) _ _ _ _, ?_⟩
  rcases HD5.out with ⟨t, ht, hv⟩ | hn
  · refine .inl ⟨t, ht, Moves.repV (S := fun b => W.heap.size ≤ b) (fun b' o' v' hb' hc' => ?_) hv⟩
    have : W.heap.size ≤ b' := hb'
    exact ⟨by show w.heap.size ≤ b'; omega, (lay4_cell (by omega)).trans hc'⟩
  · exact .inr hn

/-! ### The atoms -/
def atomI (L : List ByteArray) (i : Nat) : Bool := Atom.atomB (L.getD i ByteArray.empty) && decide (idx L (L.getD i ByteArray.empty) = i)
def atomsTo (L : List ByteArray) (n : Nat) : Bool := (List.range n).all (atomI L)
def atomsB (L : List ByteArray) : Bool := decide (L.length ≤ 200) && atomsTo L L.length
theorem atomsTo_succ (L : List ByteArray) (n : Nat) : atomsTo L (n + 1) = (atomsTo L n && atomI L n) := by
  unfold atomsTo
  rw [List.range_succ, List.all_append, List.all_cons, List.all_nil, Bool.and_true]
theorem atomsTo_bad (L : List ByteArray) (i n : Nat) (hi : i < n) (h : atomI L i = false) : atomsTo L n = false := by
  unfold atomsTo
  rw [List.all_eq_false]
  exact ⟨i, List.mem_range.2 hi, by rw [h]; simp⟩
theorem getD_lt (L : List ByteArray) (i : Nat) (h : i < L.length) : L.getD i ByteArray.empty = L[i] := by simp [h]

set_option maxHeartbeats 1000000 in
theorem specAtoms_any (b o cap : Nat) (av : Option Addr) (L : List ByteArray) (w : World) (hav : L.length ≠ 0 → av = some ⟨b, o, none⟩) (hr : Txt w b o L) (hN : L.length ≤ 1048576) (hs : ∀ s, s ∈ L → s.size ≤ maxLen) :
    Calls Try.prog 48 #[.slice av L.length cap] w fun e w' => e = .returned (.bool (atomsB L)) ∧ w' = w := by
  have HR : Hid (Txt w b o L) := hr
  have HS : Hid (∀ s, s ∈ L → s.size ≤ maxLen) := hs
  have HAV : Hid (L.length ≠ 0 → av = some ⟨b, o, none⟩) := hav
  have HN : Hid (L.length ≤ 1048576) := hN
  clear hr hs hav
  go_enter Try.func48, Try.ntmps48
  go_wp2_with fail
  go_loop [3] (fun i => ∃ m : Nat, m ≤ L.length ∧ i = .int .i64 m ∧ atomsTo L m = true) (fun i => L.length - (intOf i).toNat)
  case atStart => exact ⟨0, Nat.zero_le _, rfl, rfl⟩
  case round =>
    obtain ⟨m, hm, rfl, ha⟩ := hrel
    have HA : Hid (atomsTo L m = true) := ha
    clear ha
    by_cases hlt : m < L.length
    · have q := HR.out m hlt
      have HSM : Hid (L[m].size ≤ maxLen) := HS.out _ (List.getElem_mem hlt)
      have HI : Hid (atomI L m = (Atom.atomB L[m] && decide (idx L L[m] = m))) := by show _ = _; unfold atomI; rw [getD_lt L m hlt]
      obtain rfl := HAV.out (by omega)
      generalize L[m] = s at *
      cases h1 : Atom.atomB s with
      | false =>
        have H1 : Hid (Atom.atomB s = false) := h1
        have HE : Hid (atomsB L = false) := by show _ = _; unfold atomsB; rw [atomsTo_bad L m _ hlt (by rw [HI.out, h1]; rfl), Bool.and_false]
        clear h1
        go_wp2_with (first | (go_at_call 75; refine (Atom.spec_any s _ HSM.out).mono ?_; rintro e w' ⟨rfl, rfl⟩; rw [H1.out]))
        go_ret
        exact ⟨ret_bool HE.out.symm, rfl⟩
      | true =>
        have H1 : Hid (Atom.atomB s = true) := h1
        by_cases h2 : idx L s = m
        · have H2 : Hid (idx L s = m) := h2
          have HE : Hid (atomsTo L (m + 1) = true) := by show _ = _; rw [atomsTo_succ, HA.out, HI.out, h1, h2]; simp
          clear h1 h2
          go_wp2_with (first | (go_at_call 75; refine (Atom.spec_any s _ HSM.out).mono ?_; rintro e w' ⟨rfl, rfl⟩; rw [H1.out]) | (go_at_call 76; refine (specAtomAt_any b o cap L s _ HR.out HN.out).mono ?_; rintro e w' ⟨rfl, rfl⟩; rw [H2.out]))
          go_round
          case rel => exact ⟨m + 1, by omega, by go_num, HE.out⟩
          case measure => simp [intOf]; omega
        · have HE : Hid (atomsB L = false) := by show _ = _; unfold atomsB; rw [atomsTo_bad L m _ hlt (by rw [HI.out, h1]; simp [h2]), Bool.and_false]
          obtain ⟨z, hz⟩ : ∃ z, idx L s = z := ⟨_, rfl⟩
          have H2 : Hid (idx L s = z) := hz
          have hzz : (z != (m : Int)) = true := by rw [hz] at h2; simpa using h2
          clear h1 h2 hz
          go_wp2_with (first | (go_at_call 75; refine (Atom.spec_any s _ HSM.out).mono ?_; rintro e w' ⟨rfl, rfl⟩; rw [H1.out]) | (go_at_call 76; refine (specAtomAt_any b o cap L s _ HR.out HN.out).mono ?_; rintro e w' ⟨rfl, rfl⟩; rw [H2.out]))
          go_ret
          exact ⟨ret_bool HE.out.symm, rfl⟩
    · have hml : m = L.length := by omega
      have HE : Hid (atomsB L = decide ((L.length : Int) ≤ 200)) := by
        show _ = _
        unfold atomsB
        rw [← hml, HA.out, Bool.and_true, hml, decide_eq_decide]
        omega
      clear hml
      go_wp2_with fail
      go_ret
      exact ⟨ret_bool HE.out.symm, rfl⟩
set_option maxHeartbeats 1000000 in
theorem implAtoms_any (b o cap : Nat) (av : Option Addr) (L : List ByteArray) (w : World) (hav : L.length ≠ 0 → av = some ⟨b, o, none⟩) (hr : Txt w b o L) (hN : L.length ≤ 1048576) (hs : ∀ s, s ∈ L → s.size ≤ maxLen) :
    Calls Try.prog 46 #[.slice av L.length cap] w fun e w' => e = .returned (.bool (atomsB L)) ∧ Below w.heap.size w w' := by
  have HR : Hid (Txt w b o L) := hr
  have HS : Hid (∀ s, s ∈ L → s.size ≤ maxLen) := hs
  have HAV : Hid (L.length ≠ 0 → av = some ⟨b, o, none⟩) := hav
  have HN : Hid (L.length ≤ 1048576) := hN
  clear hr hs hav
  by_cases hl : L.length ≤ 200
  · have hd : decide ((200 : Int) < (L.length : Int)) = false := by simp; omega
    go_enter Try.func46, Try.ntmps46
    go_wp2_with fail
    go_loopw [10] (fun i wr => ∃ m : Nat, m ≤ L.length ∧ i = .int .i64 m ∧ atomsTo L m = true ∧ Below w.heap.size w wr) (fun i _ => L.length - (intOf i).toNat)
    case atStart => exact ⟨0, Nat.zero_le _, rfl, rfl, Below.refl _ _⟩
    case round =>
      obtain ⟨m, hm, rfl, ha, hb⟩ := hrel
      have HA : Hid (atomsTo L m = true) := ha
      have HB : Hid (Below w.heap.size w wr) := hb
      clear ha hb
      by_cases hlt : m < L.length
      · have q := HR.out.below HB.out m hlt
        have HSM : Hid (L[m].size ≤ maxLen) := HS.out _ (List.getElem_mem hlt)
        have HI : Hid (atomI L m = (Atom.atomB L[m] && decide (idx L L[m] = m))) := by show _ = _; unfold atomI; rw [getD_lt L m hlt]
        obtain rfl := HAV.out (by omega)
        generalize L[m] = s at *
        cases h1 : Atom.atomB s with
        | false =>
          have H1 : Hid (Atom.atomB s = false) := h1
          have HE : Hid (atomsB L = false) := by show _ = _; unfold atomsB; rw [atomsTo_bad L m _ hlt (by rw [HI.out, h1]; rfl), Bool.and_false]
          clear h1
          go_wp2_with (first | (go_at_call 73; refine (atom_below s _ HSM.out).mono ?_; rintro e w5 ⟨rfl, hb5⟩; rw [H1.out]; have HB5 : Hid (Below w.heap.size w w5) := HB.out.trans (hb5.mono HB.out.size); clear hb5))
          go_ret
          exact ⟨ret_bool HE.out.symm, HB5.out⟩
        | true =>
          have H1 : Hid (Atom.atomB s = true) := h1
          by_cases h2 : idx L s = m
          · have H2 : Hid (idx L s = m) := h2
            have HE : Hid (atomsTo L (m + 1) = true) := by show _ = _; rw [atomsTo_succ, HA.out, HI.out, h1, h2]; simp
            clear h1 h2
            go_wp2_with (first | (go_at_call 73; refine (atom_below s _ HSM.out).mono ?_; rintro e w5 ⟨rfl, hb5⟩; rw [H1.out]; have HB5 : Hid (Below w.heap.size w w5) := HB.out.trans (hb5.mono HB.out.size); clear hb5) | (go_at_call 74; refine (implAtomAt_any b o cap L s _ (HR.out.below HB5.out) HN.out).mono ?_; rintro e w' ⟨rfl, hw'⟩; obtain rfl := hw'.symm; rw [H2.out]))
            go_roundw
            case rel => exact ⟨m + 1, by omega, by go_num, HE.out, HB5.out⟩
            case measure => simp [intOf]; omega
          · have HE : Hid (atomsB L = false) := by show _ = _; unfold atomsB; rw [atomsTo_bad L m _ hlt (by rw [HI.out, h1]; simp [h2]), Bool.and_false]
            obtain ⟨z, hz⟩ : ∃ z, idx L s = z := ⟨_, rfl⟩
            have H2 : Hid (idx L s = z) := hz
            have hzz : (z != (m : Int)) = true := by rw [hz] at h2; simpa using h2
            clear h1 h2 hz
            go_wp2_with (first | (go_at_call 73; refine (atom_below s _ HSM.out).mono ?_; rintro e w5 ⟨rfl, hb5⟩; rw [H1.out]; have HB5 : Hid (Below w.heap.size w w5) := HB.out.trans (hb5.mono HB.out.size); clear hb5) | (go_at_call 74; refine (implAtomAt_any b o cap L s _ (HR.out.below HB5.out) HN.out).mono ?_; rintro e w' ⟨rfl, hw'⟩; obtain rfl := hw'.symm; rw [H2.out]))
            go_ret
            exact ⟨ret_bool HE.out.symm, HB5.out⟩
      · have hml : m = L.length := by omega
        have HE : Hid (atomsB L = true) := by
          show _ = _
          unfold atomsB
          rw [← hml, HA.out, Bool.and_true, hml]
          simp [hl]
        clear hml
        go_wp2_with fail
        go_ret
        exact ⟨ret_bool HE.out.symm, HB.out⟩
  · have hd : decide ((200 : Int) < (L.length : Int)) = true := by simp; omega
    have HE : Hid (atomsB L = false) := by show _ = _; unfold atomsB; simp [hl]
    go_enter Try.func46, Try.ntmps46
    go_wp2_with fail
    go_ret
    exact ⟨ret_bool HE.out.symm, Below.refl _ _⟩
end Go.Proofs.Ythdoamdjhpkimaa
