/-
  The specification's GensRead.
-/
import Derived.Test.YtjjmikfbongccaaSlJ
import Derived.Test.YtjjmikfbongccaaTmI
namespace Go.Proofs.Ytjjmikfbongccaa.Gn
open Go.RowKit
set_option linter.unusedVariables false

theorem sread_yes {E : SE} {d : Nat} (hc : ReadC E d) {w : World} {left : Nat} {x : Int} (hs : Sr E left false w) (hl : left ≤ 100) (hx : x ≤ 9223372036854775807) {t : Tm} {y : Nat} (he : rT false E.H d x left = some (t, y)) :
    Calls Try.prog 41 #[.pointer (some ⟨E.rb, 0, none⟩), .int .i64 x, .int .i64 d] w fun e w' => ∃ a b c d' e' f, e = .returned (.agg #[.int .i64 a, .int .i64 b, .string c, .slice d' e' f]) ∧ RpV (fun b => w.heap.size ≤ b) w' t (.agg #[.int .i64 a, .int .i64 b, .string c, .slice d' e' f]) ∧ Turn E.rb w w' ∧ Sr E y false w' := by
  refine (hc w left x hs hl hx).mono ?_
  rintro e w' ⟨t', v, rfl, hv, ht, ⟨y', hy, hs'⟩ | ⟨hn, _⟩⟩
  · rw [he] at hy
    simp only [Option.some.injEq, Prod.mk.injEq] at hy
    obtain ⟨rfl, rfl⟩ := hy
    obtain ⟨a, b, c, d', e', f, rfl⟩ := hv.form
    exact ⟨a, b, c, d', e', f, rfl, hv, ht, hs'⟩
  · rw [he] at hn; cases hn
theorem sread_no {E : SE} {d : Nat} (hc : ReadC E d) {w : World} {left : Nat} {x : Int} (hs : Sr E left false w) (hl : left ≤ 100) (hx : x ≤ 9223372036854775807) (he : rT false E.H d x left = none) :
    Calls Try.prog 41 #[.pointer (some ⟨E.rb, 0, none⟩), .int .i64 x, .int .i64 d] w fun e w' => ∃ a b c d' e' f, e = .returned (.agg #[.int .i64 a, .int .i64 b, .string c, .slice d' e' f]) ∧ Turn E.rb w w' ∧ ∃ z : Int, Sr E z true w' := by
  refine (hc w left x hs hl hx).mono ?_
  rintro e w' ⟨t', v, rfl, hv, ht, ⟨y', hy, hs'⟩ | ⟨hn, z, hs'⟩⟩
  · rw [he] at hy; cases hy
  · obtain ⟨a, b, c, d', e', f, rfl⟩ := hv.form
    exact ⟨a, b, c, d', e', f, rfl, ht, z, hs'⟩
abbrev E2 (G : GE) (w : World) : SE := ⟨G, w.heap.size + 1⟩
abbrev rdCells (G : GE) : Array Value := #[.slice G.wv G.N G.cap, .slice G.yv G.M G.ycap, .int .i64 G.mark, .slice G.av G.A.length G.acap, .int .i64 100, .bool false]
theorem sread_in {G : GE} {w : World} (h : GSrc G w) (W : World) (hW : ((w.alloc (.cells #[.int .i64 0, .int .i64 0, .string ⟨#[]⟩, .slice none 0 0] 64)).alloc (.cells #[.slice G.wv G.N G.cap, .slice G.yv G.M G.ycap, .int .i64 G.mark, .slice G.av G.A.length G.acap, .int .i64 100, .bool false] 71)) = W) :
    Sr (E2 G w) 100 false W ∧ (∀ o, W.cell? ⟨w.heap.size, o, none⟩ = (#[.int .i64 0, .int .i64 0, .string ⟨#[]⟩, .slice none 0 0] : Array Value)[o]?) ∧ (∀ o, W.frozen? ⟨w.heap.size, o, none⟩ = false) ∧ W.heap.size = w.heap.size + 2 ∧ Below w.heap.size w W := by
  have s1 : (w.alloc (.cells #[.int .i64 0, .int .i64 0, .string ⟨#[]⟩, .slice none 0 0] 64)).heap.size = w.heap.size + 1 := World.size_alloc _ _
  have b1 : Below w.heap.size w (w.alloc (.cells #[.int .i64 0, .int .i64 0, .string ⟨#[]⟩, .slice none 0 0] 64)) := (Below.refl _ _).alloc (Nat.le_refl _) _
  have q1 : ∀ o, (w.alloc (.cells #[.int .i64 0, .int .i64 0, .string ⟨#[]⟩, .slice none 0 0] 64)).cell? ⟨w.heap.size, o, none⟩ = (#[.int .i64 0, .int .i64 0, .string ⟨#[]⟩, .slice none 0 0] : Array Value)[o]? := fun o => World.cell?_alloc_new w _ _ o
  have f1 : ∀ o, (w.alloc (.cells #[.int .i64 0, .int .i64 0, .string ⟨#[]⟩, .slice none 0 0] 64)).frozen? ⟨w.heap.size, o, none⟩ = false := fun o => World.frozen?_alloc_new w _ _ o
  generalize (w.alloc (.cells #[.int .i64 0, .int .i64 0, .string ⟨#[]⟩, .slice none 0 0] 64)) = w1 at *
  have k2 : Below w1.heap.size w1 (w1.alloc (.cells (rdCells G) 71)) := (Below.refl _ _).alloc (Nat.le_refl _) _
  have q2 : ∀ o, (w1.alloc (.cells (rdCells G) 71)).cell? ⟨w.heap.size + 1, o, none⟩ = (rdCells G)[o]? := fun o => by rw [← s1]; exact World.cell?_alloc_new w1 _ _ o
  have f2 : ∀ o, (w1.alloc (.cells (rdCells G) 71)).frozen? ⟨w.heap.size + 1, o, none⟩ = false := fun o => by rw [← s1]; exact World.frozen?_alloc_new w1 _ _ o
  have s2 : (w1.alloc (.cells (rdCells G) 71)).heap.size = w.heap.size + 2 := by rw [World.size_alloc, s1]
  rw [hW] at k2 q2 f2 s2
  have hb : Below w.heap.size w W := b1.trans (k2.mono (by omega))
  have hs := h.below hb
  refine ⟨⟨q2 0, q2 1, q2 2, q2 3, q2 4, q2 5, f2, hs, fun hn => ?_, fun hn => ?_, fun hn => ?_⟩, fun o => ?_, fun o => ?_, s2, hb⟩
  · have : G.b < w.heap.size := World.block_lt_of_cell? w _ (h.ws 0 (by have : G.N ≠ 0 := hn; omega))
    show G.b ≠ w.heap.size + 1
    omega
  · have : G.yb < w.heap.size := World.block_lt_of_cell? w _ (h.ys 0 (by have : G.M ≠ 0 := hn; omega))
    show G.yb ≠ w.heap.size + 1
    omega
  · have : G.ab < w.heap.size := World.block_lt_of_cell? w _ (h.ats 0 (by have : G.A.length ≠ 0 := hn; omega))
    show G.ab ≠ w.heap.size + 1
    omega
  · rw [k2.cell (p := ⟨w.heap.size, o, none⟩) (by show w.heap.size < _; omega)]; exact q1 o
  · rw [k2.frozen (p := ⟨w.heap.size, o, none⟩) (by show w.heap.size < _; omega)]; exact f1 o
/-- What both kinds of GensRead answer. -/
def ReadP (G : GE) (w : World) (x : Int) (e : Ending) (w' : World) : Prop :=
  ∃ a b c d' e' f, e = .returned (.tuple #[.agg #[.int .i64 a, .int .i64 b, .string c, .slice d' e' f], .bool (readT G.H x).isSome]) ∧ Below w.heap.size w w' ∧
    ((∃ t, readT G.H x = some t ∧ RpV (fun b => w.heap.size ≤ b) w' t (.agg #[.int .i64 a, .int .i64 b, .string c, .slice d' e' f])) ∨ (readT G.H x = none ∧ Value.agg #[.int .i64 a, .int .i64 b, .string c, .slice d' e' f] = zT))
theorem readT_spec {H : Hp} (ho : H.ok) (x : Int) : (∀ t y, rT false H 6 x 100 = some (t, y) → readT H x = if (look t 6 100).isSome then some t else none) ∧ (rT false H 6 x 100 = none → readT H x = none) := by
  have key := read_one ho x
  refine ⟨fun t y h => ?_, fun h => ?_⟩
  · unfold readT
    cases hq : rT true H 6 x 100 with
    | none =>
      split
      · rename_i hl
        have := (key t y).2 ⟨h, hl⟩
        rw [hq] at this; cases this
      · rfl
    | some p =>
      obtain ⟨t', y'⟩ := p
      obtain ⟨h1, h2⟩ := (key t' y').1 hq
      rw [h] at h1
      simp only [Option.some.injEq, Prod.mk.injEq] at h1
      obtain ⟨rfl, rfl⟩ := h1
      rw [if_pos h2]; rfl
  · unfold readT
    cases hq : rT true H 6 x 100 with
    | none => rfl
    | some p =>
      obtain ⟨t', y'⟩ := p
      have := ((key t' y').1 hq).1
      rw [h] at this; cases this

set_option maxHeartbeats 2000000 in
set_option maxRecDepth 100000 in
theorem gensRead_aux (E : GE) (w0 w : World) (hw : w0.alloc (.cells #[.slice E.wv E.N E.cap, .slice E.yv E.M E.ycap, .int .i64 E.mark] 44) = w) (h : GSrc E w) (x : Int) (hx : x ≤ 9223372036854775807) :
    Calls Try.prog 38 #[E.v, .slice E.av E.A.length E.acap, .int .i64 x] w0 (ReadP E w x) := by
  have HS : Hid (GSrc E w) := h
  have HX : Hid (x ≤ 9223372036854775807) := hx
  have hus : w0.heap.size + 1 = w.heap.size := by rw [← hw, World.size_alloc]
  have HUS : Hid (w0.heap.size + 1 = w.heap.size) := hus
  have HW0 : Hid (w0.alloc (.cells #[.slice E.wv E.N E.cap, .slice E.yv E.M E.ycap, .int .i64 E.mark] 44) = w) := hw
  clear hus hw
  have HK := readT_spec (GE.ok h.n h.m h.a) x
  have HKK : Hid ((∀ t y, rT false E.H 6 x 100 = some (t, y) → readT E.H x = if (look t 6 100).isSome then some t else none) ∧ (rT false E.H 6 x 100 = none → readT E.H x = none)) := HK
  clear h hx HK
  unfold ReadP GE.v
  generalize hRR : readT E.H x = RR
  have HRR : Hid (readT E.H x = RR) := hRR
  clear hRR
  go_enter Try.func38, Try.ntmps38
  go_wp2_with fail
  rw [HUS.out, HW0.out]
  generalize hW : ((w.alloc (.cells #[.int .i64 0, .int .i64 0, .string ⟨#[]⟩, .slice none 0 0] 64)).alloc (.cells #[.slice E.wv E.N E.cap, .slice E.yv E.M E.ycap, .int .i64 E.mark, .slice E.av E.A.length E.acap, .int .i64 100, .bool false] 71)) = W
  obtain ⟨hs2, q2, f2, hz2, hb2⟩ := sread_in HS.out W hW
  have HB2 : Hid (Below w.heap.size w W) := hb2
  clear hW hb2
  cases hq : rT false E.H 6 x 100 with
  | none =>
    have HRN : Hid (RR = none) := by show _ = _; rw [← HRR.out]; exact HKK.out.2 hq
    refine (sread_no (E := E2 E w) (read_all _ 6 (Nat.le_refl _)) (left := 100) hs2 (by decide) HX.out hq).mono ?_
    rintro e w5 ⟨va, vb, vc, vd, ve, vf, rfl, ht5, z, hs5⟩
    have c3 : w5.cell? ⟨w.heap.size + 1, 5, none⟩ = some (.bool true) := hs5.c5
    obtain ⟨q5, f5⟩ := ht5.keep (W := w.heap.size) (by show w.heap.size + 1 ≠ _; omega) (by omega) q2 f2
    have hz5 := ht5.size
    have HB5 : Hid (Below w.heap.size w w5) := Turn.below HB2.out (by omega) ht5 (by show _ ≤ w.heap.size + 1; omega)
    clear hs2 q2 f2 hq ht5 hs5
    have hk5 : Below w5.heap.size w5 (w5.alloc (.cells #[.int .i64 va, .int .i64 vb, .string vc, .slice vd ve vf] 64)) := (Below.refl _ _).alloc (Nat.le_refl _) _
    have q6 : ∀ o, (w5.alloc (.cells #[.int .i64 va, .int .i64 vb, .string vc, .slice vd ve vf] 64)).cell? ⟨w.heap.size, o, none⟩ = (#[.int .i64 0, .int .i64 0, .string ⟨#[]⟩, .slice none 0 0] : Array Value)[o]? := fun o => by rw [hk5.cell (p := ⟨w.heap.size, o, none⟩) (by show w.heap.size < _; omega)]; exact q5 o
    have f6 : ∀ o, (w5.alloc (.cells #[.int .i64 va, .int .i64 vb, .string vc, .slice vd ve vf] 64)).frozen? ⟨w.heap.size, o, none⟩ = false := fun o => by rw [hk5.frozen (p := ⟨w.heap.size, o, none⟩) (by show w.heap.size < _; omega)]; exact f5 o
    have c36 : (w5.alloc (.cells #[.int .i64 va, .int .i64 vb, .string vc, .slice vd ve vf] 64)).cell? ⟨w.heap.size + 1, 5, none⟩ = _ := (hk5.cell (p := ⟨w.heap.size + 1, 5, none⟩) (by show w.heap.size + 1 < _; omega)).trans c3
    have HB6 : Hid (Below w.heap.size w (w5.alloc (.cells #[.int .i64 va, .int .i64 vb, .string vc, .slice vd ve vf] 64))) := HB5.out.trans (hk5.mono (by omega))
    clear hk5
    go_wp2_with fail
    refine bodyPost_ret (v := .tuple #[zT, .bool false]) (by simp [results, Try.results38, go_sem, q6]) rfl ⟨0, 0, ⟨#[]⟩, none, 0, 0, by rw [HRN.out]; rfl, lay4_below HB6.out (Nat.le_refl _) _ _ _ _, .inr ⟨HRN.out, rfl⟩⟩
  | some ty =>
    obtain ⟨t, y⟩ := ty
    have HRT : Hid (RR = if (look t 6 100).isSome then some t else none) := by show _ = _; rw [← HRR.out]; exact HKK.out.1 t y hq
    refine (sread_yes (E := E2 E w) (read_all _ 6 (Nat.le_refl _)) (left := 100) hs2 (by decide) HX.out hq).mono ?_
    rintro e w5 ⟨va, vb, vc, vd, ve, vf, rfl, hv5, ht5, hs5⟩
    have c3 : w5.cell? ⟨w.heap.size + 1, 5, none⟩ = some (.bool false) := hs5.c5
    obtain ⟨q5, f5⟩ := ht5.keep (W := w.heap.size) (by show w.heap.size + 1 ≠ _; omega) (by omega) q2 f2
    have hz5 := ht5.size
    have HB5 : Hid (Below w.heap.size w w5) := Turn.below HB2.out (by omega) ht5 (by show _ ≤ w.heap.size + 1; omega)
    have HV5 : Hid (RpV (fun b => w.heap.size + 2 ≤ b) w5 t (.agg #[.int .i64 va, .int .i64 vb, .string vc, .slice vd ve vf])) := by rw [hz2] at hv5; exact hv5
    clear hs2 q2 f2 hq ht5 hs5 hv5
    have hk5 : Below w5.heap.size w5 (w5.alloc (.cells #[.int .i64 va, .int .i64 vb, .string vc, .slice vd ve vf] 64)) := (Below.refl _ _).alloc (Nat.le_refl _) _
    have q6 : ∀ o, (w5.alloc (.cells #[.int .i64 va, .int .i64 vb, .string vc, .slice vd ve vf] 64)).cell? ⟨w.heap.size, o, none⟩ = (#[.int .i64 0, .int .i64 0, .string ⟨#[]⟩, .slice none 0 0] : Array Value)[o]? := fun o => by rw [hk5.cell (p := ⟨w.heap.size, o, none⟩) (by show w.heap.size < _; omega)]; exact q5 o
    have f6 : ∀ o, (w5.alloc (.cells #[.int .i64 va, .int .i64 vb, .string vc, .slice vd ve vf] 64)).frozen? ⟨w.heap.size, o, none⟩ = false := fun o => by rw [hk5.frozen (p := ⟨w.heap.size, o, none⟩) (by show w.heap.size < _; omega)]; exact f5 o
    have c36 : (w5.alloc (.cells #[.int .i64 va, .int .i64 vb, .string vc, .slice vd ve vf] 64)).cell? ⟨w.heap.size + 1, 5, none⟩ = _ := (hk5.cell (p := ⟨w.heap.size + 1, 5, none⟩) (by show w.heap.size + 1 < _; omega)).trans c3
    have HB6 : Hid (Below w.heap.size w (w5.alloc (.cells #[.int .i64 va, .int .i64 vb, .string vc, .slice vd ve vf] 64))) := HB5.out.trans (hk5.mono (by omega))
    have HV6 : Hid (RpV (fun b => w.heap.size + 2 ≤ b) (w5.alloc (.cells #[.int .i64 va, .int .i64 vb, .string vc, .slice vd ve vf] 64)) t (.agg #[.int .i64 va, .int .i64 vb, .string vc, .slice vd ve vf])) := (Moves.below hk5).repV HV5.out
    clear hk5
    cases hlk : (look t 6 100).isSome with
    | true =>
      have HLK : Hid ((look t 6 100).isSome = true) := hlk
      have HRS : Hid (RR = some t) := by show _ = _; rw [HRT.out, if_pos hlk]
      clear hlk
      go_wp2_with (first | (go_at_call 42; refine (specOk_any t 0 _ _ HV6.out.rep).mono ?_; rintro e w7 ⟨rfl, hb7⟩; rw [HLK.out]; obtain ⟨b7, hk7, hz7, o7, t7, p7⟩ := box_two hb7; have q7 : ∀ o, w7.cell? ⟨w.heap.size, o, none⟩ = (#[.int .i64 0, .int .i64 0, .string ⟨#[]⟩, .slice none 0 0] : Array Value)[o]? := (fun o => by rw [hb7.cell (p := ⟨w.heap.size, o, none⟩) (by rw [World.size_alloc]; show w.heap.size < _; omega)]; exact q6 o); have f7 : ∀ o, w7.frozen? ⟨w.heap.size, o, none⟩ = false := (fun o => by rw [hb7.frozen (p := ⟨w.heap.size, o, none⟩) (by rw [World.size_alloc]; show w.heap.size < _; omega)]; exact f6 o); have HB7 : Hid (Below w.heap.size w w7) := HB6.out.trans (hb7.mono (by rw [World.size_alloc]; omega)); have HV7 : Hid (RpV (fun b => w.heap.size + 2 ≤ b) w7 t (.agg #[.int .i64 va, .int .i64 vb, .string vc, .slice vd ve vf])) := (Moves.below hb7).repV HV6.out; clear hb7 hk7 o7 t7 p7 q6 f6 c36))
      refine bodyPost_ret (v := .tuple #[.agg #[.int .i64 va, .int .i64 vb, .string vc, .slice vd ve vf], .bool true]) (by simp [results, Try.results38, go_sem, q7]) rfl ⟨va, vb, vc, vd, ve, vf, by rw [HRS.out]; rfl, lay4_below HB7.out (Nat.le_refl _) _ _ _ _, .inl ⟨t, HRS.out, ?_⟩⟩
      refine Moves.repV (S := fun b => w.heap.size + 2 ≤ b) (fun b' o' v' hb' hc' => ?_) HV7.out
      have : w.heap.size + 2 ≤ b' := hb'
      exact ⟨by show w.heap.size ≤ b'; omega, (lay4_cell (by omega)).trans hc'⟩
    | false =>
      have HLK : Hid ((look t 6 100).isSome = false) := hlk
      have HRN : Hid (RR = none) := by show _ = _; rw [HRT.out, if_neg (by rw [hlk]; simp)]
      clear hlk
      go_wp2_with (first | (go_at_call 42; refine (specOk_any t 0 _ _ HV6.out.rep).mono ?_; rintro e w7 ⟨rfl, hb7⟩; rw [HLK.out]; have q7 : ∀ o, w7.cell? ⟨w.heap.size, o, none⟩ = (#[.int .i64 0, .int .i64 0, .string ⟨#[]⟩, .slice none 0 0] : Array Value)[o]? := (fun o => by rw [hb7.cell (p := ⟨w.heap.size, o, none⟩) (by rw [World.size_alloc]; show w.heap.size < _; omega)]; exact q6 o); have f7 : ∀ o, w7.frozen? ⟨w.heap.size, o, none⟩ = false := (fun o => by rw [hb7.frozen (p := ⟨w.heap.size, o, none⟩) (by rw [World.size_alloc]; show w.heap.size < _; omega)]; exact f6 o); have HB7 : Hid (Below w.heap.size w w7) := HB6.out.trans (hb7.mono (by rw [World.size_alloc]; omega)); clear hb7 q6 f6 c36))
      exact bodyPost_ret (v := .tuple #[zT, .bool false]) (by simp [results, Try.results38, go_sem, q7]) rfl ⟨0, 0, ⟨#[]⟩, none, 0, 0, by rw [HRN.out]; rfl, lay4_below HB7.out (Nat.le_refl _) _ _ _ _, .inr ⟨HRN.out, rfl⟩⟩
theorem specGensRead_any (E : GE) (w : World) (h : GSrc E w) (x : Int) (hx : x ≤ 9223372036854775807) :
    Calls Try.prog 38 #[E.v, .slice E.av E.A.length E.acap, .int .i64 x] w (ReadP E w x) := by
  have hb : Below w.heap.size w (w.alloc (.cells #[.slice E.wv E.N E.cap, .slice E.yv E.M E.ycap, .int .i64 E.mark] 44)) := (Below.refl _ _).alloc (Nat.le_refl _) _
  have hz : (w.alloc (.cells #[.slice E.wv E.N E.cap, .slice E.yv E.M E.ycap, .int .i64 E.mark] 44)).heap.size = w.heap.size + 1 := World.size_alloc _ _
  refine (gensRead_aux E w _ rfl (h.below hb) x hx).mono ?_
  rintro e w' ⟨a, b, c, d', e', f, he, hb', hr⟩
  refine ⟨a, b, c, d', e', f, he, hb.trans (hb'.mono (by omega)), ?_⟩
  rcases hr with ⟨t, h1, h2⟩ | h
  · refine .inl ⟨t, h1, Moves.repV (S := fun b => (w.alloc (.cells #[.slice E.wv E.N E.cap, .slice E.yv E.M E.ycap, .int .i64 E.mark] 44)).heap.size ≤ b) (fun b' o' v' hb' hc' => ⟨?_, hc'⟩) h2⟩
    have : w.heap.size + 1 ≤ b' := by rw [← hz]; exact hb'
    show w.heap.size ≤ b'
    omega
  · exact .inr h
end Go.Proofs.Ytjjmikfbongccaa.Gn
