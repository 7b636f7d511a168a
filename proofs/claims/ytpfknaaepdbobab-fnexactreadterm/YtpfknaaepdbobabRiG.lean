/-
  The program's ReadTerm.
-/
import Derived.Test.YtpfknaaepdbobabRiF
namespace Go.Proofs.Ytpfknaaepdbobab
open Go.RowKit
set_option linter.unusedVariables false

/-- The words and the atoms are there. -/
structure Src (E : Env) (w : World) : Prop where
  ok : E.H.ok
  wl : E.H.N ≠ 0 → E.wv = some ⟨E.b, E.o, none⟩
  al : E.H.A.length ≠ 0 → E.av = some ⟨E.ab, E.ao, none⟩
  ws : ∀ j, j < E.H.N → w.cell? ⟨E.b, E.o + j, none⟩ = some (.int .i64 (E.H.f j))
  ats : Txt w E.ab E.ao E.H.A
  cp : E.H.N ≤ E.cap
  big : ∀ j, E.H.f j ≤ 9223372036854775807
  txt : ∀ s, s ∈ E.H.A → s.size ≤ maxLen
theorem Src.below {E : Env} {w w' : World} (h : Src E w) (hb : Below w.heap.size w w') : Src E w' := by
  have e : ∀ b o v, w.cell? ⟨b, o, none⟩ = some v → w'.cell? ⟨b, o, none⟩ = some v := fun b o v hc => by
    rw [hb.cell (p := ⟨b, o, none⟩) (World.block_lt_of_cell? w _ hc)]; exact hc
  exact ⟨h.ok, h.wl, h.al, fun j hj => e _ _ _ (h.ws j hj), h.ats.below hb, h.cp, h.big, h.txt⟩
abbrev zT : Value := .agg #[.int .i64 0, .int .i64 0, .string ⟨#[]⟩, .slice none 0 0]

theorem catch_read (B1 B2 : Nat) (z : Value) (w : World) (older : List PanicEntry) (u : TypeId) (pv : Value) (c : Array Value) (hc : c.size = 4)
    (q : ∀ o, w.cell? ⟨B1, o, none⟩ = c[o]?) (f : ∀ o, w.frozen? ⟨B1, o, none⟩ = false) (q2 : w.cell? ⟨B2, 0, none⟩ = some z) (f2 : w.frozen? ⟨B2, 0, none⟩ = false) (hn : B1 ≠ B2) :
    CallsD Try.prog 24 #[.pointer (some ⟨B1, 0, none⟩), .pointer (some ⟨B2, 0, none⟩)] (.panicking ({ v := .iface u pv, recovered := false } :: older)) w fun e u' w' =>
      e = .returned (.tuple #[]) ∧ u' = .panicking ({ v := .iface u pv, recovered := true } :: older) ∧ w' = (lay4 w B1 (.int .i64 0) (.int .i64 0) (.string ⟨#[]⟩) (.slice none 0 0)).setCell ⟨B2, 0, none⟩ (.bool false) := by
  refine callsD_of_wpS Try.func24 rfl fun c₀ cs hu => ?_
  have c0 : w.cell? ⟨B1, 0, none⟩ = some c[0] := by rw [q, Array.getElem?_eq_getElem (by omega)]
  have c1 : w.cell? ⟨B1, 1, none⟩ = some c[1] := by rw [q, Array.getElem?_eq_getElem (by omega)]
  have c2 : w.cell? ⟨B1, 2, none⟩ = some c[2] := by rw [q, Array.getElem?_eq_getElem (by omega)]
  have c3 : w.cell? ⟨B1, 3, none⟩ = some c[3] := by rw [q, Array.getElem?_eq_getElem (by omega)]
  clear q
  apply wpS_seq
  apply wpS_region
  simp [wpOpsS, go_sem, recoverD, hu, Try.ntmps24, Exit.thenS]
  refine wpS_cond (t := true) (by simp [Act.eval, Array.replicate]) ?_
  simp only [if_true]
  apply wpS_region
  simp [wpOpsS, go_sem, c0, c1, c2, c3, q2, f, f2, bodyPostS, results, Try.results24, lay4]
theorem catch_idle (p1 p2 : Value) (w : World) :
    CallsD Try.prog 24 #[p1, p2] .returning w fun e u' w' => e = .returned (.tuple #[]) ∧ u' = .returning ∧ w' = w := by
  refine callsD_of_wpS Try.func24 rfl fun c₀ cs hu => ?_
  apply wpS_seq
  apply wpS_region
  simp [wpOpsS, go_sem, recoverD, hu, Try.ntmps24, Exit.thenS]
  refine wpS_cond (t := false) (by simp [Act.eval, Array.replicate]) ?_
  simp only [Bool.false_eq_true, if_false]
  refine wpS_of_wp (wp_skip ?_)
  cases c₀
  simp_all [bodyPostS, results, Try.results24]

abbrev w4 (E : Env) (w : World) : World := (((w.alloc (.cells #[.slice E.wv E.H.N E.cap] 33)).alloc (.cells #[.int .i64 0, .int .i64 0, .string ⟨#[]⟩, .slice none 0 0] 30)).alloc (.cells #[.bool false] 4)).alloc (.cells #[.slice E.wv E.H.N E.cap, .slice E.av E.H.A.length E.acap, .int .i64 100] 49)
abbrev E4 (E : Env) (w : World) : Env := { E with rb := w.heap.size + 1 + 1 + 1 }
theorem read_in {E : Env} {w : World} (h : Src E w) (W : World) (hW : W = w4 E w) :
    Rr (E4 E w) 100 W ∧ (∀ o, W.cell? ⟨w.heap.size + 1, o, none⟩ = (#[.int .i64 0, .int .i64 0, .string ⟨#[]⟩, .slice none 0 0] : Array Value)[o]?) ∧ (∀ o, W.frozen? ⟨w.heap.size + 1, o, none⟩ = false) ∧ (∀ o, W.cell? ⟨w.heap.size + 1 + 1, o, none⟩ = (#[.bool false] : Array Value)[o]?) ∧ (∀ o, W.frozen? ⟨w.heap.size + 1 + 1, o, none⟩ = false) ∧ W.heap.size = w.heap.size + 4 ∧ Below w.heap.size w W := by
  unfold w4 at hW
  have s1 : (w.alloc (.cells #[.slice E.wv E.H.N E.cap] 33)).heap.size = w.heap.size + 1 := World.size_alloc _ _
  have b1 : Below w.heap.size w (w.alloc (.cells #[.slice E.wv E.H.N E.cap] 33)) := (Below.refl _ _).alloc (Nat.le_refl _) _
  generalize (w.alloc (.cells #[.slice E.wv E.H.N E.cap] 33)) = w1 at *
  have s2 : (w1.alloc (.cells #[.int .i64 0, .int .i64 0, .string ⟨#[]⟩, .slice none 0 0] 30)).heap.size = w.heap.size + 1 + 1 := by rw [World.size_alloc, s1]
  have b2 := b1.alloc (by omega) (.cells #[.int .i64 0, .int .i64 0, .string ⟨#[]⟩, .slice none 0 0] 30)
  have q2 : ∀ o, (w1.alloc (.cells #[.int .i64 0, .int .i64 0, .string ⟨#[]⟩, .slice none 0 0] 30)).cell? ⟨w.heap.size + 1, o, none⟩ = (#[.int .i64 0, .int .i64 0, .string ⟨#[]⟩, .slice none 0 0] : Array Value)[o]? := fun o => by rw [← s1]; exact World.cell?_alloc_new w1 _ _ o
  have f2 : ∀ o, (w1.alloc (.cells #[.int .i64 0, .int .i64 0, .string ⟨#[]⟩, .slice none 0 0] 30)).frozen? ⟨w.heap.size + 1, o, none⟩ = false := fun o => by rw [← s1]; exact World.frozen?_alloc_new w1 _ _ o
  generalize (w1.alloc (.cells #[.int .i64 0, .int .i64 0, .string ⟨#[]⟩, .slice none 0 0] 30)) = w2 at *
  have s3 : (w2.alloc (.cells #[.bool false] 4)).heap.size = w.heap.size + 1 + 1 + 1 := by rw [World.size_alloc, s2]
  have b3 := b2.alloc (by omega) (.cells #[.bool false] 4)
  have k3 : Below w2.heap.size w2 (w2.alloc (.cells #[.bool false] 4)) := (Below.refl _ _).alloc (Nat.le_refl _) _
  have q3 : ∀ o, (w2.alloc (.cells #[.bool false] 4)).cell? ⟨w.heap.size + 1 + 1, o, none⟩ = (#[.bool false] : Array Value)[o]? := fun o => by rw [← s2]; exact World.cell?_alloc_new w2 _ _ o
  have f3 : ∀ o, (w2.alloc (.cells #[.bool false] 4)).frozen? ⟨w.heap.size + 1 + 1, o, none⟩ = false := fun o => by rw [← s2]; exact World.frozen?_alloc_new w2 _ _ o
  generalize (w2.alloc (.cells #[.bool false] 4)) = w3 at *
  have s4 : (w3.alloc (.cells #[.slice E.wv E.H.N E.cap, .slice E.av E.H.A.length E.acap, .int .i64 100] 49)).heap.size = w.heap.size + 4 := by rw [World.size_alloc, s3]
  have b4 := b3.alloc (by omega) (.cells #[.slice E.wv E.H.N E.cap, .slice E.av E.H.A.length E.acap, .int .i64 100] 49)
  have k4 : Below w3.heap.size w3 (w3.alloc (.cells #[.slice E.wv E.H.N E.cap, .slice E.av E.H.A.length E.acap, .int .i64 100] 49)) := (Below.refl _ _).alloc (Nat.le_refl _) _
  have q4 : ∀ o, (w3.alloc (.cells #[.slice E.wv E.H.N E.cap, .slice E.av E.H.A.length E.acap, .int .i64 100] 49)).cell? ⟨w.heap.size + 1 + 1 + 1, o, none⟩ = (#[.slice E.wv E.H.N E.cap, .slice E.av E.H.A.length E.acap, .int .i64 100] : Array Value)[o]? := fun o => by rw [← s3]; exact World.cell?_alloc_new w3 _ _ o
  have f4 : ∀ o, (w3.alloc (.cells #[.slice E.wv E.H.N E.cap, .slice E.av E.H.A.length E.acap, .int .i64 100] 49)).frozen? ⟨w.heap.size + 1 + 1 + 1, o, none⟩ = false := fun o => by rw [← s3]; exact World.frozen?_alloc_new w3 _ _ o
  generalize (w3.alloc (.cells #[.slice E.wv E.H.N E.cap, .slice E.av E.H.A.length E.acap, .int .i64 100] 49)) = W4 at *
  subst hW
  have hs := h.below b4
  refine ⟨⟨q4 0, q4 1, q4 2, f4 2, hs.ok, hs.wl, hs.al, hs.ws, hs.ats, fun hn => ?_, fun hn => ?_, hs.cp, hs.big, hs.txt⟩, fun o => ?_, fun o => ?_, fun o => ?_, fun o => ?_, s4, b4⟩
  · have : E.b < w.heap.size := World.block_lt_of_cell? w _ (h.ws 0 (by show 0 < E.H.N; have : E.H.N ≠ 0 := hn; omega))
    show E.b ≠ w.heap.size + 1 + 1 + 1
    omega
  · have : E.ab < w.heap.size := World.block_lt_of_cell? w _ (h.ats 0 (by have : E.H.A.length ≠ 0 := hn; omega))
    show E.ab ≠ w.heap.size + 1 + 1 + 1
    omega
  · rw [k4.cell (p := ⟨w.heap.size + 1, o, none⟩) (by show w.heap.size + 1 < _; omega), k3.cell (p := ⟨w.heap.size + 1, o, none⟩) (by show w.heap.size + 1 < _; omega)]; exact q2 o
  · rw [k4.frozen (p := ⟨w.heap.size + 1, o, none⟩) (by show w.heap.size + 1 < _; omega), k3.frozen (p := ⟨w.heap.size + 1, o, none⟩) (by show w.heap.size + 1 < _; omega)]; exact f2 o
  · rw [k4.cell (p := ⟨w.heap.size + 1 + 1, o, none⟩) (by show w.heap.size + 1 + 1 < _; omega)]; exact q3 o
  · rw [k4.frozen (p := ⟨w.heap.size + 1 + 1, o, none⟩) (by show w.heap.size + 1 + 1 < _; omega)]; exact f3 o
theorem lay4_below {B : Nat} {W w : World} (h : Below B W w) {g : Nat} (hg : B ≤ g) (a b c d : Value) : Below B W (lay4 w g a b c d) :=
  (((h.setCell (p := ⟨g, 0, none⟩) hg a).setCell (p := ⟨g, 1, none⟩) hg b).setCell (p := ⟨g, 2, none⟩) hg c).setCell (p := ⟨g, 3, none⟩) hg d
theorem two_far {w5 : World} {B1 B2 k o : Nat} {a b c d v : Value} (h1 : k ≠ B1) (h2 : k ≠ B2) : ((lay4 w5 B1 a b c d).setCell ⟨B2, 0, none⟩ v).cell? ⟨k, o, none⟩ = w5.cell? ⟨k, o, none⟩ := by
  rw [World.cell?_setCell_other (h := fun e => by simp at e <;> omega), lay4_cell h1]

set_option maxHeartbeats 2000000 in
set_option maxRecDepth 100000 in
theorem implRead_any (E : Env) (w : World) (h : Src E w) (x : Int) (hx : x ≤ 9223372036854775807) :
    Calls Try.prog 10 #[.agg #[.slice E.wv E.H.N E.cap], .slice E.av E.H.A.length E.acap, .int .i64 x] w fun e w' => Below w.heap.size w w' ∧
      ((∃ t v, readT E.H x = some t ∧ e = .returned (.tuple #[v, .bool true]) ∧ RpV (fun b => w.heap.size ≤ b) w' t v) ∨ (readT E.H x = none ∧ e = .returned (.tuple #[zT, .bool false]))) := by
  have hmf : ∀ (fn : Fn) (first cap : Array Value) (w : World), (Instr.makeFunc fn first cap).run Try.prog w = .ok (.func fn first cap) w := fun _ _ _ _ => rfl
  have HS : Hid (Src E w) := h
  have HX : Hid (x ≤ 9223372036854775807) := hx
  clear h hx
  go_enter_defers Try.func10, Try.ntmps10
  go_wp2_with fail
  generalize hW : (((w.alloc (.cells #[.slice E.wv E.H.N E.cap] 33)).alloc (.cells #[.int .i64 0, .int .i64 0, .string ⟨#[]⟩, .slice none 0 0] 30)).alloc (.cells #[.bool false] 4)).alloc (.cells #[.slice E.wv E.H.N E.cap, .slice E.av E.H.A.length E.acap, .int .i64 100] 49) = W
  obtain ⟨hr4, q1, f1, q2, f2, hz4, hb4⟩ := read_in HS.out W hW.symm
  have HB4 : Hid (Below w.heap.size w W) := hb4
  clear hW hb4
  have hrt : ∀ o, rT true E.H 6 x 100 = o → readT E.H x = o.map Prod.fst := fun o h => by rw [readT, h]
  cases hq : rT true E.H 6 x 100 with
  | none =>
    have HN : Hid (readT E.H x = none) := hrt _ hq
    refine (term_no (E := E4 E w) (term_all _ 6 (Nat.le_refl _)) hr4 (by decide) HX.out hq).mono ?_
    rintro e w5 ⟨rfl, ht5⟩
    obtain ⟨q15, f15⟩ := ht5.keep (by show w.heap.size + 1 + 1 + 1 ≠ _; omega) (by omega) q1 f1
    obtain ⟨q25, f25⟩ := ht5.keep (by show w.heap.size + 1 + 1 + 1 ≠ _; omega) (by omega) q2 f2
    have HB5 : Hid (Below w.heap.size w w5) := Turn.below HB4.out (by omega) ht5 (by show _ ≤ w.heap.size + 1 + 1 + 1; omega)
    clear hr4 q1 f1 q2 f2 hrt hq ht5
    go_wp2_with fail
    refine leaves_cons (f := 24) (args := #[.pointer (some ⟨w.heap.size + 1, 0, none⟩), .pointer (some ⟨w.heap.size + 1 + 1, 0, none⟩)]) (by simp) (by simp [go_sem]) ?_
    refine (catch_read (w.heap.size + 1) (w.heap.size + 1 + 1) (.bool false) _ [] _ _ _ rfl q15 f15 (q25 0) (f25 0) (by omega)).mono ?_
    rintro e u' w'' ⟨rfl, rfl, rfl⟩
    simp only [settle, List.dropWhile, Leaves]
    refine ⟨.tuple #[zT, .bool false], by simp [results, Try.results10, go_sem, q15, q25, lay4], ?_⟩
    exact ⟨(lay4_below HB5.out (by omega) _ _ _ _).setCell (by show _ ≤ w.heap.size + 1 + 1; omega) _, .inr ⟨HN.out, rfl⟩⟩
  | some ty =>
    obtain ⟨t, y⟩ := ty
    have HN : Hid (readT E.H x = some t) := hrt _ hq
    refine (term_yes (E := E4 E w) (term_all _ 6 (Nat.le_refl _)) hr4 (by decide) HX.out hq).mono ?_
    rintro e w5 ⟨va, vb, vc, vd, ve, vf, rfl, ht5, hv5, hr5⟩
    obtain ⟨q15, f15⟩ := ht5.keep (by show w.heap.size + 1 + 1 + 1 ≠ _; omega) (by omega) q1 f1
    obtain ⟨q25, f25⟩ := ht5.keep (by show w.heap.size + 1 + 1 + 1 ≠ _; omega) (by omega) q2 f2
    have HB5 : Hid (Below w.heap.size w w5) := Turn.below HB4.out (by omega) ht5 (by show _ ≤ w.heap.size + 1 + 1 + 1; omega)
    have HV5 : Hid (RpV (fun b => w.heap.size + 4 ≤ b) w5 t (.agg #[.int .i64 va, .int .i64 vb, .string vc, .slice vd ve vf])) := by rw [hz4] at hv5; exact hv5
    clear hr4 q1 f1 q2 f2 hrt hq ht5 hv5 hr5
    go_wp2_with fail
    refine leaves_cons (f := 24) (args := #[.pointer (some ⟨w.heap.size + 1, 0, none⟩), .pointer (some ⟨w.heap.size + 1 + 1, 0, none⟩)]) (by simp) (by simp [go_sem]) ?_
    refine (catch_idle _ _ _).mono ?_
    rintro e u' w'' ⟨rfl, rfl, rfl⟩
    simp only [settle, Leaves]
    refine ⟨.tuple #[.agg #[.int .i64 va, .int .i64 vb, .string vc, .slice vd ve vf], .bool true], by simp [results, Try.results10, go_sem, q15, q25], ?_⟩
    refine ⟨(lay4_below HB5.out (by omega) _ _ _ _).setCell (by show _ ≤ w.heap.size + 1 + 1; omega) _, .inl ⟨t, _, HN.out, rfl, Moves.repV (S := fun b => w.heap.size + 4 ≤ b) (fun b' o' v' hb' hc' => ⟨?_, ?_⟩) HV5.out⟩⟩
    · have : w.heap.size + 4 ≤ b' := hb'
      show w.heap.size ≤ b'
      omega
    · have : w.heap.size + 4 ≤ b' := hb'
      exact (two_far (w5 := w5) (B1 := w.heap.size + 1) (B2 := w.heap.size + 1 + 1) (by omega) (by omega)).trans hc'
end Go.Proofs.Ytpfknaaepdbobab
