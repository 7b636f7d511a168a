/-
  impl.GensPut.
-/
import Derived.Test.YtabgfaafpgholaaY14
import Derived.Test.YtabgfaafpgholaaW47
namespace Go.Proofs.Ytabgfaafpgholaa
open Go.RowKit
set_option linter.unusedVariables false

/-- What the program's GensPut answers. -/
def PgI (w : World) (t : Tm) (xs ys : List Int) (m : Int) (A : List ByteArray) (e : Ending) (w' : World) : Prop :=
  ∃ g c y cy ga ca ys' B x ok, e = .returned (.tuple #[.agg #[.slice (some ⟨g, 0, none⟩) xs.length c, .slice (some ⟨y, 0, none⟩) ys'.length cy, .int .i64 m], .slice (some ⟨ga, 0, none⟩) B.length ca, .int .i64 x, .bool ok]) ∧
    Ints w' g 0 xs.length (lfI xs) ∧ Ints w' y 0 ys'.length (lfI ys') ∧ Sts w' ga B.length (lf B) ∧ (w.heap.size ≤ g ∧ g < w'.heap.size) ∧ (w.heap.size ≤ y ∧ y < w'.heap.size) ∧ (w.heap.size ≤ ga ∧ ga < w'.heap.size) ∧ (g ≠ y ∧ g ≠ ga ∧ y ≠ ga) ∧ Below w.heap.size w w' ∧
    ((ok = true ∧ ∃ ns, PtB t ys 100000 1000 A = some (ns, B, x) ∧ ys' = ys ++ ns) ∨ (ok = false ∧ x = 0 ∧ ys' = ys ∧ B = A ∧ PtB t ys 100000 1000 A = none))
theorem Turn.drewJ {cb : Nat} {a w : World} (h : Turn cb a w) : Turn cb a w.drew := ⟨h.os, h.tape, h.output, h.size, h.block⟩
theorem pgI_of {w W w5 w6 wE : World} {t : Tm} {xs ys ys' : List Int} {m : Int} {A B : List ByteArray} {h0 : Value} {pa : Option Addr} {cy ga ca g c : Nat} {x : Int} {ok : Bool} (hW : Below w.heap.size w W) (hs : W.heap.size = w.heap.size + 3) (hp : PEnd W w5 (hok ok h0) pa ys' ga B) (hn : h0 ≠ .slice none 0 0)
    (hor : (ok = true ∧ ∃ ns, PtB t ys 100000 1000 A = some (ns, B, x) ∧ ys' = ys ++ ns) ∨ (ok = false ∧ x = 0 ∧ ys' = ys ∧ B = A ∧ PtB t ys 100000 1000 A = none))
    (h6 : Below w5.heap.size w5 w6) (ho : w6.ownsRow w5.heap.size 3 1 (.slice (some ⟨g, 0, none⟩) xs.length c) xs.length (xs.map (Value.int .i64))) (tE : Turn (w.heap.size + 1 + 1) w6 wE) :
    PgI w t xs ys m A (.returned (.tuple #[.agg #[.slice (some ⟨g, 0, none⟩) xs.length c, .slice pa ys'.length cy, .int .i64 m], .slice (some ⟨ga, 0, none⟩) B.length ca, .int .i64 x, .bool ok])) wE := by
  obtain ⟨y, rfl, e2, e3, e4, e5⟩ := hp.wr (.inr (by cases ok <;> first | exact hn | exact fun h => by cases h))
  obtain ⟨i1, i2, i3⟩ := own_intsP ho
  have s5 := hp.be.size
  have s6 := h6.size
  have sE := tE.size
  have l1 := hp.al
  have l2 := hp.at'
  have b6 : ∀ b, b < w5.heap.size → b ≠ w.heap.size + 1 + 1 → wE.heap[b]? = w5.heap[b]? := fun b hb hn => (tE.block b (by omega) hn).trans (h6.block b hb)
  refine ⟨g, c, y, cy, ga, ca, ys', B, x, ok, rfl, i1.heap (tE.block g i3 (by omega)), e5.heap (b6 y e3 (by omega)), hp.ar.heap (b6 ga l2 (by omega)), ⟨by omega, by omega⟩, ⟨by omega, by omega⟩, ⟨by omega, by omega⟩, ⟨by omega, by omega, e4⟩, ?_, hor⟩
  exact ⟨tE.os.trans (h6.os.trans (hp.be.os.trans hW.os)), tE.tape.trans (h6.tape.trans (hp.be.tape.trans hW.tape)), tE.output.trans (h6.output.trans (hp.be.output.trans hW.output)), by omega, fun k hk => (b6 k (by omega) (by omega)).trans ((hp.be.block k (by omega)).trans (hW.block k hk))⟩
set_option maxHeartbeats 8000000 in
set_option maxRecDepth 100000 in
theorem implGens_any (w : World) (u1 u2 : Value) (xs ys : List Int) (m : Int) (ab ao ac : Nat) (A : List ByteArray) (bs : List Nat) (t : Tm) (v : Value) (h1 : WV w w.heap.size u1 xs) (h2 : WV w w.heap.size u2 ys) (hn1 : u1 ≠ .slice none 0 0) (hn2 : u2 ≠ .slice none 0 0) (hA : Txt w ab ao A) (hO : OsV w bs t v) (hnd : bs.Nodup) (hx : xs.length ≤ 1048576) (hy : ys.length ≤ 1048576) (hal : A.length ≤ 1048576) (hat : (look t 6 100).isSome = true → A.length + nT t ≤ 1048577) :
    Calls Try.prog 33 #[.agg #[u1, u2, .int .i64 m], .slice (some ⟨ab, ao, none⟩) A.length ac, v] w (PgI w t xs ys m A) := by
  obtain ⟨p1, c1, rfl⟩ := h1.form
  obtain ⟨p2, c2, rfl⟩ := h2.form
  obtain ⟨a1, a2, a3, a4, a5, a6, rfl⟩ := hO.form
  obtain ⟨W, hW⟩ : ∃ W, W = (((w.alloc (.cells #[.slice p1 xs.length c1, .slice p2 ys.length c2, .int .i64 m] 60)).alloc (.cells #[.int .i64 a1, .int .i64 a2, .string a3, .slice a4 a5 a6] 39)).alloc (.cells #[.slice none 0 0, .slice none 0 0, .int .i64 0] 60)) := ⟨_, rfl⟩
  have b1 : Below w.heap.size w ((w.alloc (.cells #[.slice p1 xs.length c1, .slice p2 ys.length c2, .int .i64 m] 60)).alloc (.cells #[.int .i64 a1, .int .i64 a2, .string a3, .slice a4 a5 a6] 39)) := ((Below.refl _ _).alloc (Nat.le_refl _) _).alloc (by simp) _
  have hbW : Below w.heap.size w W := by rw [hW]; exact b1.alloc b1.size _
  have hzW : W.heap.size = w.heap.size + 3 := by rw [hW]; simp
  have qa : ∀ o, W.cell? ⟨w.heap.size, o, none⟩ = (#[.slice p1 xs.length c1, .slice p2 ys.length c2, .int .i64 m] : Array Value)[o]? := fun o => by rw [hW, World.cell?_alloc_lt (h := by simp only [World.size_alloc]; omega), World.cell?_alloc_lt (h := by simp only [World.size_alloc]; omega), World.cell?_alloc_new]
  have qr : ∀ o, W.cell? ⟨w.heap.size + 1 + 1, o, none⟩ = (#[.slice none 0 0, .slice none 0 0, .int .i64 0] : Array Value)[o]? := fun o => by rw [hW, World.cell?_alloc_at (hn := by simp)]
  have fr : ∀ o, W.frozen? ⟨w.heap.size + 1 + 1, o, none⟩ = false := fun o => by rw [hW, World.frozen?_alloc_at (hn := by simp)]
  have HBW : Hid (Below w.heap.size w W ∧ W.heap.size = w.heap.size + 3) := ⟨hbW, hzW⟩
  have HQ : Hid (∀ X, Below W.heap.size W X → X.cell? ⟨w.heap.size, 0, none⟩ = some (.slice p1 xs.length c1) ∧ X.cell? ⟨w.heap.size, 2, none⟩ = some (.int .i64 m)) := fun X hb => by
    have hq : ∀ o, X.cell? ⟨w.heap.size, o, none⟩ = (#[.slice p1 xs.length c1, .slice p2 ys.length c2, .int .i64 m] : Array Value)[o]? := fun o => by rw [hb.cell (p := ⟨w.heap.size, o, none⟩) (by show w.heap.size < _; omega)]; exact qa o
    exact ⟨hq 0, hq 2⟩
  have HR : Hid (∀ X, Below W.heap.size W X → (X.cell? ⟨w.heap.size + 1 + 1, 0, none⟩ = some (.slice none 0 0) ∧ X.cell? ⟨w.heap.size + 1 + 1, 1, none⟩ = some (.slice none 0 0) ∧ X.cell? ⟨w.heap.size + 1 + 1, 2, none⟩ = some (.int .i64 0)) ∧ ∀ o, X.frozen? ⟨w.heap.size + 1 + 1, o, none⟩ = false) := fun X hb => by
    have hq : ∀ o, X.cell? ⟨w.heap.size + 1 + 1, o, none⟩ = (#[.slice none 0 0, .slice none 0 0, .int .i64 0] : Array Value)[o]? := fun o => by rw [hb.cell (p := ⟨w.heap.size + 1 + 1, o, none⟩) (by show w.heap.size + 1 + 1 < _; omega)]; exact qr o
    exact ⟨⟨hq 0, hq 1, hq 2⟩, fun o => by rw [hb.frozen (p := ⟨w.heap.size + 1 + 1, o, none⟩) (by show w.heap.size + 1 + 1 < _; omega)]; exact fr o⟩
  have HV1 : Hid (∀ X, Below W.heap.size W X → WV X X.heap.size (.slice p1 xs.length c1) xs) := fun X hb => h1.below (hbW.trans (hb.mono hbW.size))
  have HPB : Hid (Calls Try.prog 45 #[.slice p2 ys.length c2, .int .i64 100000, .int .i64 1000, .slice (some ⟨ab, ao, none⟩) A.length ac, .agg #[.int .i64 a1, .int .i64 a2, .string a3, .slice a4 a5 a6]] W (PBe W (.slice p2 ys.length c2) ys A (PtB t ys 100000 1000 A))) :=
    putBehind_any W (p2, ys.length, c2) ys 100000 1000 ab ao ac A bs t _ (h2.below hbW) (hA.below hbW) (OsV.below hbW hO) hnd hy hal (by omega) (by omega) hat _ rfl
  have HX : Hid (xs.length ≤ 1048576) := hx
  have HN1 : Hid (Value.slice p1 xs.length c1 ≠ .slice none 0 0) := hn1
  have HN2 : Hid (Value.slice p2 ys.length c2 ≠ .slice none 0 0) := hn2
  have q1 : W.cell? ⟨w.heap.size, 1, none⟩ = some (.slice p2 ys.length c2) := qa 1
  have qt : ∀ o, W.cell? ⟨w.heap.size + 1, o, none⟩ = (#[.int .i64 a1, .int .i64 a2, .string a3, .slice a4 a5 a6] : Array Value)[o]? := fun o => by rw [hW, World.cell?_alloc_lt (h := by simp only [World.size_alloc]; omega), World.cell?_alloc_at (hn := by simp)]
  clear h1 h2 hn1 hn2 hA hO hnd hx hy hal hat b1 hbW hzW qa qr fr
  go_enter Try.func33, Try.ntmps33
  go_wp2_with (go_at_call 45; fail)
  rw [← hW]
  clear hW
  refine HPB.out.mono ?_
  rintro e w5 ⟨pa, cy, ga, ca, ys', B, x, ok, rfl, hpe, hor, _⟩
  have HPE := hidQ hpe
  have HOR := hidQ hor
  clear hpe hor q1 qt
  go_wp2_with fail
  have S0 := HQ.out w5.drew HPE.out.be.drew
  go_region_held3 (fun X => X.cell? ⟨w.heap.size, 0, none⟩ = some (.slice p1 xs.length c1) ∧ X.cell? ⟨w.heap.size, 2, none⟩ = some (.int .i64 m)) (first | (refine HQ.out _ ?_; (first | with_reducible exact HPE.out.be.drew | with_reducible exact HB6.out | with_reducible exact HB6.out.drew); done) | (refine HS6.out _ ?_; (repeat' first | with_reducible exact Turn.refl _ _ | with_reducible refine Turn.set ?_ _ _ | with_reducible refine Turn.drewJ ?_); done) | go_keep) (first
    | (go_at_call 64; refine (cloneI_any _ xs w5.drew (HV1.out _ HPE.out.be.drew) HX.out).mono ?_; rintro e w6 ⟨u, rfl, hc, hb6⟩; obtain ⟨g, c, rfl, ho⟩ : ∃ g c, u = .slice (some ⟨g, 0, none⟩) xs.length c ∧ w6.ownsRow w5.heap.size 3 1 (.slice (some ⟨g, 0, none⟩) xs.length c) xs.length (xs.map (Value.int .i64)) := (by rcases hc with ⟨e, _⟩ | h; exact absurd e HN1.out; exact h); have HO := hidQ ho; have HK : Hid (Below w5.heap.size w5 w6) := ⟨hb6.os, hb6.tape, hb6.output, hb6.size, hb6.block⟩; have HB6 : Hid (Below W.heap.size W w6) := HPE.out.be.trans (HK.out.mono HPE.out.be.size); have HS6 : Hid (∀ X, Turn (w.heap.size + 1 + 1) w6 X → X.cell? ⟨w.heap.size, 0, none⟩ = some (.slice p1 xs.length c1) ∧ X.cell? ⟨w.heap.size, 2, none⟩ = some (.int .i64 m)) := (fun X t => ⟨t.cell (by omega) (HQ.out w6 HB6.out).1, t.cell (by omega) (HQ.out w6 HB6.out).2⟩); obtain ⟨⟨r0, r1, r2⟩, rf⟩ := HR.out w6 HB6.out; clear hc hb6 ho))
  all_goals
    go_wp2_with fail
    exact bodyPost_ret (v := .tuple #[.agg #[.slice (some ⟨g, 0, none⟩) xs.length c, .slice pa ys'.length cy, .int .i64 m], .slice (some ⟨ga, 0, none⟩) B.length ca, .int .i64 x, .bool ok]) (by simp [results, Try.results33, go_sem, r0, r1, r2]) rfl (pgI_of HBW.out.1 HBW.out.2 HPE.out HN2.out HOR.out HK.out HO.out (by (repeat' first | with_reducible exact Turn.refl _ _ | with_reducible refine Turn.set ?_ _ _ | with_reducible refine Turn.drewJ ?_)))
end Go.Proofs.Ytabgfaafpgholaa
