/-
  The specification's copy of two generations.
  spec.l6Copy.
-/
import Derived.Test.YtabgfaafpgholaaY12
namespace Go.Proofs.Ytabgfaafpgholaa
open Go.RowKit
set_option linter.unusedVariables false

theorem WV.form {w : World} {B : Nat} {v : Value} {xs : List Int} (h : WV w B v xs) : ∃ a c, v = .slice a xs.length c := by
  rcases h with ⟨rfl, rfl⟩ | ⟨b, c, rfl, _, _⟩
  · exact ⟨none, 0, rfl⟩
  · exact ⟨_, c, rfl⟩
set_option maxHeartbeats 8000000 in
set_option maxRecDepth 100000 in
theorem l6copy_any (w : World) (u1 u2 : Value) (xs ys : List Int) (m : Int) (h1 : WV w w.heap.size u1 xs) (h2 : WV w w.heap.size u2 ys) (hx : xs.length ≤ 1048576) (hy : ys.length ≤ 1048576) :
    Calls Try.prog 62 #[.agg #[u1, u2, .int .i64 m]] w (CopG w xs ys m) := by
  obtain ⟨p1, c1, rfl⟩ := h1.form
  obtain ⟨p2, c2, rfl⟩ := h2.form
  obtain ⟨W, hW⟩ : ∃ W, W = (w.alloc (.cells #[.slice p1 xs.length c1, .slice p2 ys.length c2, .int .i64 m] 60)).alloc (.cells #[.slice none 0 0, .slice none 0 0, .int .i64 0] 60) := ⟨_, rfl⟩
  have hbW : Below w.heap.size w W := by rw [hW]; exact ((Below.refl _ _).alloc (Nat.le_refl _) _).alloc (by simp) _
  have hzW : W.heap.size = w.heap.size + 2 := by rw [hW]; simp
  have qa : ∀ o, W.cell? ⟨w.heap.size, o, none⟩ = (#[.slice p1 xs.length c1, .slice p2 ys.length c2, .int .i64 m] : Array Value)[o]? := fun o => by rw [hW, World.cell?_alloc_lt (h := by simp), World.cell?_alloc_new]
  have qr : ∀ o, W.cell? ⟨w.heap.size + 1, o, none⟩ = (#[.slice none 0 0, .slice none 0 0, .int .i64 0] : Array Value)[o]? := fun o => by
    have e1 : (w.alloc (.cells #[.slice p1 xs.length c1, .slice p2 ys.length c2, .int .i64 m] 60)).heap.size = w.heap.size + 1 := by simp
    rw [hW, ← e1, World.cell?_alloc_new]
  have fr : ∀ o, W.frozen? ⟨w.heap.size + 1, o, none⟩ = false := fun o => by
    have e1 : (w.alloc (.cells #[.slice p1 xs.length c1, .slice p2 ys.length c2, .int .i64 m] 60)).heap.size = w.heap.size + 1 := by simp
    rw [hW, ← e1, World.frozen?_alloc_new]
  have HBW : Hid (Below w.heap.size w W ∧ W.heap.size = w.heap.size + 2) := ⟨hbW, hzW⟩
  have HQ : Hid (∀ X, Below W.heap.size W X → X.cell? ⟨w.heap.size, 0, none⟩ = some (.slice p1 xs.length c1) ∧ X.cell? ⟨w.heap.size, 1, none⟩ = some (.slice p2 ys.length c2) ∧ X.cell? ⟨w.heap.size, 2, none⟩ = some (.int .i64 m)) := fun X hb => by
    have hq : ∀ o, X.cell? ⟨w.heap.size, o, none⟩ = (#[.slice p1 xs.length c1, .slice p2 ys.length c2, .int .i64 m] : Array Value)[o]? := fun o => by rw [hb.cell (p := ⟨w.heap.size, o, none⟩) (by show w.heap.size < _; omega)]; exact qa o
    exact ⟨hq 0, hq 1, hq 2⟩
  have HR : Hid (∀ X, Below W.heap.size W X → (X.cell? ⟨w.heap.size + 1, 0, none⟩ = some (.slice none 0 0) ∧ X.cell? ⟨w.heap.size + 1, 1, none⟩ = some (.slice none 0 0) ∧ X.cell? ⟨w.heap.size + 1, 2, none⟩ = some (.int .i64 0)) ∧ ∀ o, X.frozen? ⟨w.heap.size + 1, o, none⟩ = false) := fun X hb => by
    have hq : ∀ o, X.cell? ⟨w.heap.size + 1, o, none⟩ = (#[.slice none 0 0, .slice none 0 0, .int .i64 0] : Array Value)[o]? := fun o => by rw [hb.cell (p := ⟨w.heap.size + 1, o, none⟩) (by show w.heap.size + 1 < _; omega)]; exact qr o
    exact ⟨⟨hq 0, hq 1, hq 2⟩, fun o => by rw [hb.frozen (p := ⟨w.heap.size + 1, o, none⟩) (by show w.heap.size + 1 < _; omega)]; exact fr o⟩
  have HV1 : Hid (∀ X, Below W.heap.size W X → WV X X.heap.size (.slice p1 xs.length c1) xs) := fun X hb => h1.below (hbW.trans (hb.mono hbW.size))
  have HV2 : Hid (∀ X, Below W.heap.size W X → WV X X.heap.size (.slice p2 ys.length c2) ys) := fun X hb => h2.below (hbW.trans (hb.mono hbW.size))
  have HX : Hid (xs.length ≤ 1048576) := hx
  have HY : Hid (ys.length ≤ 1048576) := hy
  clear h1 h2 hx hy hbW hzW qa qr fr
  go_enter Try.func62, Try.ntmps62
  go_wp2_with fail
  rw [← hW]
  clear hW
  have S0 := HQ.out W.drew (Below.refl _ _).drew
  go_region_held3 (fun X => X.cell? ⟨w.heap.size, 0, none⟩ = some (.slice p1 xs.length c1) ∧ X.cell? ⟨w.heap.size, 1, none⟩ = some (.slice p2 ys.length c2) ∧ X.cell? ⟨w.heap.size, 2, none⟩ = some (.int .i64 m)) (first | (refine HQ.out _ ?_; (repeat' first | with_reducible exact HB10.out | with_reducible exact HB6.out | with_reducible exact Below.refl _ _ | with_reducible refine belU ?_ | with_reducible refine Below.drew ?_); done) | go_keep) (first
    | (refine step_copy (W.alloc nilI).drew rfl (.tmp 3) (.tmp 5) rfl W.heap.size W.heap.size (.slice p1 xs.length c1) xs ?_ ?_ (nil1 W) (HV1.out _ (bel1 W).drew) HX.out (bel1 W).drew.size ?_; (focus (simp [Act.eval]; done)); (focus (simp [Act.eval]; done)); intro g6 c6 w6 ho6 hg6 ha6; have HA6 := hidQ (a1_of (bel1 W).drew (by omega) ho6 hg6 ha6); have HB6 := hidQ HA6.out.1; clear ho6 hg6 ha6)
    | (refine step_copy ((W.alloc nilI).alloc nilI).drew rfl (.tmp 3) (.tmp 5) rfl W.heap.size W.heap.size (.slice p1 xs.length c1) xs ?_ ?_ (nil2 W) (HV1.out _ (bel2 W).drew) HX.out (bel2 W).drew.size ?_; (focus (simp [Act.eval]; done)); (focus (simp [Act.eval]; done)); intro g6 c6 w6 ho6 hg6 ha6; have HA6 := hidQ (a1_of (bel2 W).drew (by omega) ho6 hg6 ha6); have HB6 := hidQ HA6.out.1; clear ho6 hg6 ha6)
    | (refine step_copy ((W.alloc nilI).alloc nilI).drew rfl (.tmp 3) (.tmp 5) rfl W.heap.size (W.heap.size + 1) (.slice p1 xs.length c1) xs ?_ ?_ (nil3 W) (HV1.out _ (bel2 W).drew) HX.out (bel2 W).drew.size ?_; (focus (simp [Act.eval]; done)); (focus (simp [Act.eval]; done)); intro g6 c6 w6 ho6 hg6 ha6; have HA6 := hidQ (a1_of (bel2 W).drew (by omega) ho6 hg6 ha6); have HB6 := hidQ HA6.out.1; clear ho6 hg6 ha6)
    | (refine step_copy (w10.alloc nilI) rfl (.tmp 3) (.tmp 5) rfl W.heap.size w10.heap.size (.slice p1 xs.length c1) xs ?_ ?_ (nilB HB10.out) (HV1.out _ (belU HB10.out)) HX.out ((belU HB10.out)).size ?_; (focus (simp [Act.eval]; done)); (focus (simp [Act.eval]; done)); intro g6 c6 w6 ho6 hg6 ha6; have HF := hidQ ((f2_fresh HA10.out ho6 hg6 ha6).swap); have HB6 := hidQ HF.out.1; obtain ⟨⟨_, _, _⟩, _⟩ := HR.out w6 HB6.out; clear ho6 hg6 ha6)
    | (refine step_copy w10 rfl (.tmp 3) (.tmp 5) rfl W.heap.size W.heap.size (.slice p1 xs.length c1) xs ?_ ?_ (pend HA10.out (by omega) (nil2 W)) (HV1.out _ HB10.out) HX.out (HB10.out).size ?_; (focus (simp [Act.eval]; done)); (focus (simp [Act.eval]; done)); intro g6 c6 w6 ho6 hg6 ha6; have HF := hidQ ((f2_old HA10.out (siz2 W) (by omega) (by omega) (by omega) (by omega) ho6 hg6 ha6).swap); have HB6 := hidQ HF.out.1; obtain ⟨⟨_, _, _⟩, _⟩ := HR.out w6 HB6.out; clear ho6 hg6 ha6)
    | (refine step_copy w10 rfl (.tmp 3) (.tmp 5) rfl W.heap.size (W.heap.size + 1) (.slice p1 xs.length c1) xs ?_ ?_ (pend HA10.out (by omega) (nil3 W)) (HV1.out _ HB10.out) HX.out (HB10.out).size ?_; (focus (simp [Act.eval]; done)); (focus (simp [Act.eval]; done)); intro g6 c6 w6 ho6 hg6 ha6; have HF := hidQ ((f2_old HA10.out (siz2 W) (by omega) (by omega) (by omega) (by omega) ho6 hg6 ha6).swap); have HB6 := hidQ HF.out.1; obtain ⟨⟨_, _, _⟩, _⟩ := HR.out w6 HB6.out; clear ho6 hg6 ha6)
    | (refine step_copy (W.alloc nilI).drew rfl (.tmp 7) (.tmp 9) rfl W.heap.size W.heap.size (.slice p2 ys.length c2) ys ?_ ?_ (nil1 W) (HV2.out _ (bel1 W).drew) HY.out (bel1 W).drew.size ?_; (focus (simp [Act.eval]; done)); (focus (simp [Act.eval]; done)); intro g10 c10 w10 ho10 hg10 ha10; have HA10 := hidQ (a1_of (bel1 W).drew (by omega) ho10 hg10 ha10); have HB10 := hidQ HA10.out.1; clear ho10 hg10 ha10)
    | (refine step_copy ((W.alloc nilI).alloc nilI).drew rfl (.tmp 7) (.tmp 9) rfl W.heap.size W.heap.size (.slice p2 ys.length c2) ys ?_ ?_ (nil2 W) (HV2.out _ (bel2 W).drew) HY.out (bel2 W).drew.size ?_; (focus (simp [Act.eval]; done)); (focus (simp [Act.eval]; done)); intro g10 c10 w10 ho10 hg10 ha10; have HA10 := hidQ (a1_of (bel2 W).drew (by omega) ho10 hg10 ha10); have HB10 := hidQ HA10.out.1; clear ho10 hg10 ha10)
    | (refine step_copy ((W.alloc nilI).alloc nilI).drew rfl (.tmp 7) (.tmp 9) rfl W.heap.size (W.heap.size + 1) (.slice p2 ys.length c2) ys ?_ ?_ (nil3 W) (HV2.out _ (bel2 W).drew) HY.out (bel2 W).drew.size ?_; (focus (simp [Act.eval]; done)); (focus (simp [Act.eval]; done)); intro g10 c10 w10 ho10 hg10 ha10; have HA10 := hidQ (a1_of (bel2 W).drew (by omega) ho10 hg10 ha10); have HB10 := hidQ HA10.out.1; clear ho10 hg10 ha10)
    | (refine step_copy (w6.alloc nilI) rfl (.tmp 7) (.tmp 9) rfl W.heap.size w6.heap.size (.slice p2 ys.length c2) ys ?_ ?_ (nilB HB6.out) (HV2.out _ (belU HB6.out)) HY.out ((belU HB6.out)).size ?_; (focus (simp [Act.eval]; done)); (focus (simp [Act.eval]; done)); intro g10 c10 w10 ho10 hg10 ha10; have HF := hidQ ((f2_fresh HA6.out ho10 hg10 ha10)); have HB10 := hidQ HF.out.1; obtain ⟨⟨_, _, _⟩, _⟩ := HR.out w10 HB10.out; clear ho10 hg10 ha10)
    | (refine step_copy w6 rfl (.tmp 7) (.tmp 9) rfl W.heap.size W.heap.size (.slice p2 ys.length c2) ys ?_ ?_ (pend HA6.out (by omega) (nil2 W)) (HV2.out _ HB6.out) HY.out (HB6.out).size ?_; (focus (simp [Act.eval]; done)); (focus (simp [Act.eval]; done)); intro g10 c10 w10 ho10 hg10 ha10; have HF := hidQ ((f2_old HA6.out (siz2 W) (by omega) (by omega) (by omega) (by omega) ho10 hg10 ha10)); have HB10 := hidQ HF.out.1; obtain ⟨⟨_, _, _⟩, _⟩ := HR.out w10 HB10.out; clear ho10 hg10 ha10)
    | (refine step_copy w6 rfl (.tmp 7) (.tmp 9) rfl W.heap.size (W.heap.size + 1) (.slice p2 ys.length c2) ys ?_ ?_ (pend HA6.out (by omega) (nil3 W)) (HV2.out _ HB6.out) HY.out (HB6.out).size ?_; (focus (simp [Act.eval]; done)); (focus (simp [Act.eval]; done)); intro g10 c10 w10 ho10 hg10 ha10; have HF := hidQ ((f2_old HA6.out (siz2 W) (by omega) (by omega) (by omega) (by omega) ho10 hg10 ha10)); have HB10 := hidQ HF.out.1; obtain ⟨⟨_, _, _⟩, _⟩ := HR.out w10 HB10.out; clear ho10 hg10 ha10))
  all_goals
    go_wp2_with fail
    first
      | (obtain ⟨⟨r0, r1, r2⟩, rf⟩ := HR.out w10 HB10.out; refine bodyPost_ret (v := .agg #[.slice (some ⟨g6, 0, none⟩) xs.length c6, .slice (some ⟨g10, 0, none⟩) ys.length c10, .int .i64 m]) ?_ rfl (fin_copy HBW.out.1 HF.out (by rw [HBW.out.2]; omega) (((((Turn.refl _ _).set _ _).set _ _).set _ _))); (focus (simp [results, Try.results62, go_sem, r0, r1, r2]; done)))
      | (obtain ⟨⟨r0, r1, r2⟩, rf⟩ := HR.out w6 HB6.out; refine bodyPost_ret (v := .agg #[.slice (some ⟨g6, 0, none⟩) xs.length c6, .slice (some ⟨g10, 0, none⟩) ys.length c10, .int .i64 m]) ?_ rfl (fin_copy HBW.out.1 HF.out (by rw [HBW.out.2]; omega) (((((Turn.refl _ _).set _ _).set _ _).set _ _))); (focus (simp [results, Try.results62, go_sem, r0, r1, r2]; done)))
end Go.Proofs.Ytabgfaafpgholaa
