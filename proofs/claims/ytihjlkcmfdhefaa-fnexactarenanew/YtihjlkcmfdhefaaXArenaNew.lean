/-
  At every number the program's ArenaNew answers as the specification's, in memory of its own: the law FnExactArenaNew returns true and its argument reads as before. No condition.
-/
import Derived.Test.YtihjlkcmfdhefaaArD
import Derived.OpenShut
namespace Go.Proofs.Ytihjlkcmfdhefaa.fnExactArenaNew
open Go.ChangeShapes Go.WideShapes Go.ChangeAt Go.RowKit
set_option linter.unusedVariables false

theorem own : ownKnob Try.prog.godebug = none := by kernel_rfl

theorem markNil (k : Int) (w : World) :
    Calls Try.prog 47 #[.slice none 0 0, .int .i64 k] w fun e w' => e = .returned (.int .i64 k) ∧ w' = w := by
  go_enter Try.func47, Try.ntmps47
  go_wp2_with fail
  go_loop [1, 5] (fun a i => i = .int .i64 0 ∧ a = .int .i64 k) (fun _ _ => 0)
  case atStart => exact ⟨rfl, rfl⟩
  case round =>
    obtain ⟨rfl, rfl⟩ := hrel
    go_wp2_with fail
    go_ret
    exact ⟨rfl, rfl⟩
theorem heldNil (k : Int) (w : World) :
    Calls Try.prog 48 #[.slice none 0 0, .int .i64 k] w fun e w' => e = .returned (.int .i64 k) ∧ w' = w := by
  go_enter Try.func48, Try.ntmps48
  go_wp2_with fail
  go_loop [1, 5] (fun a i => i = .int .i64 0 ∧ a = .int .i64 k) (fun _ _ => 0)
  case atStart => exact ⟨rfl, rfl⟩
  case round =>
    obtain ⟨rfl, rfl⟩ := hrel
    go_wp2_with fail
    go_ret
    exact ⟨rfl, rfl⟩
theorem markANil (k : Int) (w : World) :
    Calls Try.prog 27 #[.agg #[.slice none 0 0], .int .i64 k] w fun e w' => e = .returned (.int .i64 k) ∧ Below w.heap.size w w' := by
  go_enter Try.func27, Try.ntmps27
  go_wp2_with fail
  refine (markNil k _).mono ?_
  rintro e w1 ⟨rfl, rfl⟩
  go_wp2_with fail
  go_ret
  exact ⟨rfl, (Below.refl _ _).alloc (Nat.le_refl _) _⟩
theorem heldANil (k : Int) (hk : 0 ≤ k) (w : World) :
    Calls Try.prog 28 #[.agg #[.slice none 0 0], .int .i64 k] w fun e w' => e = .returned (.int .i64 k) ∧ Below w.heap.size w w' := by
  go_enter Try.func28, Try.ntmps28
  go_wp2_with fail
  refine (heldNil k _).mono ?_
  rintro e w1 ⟨rfl, rfl⟩
  have hz : ¬ k < 0 := by omega
  go_wp2_with fail
  go_ret
  exact ⟨rfl, (Below.refl _ _).alloc (Nat.le_refl _) _⟩

/-- What the law has in hand: the specification's arena g in the box B0, the program's g2 in the box B1. -/
structure St (w wx : World) (n g g2 B0 B1 : Nat) (F : Nat → Int) : Prop where
  below : Below w.heap.size w wx
  q0 : wx.cell? ⟨B0, 0, none⟩ = some (.slice (some ⟨g, 0, none⟩) n n)
  q1 : wx.cell? ⟨B1, 0, none⟩ = some (.slice (some ⟨g2, 0, none⟩) n n)
  sp : Ints wx g 0 n (freshF n)
  im : Ints wx g2 0 n F
  l1 : w.heap.size ≤ g
  l2 : g < B0
  l3 : B0 < g2
  l4 : g2 < B1
  l5 : B1 < wx.heap.size
theorem St.call {w wx wy : World} {n g g2 B0 B1 : Nat} {F : Nat → Int} (h : St w wx n g g2 B0 B1 F) (hb : Below wx.heap.size wx wy) : St w wy n g g2 B0 B1 F := by
  have a2 := h.l2
  have a3 := h.l3
  have a4 := h.l4
  have a5 := h.l5
  exact ⟨h.below.trans (hb.mono h.below.size), by rw [hb.cell (p := ⟨B0, 0, none⟩) (by show B0 < _; omega)]; exact h.q0, by rw [hb.cell (p := ⟨B1, 0, none⟩) a5]; exact h.q1, h.sp.below hb (by omega), h.im.below hb (by omega), h.l1, a2, a3, a4, Nat.lt_of_lt_of_le a5 hb.size⟩
theorem St.mark {w wx wy : World} {n g g2 B0 B1 : Nat} {F G : Nat → Int} (h : St w wx n g g2 B0 B1 F) (ht : Turn g2 wx wy) (hi : Ints wy g2 0 n G) : St w wy n g g2 B0 B1 G := by
  have a1 := h.l1
  have a2 := h.l2
  have a3 := h.l3
  have a4 := h.l4
  have a5 := h.l5
  exact ⟨Turn.below h.below (by omega) ht (by omega), ht.cell (by omega) h.q0, ht.cell (by omega) h.q1, h.sp.turn ht (by omega) (by omega), hi, a1, a2, a3, a4, Nat.lt_of_lt_of_le a5 ht.size⟩

set_option maxHeartbeats 4000000 in
set_option maxRecDepth 100000 in
theorem walkB (a0 : Int) (w : World) :
    Calls Try.prog 8 #[.int .i64 a0] w fun e w' => e = .returned (.bool true) ∧ Below w.heap.size w w' := by
  by_cases h : 4 ≤ a0 ∧ a0 ≤ 4000
  · obtain ⟨n, rfl⟩ : ∃ n : Nat, a0 = n := ⟨a0.toNat, by omega⟩
    have h4 : 4 ≤ n := by omega
    have hn : n ≤ 4000 := by omega
    clear h
    go_enter Try.func8, Try.ntmps8
    go_wp2_with fail
    refine (specNew_any n h4 hn _).mono ?_
    rintro e w1 ⟨g, rfl, hg, hb1, hi1⟩
    have hgl := hi1.lt (by omega)
    have HB1 : Hid (Below w.heap.size w w1) := hb1
    have HG : Hid (w.heap.size ≤ g ∧ g < w1.heap.size) := ⟨hg, hgl⟩
    have HS : Hid (Ints w1 g 0 n (freshF n)) := hi1
    clear hb1 hi1 hg hgl
    go_wp2_with fail
    have hbA := (Below.refl w1.heap.size w1).alloc (Nat.le_refl _) (.cells #[.slice (some ⟨g, 0, none⟩) n n] 30)
    refine (implNew_any n h4 hn _).mono ?_
    rintro e w2 ⟨g2, rfl, hg2, hb2, hi2⟩
    have hgl := hi2.lt (by omega)
    have hz1 : (w1.alloc (.cells #[.slice (some ⟨g, 0, none⟩) n n] 30)).heap.size = w1.heap.size + 1 := World.size_alloc _ _
    rw [hz1] at hg2
    have q0 : w2.cell? ⟨w1.heap.size, 0, none⟩ = some (.slice (some ⟨g, 0, none⟩) n n) := by
      rw [hb2.cell (p := ⟨w1.heap.size, 0, none⟩) (by rw [hz1]; exact Nat.lt_succ_self _)]
      exact World.cell?_alloc_new w1 _ _ 0
    have hbb : Below w1.heap.size w1 w2 := hbA.trans (hb2.mono (by rw [hz1]; exact Nat.le_succ _))
    have hB0 : w1.heap.size < w2.heap.size := World.block_lt_of_cell? w2 _ q0
    have hst : St w (w2.alloc (.cells #[.slice (some ⟨g2, 0, none⟩) n n] 30)) n g g2 w1.heap.size w2.heap.size (freshF n) := by
      have hbn := (Below.refl w2.heap.size w2).alloc (Nat.le_refl _) (.cells #[.slice (some ⟨g2, 0, none⟩) n n] 30)
      have h1 := HG.out
      have h2 := HB1.out.size
      exact ⟨(HB1.out.trans (hbb.mono HB1.out.size)).trans (hbn.mono (by omega)), by rw [hbn.cell (p := ⟨w1.heap.size, 0, none⟩) hB0]; exact q0, World.cell?_alloc_new w2 _ _ 0, (HS.out.below hbb HG.out.2).below hbn (by omega), hi2.below hbn hgl, h1.1, h1.2, by omega, hgl, by rw [World.size_alloc]; omega⟩
    have HST : Hid (St w (w2.alloc (.cells #[.slice (some ⟨g2, 0, none⟩) n n] 30)) n g g2 w1.heap.size w2.heap.size (freshF n)) := hst
    have hne : ¬ w1.heap.size = w2.heap.size := by omega
    clear hb2 hi2 hbA hbb HS hgl hg2 hz1 hst
    go_wp2_with fail
    have hs := HST.out
    clear HST
    generalize (w2.alloc (.cells #[.slice (some ⟨g2, 0, none⟩) n n] 30)) = w3 at hs ⊢
    generalize w2.heap.size = B1 at hs hne hB0 ⊢
    generalize w1.heap.size = B0 at hs hne hB0 ⊢
    refine (eqArena_same _ _ n n n (freshF n) (freshF n) w3 hs.im.rd hs.sp.rd (fun _ _ => rfl) (by omega)).mono ?_
    rintro e w4 ⟨rfl, hb4⟩
    have HST : Hid (St w w4 n g g2 B0 B1 (freshF n)) := hs.call hb4
    have q0 := HST.out.q0
    have q1 := HST.out.q1
    clear hb4 hs q0
    go_wp2_with fail
    refine (markArena_any g2 0 n n (freshF n) w4 HST.out.im 1 (by decide) (by omega) (by have := HST.out.l4; have := HST.out.l5; omega)).mono ?_
    rintro e w5 ⟨rfl, ht5, hi5⟩
    have HST5 : Hid (St w w5 n g g2 B0 B1 (fun j => 1 + j)) := HST.out.mark ht5 hi5
    have q1 := HST5.out.q1
    clear ht5 hi5 HST
    go_wp2_with fail
    refine (heldArena_any g2 0 n n w5 1 HST5.out.im (by decide) (by omega) (by have := HST5.out.l4; have := HST5.out.l5; omega)).mono ?_
    rintro e w6 ⟨rfl, hb6⟩
    have HST6 : Hid (St w w6 n g g2 B0 B1 (fun j => 1 + j)) := HST5.out.call hb6
    clear hb6 HST5 q1
    have hp : ¬ (1 + (n : Int)) < 0 := by omega
    go_wp2_with fail
    refine (implNew_any n h4 hn _).mono ?_
    rintro e w7 ⟨g3, rfl, hg3, hb7, hi7⟩
    have hg7 := hi7.lt (by omega)
    have HST7 : Hid (St w w7 n g g2 B0 B1 (fun j => 1 + j)) := HST6.out.call hb7
    have HI7 : Hid (Ints w7 g3 0 n (freshF n)) := hi7
    have HG7 : Hid (g3 < w7.heap.size) := hg7
    have q0 := HST7.out.q0
    have hlt0 : B0 < w7.heap.size := World.block_lt_of_cell? w7 _ q0
    have hne7 : ¬ B0 = w7.heap.size := by omega
    clear hb7 hi7 hg3 hg7 HST6
    go_wp2_with fail
    have hbn := (Below.refl w7.heap.size w7).alloc (Nat.le_refl _) (.cells #[.slice (some ⟨g3, 0, none⟩) n n] 30)
    have HST8 : Hid (St w (w7.alloc (.cells #[.slice (some ⟨g3, 0, none⟩) n n] 30)) n g g2 B0 B1 (fun j => 1 + j)) := HST7.out.call hbn
    refine (eqArena_same _ _ n n n (freshF n) (freshF n) _ (HI7.out.below hbn HG7.out).rd HST8.out.sp.rd (fun _ _ => rfl) (by omega)).mono ?_
    rintro e w9 ⟨rfl, hb9⟩
    have HST9 : Hid (St w w9 n g g2 B0 B1 (fun j => 1 + j)) := HST8.out.call hb9
    have q1 := HST9.out.q1
    clear hb9 hbn HST8 HST7 HI7 HG7 q0 hlt0 hne7
    go_wp2_with fail
    refine (heldArena_any g2 0 n n w9 1 HST9.out.im (by decide) (by omega) (by have := HST9.out.l4; have := HST9.out.l5; omega)).mono ?_
    rintro e w10 ⟨rfl, hb10⟩
    have HST10 : Hid (Below w.heap.size w w10) := (HST9.out.call hb10).below
    clear hb10 HST9 q1
    go_wp2_with fail
    go_ret
    exact ⟨rfl, HST10.out⟩
  · go_enter Try.func8, Try.ntmps8
    go_wp2_with fail
    refine (specNew_none a0 h _).mono ?_
    rintro e w1 ⟨rfl, hb1⟩
    have HB1 : Hid (Below w.heap.size w w1) := hb1
    have HZ : Hid (w.heap.size ≤ w1.heap.size) := hb1.size
    clear hb1
    go_wp2_with fail
    refine (implNew_none a0 h _).mono ?_
    rintro e w2 ⟨rfl, hb2⟩
    have q0 : w2.cell? ⟨w1.heap.size, 0, none⟩ = some (.slice none 0 0) := by
      rw [hb2.cell (p := ⟨w1.heap.size, 0, none⟩) (by simp)]
      exact World.cell?_alloc_new w1 _ _ 0
    have hlt0 : w1.heap.size < w2.heap.size := World.block_lt_of_cell? w2 _ q0
    have hne : ¬ w1.heap.size = w2.heap.size := by omega
    have hb2n : Below w1.heap.size w1 (w2.alloc (.cells #[.slice none 0 0] 30)) := (((Below.refl w1.heap.size w1).alloc (Nat.le_refl _) (.cells #[.slice none 0 0] 30)).trans (hb2.mono (by simp))).alloc (by omega) _
    have HB2 : Hid (Below w.heap.size w (w2.alloc (.cells #[.slice none 0 0] 30))) := HB1.out.trans (hb2n.mono HZ.out)
    have q0' : (w2.alloc (.cells #[.slice none 0 0] 30)).cell? ⟨w1.heap.size, 0, none⟩ = some (.slice none 0 0) := by
      rw [World.cell?_alloc_lt (h := hlt0)]; exact q0
    have q1' : (w2.alloc (.cells #[.slice none 0 0] 30)).cell? ⟨w2.heap.size, 0, none⟩ = some (.slice none 0 0) := World.cell?_alloc_new w2 _ _ 0
    clear hb2 hb2n
    go_wp2_with fail
    clear q0
    generalize (w2.alloc (.cells #[.slice none 0 0] 30)) = w3 at HB2 q0' q1' ⊢
    generalize w2.heap.size = B1 at q1' hne hlt0 ⊢
    generalize w1.heap.size = B0 at q0' hne hlt0 ⊢
    have N0 : Hid (∀ (w w' : World) (B : Nat), Below w.heap.size w w' → w.cell? ⟨B, 0, none⟩ = some (.slice none 0 0) → w'.cell? ⟨B, 0, none⟩ = some (.slice none 0 0)) := fun w w' B hb hc => by
      rw [hb.cell (p := ⟨B, 0, none⟩) (World.block_lt_of_cell? w _ hc)]; exact hc
    refine (eqArena_same none none 0 0 0 (fun _ => 0) (fun _ => 0) w3 (Rd.nil _ _ _) (Rd.nil _ _ _) (fun _ _ => rfl) (by omega)).mono ?_
    rintro e w4 ⟨rfl, hb4⟩
    have q0 := N0.out _ _ _ hb4 q0'
    have q1 := N0.out _ _ _ hb4 q1'
    have HB4 : Hid (Below w.heap.size w w4) := HB2.out.trans (hb4.mono HB2.out.size)
    clear q0' q1' hb4 HB2
    go_wp2_with fail
    refine (markANil 1 _).mono ?_
    rintro e w5 ⟨rfl, hb5⟩
    have q0 := N0.out _ _ _ hb5 q0
    have q1 := N0.out _ _ _ hb5 q1
    have HB5 : Hid (Below w.heap.size w w5) := HB4.out.trans (hb5.mono HB4.out.size)
    clear hb5 HB4
    go_wp2_with fail
    refine (heldANil 1 (by decide) _).mono ?_
    rintro e w6 ⟨rfl, hb6⟩
    have q0 := N0.out _ _ _ hb6 q0
    have q1 := N0.out _ _ _ hb6 q1
    have HB6 : Hid (Below w.heap.size w w6) := HB5.out.trans (hb6.mono HB5.out.size)
    clear hb6 HB5
    go_wp2_with fail
    refine (implNew_none a0 h _).mono ?_
    rintro e w7 ⟨rfl, hb7⟩
    have q0 := N0.out _ _ _ hb7 q0
    have q1 := N0.out _ _ _ hb7 q1
    have HB7 : Hid (Below w.heap.size w w7) := HB6.out.trans (hb7.mono HB6.out.size)
    have hlt0 : B0 < w7.heap.size := World.block_lt_of_cell? w7 _ q0
    have hne7 : ¬ B0 = w7.heap.size := by omega
    clear hb7 HB6
    go_wp2_with fail
    have hbn := (Below.refl w7.heap.size w7).alloc (Nat.le_refl _) (.cells #[.slice none 0 0] 30)
    have q1 := N0.out _ _ _ hbn q1
    refine (eqArena_same none none 0 0 0 (fun _ => 0) (fun _ => 0) _ (Rd.nil _ _ _) (Rd.nil _ _ _) (fun _ _ => rfl) (by omega)).mono ?_
    rintro e w9 ⟨rfl, hb9⟩
    have q1 := N0.out _ _ _ hb9 q1
    have HB9 : Hid (Below w.heap.size w w9) := (HB7.out.trans (hbn.mono HB7.out.size)).trans (hb9.mono (Nat.le_trans HB7.out.size hbn.size))
    clear hb9 hbn HB7 hne7 hlt0 q0
    go_wp2_with fail
    refine (heldANil 1 (by decide) _).mono ?_
    rintro e w10 ⟨rfl, hb10⟩
    have HB10 : Hid (Below w.heap.size w w10) := HB9.out.trans (hb10.mono HB9.out.size)
    clear hb10 HB9
    go_wp2_with fail
    go_ret
    exact ⟨rfl, HB10.out⟩

theorem walk (a0 : Int) (w0 : (Lit.int .i64 a0).wf = true) (w : World) :
    Calls Try.prog 8 #[.int .i64 a0] w fun e w' => e = .returned (.bool true) ∧ Below w.heap.size w w' := walkB a0 w

set_option maxRecDepth 100000 in
theorem lifted (os : Os) (started : os.Started) (H : Type) (enc : TypeId × Value → H) :
    ReturnsInHanded {} Try.checked os 8 .any (Rows.fnExactArenaNewSpec.pre6 enc Try.prog Try.f8 Rows.fnExactArenaNewRow.domain false) (Rows.fnExactArenaNewSpec.post enc Try.prog Try.f8 false true false false) := by
  refine returnsInHanded_of_change (C := Try.checked) own started (by kernel_rfl) Try.func8
    (ChangeSpec.witness6 (enc := enc) (C := Try.checked) false ⟨#[], #[.int .i64 0], []⟩ 8 (by kernel_rfl) (by kernel_rfl) (by kernel_rfl) (by kernel_rfl)) ?_
  intro W base args ds gs before hval0 hW hcnd _
  have hval : ∀ (j : Nat) t v, Try.f8.params[j]? = some t → args[j]? = some v → Value.okWide Try.prog W .any base t v := hval0
  have hW' := hW
  obtain ⟨p, q, hA0, hV, rfl, hfz, hnd⟩ := hW
  have hA : DataW.TrodAll enc Try.prog W 0 (fun _ => true) true Try.f8.params.toList args.toList ds p := hA0
  rw [Try.params8] at hA hval
  obtain ⟨v0, vs0, d0, ds0, p0, q0, hargs, rfl, rfl, h0, r0⟩ := trodAll_cons hA
  obtain ⟨rfl, rfl, rfl⟩ := trodAll_nil r0
  obtain rfl : args = #[v0] := by cases args; simp_all
  obtain ⟨rfl, rfl⟩ := trodVars_none hV
  obtain ⟨a0, rfl, rfl, rfl, w0⟩ := open_int Try.underlying3 (hval 0 3 v0 rfl rfl) h0
  clear hA0 hval0
  simp only [List.append_nil] at hW'
  refine (walk a0 w0 W).mono fun e W' ⟨he, hg⟩ => ?_
  subst he
  exact ⟨_, rfl, _, _, _, [], _, [], hW', trodAll_mk1 (shut_bool Try.underlying4 _), (trodAll_cons_mk (shut_int Try.underlying3 w0) trodAll_mk0), rfl, hg.frame _, fun h => by cases h⟩

theorem over : Rows.fnExactArenaNewRow.holds Try.pinned (OpenSpec.ofChange Rows.fnExactArenaNewSpec) :=
  OpenClaim.holds_of_wide 8 Try.f8 rfl rfl rfl rfl rfl rfl rfl ⟨rfl, rfl, rfl, rfl, rfl⟩ rfl rfl rfl rfl rfl (by kernel_rfl) Try.func8 (by kernel_rfl)
    (of_decide_eq_true (by kernel_rfl)) (by unfold Func.isWrapper; first | (rw [if_pos (by decide +kernel)]; kernel_rfl) | (rw [if_neg (by decide +kernel)]; exact ⟨rfl, rfl⟩))
    (fun os started H enc _ => lifted os started H enc)
end Go.Proofs.Ytihjlkcmfdhefaa.fnExactArenaNew
namespace Go.Proofs.Ytihjlkcmfdhefaa
theorem fnExactArenaNew_holds : Rows.FnExactArenaNewSaid := fnExactArenaNew.over
#print axioms fnExactArenaNew_holds
end Go.Proofs.Ytihjlkcmfdhefaa
