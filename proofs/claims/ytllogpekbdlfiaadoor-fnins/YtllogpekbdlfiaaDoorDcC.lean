/-
  Code that is drawn and bent: the specification's l8Any and DrawInsOk.
-/
import Derived.Test.YtllogpekbdlfiaaDoorDcB
namespace Go.Proofs.YtllogpekbdlfiaaDoor.Code
open Go.RowKit
open Go.Proofs.YtllogpekbdlfiaaDoor.Atom
set_option linter.unusedVariables false

/-- A row of n small instructions of the call's own, in the block g. -/
structure RowW (w : World) (B g n cap : Nat) : Prop where
  hB : B ≤ g
  hlt : g < w.heap.size
  hcap : n ≤ cap
  hmax : cap ≤ maxLen
  hn : n ≤ 20
  free : ∀ i, w.frozen? ⟨g, i, none⟩ = false
  rows : ∀ j, j < n → ∃ x, Wee x ∧ Bx6 w g (j * 6) x
theorem rowW_of {w : World} {B : Nat} {v : Value} {l : List I} (h : IRow w B v l) (h1 : 1 ≤ l.length) (h2 : l.length ≤ 20) (hw : ∀ x ∈ l, Wee x) : ∃ g cap, v = .slice (some ⟨g, 0, none⟩) l.length cap ∧ RowW w B g l.length cap := by
  rcases h.2 with ⟨_, h0⟩ | ⟨g, cap, cur, hv, hB, hg, ha, hb, _, _⟩
  · omega
  subst hv
  refine ⟨g, cap, rfl, hB, blk_lt hg, ha, hb, h2, fun i => blk_free hg i, fun j hj => ?_⟩
  rcases h.row with e | ⟨g', o', e, hc⟩
  · rw [e] at h1; simp at h1
  · simp only [Option.some.injEq, Addr.mk.injEq, and_true] at e
    obtain ⟨rfl, rfl⟩ := e
    have := hc j hj
    rw [Nat.zero_add] at this
    exact ⟨l[j], hw _ (List.getElem_mem hj), this⟩
theorem Bx6.same {w w' : World} {B o : Nat} {x : I} (h : Bx6 w B o x) (hb : w'.heap[B]? = w.heap[B]?) : Bx6 w' B o x := by
  have k : ∀ i v, w.cell? ⟨B, i, none⟩ = some v → w'.cell? ⟨B, i, none⟩ = some v := fun i v hv => (World.cell?_of_block (w := w) hb).trans hv
  exact ⟨k _ _ h.c0, k _ _ h.c1, k _ _ h.c2, k _ _ h.c3, k _ _ h.c4, k _ _ h.c5⟩
theorem RowW.same {w w' : World} {B g n cap : Nat} (h : RowW w B g n cap) (hs : w.heap.size ≤ w'.heap.size) (hb : w'.heap[g]? = w.heap[g]?) : RowW w' B g n cap :=
  ⟨h.hB, Nat.lt_of_lt_of_le h.hlt hs, h.hcap, h.hmax, h.hn, fun i => (World.frozen?_of_block (w := w) hb).trans (h.free i), fun j hj => by
    obtain ⟨x, hx, hc⟩ := h.rows j hj
    exact ⟨x, hx, hc.same hb⟩⟩
theorem RowW.drawn {cb : Nat} {ao : Option Addr} {len cp : Nat} {zs : List Int} {w w' : World} {B g n cap : Nat} (h : RowW w B g n cap) (d : Drawn cb ao len cp zs w w') (hc : cb < B) : RowW w' B g n cap :=
  h.same d.2.size (d.2.block g h.hlt (by have := h.hB; omega))
theorem RowW.below {w w' : World} {B g n cap : Nat} (h : RowW w B g n cap) (d : Below w.heap.size w w') : RowW w' B g n cap :=
  h.same d.size (d.block g h.hlt)
theorem RowW.less {w : World} {B g n cap k : Nat} (h : RowW w B g n cap) (hk : k ≤ n) : RowW w B g k cap :=
  ⟨h.hB, h.hlt, Nat.le_trans hk h.hcap, h.hmax, Nat.le_trans hk h.hn, h.free, fun j hj => h.rows j (by omega)⟩
theorem RowW.set {w : World} {B g n cap : Nat} (h : RowW w B g n cap) (k i : Nat) (hk : k < n) (hi : i < 6) (v : Value) (f : I → I)
    (hf : ∀ x, Wee x → Wee (f x)) (hv : ∀ x, insV (f x) = (insV x).setIfInBounds i v) : RowW (w.setCell ⟨g, k * 6 + i, none⟩ v) B g n cap := by
  refine ⟨h.hB, by simp [World.setCell]; exact h.hlt, h.hcap, h.hmax, h.hn, fun i => by rw [World.frozen?_setCell]; exact h.free i, fun j hj => ?_⟩
  obtain ⟨x, hx, hc⟩ := h.rows j hj
  by_cases hjk : j = k
  · subst hjk
    refine ⟨f x, hf x hx, ?_⟩
    have cells : ∀ m, m < 6 → w.cell? ⟨g, j * 6 + m, none⟩ = (insV x)[m]? := fun m hm => by
      rcases (show m = 0 ∨ m = 1 ∨ m = 2 ∨ m = 3 ∨ m = 4 ∨ m = 5 by omega) with rfl | rfl | rfl | rfl | rfl | rfl
      · exact hc.c0
      · exact hc.c1
      · exact hc.c2
      · exact hc.c3
      · exact hc.c4
      · exact hc.c5
    have hsz : (insV x).size = 6 := rfl
    have cells' : ∀ m, m < 6 → (w.setCell ⟨g, j * 6 + i, none⟩ v).cell? ⟨g, j * 6 + m, none⟩ = (insV (f x))[m]? := fun m hm => by
      rw [hv, Array.getElem?_setIfInBounds]
      by_cases hmi : i = m
      · subst hmi
        rw [if_pos rfl, if_pos (by omega)]
        exact World.cell?_setCell_same w _ _ (u := ((insV x)[i]'(by omega))) (by rw [cells i hm]; exact Array.getElem?_eq_getElem _)
      · rw [if_neg hmi, World.cell?_setCell_other (h := by simp <;> omega), cells m hm]
    exact ⟨cells' 0 (by omega), cells' 1 (by omega), cells' 2 (by omega), cells' 3 (by omega), cells' 4 (by omega), cells' 5 (by omega)⟩
  · refine ⟨x, hx, ?_⟩
    have k' : ∀ m u, m < 6 → w.cell? ⟨g, j * 6 + m, none⟩ = some u → (w.setCell ⟨g, k * 6 + i, none⟩ v).cell? ⟨g, j * 6 + m, none⟩ = some u := fun m u hm hu => by
      rw [World.cell?_setCell_other (h := by simp <;> omega)]; exact hu
    exact ⟨k' 0 _ (by omega) hc.c0, k' 1 _ (by omega) hc.c1, k' 2 _ (by omega) hc.c2, k' 3 _ (by omega) hc.c3, k' 4 _ (by omega) hc.c4, k' 5 _ (by omega) hc.c5⟩

/-- What l8Any answers. -/
def AnyP (cb : Nat) (ao : Option Addr) (len cap : Nat) (zs : List Int) (w : World) (e : Ending) (w' : World) : Prop :=
  ∃ (g n vc : Nat), e = .returned (.slice (some ⟨g, 0, none⟩) n vc) ∧ RowW w' w.heap.size g n vc ∧ Drawn cb ao len cap zs w w'

set_option maxHeartbeats 4000000 in
theorem any_any (cb : Nat) (ao : Option Addr) (len cap : Nat) (zs : List Int) (w : World) (hc : Cur cb ao len cap zs w) :
    Calls Tryd.prog 25 #[.pointer (some ⟨cb, 0, none⟩)] w (AnyP cb ao len cap zs w) := by
  have hcb := cur_lt hc
  have HC : Hid (Cur cb ao len cap zs w) := hc
  have HCB : Hid (cb < w.heap.size) := hcb
  clear hc hcb
  go_enter Tryd.func25, Tryd.ntmps25
  go_wp2_with (go_at_call 46; fail)
  refine (code_any cb ao len cap zs _ HC.out).mono ?_
  rintro e w1 ⟨⟨v, l, rfl, hrow, hl1, hl2, hwl⟩, hd1⟩
  obtain ⟨g, vc, rfl, hW⟩ := rowW_of hrow hl1 hl2 hwl
  generalize l.length = n at hl1 hl2 hW ⊢
  have HW1 : Hid (RowW w1 w.heap.size g n vc) := hW
  have HD1 : Hid (Drawn cb ao len cap zs w w1) := hd1
  have HNC : Hid (n ≤ vc ∧ vc ≤ maxLen ∧ cb < g ∧ w.heap.size ≤ g) := ⟨hW.hcap, hW.hmax, by have := hW.hB; have := HCB.out; omega, hW.hB⟩
  clear hrow hwl hd1 hW HC
  go_wp2_with (go_at_call 26; fail)
  refine (below_any cb ao len cap zs _ HD1.out.1 (n : Int) (by omega) (by omega)).mono ?_
  rintro e w2 ⟨y, rfl, hy0, hy1, hd2⟩
  obtain ⟨k, hk, rfl⟩ : ∃ k : Nat, k < n ∧ y = (k : Int) := ⟨y.toNat, by omega, by omega⟩
  have HW2 : Hid (RowW w2 w.heap.size g n vc) := HW1.out.drawn hd2 HCB.out
  have HD2 : Hid (Drawn cb ao len cap zs w w2) := drawn_trans HD1.out hd2
  clear hd2 hy0 hy1 HW1 HD1
  go_wp2_with (go_at_call 26; fail)
  refine (below_any cb ao len cap zs _ HD2.out.1 12 (by decide) (by decide)).mono ?_
  rintro e w3 ⟨t, rfl, ht0, ht1, hd3⟩
  have HW3 : Hid (RowW w3 w.heap.size g n vc) := HW2.out.drawn hd3 HCB.out
  have HD3 : Hid (Drawn cb ao len cap zs w w3) := drawn_trans HD2.out hd3
  clear hd3 HW2 HD2
  have hki : (k : Int) < (n : Int) := by omega
  have e2 : IntKind.i64.wrap (k : Int) = (k : Int) := by rw [IntKind.wrap_i64]; omega
  by_cases q0 : t = 0
  · subst q0
    go_wp2_with (go_at_call 26; fail)
    refine (below_any cb ao len cap zs _ HD3.out.1 23 (by decide) (by decide)).mono ?_
    rintro e w4 ⟨z, rfl, hz0, hz1, hd4⟩
    have hzz : -2000000 ≤ z ∧ z ≤ 2000000 := by omega
    have HW4 : Hid (RowW w4 w.heap.size g n vc) := HW3.out.drawn hd4 HCB.out
    have HD4 : Hid (Drawn cb ao len cap zs w w4) := drawn_trans HD3.out hd4
    clear hd4 HW3 HD3
    obtain ⟨x, hx, hbx⟩ := HW4.out.rows k hk
    have c0 := hbx.c0
    have c1 := hbx.c1
    have c4 := hbx.c4
    have c5 := hbx.c5
    have fz := HW4.out.free
    have HW5 : Hid (RowW (w4.setCell ⟨g, k * 6 + 0, none⟩ (.int .i64 z)) w.heap.size g n vc) := HW4.out.set k 0 hk (by decide) _ (fun x => { x with op := z }) (fun x hx => ⟨hzz, hx.a, hx.b, hx.c, hx.n, hx.s⟩) (fun x => rfl)
    have HD5 : Hid (Drawn cb ao len cap zs w (w4.setCell ⟨g, k * 6 + 0, none⟩ (.int .i64 z))) := drawn_put HD4.out HNC.out.2.2.1 HNC.out.2.2.2 _ _
    clear hbx hx
    go_wp2_with fail
    go_ret
    exact ⟨g, n, vc, rfl, HW5.out, HD5.out⟩
  by_cases q1 : t = 1
  · subst q1
    go_wp2_with (go_at_call 24; fail)
    refine (int_any cb ao len cap zs (w3.alloc (.cells #[.int .i64 (-1), .int .i64 7, .int .i64 8] 3)) (HD3.out.1.alloc _) w3.heap.size [-1, 7, 8] (by have := cur_lt HD3.out.1; omega) (by simp) (by simp) ?_).mono ?_
    · intro j hj
      rw [World.cell?_alloc_new]
      rcases (show j = 0 ∨ j = 1 ∨ j = 2 by simp at hj; omega) with rfl | rfl | rfl <;> rfl
    rintro e w4 ⟨z, rfl, hz, hd4⟩
    have hz0 : -2000000 ≤ z ∧ z ≤ 2000000 := by simp at hz; omega
    have HW4 : Hid (RowW w4 w.heap.size g n vc) := (HW3.out.below ((Below.refl _ w3).alloc (Nat.le_refl _) _)).drawn hd4 HCB.out
    have HD4 : Hid (Drawn cb ao len cap zs w w4) := drawn_trans (drawn_below HD3.out ((Below.refl _ w3).alloc (Nat.le_refl _) _)) hd4
    clear hd4 hz HW3 HD3
    obtain ⟨x, hx, hbx⟩ := HW4.out.rows k hk
    have c0 := hbx.c0
    have c1 := hbx.c1
    have c4 := hbx.c4
    have c5 := hbx.c5
    have fz := HW4.out.free
    have HW5 : Hid (RowW (w4.setCell ⟨g, k * 6 + 1, none⟩ (.int .i64 z)) w.heap.size g n vc) := HW4.out.set k 1 hk (by decide) _ (fun x => { x with a := z }) (fun x hx => ⟨hx.op, hz0, hx.b, hx.c, hx.n, hx.s⟩) (fun x => rfl)
    have HD5 : Hid (Drawn cb ao len cap zs w (w4.setCell ⟨g, k * 6 + 1, none⟩ (.int .i64 z))) := drawn_put HD4.out HNC.out.2.2.1 HNC.out.2.2.2 _ _
    clear hbx hx
    go_wp2_with fail
    go_ret
    exact ⟨g, n, vc, rfl, HW5.out, HD5.out⟩
  by_cases q2 : t = 2
  · subst q2
    go_wp2_with (go_at_call 24; fail)
    refine (int_any cb ao len cap zs (w3.alloc (.cells #[.int .i64 (-1), .int .i64 200, .int .i64 8] 3)) (HD3.out.1.alloc _) w3.heap.size [-1, 200, 8] (by have := cur_lt HD3.out.1; omega) (by simp) (by simp) ?_).mono ?_
    · intro j hj
      rw [World.cell?_alloc_new]
      rcases (show j = 0 ∨ j = 1 ∨ j = 2 by simp at hj; omega) with rfl | rfl | rfl <;> rfl
    rintro e w4 ⟨z, rfl, hz, hd4⟩
    have hz0 : -2000000 ≤ z ∧ z ≤ 2000000 := by simp at hz; omega
    have HW4 : Hid (RowW w4 w.heap.size g n vc) := (HW3.out.below ((Below.refl _ w3).alloc (Nat.le_refl _) _)).drawn hd4 HCB.out
    have HD4 : Hid (Drawn cb ao len cap zs w w4) := drawn_trans (drawn_below HD3.out ((Below.refl _ w3).alloc (Nat.le_refl _) _)) hd4
    clear hd4 hz HW3 HD3
    obtain ⟨x, hx, hbx⟩ := HW4.out.rows k hk
    have c0 := hbx.c0
    have c1 := hbx.c1
    have c4 := hbx.c4
    have c5 := hbx.c5
    have fz := HW4.out.free
    have HW5 : Hid (RowW (w4.setCell ⟨g, k * 6 + 4, none⟩ (.int .i64 z)) w.heap.size g n vc) := HW4.out.set k 4 hk (by decide) _ (fun x => { x with n := z }) (fun x hx => ⟨hx.op, hx.a, hx.b, hx.c, hz0, hx.s⟩) (fun x => rfl)
    have HD5 : Hid (Drawn cb ao len cap zs w (w4.setCell ⟨g, k * 6 + 4, none⟩ (.int .i64 z))) := drawn_put HD4.out HNC.out.2.2.1 HNC.out.2.2.2 _ _
    clear hbx hx
    go_wp2_with fail
    go_ret
    exact ⟨g, n, vc, rfl, HW5.out, HD5.out⟩
  by_cases q3 : t = 3
  · subst q3
    go_wp2_with (go_at_call 47; fail)
    refine (str_any cb ao len cap zs (w3.alloc (.cells #[.string ⟨#[]⟩, .string ⟨#[65]⟩, .string ⟨#[120]⟩] 9)) (HD3.out.1.alloc _) w3.heap.size [⟨#[]⟩, ⟨#[65]⟩, ⟨#[120]⟩] (by have := cur_lt HD3.out.1; omega) (by simp) (by simp) ?_).mono ?_
    · intro j hj
      rw [World.cell?_alloc_new]
      rcases (show j = 0 ∨ j = 1 ∨ j = 2 by simp at hj; omega) with rfl | rfl | rfl <;> rfl
    rintro e w4 ⟨z, rfl, hz, hd4⟩
    have HZ0 : Hid (z.size ≤ 1000) := by
      show z.size ≤ 1000
      simp only [List.mem_cons, List.not_mem_nil, or_false] at hz; rcases hz with rfl | rfl | rfl <;> decide
    have HW4 : Hid (RowW w4 w.heap.size g n vc) := (HW3.out.below ((Below.refl _ w3).alloc (Nat.le_refl _) _)).drawn hd4 HCB.out
    have HD4 : Hid (Drawn cb ao len cap zs w w4) := drawn_trans (drawn_below HD3.out ((Below.refl _ w3).alloc (Nat.le_refl _) _)) hd4
    clear hd4 hz HW3 HD3
    obtain ⟨x, hx, hbx⟩ := HW4.out.rows k hk
    have c0 := hbx.c0
    have c1 := hbx.c1
    have c4 := hbx.c4
    have c5 := hbx.c5
    have fz := HW4.out.free
    have HW5 : Hid (RowW (w4.setCell ⟨g, k * 6 + 5, none⟩ (.string z)) w.heap.size g n vc) := HW4.out.set k 5 hk (by decide) _ (fun x => { x with s := z }) (fun x hx => ⟨hx.op, hx.a, hx.b, hx.c, hx.n, HZ0.out⟩) (fun x => rfl)
    have HD5 : Hid (Drawn cb ao len cap zs w (w4.setCell ⟨g, k * 6 + 5, none⟩ (.string z))) := drawn_put HD4.out HNC.out.2.2.1 HNC.out.2.2.2 _ _
    clear hbx hx
    go_wp2_with fail
    go_ret
    exact ⟨g, n, vc, rfl, HW5.out, HD5.out⟩
  by_cases q4 : t = 4
  · subst q4
    have n1 := HNC.out.1
    have n2 := HNC.out.2.1
    have hkc : (k : Int) ≤ (vc : Int) := by omega
    have HW5 : Hid (RowW w3 w.heap.size g k vc) := HW3.out.less (by omega)
    go_wp2_with fail
    go_ret
    exact ⟨g, k, vc, by simp, HW5.out, HD3.out⟩
  · have r0 : (t == 0) = false := beq_eq_false_iff_ne.2 q0
    have r1 : (t == 1) = false := beq_eq_false_iff_ne.2 q1
    have r2 : (t == 2) = false := beq_eq_false_iff_ne.2 q2
    have r3 : (t == 3) = false := beq_eq_false_iff_ne.2 q3
    have r4 : (t == 4) = false := beq_eq_false_iff_ne.2 q4
    go_wp2_with fail
    go_ret
    exact ⟨g, n, vc, rfl, HW3.out, HD3.out⟩
end Go.Proofs.YtllogpekbdlfiaaDoor.Code
