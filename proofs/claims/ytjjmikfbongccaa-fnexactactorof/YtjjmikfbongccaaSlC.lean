/-
  How the specification reads off both lists: the reader; bytes.
-/
import Derived.Test.YtjjmikfbongccaaSlB
import Derived.Test.YtjjmikfbongccaaSpC
namespace Go.Proofs.Ytjjmikfbongccaa.Gn
open Go.RowKit
set_option linter.unusedVariables false

set_option maxHeartbeats 1000000 in
set_option maxRecDepth 100000 in
theorem l6Words_zero {G : GE} {w : World} (h : GSrc G w) (p : Nat) (hp : p ≤ 9223372036854775000) :
    Calls Try.prog 57 #[G.v, .int .i64 p, .int .i64 0] w fun e w' => ∃ a c ok, e = .returned (.tuple #[.slice a 0 c, .bool ok]) ∧ Below w.heap.size w w' := by
  have hN := h.n
  have hM := h.m
  have ol := h.ol
  have yl := h.yl
  unfold GE.v
  have HB : Hid (Below w.heap.size w (w.alloc (.cells #[.slice G.wv G.N G.cap, .slice G.yv G.M G.ycap, .int .i64 G.mark] 44))) := (Below.refl _ _).alloc (Nat.le_refl _) _
  have HB2 : Hid (Below w.heap.size w ((w.alloc (.cells #[.slice G.wv G.N G.cap, .slice G.yv G.M G.ycap, .int .i64 G.mark] 44)).alloc (.cells #[] 3))) := ((Below.refl _ _).alloc (Nat.le_refl _) _).alloc (by rw [World.size_alloc]; omega) _
  clear h
  obtain ⟨N, f, wv, b, o, cap, M, g, yv, yb, yo, ycap, mark, A, av, ab, ao, acap⟩ := G
  simp only at *
  by_cases h1 : p < 100000
  · have hlt : decide ((100000 : Int) ≤ (p : Int)) = false := by simp; omega
    by_cases h2 : p ≤ N
    · have HI1 : Hid (inB (p : Int) 0 (N : Int) = true) := by show _ = _; unfold inB; simp; omega
      have HI2 : Hid (inB (0 : Int) 0 ((N : Int) - p) = true) := by show _ = _; unfold inB; simp; omega
      clear h1
      rcases ol with ⟨rfl, hc⟩ | ⟨rfl, rfl, rfl⟩
      · by_cases hpc : p = cap
        · subst hpc
          go_enter Try.func57, Try.ntmps57
          go_wp2_with (first | (go_at_call 59; refine (in_any _ _ _ _).mono ?_; rintro e w' ⟨rfl, rfl⟩; first | rw [HI2.out] | rw [HI1.out]))
          go_ret2
          exact ⟨_, _, _, ret_tsl (by omega) rfl, HB.out⟩
        · go_enter Try.func57, Try.ntmps57
          go_wp2_with (first | (go_at_call 59; refine (in_any _ _ _ _).mono ?_; rintro e w' ⟨rfl, rfl⟩; first | rw [HI2.out] | rw [HI1.out]))
          go_ret2
          exact ⟨_, _, _, ret_tsl (by omega) rfl, HB.out⟩
      · obtain rfl : p = 0 := by omega
        go_enter Try.func57, Try.ntmps57
        go_wp2_with (first | (go_at_call 59; refine (in_any _ _ _ _).mono ?_; rintro e w' ⟨rfl, rfl⟩; first | rw [HI2.out] | rw [HI1.out] | rw [show inB (0 : Int) 0 0 = true from rfl]))
        go_ret2
        exact ⟨_, _, _, rfl, HB.out⟩
    · have HI1 : Hid (inB (p : Int) 0 (N : Int) = false) := by show _ = _; unfold inB; simp; omega
      clear h1
      go_enter Try.func57, Try.ntmps57
      go_wp2_with (first | (go_at_call 59; refine (in_any _ _ _ _).mono ?_; rintro e w' ⟨rfl, rfl⟩; first | rw [HI1.out]))
      go_ret2
      exact ⟨_, _, _, rfl, HB2.out⟩
  · obtain ⟨q, rfl⟩ : ∃ q, p = 100000 + q := ⟨p - 100000, by omega⟩
    obtain ⟨P, hP⟩ : ∃ P : Int, ((100000 + q : Nat) : Int) = P := ⟨_, rfl⟩
    have hps : P - 100000 = q := by omega
    rw [hP]
    have hge : 100000 ≤ P := by omega
    have hle : P ≤ 9223372036854775000 := by omega
    by_cases h2 : q ≤ M
    · have HI1 : Hid (inB (q : Int) 0 (M : Int) = true) := by show _ = _; unfold inB; simp; omega
      have HI2 : Hid (inB (0 : Int) 0 ((M : Int) - q) = true) := by show _ = _; unfold inB; simp; omega
      clear h1 hP hp
      rcases yl with ⟨rfl, hc⟩ | ⟨rfl, rfl, rfl⟩
      · by_cases hpc : q = ycap
        · subst hpc
          go_enter Try.func57, Try.ntmps57
          go_wp2_with (first | (go_at_call 59; refine (in_any _ _ _ _).mono ?_; rintro e w' ⟨rfl, rfl⟩; first | rw [HI2.out] | rw [HI1.out]))
          go_ret2
          exact ⟨_, _, _, ret_tsl (by omega) rfl, HB.out⟩
        · go_enter Try.func57, Try.ntmps57
          go_wp2_with (first | (go_at_call 59; refine (in_any _ _ _ _).mono ?_; rintro e w' ⟨rfl, rfl⟩; first | rw [HI2.out] | rw [HI1.out]))
          go_ret2
          exact ⟨_, _, _, ret_tsl (by omega) rfl, HB.out⟩
      · obtain rfl : q = 0 := by omega
        go_enter Try.func57, Try.ntmps57
        go_wp2_with (first | (go_at_call 59; refine (in_any _ _ _ _).mono ?_; rintro e w' ⟨rfl, rfl⟩; first | rw [HI2.out] | rw [HI1.out] | rw [show inB (0 : Int) 0 0 = true from rfl]))
        go_ret2
        exact ⟨_, _, _, rfl, HB.out⟩
    · have HI1 : Hid (inB (q : Int) 0 (M : Int) = false) := by show _ = _; unfold inB; simp; omega
      clear h1 hP hp
      go_enter Try.func57, Try.ntmps57
      go_wp2_with (first | (go_at_call 59; refine (in_any _ _ _ _).mono ?_; rintro e w' ⟨rfl, rfl⟩; first | rw [HI1.out]))
      go_ret2
      exact ⟨_, _, _, rfl, HB2.out⟩
/-- Whatever is asked for. -/
theorem l6Words_any {G : GE} {w : World} (h : GSrc G w) (p n : Nat) (hp : p ≤ 9223372036854775000) :
    Calls Try.prog 57 #[G.v, .int .i64 p, .int .i64 n] w fun e w' => ∃ a m c ok, e = .returned (.tuple #[.slice a m c, .bool ok]) ∧ Below w.heap.size w w' ∧ (n ≠ 0 → ¬ n ≤ G.len p → ok = false) := by
  by_cases h0 : n = 0
  · subst h0
    refine (l6Words_zero h p hp).mono ?_
    rintro e w' ⟨a, c, ok, rfl, hb⟩
    exact ⟨a, 0, c, ok, rfl, hb, fun h => absurd rfl h⟩
  · by_cases h1 : n ≤ G.len p
    · refine (l6Words_yes h p n h1 h0).mono ?_
      rintro e w' ⟨c, rfl, hb⟩
      exact ⟨_, _, c, true, rfl, hb, fun _ h => absurd h1 h⟩
    · refine (l6Words_no h p n h1 hp).mono ?_
      rintro e w' ⟨⟨g, rfl⟩, hb⟩
      exact ⟨_, _, _, false, rfl, hb, fun _ _ => rfl⟩

/-! ### The reader -/
structure SE where
  G : GE
  rb : Nat
abbrev SE.H (E : SE) : Hp := E.G.H
/-- Of the elder reader only where it stands. -/
abbrev SE.e (E : SE) : Ytjjmikfbongccaa.Env := ⟨⟨0, fun _ => 0, []⟩, E.rb, none, 0, 0, 0, none, 0, 0, 0⟩
structure Sr (E : SE) (left : Int) (bad : Bool) (w : World) : Prop where
  c0 : w.cell? ⟨E.rb, 0, none⟩ = some (.slice E.G.wv E.G.N E.G.cap)
  c1 : w.cell? ⟨E.rb, 1, none⟩ = some (.slice E.G.yv E.G.M E.G.ycap)
  c2 : w.cell? ⟨E.rb, 2, none⟩ = some (.int .i64 E.G.mark)
  c3 : w.cell? ⟨E.rb, 3, none⟩ = some (.slice E.G.av E.G.A.length E.G.acap)
  c4 : w.cell? ⟨E.rb, 4, none⟩ = some (.int .i64 left)
  c5 : w.cell? ⟨E.rb, 5, none⟩ = some (.bool bad)
  fr : ∀ o, w.frozen? ⟨E.rb, o, none⟩ = false
  src : GSrc E.G w
  wn : E.G.N ≠ 0 → E.G.b ≠ E.rb
  yn : E.G.M ≠ 0 → E.G.yb ≠ E.rb
  an : E.G.A.length ≠ 0 → E.G.ab ≠ E.rb
theorem Sr.lt {E : SE} {left : Int} {bad : Bool} {w : World} (h : Sr E left bad w) : E.rb < w.heap.size := World.block_lt_of_cell? w _ h.c0
theorem GSrc.same {G : GE} {w w1 w2 : World} (h0 : GSrc G w) (h : GSrc G w1) (hk : ∀ k, k < w.heap.size → w2.heap[k]? = w1.heap[k]?) : GSrc G w2 := by
  have e : ∀ b o, b < w.heap.size → w2.cell? ⟨b, o, none⟩ = w1.cell? ⟨b, o, none⟩ := fun b o hb => World.cell?_of_block (w := w1) (hk b hb)
  exact ⟨h.n, h.m, h.a, h.ol, h.yl, h.al, fun j hj => by rw [e _ _ (World.block_lt_of_cell? w _ (h0.ws j hj))]; exact h.ws j hj, fun j hj => by rw [e _ _ (World.block_lt_of_cell? w _ (h0.ys j hj))]; exact h.ys j hj, fun j hj => by rw [e _ _ (World.block_lt_of_cell? w _ (h0.ats j hj))]; exact h.ats j hj, h.big, h.bigy, h.txt⟩
theorem Sr.same {E : SE} {l0 left : Int} {b0 bad : Bool} {w w1 w2 : World} (h0 : Sr E l0 b0 w) (h : Sr E left bad w1) (hk : ∀ k, k < w.heap.size → w2.heap[k]? = w1.heap[k]?) : Sr E left bad w2 := by
  have e : ∀ b o, b < w.heap.size → w2.cell? ⟨b, o, none⟩ = w1.cell? ⟨b, o, none⟩ := fun b o hb => World.cell?_of_block (w := w1) (hk b hb)
  have hr := h0.lt
  exact ⟨by rw [e _ _ hr]; exact h.c0, by rw [e _ _ hr]; exact h.c1, by rw [e _ _ hr]; exact h.c2, by rw [e _ _ hr]; exact h.c3, by rw [e _ _ hr]; exact h.c4, by rw [e _ _ hr]; exact h.c5, fun o => by rw [World.frozen?_of_block (w := w1) (hk E.rb hr)]; exact h.fr o, h0.src.same h.src hk, h.wn, h.yn, h.an⟩
theorem Sr.below {E : SE} {left : Int} {bad : Bool} {w w' : World} (h : Sr E left bad w) (hb : Below w.heap.size w w') : Sr E left bad w' := h.same h (fun k hk => hb.block k hk)
theorem Sr.drew {E : SE} {left : Int} {bad : Bool} {w : World} (h : Sr E left bad w) : Sr E left bad w.drew := h.same h (fun k _ => rfl)
theorem Sr.setA {E : SE} {left : Int} {bad : Bool} {w : World} (h : Sr E left bad w) (o : Nat) (v : Value) : GSrc E.G (w.setCell ⟨E.rb, o, none⟩ v) ∧ (∀ o', o' ≠ o → (w.setCell ⟨E.rb, o, none⟩ v).cell? ⟨E.rb, o', none⟩ = w.cell? ⟨E.rb, o', none⟩) := by
  have e : ∀ b o', b ≠ E.rb → (w.setCell ⟨E.rb, o, none⟩ v).cell? ⟨b, o', none⟩ = w.cell? ⟨b, o', none⟩ := fun b o' hn => by
    rw [World.cell?_setCell_other (h := fun e => by simp only [Addr.mk.injEq] at e; exact hn e.1.symm)]
  have s := h.src
  exact ⟨⟨s.n, s.m, s.a, s.ol, s.yl, s.al, fun j hj => by rw [e _ _ (h.wn (by omega))]; exact s.ws j hj, fun j hj => by rw [e _ _ (h.yn (by omega))]; exact s.ys j hj, fun j hj => by rw [e _ _ (h.an (by omega))]; exact s.ats j hj, s.big, s.bigy, s.txt⟩, fun o' hn => by rw [World.cell?_setCell_other (h := fun e => by simp only [Addr.mk.injEq] at e; omega)]⟩
theorem Sr.setL {E : SE} {left : Int} {bad : Bool} {w : World} (h : Sr E left bad w) (x : Int) : Sr E x bad (w.setCell ⟨E.rb, 4, none⟩ (.int .i64 x)) := by
  obtain ⟨s, e⟩ := h.setA 4 (.int .i64 x)
  exact ⟨by rw [e _ (by omega)]; exact h.c0, by rw [e _ (by omega)]; exact h.c1, by rw [e _ (by omega)]; exact h.c2, by rw [e _ (by omega)]; exact h.c3, World.cell?_setCell_same w _ _ h.c4, by rw [e _ (by omega)]; exact h.c5, fun o => by rw [World.frozen?_setCell]; exact h.fr o, s, h.wn, h.yn, h.an⟩
theorem Sr.setB {E : SE} {left : Int} {bad : Bool} {w : World} (h : Sr E left bad w) (x : Bool) : Sr E left x (w.setCell ⟨E.rb, 5, none⟩ (.bool x)) := by
  obtain ⟨s, e⟩ := h.setA 5 (.bool x)
  exact ⟨by rw [e _ (by omega)]; exact h.c0, by rw [e _ (by omega)]; exact h.c1, by rw [e _ (by omega)]; exact h.c2, by rw [e _ (by omega)]; exact h.c3, by rw [e _ (by omega)]; exact h.c4, World.cell?_setCell_same w _ _ h.c5, fun o => by rw [World.frozen?_setCell]; exact h.fr o, s, h.wn, h.yn, h.an⟩
theorem Sr.at {E : SE} {left : Int} {bad : Bool} {w : World} (h : Sr E left bad w) (p j : Nat) (hj : j < E.G.len p) : w.cell? ⟨E.G.sb p, E.G.so p + j, none⟩ = some (.int .i64 (E.G.w p j)) := h.src.at p j hj
theorem Sr.sn {E : SE} {left : Int} {bad : Bool} {w : World} (h : Sr E left bad w) (p : Nat) (hj : 0 < E.G.len p) : E.G.sb p ≠ E.rb := by
  unfold GE.len at hj
  unfold GE.sb
  by_cases h1 : p < 100000
  · rw [if_pos h1] at hj ⊢
    exact h.wn (by omega)
  · rw [if_neg h1] at hj ⊢
    exact h.yn (by omega)
theorem GE.bigw {G : GE} {w : World} (h : GSrc G w) (p j : Nat) : G.w p j ≤ 9223372036854775807 := by
  unfold GE.w
  split
  · exact h.big _
  · exact h.bigy _
/-- How many stand where a word that is made leads. -/
theorem sz_mk {G : GE} {w : World} (h : GSrc G w) (t : Int) (ht : t = 4 ∨ t = 6) (p : Nat) : sz G (mkw t p) = cn G p := by
  by_cases hp : p ≤ 4000000
  · have e : mkw t p = (p : Int) * 8 + t := by
      unfold mkw
      rw [if_pos (by rcases ht with rfl | rfl <;> simp [inB] <;> omega)]
    have h1 : tagW (mkw t p) = t := by rw [e, tagW_of (by omega)]; rcases ht with rfl | rfl <;> omega
    have h2 : valW (mkw t p) = p := by rw [e, valW_of (by omega)]; rcases ht with rfl | rfl <;> omega
    unfold sz
    rw [h1, if_neg (by omega), if_pos (by omega), h2]
    simp
  · have e : mkw t p = 0 := by
      unfold mkw
      rw [if_neg (by simp [inB]; omega)]
    have h1 : tagW (mkw t p) = 0 := by rw [e]; rfl
    unfold sz cn
    rw [h1, if_neg (by omega), if_neg (by omega), if_neg (fun hh => ?_)]
    have := (GE.ok h.n h.m h.a).far p (by have := hh.1; show G.len p ≠ 0; omega)
    omega
theorem mkw_le (t : Int) (p : Int) (ht : t ≤ 6) : mkw t p ≤ 9223372036854775807 := by
  unfold mkw inB
  split
  · rename_i h
    simp at h
    omega
  · decide
theorem cn_some {G : GE} {p m : Nat} {most : Int} (hm : most ≤ 1000) (h : cnt G.H p most = some m) : cn G p = (m : Int) + 1 ∧ m + 1 ≤ G.len p ∧ (m : Int) ≤ most := by
  obtain ⟨h1, h2, h3, h4, h5⟩ := cnt_some h
  rw [Int.toNat_natCast] at h1 h2 h3 h4 h5
  have e1 : G.H.len p = G.len p := rfl
  have e2 : G.H.w p 0 = G.w p 0 := rfl
  rw [e1] at h1 h5
  rw [e2] at h2 h3 h4 h5
  unfold cn
  rw [if_pos ⟨h1, h2, by omega⟩]
  omega
/-- Where it does not say how many there are, one of the two tests falls. -/
theorem cn_none {G : GE} {p : Nat} {most : Int} (hm : most ≤ 1000) (h : cnt G.H p most = none) : ∃ k : Nat, cn G p = k ∧ k ≤ 1001 ∧ (inB ((k : Int) - 1) 0 most = true → k ≠ 0 ∧ ¬ k ≤ G.len p) := by
  unfold cnt at h
  rw [Int.toNat_natCast] at h
  have e1 : G.H.len p = G.len p := rfl
  have e2 : G.H.w p 0 = G.w p 0 := rfl
  rw [e1, e2] at h
  by_cases hc : 1 ≤ G.len p ∧ 0 ≤ G.w p 0 ∧ G.w p 0 ≤ 1000
  · refine ⟨(G.w p 0 + 1).toNat, ?_, ?_, fun hb => ?_⟩
    · unfold cn; rw [if_pos hc]; omega
    · omega
    · have := inB_yes hb
      refine ⟨by omega, fun hh => ?_⟩
      rw [if_pos ⟨hc.1, hc.2.1, by omega, by omega⟩] at h
      cases h
  · refine ⟨0, ?_, by omega, fun hb => ?_⟩
    · unfold cn; rw [if_neg hc]; rfl
    · have := inB_yes hb; omega
end Go.Proofs.Ytjjmikfbongccaa.Gn
