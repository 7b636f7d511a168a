/-
  A row of numbers in a block, and how it turns; what l2Lay leaves.
-/
import Derived.Test.YtmongbpdbcbhlaaCurA
namespace Go.Proofs.Ytmongbpdbcbhlaa
open Go.RowKit
set_option linter.unusedVariables false

/-- The N numbers f stand in the block b from o on, and may be written. -/
structure Ints (w : World) (b o N : Nat) (f : Nat → Int) : Prop where
  cell : ∀ j, j < N → w.cell? ⟨b, o + j, none⟩ = some (.int .i64 (f j))
  free : ∀ x, w.frozen? ⟨b, x, none⟩ = false

def upd (f : Nat → Int) (i : Nat) (x : Int) : Nat → Int := fun j => if j = i then x else f j
theorem upd_same (f : Nat → Int) (i : Nat) (x : Int) : upd f i x i = x := by simp [upd]
theorem upd_other (f : Nat → Int) {i j : Nat} (x : Int) (h : j ≠ i) : upd f i x j = f j := by simp [upd, h]

theorem Ints.congr {w : World} {b o N : Nat} {f g : Nat → Int} (h : Ints w b o N f) (e : ∀ j, j < N → f j = g j) : Ints w b o N g :=
  ⟨fun j hj => by rw [← e j hj]; exact h.cell j hj, h.free⟩
theorem Ints.set {w : World} {b o N : Nat} {f : Nat → Int} (h : Ints w b o N f) (i : Nat) (hi : i < N) (x : Int) : Ints (w.setCell ⟨b, o + i, none⟩ (.int .i64 x)) b o N (upd f i x) := by
  refine ⟨fun j hj => ?_, fun y => by rw [World.frozen?_setCell]; exact h.free y⟩
  by_cases e : j = i
  · subst e
    rw [upd_same]
    exact World.cell?_setCell_same w _ _ (h.cell j hj)
  · rw [upd_other f x e, World.cell?_setCell_other (h := fun q => by simp at q; try omega)]
    exact h.cell j hj
theorem Ints.below {w w' : World} {b o N : Nat} {f : Nat → Int} (h : Ints w b o N f) (hb : Below w.heap.size w w') (hlt : b < w.heap.size) : Ints w' b o N f :=
  ⟨fun j hj => by rw [hb.cell (p := ⟨b, o + j, none⟩) hlt]; exact h.cell j hj, fun x => by rw [hb.frozen (p := ⟨b, x, none⟩) hlt]; exact h.free x⟩
theorem Ints.turn {cb : Nat} {w w' : World} {b o N : Nat} {f : Nat → Int} (h : Ints w b o N f) (t : Turn cb w w') (hn : b ≠ cb) (hlt : b < w.heap.size) : Ints w' b o N f :=
  ⟨fun j hj => t.cell hn (h.cell j hj), fun x => by rw [t.frozen hn hlt]; exact h.free x⟩
theorem Ints.lt {w : World} {b o N : Nat} {f : Nat → Int} (h : Ints w b o N f) (hN : 0 < N) : b < w.heap.size := World.block_lt_of_cell? w _ (h.cell 0 hN)

/-- A block of n words for its holder, laid at p: the holder's words ahead of m stand. -/
def midF (f : Nat → Int) (p n : Nat) (u : Bool) (m : Nat) : Nat → Int := fun j =>
  if j = p then gw p n u 1000 else if j = p + 1 then n else if p + 2 ≤ j ∧ j < m then (if u then 0 else pois j) else f j
def layF (f : Nat → Int) (p n : Nat) (u : Bool) : Nat → Int := upd (midF f p n u (p + 2 + n)) (p + 2 + n) (gw p n u 1001)

theorem mid_start (f : Nat → Int) (p n : Nat) (u : Bool) : ∀ j, upd (upd f p (gw p n u 1000)) (p + 1) n j = midF f p n u (p + 2) j := by
  intro j
  unfold midF upd
  by_cases h1 : j = p + 1
  · subst h1; simp
  · by_cases h2 : j = p
    · subst h2; simp
    · rw [if_neg h1, if_neg h2, if_neg h2, if_neg h1, if_neg (by omega)]
theorem mid_step (f : Nat → Int) (p n : Nat) (u : Bool) (m : Nat) (hm : p + 2 ≤ m) (x : Int) (hx : x = if u then 0 else pois m) : ∀ j, upd (midF f p n u m) m x j = midF f p n u (m + 1) j := by
  intro j
  unfold midF upd
  dsimp only
  by_cases h1 : j = m
  · subst h1
    rw [if_pos rfl, if_neg (by omega), if_neg (by omega), if_pos (by omega)]; exact hx
  · rw [if_neg h1]
    by_cases h2 : j = p
    · rw [if_pos h2, if_pos h2]
    · by_cases h3 : j = p + 1
      · rw [if_neg h2, if_neg h2, if_pos h3, if_pos h3]
      · rw [if_neg h2, if_neg h2, if_neg h3, if_neg h3]
        by_cases h4 : p + 2 ≤ j ∧ j < m
        · have h5 : p + 2 ≤ j ∧ j < m + 1 := by omega
          rw [if_pos h4, if_pos h5]
        · have h5 : ¬ (p + 2 ≤ j ∧ j < m + 1) := by omega
          rw [if_neg h4, if_neg h5]
theorem upd_upd (f : Nat → Int) (i : Nat) (x y : Int) : ∀ j, upd (upd f i x) i y j = upd f i y j := by
  intro j
  unfold upd
  by_cases h : j = i <;> simp [h]

set_option maxHeartbeats 1000000 in
set_option maxRecDepth 100000 in
theorem lay_any (b o N cap : Nat) (f : Nat → Int) (w : World) (hI : Ints w b o N f) (p n : Nat) (u : Bool) (hp : p + n + 3 ≤ N) (hN : N ≤ 1048576) :
    Calls Try.prog 38 #[.slice (some ⟨b, o, none⟩) N cap, .int .i64 p, .int .i64 n, .bool u] w fun e w' => (∃ v, e = .returned v) ∧ Turn b w w' ∧ Ints w' b o N (layF f p n u) := by
  have HI : Hid (Ints w b o N f) := hI
  have fr : ∀ x, w.frozen? ⟨b, x, none⟩ = false := hI.free
  have c0 := hI.cell p (by omega)
  have c1 := hI.cell (p + 1) (by omega)
  clear hI
  go_enter Try.func38, Try.ntmps38
  go_wp2_with fail
  refine (specGuard_any _ _ _ _).mono ?_
  rintro e w1 ⟨rfl, rfl⟩
  go_wp2_with fail
  clear c0 c1 fr
  go_loopw [8] (fun i w' => ∃ m : Nat, p + 2 ≤ m ∧ m ≤ p + 2 + n ∧ i = .int .i64 m ∧ Turn b w1 w' ∧ Ints w' b o N (midF f p n u m)) (fun i _ => p + 2 + n - (intOf i).toNat)
  case atStart =>
    exact ⟨p + 2, Nat.le_refl _, Nat.le_add_right _ _, by simp, ((Turn.refl _ _).set _ _).set _ _, ((HI.out.set p (by omega) _).set (p + 1) (by omega) _).congr (fun j _ => mid_start f p n u j)⟩
  case round =>
    obtain ⟨m, hm0, hm1, rfl, ht, hi⟩ := hrel
    have HT : Hid (Turn b w1 wr) := ht
    have HI2 : Hid (Ints wr b o N (midF f p n u m)) := hi
    have fr : ∀ x, wr.frozen? ⟨b, x, none⟩ = false := hi.free
    have cm := hi.cell m (by omega)
    clear ht hi
    by_cases hlt : m < p + 2 + n
    · cases u with
      | true =>
        go_wp2_with fail
        go_roundw
        case rel => exact ⟨m + 1, by omega, by omega, by go_num, HT.out.set _ _, (HI2.out.set m (by omega) _).congr (fun j _ => mid_step f p n true m hm0 0 rfl j)⟩
        case measure => simp [intOf]; omega
      | false =>
        go_wp2_with (go_at_call 67; refine (specPois_any _ _).mono ?_; rintro e w' ⟨rfl, rfl⟩)
        go_roundw
        case rel => exact ⟨m + 1, by omega, by omega, by go_num, (HT.out.set _ _).set _ _, ((HI2.out.set m (by omega) _).set m (by omega) _).congr (fun j _ => by rw [upd_upd]; exact mid_step f p n false m hm0 (pois m) rfl j)⟩
        case measure => simp [intOf]; omega
    · have hme : m = p + 2 + n := by omega
      subst hme
      go_wp2_with fail
      refine (specRear_any _ _ _ _).mono ?_
      rintro e w2 ⟨rfl, rfl⟩
      go_wp2_with fail
      go_end0
      exact ⟨⟨_, rfl⟩, HT.out.set _ _, HI2.out.set (p + 2 + n) (by omega) _⟩
end Go.Proofs.Ytmongbpdbcbhlaa
