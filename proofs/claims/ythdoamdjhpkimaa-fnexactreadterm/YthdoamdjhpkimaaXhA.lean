/-
  The frame of a law over a heap, atoms and roots: its measure, its copies, its comparisons.
-/
import Derived.Test.YthdoamdjhpkimaaSpJ
import Derived.Test.YthdoamdjhpkimaaArC
import Derived.Test.YthdoamdjhpkimaaSgB
namespace Go.Proofs.Ythdoamdjhpkimaa
open Go.RowKit
set_option linter.unusedVariables false

theorem below_join {a b c : World} (h : Below a.heap.size a b) (k : Below b.heap.size b c) : Below a.heap.size a c := h.trans (k.mono h.size)
/-- N numbers that are read only. -/
def RdI (w : World) (ao : Option Addr) (N : Nat) (f : Nat → Int) : Prop :=
  N ≠ 0 → ∃ b o, ao = some ⟨b, o, none⟩ ∧ ∀ j, j < N → w.cell? ⟨b, o + j, none⟩ = some (.int .i64 (f j))
theorem Ints.rdI {w : World} {b o N : Nat} {f : Nat → Int} (h : Ints w b o N f) : RdI w (some ⟨b, o, none⟩) N f := fun _ => ⟨b, o, rfl, h.cell⟩
theorem RdI.nil (w : World) (f : Nat → Int) (ao : Option Addr) : RdI w ao 0 f := fun h => absurd rfl h
theorem RdI.below {w w' : World} {ao : Option Addr} {N : Nat} {f : Nat → Int} (h : RdI w ao N f) (hb : Below w.heap.size w w') : RdI w' ao N f := fun hn => by
  obtain ⟨b, o, e, hc⟩ := h hn
  exact ⟨b, o, e, fun j hj => by rw [hb.cell (p := ⟨b, o + j, none⟩) (World.block_lt_of_cell? w _ (hc j hj))]; exact hc j hj⟩

set_option maxHeartbeats 1000000 in
theorem eqIntS_same (ao bo : Option Addr) (N ca cb : Nat) (f g : Nat → Int) (w : World) (ha : RdI w ao N f) (hb : RdI w bo N g) (he : ∀ j, j < N → f j = g j) (hN : N ≤ 1048576) :
    Calls Try.prog 30 #[.slice ao N ca, .slice bo N cb] w fun e w' => e = .returned (.bool true) ∧ Below w.heap.size w w' := by
  have HA : Hid (RdI w ao N f) := ha
  have HB : Hid (RdI w bo N g) := hb
  have HE : Hid (∀ j, j < N → f j = g j) := he
  clear ha hb he
  go_enter Try.func30, Try.ntmps30
  go_wp2_with fail
  go_loopw [5] (fun i w' => ∃ m : Nat, m ≤ N ∧ i = .int .i64 m ∧ Below w.heap.size w w') (fun i _ => N - (intOf i).toNat)
  case atStart => exact ⟨0, Nat.zero_le _, by simp, Below.refl _ _⟩
  case round =>
    obtain ⟨m, hm, rfl, hbl⟩ := hrel
    have HBL : Hid (Below w.heap.size w wr) := hbl
    by_cases hlt : m < N
    · obtain ⟨b1, o1, rfl, c1⟩ := HA.out.below hbl (by omega)
      obtain ⟨b2, o2, rfl, c2⟩ := HB.out.below hbl (by omega)
      have q1 := c1 m hlt
      have q2 := c2 m hlt
      rw [HE.out m hlt] at q1
      clear c1 c2 hbl
      generalize g m = x at *
      go_wp2_with fail
      go_quiet (fail)
      go_wp2_with fail
      go_roundw
      case rel => exact ⟨m + 1, by omega, by go_num, by first | exact HBL.out.drew | exact below_drewN HBL.out _⟩
      case measure => simp [intOf]; omega
    · clear hbl
      go_wp2_with fail
      go_ret
      exact ⟨rfl, HBL.out⟩


/-- What is left of the purse: below 0, there is too much. -/
def szI (N : Nat) (left : Int) : Int := if left - N < 0 then -1 else left - N
theorem szIntS_any (ao : Option Addr) (N cap : Nat) (left : Int) (hN : N ≤ maxLen) (h0 : 0 ≤ left ∧ left ≤ 1048576) (w : World) :
    Calls Try.prog 49 #[.slice ao N cap, .int .i64 left] w fun e w' => e = .returned (.int .i64 (szI N left)) ∧ w' = w := by
  unfold maxLen at hN
  by_cases h : left - N < 0
  · go_enter Try.func49, Try.ntmps49
    go_wp2
    go_ret
    exact ⟨ret_int (by rw [szI, if_pos h]), rfl⟩
  · go_enter Try.func49, Try.ntmps49
    go_wp2
    go_ret
    exact ⟨ret_int (by rw [szI, if_neg (by omega)]), rfl⟩
theorem szI_ge (N : Nat) (left : Int) : -1 ≤ szI N left := by unfold szI; split <;> omega
theorem szHeap_any (ao : Option Addr) (N cap : Nat) (left : Int) (hN : N ≤ maxLen) (h0 : 0 ≤ left ∧ left ≤ 1048576) (w : World) :
    Calls Try.prog 18 #[.agg #[.slice ao N cap], .int .i64 left] w fun e w' => e = .returned (.int .i64 (szI N left)) ∧ Below w.heap.size w w' := by
  have HN : Hid (N ≤ maxLen) := hN
  have hge := szI_ge N left
  go_enter Try.func18, Try.ntmps18
  go_wp2_with fail
  refine (szIntS_any ao N cap left HN.out h0 _).mono ?_
  rintro e w1 ⟨rfl, rfl⟩
  obtain ⟨y, hyy⟩ : ∃ y, szI N left = y := ⟨_, rfl⟩
  rw [hyy] at hge ⊢
  have HE : Hid (szI N left = y) := hyy
  clear hyy
  by_cases hy : y < 0
  · have e : y = -1 := by omega
    subst e
    go_wp2_with fail
    go_ret
    exact ⟨ret_int HE.out.symm, (Below.refl _ _).alloc (Nat.le_refl _) _⟩
  · go_wp2_with fail
    go_ret
    exact ⟨ret_int HE.out.symm, (Below.refl _ _).alloc (Nat.le_refl _) _⟩

set_option maxHeartbeats 1000000 in
theorem toIntS_any (ao : Option Addr) (N cap : Nat) (f : Nat → Int) (w : World) (hr : RdI w ao N f) (hN : N ≤ 1048576) :
    Calls Try.prog 29 #[.slice ao N cap] w fun e w' => e = .returned (.slice (some ⟨w.heap.size, 0, none⟩) N N) ∧ Ints w' w.heap.size 0 N f ∧ w.heap.size < w'.heap.size ∧ Below w.heap.size w w' := by
  have HR : Hid (RdI w ao N f) := hr
  clear hr
  have hmk := run_ints N hN
  go_enter Try.func29, Try.ntmps29
  go_wp2_with fail
  clear hmk
  have hst : Ints (w.alloc (.cells (madeCells #[.int .i64 0] N) 3)) w.heap.size 0 N (fun j => if j < 0 then f j else 0) := (ints_made w N).congr (fun j _ => by rw [if_neg (by omega)])
  have hb : Below w.heap.size w (w.alloc (.cells (madeCells #[.int .i64 0] N) 3)) := (Below.refl _ _).alloc (Nat.le_refl _) _
  have hl : w.heap.size < (w.alloc (.cells (madeCells #[.int .i64 0] N) 3)).heap.size := by simp
  have HS : Hid (Ints (w.alloc (.cells (madeCells #[.int .i64 0] N) 3)) w.heap.size 0 N (fun j => if j < 0 then f j else 0) ∧ Below w.heap.size w (w.alloc (.cells (madeCells #[.int .i64 0] N) 3)) ∧ w.heap.size < (w.alloc (.cells (madeCells #[.int .i64 0] N) 3)).heap.size) := ⟨hst, hb, hl⟩
  clear hst hb hl
  go_loopw [4] (fun i wr => ∃ m : Nat, m ≤ N ∧ i = .int .i64 m ∧ Ints wr w.heap.size 0 N (fun j => if j < m then f j else 0) ∧ Below w.heap.size w wr ∧ w.heap.size < wr.heap.size) (fun i _ => N - (intOf i).toNat)
  case atStart => exact ⟨0, Nat.zero_le _, rfl, HS.out.1, HS.out.2.1, HS.out.2.2⟩
  case round =>
    obtain ⟨m, hm, rfl, hi, hb, hl⟩ := hrel
    have HI : Hid (Ints wr w.heap.size 0 N (fun j => if j < m then f j else 0)) := hi
    have HB : Hid (Below w.heap.size w wr ∧ w.heap.size < wr.heap.size) := ⟨hb, hl⟩
    by_cases hlt : m < N
    · obtain ⟨b, o, rfl, hc⟩ := HR.out (by omega)
      have hbl : b < w.heap.size := World.block_lt_of_cell? w _ (hc m hlt)
      have cs := (hb.cell (p := ⟨b, o + m, none⟩) hbl).trans (hc m hlt)
      have cd := hi.cell m hlt
      rw [Nat.zero_add] at cd
      have fr : ∀ x, wr.frozen? ⟨w.heap.size, x, none⟩ = false := hi.free
      have hne : ¬ b = w.heap.size := by omega
      clear hi hb hl hc
      go_wp2_with fail
      go_roundw
      case rel =>
        have h := HI.out.set m hlt (f m)
        rw [Nat.zero_add] at h
        refine ⟨m + 1, by omega, by go_num, h.congr fun j _ => ?_, HB.out.1.setCell (Nat.le_refl _) _, by rw [World.size_setCell]; exact HB.out.2⟩
        unfold upd
        by_cases e : j = m
        · subst e
          rw [if_pos rfl, if_pos (by omega)]
        · rw [if_neg e]
          dsimp only
          by_cases e2 : j < m
          · rw [if_pos e2, if_pos (by omega)]
          · rw [if_neg e2, if_neg (by omega)]
      case measure => simp [intOf]; omega
    · have hme : m = N := by omega
      subst hme
      clear hi hb hl
      go_wp2_with fail
      go_ret
      exact ⟨rfl, HI.out.congr (fun j hj => by rw [if_pos hj]), HB.out.2, HB.out.1⟩

set_option maxHeartbeats 1000000 in
set_option maxRecDepth 100000 in
theorem toHeap_any (ao : Option Addr) (N cap : Nat) (f : Nat → Int) (w : World) (hr : RdI w ao N f) (hN : N ≤ 1048576) :
    Calls Try.prog 20 #[.agg #[.slice ao N cap]] w fun e w' => ∃ g, e = .returned (.agg #[.slice (some ⟨g, 0, none⟩) N N]) ∧ w.heap.size ≤ g ∧ Ints w' g 0 N f ∧ g < w'.heap.size ∧ Below w.heap.size w w' := by
  have HR : Hid (RdI w ao N f) := hr
  clear hr
  go_enter Try.func20, Try.ntmps20
  go_wp2_with fail
  have hz : (((w.alloc (.cells #[.slice ao N cap] 39)).alloc (.cells #[.slice none 0 0] 26)).alloc (.cells #[.slice none 0 0] 26)).heap.size = w.heap.size + 3 := by simp
  have hb := (((Below.refl w.heap.size w).alloc (Nat.le_refl _) (.cells #[.slice ao N cap] 39)).alloc (by simp) (.cells #[.slice none 0 0] 26)).alloc (by simp; omega) (.cells #[.slice none 0 0] 26)
  have q1 : (((w.alloc (.cells #[.slice ao N cap] 39)).alloc (.cells #[.slice none 0 0] 26)).alloc (.cells #[.slice none 0 0] 26)).cell? ⟨w.heap.size + 1, 0, none⟩ = some (.slice none 0 0) ∧ (((w.alloc (.cells #[.slice ao N cap] 39)).alloc (.cells #[.slice none 0 0] 26)).alloc (.cells #[.slice none 0 0] 26)).frozen? ⟨w.heap.size + 1, 0, none⟩ = false := by
    have h3 := (Below.refl _ ((w.alloc (.cells #[.slice ao N cap] 39)).alloc (.cells #[.slice none 0 0] 26))).alloc (Nat.le_refl _) (.cells #[.slice none 0 0] 26)
    have a1 := World.cell?_alloc_new (w.alloc (.cells #[.slice ao N cap] 39)) #[.slice none 0 0] 26 0
    have a2 := World.frozen?_alloc_new (w.alloc (.cells #[.slice ao N cap] 39)) #[.slice none 0 0] 26 0
    rw [World.size_alloc] at a1 a2
    exact ⟨(h3.cell (p := ⟨w.heap.size + 1, 0, none⟩) (by show w.heap.size + 1 < _; simp)).trans a1, (h3.frozen (p := ⟨w.heap.size + 1, 0, none⟩) (by show w.heap.size + 1 < _; simp)).trans a2⟩
  have q2 : (((w.alloc (.cells #[.slice ao N cap] 39)).alloc (.cells #[.slice none 0 0] 26)).alloc (.cells #[.slice none 0 0] 26)).cell? ⟨w.heap.size + 1 + 1, 0, none⟩ = some (.slice none 0 0) ∧ (((w.alloc (.cells #[.slice ao N cap] 39)).alloc (.cells #[.slice none 0 0] 26)).alloc (.cells #[.slice none 0 0] 26)).frozen? ⟨w.heap.size + 1 + 1, 0, none⟩ = false := by
    have a1 := World.cell?_alloc_new ((w.alloc (.cells #[.slice ao N cap] 39)).alloc (.cells #[.slice none 0 0] 26)) #[.slice none 0 0] 26 0
    have a2 := World.frozen?_alloc_new ((w.alloc (.cells #[.slice ao N cap] 39)).alloc (.cells #[.slice none 0 0] 26)) #[.slice none 0 0] 26 0
    rw [World.size_alloc, World.size_alloc] at a1 a2
    exact ⟨a1, a2⟩
  generalize (((w.alloc (.cells #[.slice ao N cap] 39)).alloc (.cells #[.slice none 0 0] 26)).alloc (.cells #[.slice none 0 0] 26)) = W at hz hb q1 q2 ⊢
  refine (toIntS_any ao N cap f W (HR.out.below hb) hN).mono ?_
  rintro e w1 ⟨rfl, hi, hl, hb1⟩
  have q1' : w1.cell? ⟨w.heap.size + 1, 0, none⟩ = some (.slice none 0 0) := (hb1.cell (p := ⟨w.heap.size + 1, 0, none⟩) (by show w.heap.size + 1 < _; omega)).trans q1.1
  have f1' : w1.frozen? ⟨w.heap.size + 1, 0, none⟩ = false := (hb1.frozen (p := ⟨w.heap.size + 1, 0, none⟩) (by show w.heap.size + 1 < _; omega)).trans q1.2
  have q2' : w1.cell? ⟨w.heap.size + 1 + 1, 0, none⟩ = some (.slice none 0 0) := (hb1.cell (p := ⟨w.heap.size + 1 + 1, 0, none⟩) (by show w.heap.size + 1 + 1 < _; omega)).trans q2.1
  have f2' : w1.frozen? ⟨w.heap.size + 1 + 1, 0, none⟩ = false := (hb1.frozen (p := ⟨w.heap.size + 1 + 1, 0, none⟩) (by show w.heap.size + 1 + 1 < _; omega)).trans q2.2
  have HI : Hid (Ints w1 W.heap.size 0 N f ∧ W.heap.size < w1.heap.size ∧ Below w.heap.size w w1 ∧ W.heap.size = w.heap.size + 3) := ⟨hi, hl, below_join hb hb1, hz⟩
  clear hi hl hb hb1 q1 q2 hz
  go_wp2_with fail
  have hI := HI.out
  have h4 := hI.2.2.2
  refine bodyPost_ret (v := .agg #[.slice (some ⟨W.heap.size, 0, none⟩) N N]) (by simp [results, Try.results20, go_sem, q1']) rfl ⟨W.heap.size, rfl, by omega, ?_, ?_, ?_⟩
  · exact (hI.1.turn ((Turn.refl (w.heap.size + 1 + 1) _).set 0 _) (by omega) hI.2.1).turn ((Turn.refl (w.heap.size + 1) _).set 0 _) (by omega) (by rw [World.size_setCell]; exact hI.2.1)
  · rw [World.size_setCell, World.size_setCell]; exact hI.2.1
  · exact (hI.2.2.1.setCell (by show w.heap.size ≤ w.heap.size + 1 + 1; omega) _).setCell (by show w.heap.size ≤ w.heap.size + 1; omega) _

theorem eqHeap_same (ao bo : Option Addr) (N ca cb : Nat) (f g : Nat → Int) (w : World) (ha : RdI w ao N f) (hb : RdI w bo N g) (he : ∀ j, j < N → f j = g j) (hN : N ≤ 1048576) :
    Calls Try.prog 23 #[.agg #[.slice ao N ca], .agg #[.slice bo N cb]] w fun e w' => e = .returned (.bool true) ∧ Below w.heap.size w w' := by
  have HA : Hid (RdI w ao N f) := ha
  have HB : Hid (RdI w bo N g) := hb
  have HE : Hid (∀ j, j < N → f j = g j) := he
  clear ha hb he
  go_enter Try.func23, Try.ntmps23
  go_wp2_with fail
  have hb2 := ((Below.refl w.heap.size w).alloc (Nat.le_refl _) (.cells #[.slice ao N ca] 26)).alloc (by simp) (.cells #[.slice bo N cb] 26)
  refine (eqIntS_same ao bo N ca cb f g _ (HA.out.below hb2) (HB.out.below hb2) HE.out hN).mono ?_
  rintro e w1 ⟨rfl, hb1⟩
  have HB1 : Hid (Below w.heap.size w w1) := hb2.trans (hb1.mono (by simp; omega))
  clear hb1 hb2
  go_wp2_with fail
  go_ret
  exact ⟨rfl, HB1.out⟩


set_option maxHeartbeats 1000000 in
theorem szStr2_any (ao : Option Addr) (cap : Nat) (L : List ByteArray) (w : World) (hr : RdT w ao L) (hN : L.length ≤ maxLen) (hs : ∀ x ∈ L, x.size ≤ maxLen) (lf0 : Int) (hl0 : 0 ≤ lf0) (hl1 : lf0 ≤ 1048576) :
    Calls Try.prog 19 #[.slice ao L.length cap, .int .i64 lf0] w fun e w' => ∃ y : Int, e = .returned (.int .i64 y) ∧ w' = w ∧ -1 ≤ y ∧ (0 ≤ y → L.length ≤ 1048576 ∧ ∀ x ∈ L, x.size ≤ 1048576) := by
  have HR : Hid (RdT w ao L) := hr
  have HS : Hid (∀ x ∈ L, x.size ≤ maxLen) := hs
  clear hr hs
  unfold maxLen at hN
  by_cases hb : (L.length : Int) ≤ lf0
  · go_enter Try.func19, Try.ntmps19
    go_wp2_with fail
    go_loop [1, 5] (fun a i => ∃ (m : Nat) (c : Int), m ≤ L.length ∧ i = .int .i64 m ∧ a = .int .i64 c ∧ 0 ≤ c ∧ c ≤ 1048576 ∧ ∀ x ∈ L.take m, x.size ≤ 1048576) (fun _ i => L.length - (intOf i).toNat)
    case atStart => exact ⟨0, lf0 - L.length, Nat.zero_le _, rfl, rfl, by omega, by omega, fun x hx => by simp at hx⟩
    case round =>
      obtain ⟨m, c, hm, rfl, rfl, hc0, hc1, htk⟩ := hrel
      have HTK : Hid (∀ x ∈ L.take m, x.size ≤ 1048576) := htk
      clear htk
      by_cases hlt : m < L.length
      · obtain ⟨b, o, rfl, hc⟩ := HR.out (by omega)
        have q := hc m hlt
        have hsz := HS.out _ (List.getElem_mem hlt)
        unfold maxLen at hsz
        have HNX : Hid (L[m].size ≤ 1048576 → ∀ x ∈ L.take (m + 1), x.size ≤ 1048576) := fun h x hx => by
          rw [List.take_add_one, List.getElem?_eq_getElem hlt] at hx
          rcases List.mem_append.mp hx with h1 | h1
          · exact HTK.out x h1
          · simp at h1; rw [h1]; exact h
        generalize L[m] = x at *
        clear hc
        by_cases hx : c - x.size < 0
        · go_wp2_with fail
          go_ret
          exact ⟨(-1 : Int), rfl, rfl, by omega, fun h => absurd h (by omega)⟩
        · go_wp2_with fail
          go_round
          case rel => exact ⟨m + 1, c - x.size, by omega, by go_num, rfl, by omega, by omega, HNX.out (by omega)⟩
          case measure => simp [intOf]; omega
      · go_wp2_with fail
        go_ret
        have e : m = L.length := by omega
        have h := HTK.out
        rw [e, List.take_length] at h
        exact ⟨c, rfl, rfl, by omega, fun _ => ⟨by omega, h⟩⟩
  · go_enter Try.func19, Try.ntmps19
    go_wp2_with fail
    go_ret
    exact ⟨_, rfl, rfl, by omega, fun h => absurd h (by omega)⟩


end Go.Proofs.Ythdoamdjhpkimaa
