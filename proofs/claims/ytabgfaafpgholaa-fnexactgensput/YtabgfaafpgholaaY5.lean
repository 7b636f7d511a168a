/-
  The frame of a law over a heap, atoms and a term: measures, copies, comparisons, marks.
-/
import Derived.Test.YtabgfaafpgholaaW47
import Derived.Test.YtabgfaafpgholaaY1
import Derived.Test.YtabgfaafpgholaaY3
import Derived.Test.YtabgfaafpgholaaY4
import Derived.Deep.RegionWith
namespace Go.Proofs.Ytabgfaafpgholaa
open Go.RowKit
set_option linter.unusedVariables false

theorem szHeap_any (ao : Option Addr) (N cap : Nat) (left : Int) (hN : N ≤ maxLen) (h0 : 0 ≤ left ∧ left ≤ 1048576) (w : World) :
    Calls Try.prog 6 #[.agg #[.slice ao N cap], .int .i64 left] w fun e w' => e = .returned (.int .i64 (szI N left)) ∧ Below w.heap.size w w' := by
  have HN : Hid (N ≤ maxLen) := hN
  have hge := szI_ge N left
  go_enter Try.func6, Try.ntmps6
  go_wp2_with fail
  refine (szIntS_any ao N cap left HN.out h0 _).mono ?_
  rintro e w1 ⟨rfl, rfl⟩
  obtain ⟨y, hyy⟩ : ∃ y, szI N left = y := ⟨_, rfl⟩
  rw [hyy] at hge ⊢
  have HE : Hid (szI N left = y) := hyy
  clear hyy
  by_cases hy : y < 0
  · have e : y = -1 := by omega
    subst e
    go_wp2_with fail
    go_ret
    exact ⟨ret_int HE.out.symm, (Below.refl _ _).alloc (Nat.le_refl _) _⟩
  · go_wp2_with fail
    go_ret
    exact ⟨ret_int HE.out.symm, (Below.refl _ _).alloc (Nat.le_refl _) _⟩
set_option maxHeartbeats 1000000 in
set_option maxRecDepth 100000 in
theorem toHeap_any (ao : Option Addr) (N cap : Nat) (f : Nat → Int) (w : World) (hr : RdI w ao N f) (hN : N ≤ 1048576) :
    Calls Try.prog 10 #[.agg #[.slice ao N cap]] w fun e w' => ∃ g, e = .returned (.agg #[.slice (some ⟨g, 0, none⟩) N N]) ∧ w.heap.size ≤ g ∧ Ints w' g 0 N f ∧ g < w'.heap.size ∧ Below w.heap.size w w' := by
  have HR : Hid (RdI w ao N f) := hr
  clear hr
  go_enter Try.func10, Try.ntmps10
  go_wp2_with fail
  have hz : (((w.alloc (.cells #[.slice ao N cap] 24)).alloc (.cells #[.slice none 0 0] 32)).alloc (.cells #[.slice none 0 0] 32)).heap.size = w.heap.size + 3 := by simp
  have hb := (((Below.refl w.heap.size w).alloc (Nat.le_refl _) (.cells #[.slice ao N cap] 24)).alloc (by simp) (.cells #[.slice none 0 0] 32)).alloc (by simp; omega) (.cells #[.slice none 0 0] 32)
  have q1 : (((w.alloc (.cells #[.slice ao N cap] 24)).alloc (.cells #[.slice none 0 0] 32)).alloc (.cells #[.slice none 0 0] 32)).cell? ⟨w.heap.size + 1, 0, none⟩ = some (.slice none 0 0) ∧ (((w.alloc (.cells #[.slice ao N cap] 24)).alloc (.cells #[.slice none 0 0] 32)).alloc (.cells #[.slice none 0 0] 32)).frozen? ⟨w.heap.size + 1, 0, none⟩ = false := by
    have h3 := (Below.refl _ ((w.alloc (.cells #[.slice ao N cap] 24)).alloc (.cells #[.slice none 0 0] 32))).alloc (Nat.le_refl _) (.cells #[.slice none 0 0] 32)
    have a1 := World.cell?_alloc_new (w.alloc (.cells #[.slice ao N cap] 24)) #[.slice none 0 0] 32 0
    have a2 := World.frozen?_alloc_new (w.alloc (.cells #[.slice ao N cap] 24)) #[.slice none 0 0] 32 0
    rw [World.size_alloc] at a1 a2
    exact ⟨(h3.cell (p := ⟨w.heap.size + 1, 0, none⟩) (by show w.heap.size + 1 < _; simp)).trans a1, (h3.frozen (p := ⟨w.heap.size + 1, 0, none⟩) (by show w.heap.size + 1 < _; simp)).trans a2⟩
  have q2 : (((w.alloc (.cells #[.slice ao N cap] 24)).alloc (.cells #[.slice none 0 0] 32)).alloc (.cells #[.slice none 0 0] 32)).cell? ⟨w.heap.size + 1 + 1, 0, none⟩ = some (.slice none 0 0) ∧ (((w.alloc (.cells #[.slice ao N cap] 24)).alloc (.cells #[.slice none 0 0] 32)).alloc (.cells #[.slice none 0 0] 32)).frozen? ⟨w.heap.size + 1 + 1, 0, none⟩ = false := by
    have a1 := World.cell?_alloc_new ((w.alloc (.cells #[.slice ao N cap] 24)).alloc (.cells #[.slice none 0 0] 32)) #[.slice none 0 0] 32 0
    have a2 := World.frozen?_alloc_new ((w.alloc (.cells #[.slice ao N cap] 24)).alloc (.cells #[.slice none 0 0] 32)) #[.slice none 0 0] 32 0
    rw [World.size_alloc, World.size_alloc] at a1 a2
    exact ⟨a1, a2⟩
  generalize (((w.alloc (.cells #[.slice ao N cap] 24)).alloc (.cells #[.slice none 0 0] 32)).alloc (.cells #[.slice none 0 0] 32)) = W at hz hb q1 q2 ⊢
  refine (toIntS_any ao N cap f W (HR.out.below hb) hN).mono ?_
  rintro e w1 ⟨rfl, hi, hl, hb1⟩
  have q1' : w1.cell? ⟨w.heap.size + 1, 0, none⟩ = some (.slice none 0 0) := (hb1.cell (p := ⟨w.heap.size + 1, 0, none⟩) (by show w.heap.size + 1 < _; omega)).trans q1.1
  have f1' : w1.frozen? ⟨w.heap.size + 1, 0, none⟩ = false := (hb1.frozen (p := ⟨w.heap.size + 1, 0, none⟩) (by show w.heap.size + 1 < _; omega)).trans q1.2
  have q2' : w1.cell? ⟨w.heap.size + 1 + 1, 0, none⟩ = some (.slice none 0 0) := (hb1.cell (p := ⟨w.heap.size + 1 + 1, 0, none⟩) (by show w.heap.size + 1 + 1 < _; omega)).trans q2.1
  have f2' : w1.frozen? ⟨w.heap.size + 1 + 1, 0, none⟩ = false := (hb1.frozen (p := ⟨w.heap.size + 1 + 1, 0, none⟩) (by show w.heap.size + 1 + 1 < _; omega)).trans q2.2
  have HI : Hid (Ints w1 W.heap.size 0 N f ∧ W.heap.size < w1.heap.size ∧ Below w.heap.size w w1 ∧ W.heap.size = w.heap.size + 3) := ⟨hi, hl, below_join hb hb1, hz⟩
  clear hi hl hb hb1 q1 q2 hz
  go_wp2_with fail
  have hI := HI.out
  have h4 := hI.2.2.2
  refine bodyPost_ret (v := .agg #[.slice (some ⟨W.heap.size, 0, none⟩) N N]) (by simp [results, Try.results10, go_sem, q1']) rfl ⟨W.heap.size, rfl, by omega, ?_, ?_, ?_⟩
  · exact (hI.1.turn ((Turn.refl (w.heap.size + 1 + 1) _).set 0 _) (by omega) hI.2.1).turn ((Turn.refl (w.heap.size + 1) _).set 0 _) (by omega) (by rw [World.size_setCell]; exact hI.2.1)
  · rw [World.size_setCell, World.size_setCell]; exact hI.2.1
  · exact (hI.2.2.1.setCell (by show w.heap.size ≤ w.heap.size + 1 + 1; omega) _).setCell (by show w.heap.size ≤ w.heap.size + 1; omega) _
theorem eqHeap_same (ao bo : Option Addr) (N ca cb : Nat) (f g : Nat → Int) (w : World) (ha : RdI w ao N f) (hb : RdI w bo N g) (he : ∀ j, j < N → f j = g j) (hN : N ≤ 1048576) :
    Calls Try.prog 14 #[.agg #[.slice ao N ca], .agg #[.slice bo N cb]] w fun e w' => e = .returned (.bool true) ∧ Below w.heap.size w w' := by
  have HA : Hid (RdI w ao N f) := ha
  have HB : Hid (RdI w bo N g) := hb
  have HE : Hid (∀ j, j < N → f j = g j) := he
  clear ha hb he
  go_enter Try.func14, Try.ntmps14
  go_wp2_with fail
  have hb2 := ((Below.refl w.heap.size w).alloc (Nat.le_refl _) (.cells #[.slice ao N ca] 32)).alloc (by simp) (.cells #[.slice bo N cb] 32)
  refine (eqIntS_same ao bo N ca cb f g _ (HA.out.below hb2) (HB.out.below hb2) HE.out hN).mono ?_
  rintro e w1 ⟨rfl, hb1⟩
  have HB1 : Hid (Below w.heap.size w w1) := hb2.trans (hb1.mono (by simp; omega))
  clear hb1 hb2
  go_wp2_with fail
  go_ret
  exact ⟨rfl, HB1.out⟩
set_option maxHeartbeats 1000000 in
theorem szStrP_any (ao : Option Addr) (cap : Nat) (L : List ByteArray) (w : World) (hr : RdT w ao L) (hN : L.length ≤ maxLen) (hs : ∀ x ∈ L, x.size ≤ maxLen) (lf0 : Int) (hl0 : 0 ≤ lf0) (hl1 : lf0 ≤ 1048576) :
    Calls Try.prog 7 #[.slice ao L.length cap, .int .i64 lf0] w fun e w' => ∃ y : Int, e = .returned (.int .i64 y) ∧ w' = w ∧ -1 ≤ y ∧ (0 ≤ y → y ≤ lf0 - L.length ∧ ∀ x ∈ L, x.size ≤ 1048576) := by
  have HR : Hid (RdT w ao L) := hr
  have HS : Hid (∀ x ∈ L, x.size ≤ maxLen) := hs
  clear hr hs
  unfold maxLen at hN
  by_cases hb : (L.length : Int) ≤ lf0
  · go_enter Try.func7, Try.ntmps7
    go_wp2_with fail
    go_loop [1, 5] (fun a i => ∃ (m : Nat) (c : Int), m ≤ L.length ∧ i = .int .i64 m ∧ a = .int .i64 c ∧ 0 ≤ c ∧ c ≤ lf0 - L.length ∧ ∀ x ∈ L.take m, x.size ≤ 1048576) (fun _ i => L.length - (intOf i).toNat)
    case atStart => exact ⟨0, lf0 - L.length, Nat.zero_le _, rfl, rfl, by omega, by omega, fun x hx => by simp at hx⟩
    case round =>
      obtain ⟨m, c, hm, rfl, rfl, hc0, hc1, htk⟩ := hrel
      have HTK : Hid (∀ x ∈ L.take m, x.size ≤ 1048576) := htk
      clear htk
      by_cases hlt : m < L.length
      · obtain ⟨b, o, rfl, hc⟩ := HR.out (by omega)
        have q := hc m hlt
        have hsz := HS.out _ (List.getElem_mem hlt)
        unfold maxLen at hsz
        have HNX : Hid (L[m].size ≤ 1048576 → ∀ x ∈ L.take (m + 1), x.size ≤ 1048576) := fun h x hx => by
          rw [List.take_add_one, List.getElem?_eq_getElem hlt] at hx
          rcases List.mem_append.mp hx with h1 | h1
          · exact HTK.out x h1
          · simp at h1; rw [h1]; exact h
        generalize L[m] = x at *
        clear hc
        by_cases hx : c - x.size < 0
        · go_wp2_with fail
          go_ret
          exact ⟨(-1 : Int), rfl, rfl, by omega, fun h => absurd h (by omega)⟩
        · go_wp2_with fail
          go_round
          case rel => exact ⟨m + 1, c - x.size, by omega, by go_num, rfl, by omega, by omega, HNX.out (by omega)⟩
          case measure => simp [intOf]; omega
      · go_wp2_with fail
        go_ret
        have e : m = L.length := by omega
        have h := HTK.out
        rw [e, List.take_length] at h
        exact ⟨c, rfl, rfl, by omega, fun _ => ⟨by omega, h⟩⟩
  · go_enter Try.func7, Try.ntmps7
    go_wp2_with fail
    go_ret
    exact ⟨_, rfl, rfl, by omega, fun h => absurd h (by omega)⟩
set_option maxHeartbeats 1000000 in
theorem markIntS_any (b o N cap : Nat) (f : Nat → Int) (w : World) (hI : Ints w b o N f) (k : Int) (hk : 0 ≤ k ∧ k ≤ 1048576) (hN : N ≤ 1048576) :
    Calls Try.prog 48 #[.slice (some ⟨b, o, none⟩) N cap, .int .i64 k] w fun e w' => e = .returned (.int .i64 (k + N)) ∧ Turn b w w' ∧ Ints w' b o N (fun j => k + j) := by
  have HI : Hid (Ints w b o N f) := hI
  clear hI
  go_enter Try.func48, Try.ntmps48
  go_wp2_with fail
  go_loopw [1, 5] (fun a i w' => ∃ m : Nat, m ≤ N ∧ i = .int .i64 m ∧ a = .int .i64 (k + m) ∧ Turn b w w' ∧ Ints w' b o N (fun j => if j < m then k + j else f j)) (fun _ i _ => N - (intOf i).toNat)
  case atStart => exact ⟨0, Nat.zero_le _, by simp, by simp, Turn.refl _ _, HI.out.congr (fun j _ => by rw [if_neg (by omega)])⟩
  case round =>
    obtain ⟨m, hm, rfl, rfl, ht, hi⟩ := hrel
    have HT : Hid (Turn b w wr) := ht
    have HI2 : Hid (Ints wr b o N (fun j => if j < m then k + j else f j)) := hi
    by_cases hlt : m < N
    · have cm := hi.cell m hlt
      rw [if_neg (by omega)] at cm
      have fr : ∀ x, wr.frozen? ⟨b, x, none⟩ = false := hi.free
      clear ht hi
      go_wp2_with fail
      go_roundw
      case rel =>
        refine ⟨m + 1, by omega, by go_num, by go_num, HT.out.set _ _, (HI2.out.set m hlt _).congr fun j _ => ?_⟩
        unfold upd
        by_cases e : j = m
        · subst e
          rw [if_pos rfl, if_pos (by omega)]
        · rw [if_neg e]
          dsimp only
          by_cases e2 : j < m
          · rw [if_pos e2, if_pos (by omega)]
          · rw [if_neg e2, if_neg (by omega)]
      case measure => simp [intOf]; omega
    · have hme : m = N := by omega
      subst hme
      clear ht hi
      go_wp2_with fail
      go_ret
      exact ⟨rfl, HT.out, HI2.out.congr (fun j hj => by rw [if_pos hj])⟩
theorem markHeap_any (b o N cap : Nat) (f : Nat → Int) (w : World) (hI : Ints w b o N f) (k : Int) (hk : 0 ≤ k ∧ k ≤ 1048576) (hN : N ≤ 1048576) (hlt : b < w.heap.size) :
    Calls Try.prog 17 #[.agg #[.slice (some ⟨b, o, none⟩) N cap], .int .i64 k] w fun e w' => e = .returned (.int .i64 (k + N)) ∧ Turn b w w' ∧ Ints w' b o N (fun j => k + j) := by
  have HI : Hid (Ints w b o N f) := hI
  clear hI
  go_enter Try.func17, Try.ntmps17
  go_wp2_with fail
  have hb := (Below.refl w.heap.size w).alloc (Nat.le_refl _) (.cells #[.slice (some ⟨b, o, none⟩) N cap] 32)
  refine (markIntS_any b o N cap f _ (HI.out.below hb hlt) k hk hN).mono ?_
  rintro e w1 ⟨rfl, ht, hi⟩
  have HT : Hid (Turn b w w1) := (Turn.of_below hb).trans ht
  have HI2 : Hid (Ints w1 b o N (fun j => k + j)) := hi
  clear ht hi hb
  go_wp2_with fail
  go_ret
  exact ⟨rfl, HT.out, HI2.out⟩
set_option maxHeartbeats 1000000 in
theorem markStr2_any (b N cap : Nat) (f : Nat → ByteArray) (w : World) (hI : Sts w b N f) (hlt0 : b < w.heap.size) (hN : N ≤ 1048577) (K : Nat) (hK : 1 ≤ K) (hK2 : K ≤ 3000000) :
    Calls Try.prog 18 #[.slice (some ⟨b, 0, none⟩) N cap, .int .i64 K] w fun e w' => e = .returned (.int .i64 ((K : Int) + N)) ∧ Turn b w w' ∧ Sts w' b N (fun j => mkT (K + j)) := by
  have HI : Hid (Sts w b N f) := hI
  clear hI
  go_enter Try.func18, Try.ntmps18
  go_wp2_with fail
  go_loopw [1, 5] (fun a i w' => ∃ m : Nat, m ≤ N ∧ i = .int .i64 m ∧ a = .int .i64 ((K + m : Nat) : Int) ∧ Turn b w w' ∧ Sts w' b N (fun j => if j < m then mkT (K + j) else f j)) (fun _ i _ => N - (intOf i).toNat)
  case atStart => exact ⟨0, Nat.zero_le _, by simp, by simp, Turn.refl _ _, HI.out.congr (fun j _ => by rw [if_neg (by omega)])⟩
  case round =>
    obtain ⟨m, hm, rfl, rfl, ht, hi⟩ := hrel
    have HT : Hid (Turn b w wr) := ht
    have HI2 : Hid (Sts wr b N (fun j => if j < m then mkT (K + j) else f j)) := hi
    have hltr : b < wr.heap.size := Nat.lt_of_lt_of_le hlt0 ht.size
    clear ht hi
    by_cases hlt : m < N
    · obtain ⟨u, hu⟩ : ∃ u : Nat, u = K + m := ⟨_, rfl⟩
      have HU : Hid (u = K + m) := hu
      have hu1 : 1 ≤ u := by omega
      have hu2 : u ≤ 4000000000 := by omega
      rw [← hu]
      clear hu
      go_wp2_with fail
      refine (markText_any u hu1 hu2 wr).mono ?_
      rintro e w1 ⟨rfl, hb1⟩
      have HT1 : Hid (Turn b w w1) := HT.out.trans (Turn.of_below hb1)
      have hi1 := HI2.out.below hb1 hltr
      have HI1 : Hid (Sts w1 b N (fun j => if j < m then mkT (K + j) else f j)) := hi1
      have cm := hi1.cell m hlt
      have fr : ∀ x, w1.frozen? ⟨b, x, none⟩ = false := hi1.free
      clear hi1 hb1
      generalize hx : mkT u = x
      have HX : Hid (mkT u = x) := hx
      clear hx
      go_wp2_with fail
      go_roundw
      case rel =>
        refine ⟨m + 1, by omega, by go_num, by rw [HU.out]; go_num, HT1.out.set _ _, (HI1.out.set m hlt _).congr fun j _ => ?_⟩
        unfold updS
        by_cases e : j = m
        · subst e
          rw [if_pos rfl, if_pos (by omega), ← HX.out, HU.out]
        · rw [if_neg e]
          dsimp only
          by_cases e2 : j < m
          · rw [if_pos e2, if_pos (by omega)]
          · rw [if_neg e2, if_neg (by omega)]
      case measure => simp [intOf]; omega
    · have hme : m = N := by omega
      subst hme
      go_wp2_with fail
      go_ret
      exact ⟨ret_int (by omega), HT.out, HI2.out.congr (fun j hj => by rw [if_pos hj])⟩
set_option maxHeartbeats 1000000 in
theorem heldIntS_any (b o N cap : Nat) (w : World) (k : Int) (hI : Ints w b o N (fun j => k + j)) (hk : 0 ≤ k ∧ k ≤ 1048576) (hN : N ≤ 1048576) :
    Calls Try.prog 51 #[.slice (some ⟨b, o, none⟩) N cap, .int .i64 k] w fun e w' => e = .returned (.int .i64 (k + N)) ∧ w' = w := by
  have HI : Hid (Ints w b o N (fun j => k + j)) := hI
  clear hI
  go_enter Try.func51, Try.ntmps51
  go_wp2_with fail
  go_loop [1, 5] (fun a i => ∃ m : Nat, m ≤ N ∧ i = .int .i64 m ∧ a = .int .i64 (k + m)) (fun _ i => N - (intOf i).toNat)
  case atStart => exact ⟨0, Nat.zero_le _, by simp, by simp⟩
  case round =>
    obtain ⟨m, hm, rfl, rfl⟩ := hrel
    by_cases hlt : m < N
    · have cm := HI.out.cell m hlt
      go_wp2_with fail
      go_round
      case rel => exact ⟨m + 1, by omega, by go_num, by go_num⟩
      case measure => simp [intOf]; omega
    · have hme : m = N := by omega
      subst hme
      go_wp2_with fail
      go_ret
      exact ⟨rfl, rfl⟩
theorem bundrewP {W w3 : World} (hb : Below W.drew.heap.size W.drew w3) : Below W.heap.size W w3 := ⟨hb.os, hb.tape, hb.output, hb.size, hb.block⟩
set_option maxHeartbeats 1000000 in
theorem heldStrK_any (b N cap K : Nat) (w : World) (hK : 1 ≤ K) (hK2 : K ≤ 1100000) (hI : Sts w b N (fun j => mkT (K + j))) (hlt0 : b < w.heap.size) (hN : N ≤ 1048577) :
    Calls Try.prog 21 #[.slice (some ⟨b, 0, none⟩) N cap, .int .i64 K] w fun e w' => e = .returned (.int .i64 ((K : Int) + N)) ∧ Below w.heap.size w w' := by
  have HI : Hid (Sts w b N (fun j => mkT (K + j))) := hI
  clear hI
  go_enter Try.func21, Try.ntmps21
  go_wp2_with fail
  go_loopw [1, 5] (fun a i w' => ∃ m : Nat, m ≤ N ∧ i = .int .i64 m ∧ a = .int .i64 ((K + m : Nat) : Int) ∧ Below w.heap.size w w') (fun _ i _ => N - (intOf i).toNat)
  case atStart => exact ⟨0, Nat.zero_le _, by simp, by simp, Below.refl _ _⟩
  case round =>
    obtain ⟨m, hm, rfl, rfl, hb⟩ := hrel
    have HB : Hid (Below w.heap.size w wr) := hb
    have HI2 : Hid (Sts wr b N (fun j => mkT (K + j))) := HI.out.below hb hlt0
    have hltr : b < wr.heap.size := Nat.lt_of_lt_of_le hlt0 hb.size
    clear hb
    by_cases hlt : m < N
    · obtain ⟨u, hu⟩ : ∃ u : Nat, u = K + m := ⟨_, rfl⟩
      have HU : Hid (u = K + m) := hu
      have hu1 : 1 ≤ u := by omega
      have hu2 : u ≤ 4000000000 := by omega
      have cm := HI2.out.cell m hlt
      rw [← hu] at cm ⊢
      clear hu
      obtain ⟨x, hx⟩ : ∃ x, mkT u = x := ⟨_, rfl⟩
      have HX : Hid (mkT u = x) := hx
      rw [hx] at cm
      clear hx
      have KC : Hid (∀ w1, Below wr.drew.heap.size wr.drew w1 → w1.cell? ⟨b, m, none⟩ = some (.string x) ∧ Below w.heap.size w w1) := fun w1 h => by
        have h1 : Below wr.heap.size wr w1 := bundrewP h
        exact ⟨(h1.cell (p := ⟨b, m, none⟩) hltr).trans cm, (HB.out.trans (h1.mono HB.out.size))⟩
      go_wp2_with fail
      go_region_with (go_at_call 49; refine (markText_any u hu1 hu2 _).mono ?_; rintro e w1 ⟨rfl, hb1⟩; rw [HX.out]; obtain ⟨c1, hbw⟩ := KC.out w1 hb1; have HBW : Hid (Below w.heap.size w w1) := hbw; clear hb1 hbw)
      all_goals
        go_wp2_with fail
        go_roundw
        case rel => exact ⟨m + 1, by omega, by go_num, by rw [HU.out]; go_num, by first | exact HBW.out | exact HBW.out.drew⟩
        case measure => simp [intOf]; omega
    · have hme : m = N := by omega
      subst hme
      go_wp2_with fail
      go_ret
      exact ⟨ret_int (by omega), HB.out⟩
set_option maxHeartbeats 1000000 in
theorem markTermK_any (k0 n0 : Int) (s0 : ByteArray) (l : List Tm) (ao : Option Addr) (cap : Nat) (bs : List Nat) (w : World) (h : OsL w l bs ao) (hnd : bs.Nodup) (hlc : l.length ≤ cap) (hcm : cap ≤ maxLen) (K0 : Nat) (hK0 : 1 ≤ K0) (hc : K0 + cL l ≤ 8999990) :
    Calls Try.prog 19 #[.agg #[.int .i64 k0, .int .i64 n0, .string s0, .slice ao l.length cap], .int .i64 (K0 : Int)] w fun e w' => e = .returned (.int .i64 ((K0 + cL l : Nat) : Int)) ∧ OsL w' (mrL l K0) bs ao ∧ OutB bs w w' := by
  obtain ⟨W, hW⟩ : ∃ W, W = w.alloc (.cells #[.int .i64 k0, .int .i64 n0, .string s0, .slice ao l.length cap] 39) := ⟨_, rfl⟩
  have hb : Below w.heap.size w W := by rw [hW]; exact (Below.refl _ _).alloc (Nat.le_refl _) _
  have HC : Hid (Calls Try.prog 50 #[.slice ao l.length cap, .int .i64 (K0 : Int)] W fun e w' => e = .returned (.int .i64 ((K0 + cL l : Nat) : Int)) ∧ OsL w' (mrL l K0) bs ao ∧ OutB bs W w') := mkB_all l W bs ao cap K0 (OsL.below hb h) hnd hlc hcm hK0 hc
  have HB : Hid (Below w.heap.size w W) := hb
  clear h hnd hlc hcm hc hb hK0
  go_enter Try.func19, Try.ntmps19
  go_wp2_with (go_at_call 50; fail)
  rw [← hW]
  clear hW
  refine HC.out.mono ?_
  rintro e w1 ⟨rfl, h1, h2⟩
  have H1 : Hid (OsL w1 (mrL l K0) bs ao ∧ OutB bs W w1) := ⟨h1, h2⟩
  clear h1 h2
  generalize hK : ((K0 + cL l : Nat) : Int) = K
  have HK : Hid (((K0 + cL l : Nat) : Int) = K) := hK
  clear hK
  go_wp2_with fail
  go_ret
  exact ⟨ret_int HK.out.symm, H1.out.1, (OutB.below HB.out).trans H1.out.2⟩
set_option maxHeartbeats 1000000 in
theorem heldHeapP_any (b o N cap : Nat) (w : World) (k : Int) (hI : Ints w b o N (fun j => k + j)) (hk : 0 ≤ k ∧ k ≤ 1048576) (hN : N ≤ 1048576) (hlt : b < w.heap.size) :
    Calls Try.prog 20 #[.agg #[.slice (some ⟨b, o, none⟩) N cap], .int .i64 k] w fun e w' => e = .returned (.int .i64 (k + N)) ∧ Below w.heap.size w w' := by
  have hb := (Below.refl w.heap.size w).alloc (Nat.le_refl _) (.cells #[.slice (some ⟨b, o, none⟩) N cap] 32)
  have HC : Hid (Calls Try.prog 51 #[.slice (some ⟨b, o, none⟩) N cap, .int .i64 k] (w.alloc (.cells #[.slice (some ⟨b, o, none⟩) N cap] 32)) fun e w' => e = .returned (.int .i64 (k + N)) ∧ w' = (w.alloc (.cells #[.slice (some ⟨b, o, none⟩) N cap] 32))) := heldIntS_any b o N cap _ k (hI.below hb hlt) hk hN
  have HB : Hid (Below w.heap.size w (w.alloc (.cells #[.slice (some ⟨b, o, none⟩) N cap] 32))) := hb
  obtain ⟨y, hy⟩ : ∃ y, k + (N : Int) = y := ⟨_, rfl⟩
  have HY : Hid (k + (N : Int) = y) := hy
  have hy0 : ¬ y < 0 := by omega
  rw [hy] at HC
  clear hI hb hk hN hy hlt
  go_enter Try.func20, Try.ntmps20
  go_wp2_with (go_at_call 51; refine HC.out.mono ?_; rintro e w' ⟨rfl, hw'⟩; obtain rfl := hw'.symm)
  go_ret
  exact ⟨ret_int HY.out.symm, HB.out⟩
end Go.Proofs.Ytabgfaafpgholaa
