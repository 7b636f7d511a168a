/-
  The frame of laws over lists of numbers and texts, and over terms that are answered: measures, copies, comparisons, marks.
-/
import Derived.Test.YthdoamdjhpkimaaReA
import Derived.Test.YthdoamdjhpkimaaOwB
import Derived.Test.YthdoamdjhpkimaaTmI
import Derived.Test.YthdoamdjhpkimaaArC
import Derived.Test.YthdoamdjhpkimaaSgB
import Derived.Test.YthdoamdjhpkimaaMkB
import Derived.Test.YthdoamdjhpkimaaInA
import Derived.Deep.RegionLaw
namespace Go.Proofs.Ythdoamdjhpkimaa
open Go.RowKit
set_option linter.unusedVariables false

theorem szHeap_any (ao : Option Addr) (N cap : Nat) (left : Int) (hN : N ≤ maxLen) (h0 : 0 ≤ left ∧ left ≤ 1048576) (w : World) :
    Calls Try.prog 18 #[.agg #[.slice ao N cap], .int .i64 left] w fun e w' => e = .returned (.int .i64 (szI N left)) ∧ Below w.heap.size w w' := by
  have HN : Hid (N ≤ maxLen) := hN
  have hge := szI_ge N left
  go_enter Try.func18, Try.ntmps18
  go_wp2_with fail
  refine (szIntS_any ao N cap left HN.out h0 _).mono ?_
  rintro e w1 ⟨rfl, rfl⟩
  obtain ⟨y, hyy⟩ : ∃ y, szI N left = y := ⟨_, rfl⟩
  rw [hyy] at hge ⊢
  have HE : Hid (szI N left = y) := hyy
  clear hyy
  by_cases hy : y < 0
  · have e : y = -1 := by omega
    subst e
    go_wp2_with fail
    go_ret
    exact ⟨ret_int HE.out.symm, (Below.refl _ _).alloc (Nat.le_refl _) _⟩
  · go_wp2_with fail
    go_ret
    exact ⟨ret_int HE.out.symm, (Below.refl _ _).alloc (Nat.le_refl _) _⟩

set_option maxHeartbeats 1000000 in
set_option maxRecDepth 100000 in
theorem toHeap_any (ao : Option Addr) (N cap : Nat) (f : Nat → Int) (w : World) (hr : RdI w ao N f) (hN : N ≤ 1048576) :
    Calls Try.prog 20 #[.agg #[.slice ao N cap]] w fun e w' => ∃ g, e = .returned (.agg #[.slice (some ⟨g, 0, none⟩) N N]) ∧ w.heap.size ≤ g ∧ Ints w' g 0 N f ∧ g < w'.heap.size ∧ Below w.heap.size w w' := by
  have HR : Hid (RdI w ao N f) := hr
  clear hr
  go_enter Try.func20, Try.ntmps20
  go_wp2_with fail
  have hz : (((w.alloc (.cells #[.slice ao N cap] 39)).alloc (.cells #[.slice none 0 0] 26)).alloc (.cells #[.slice none 0 0] 26)).heap.size = w.heap.size + 3 := by simp
  have hb := (((Below.refl w.heap.size w).alloc (Nat.le_refl _) (.cells #[.slice ao N cap] 39)).alloc (by simp) (.cells #[.slice none 0 0] 26)).alloc (by simp; omega) (.cells #[.slice none 0 0] 26)
  have q1 : (((w.alloc (.cells #[.slice ao N cap] 39)).alloc (.cells #[.slice none 0 0] 26)).alloc (.cells #[.slice none 0 0] 26)).cell? ⟨w.heap.size + 1, 0, none⟩ = some (.slice none 0 0) ∧ (((w.alloc (.cells #[.slice ao N cap] 39)).alloc (.cells #[.slice none 0 0] 26)).alloc (.cells #[.slice none 0 0] 26)).frozen? ⟨w.heap.size + 1, 0, none⟩ = false := by
    have h3 := (Below.refl _ ((w.alloc (.cells #[.slice ao N cap] 39)).alloc (.cells #[.slice none 0 0] 26))).alloc (Nat.le_refl _) (.cells #[.slice none 0 0] 26)
    have a1 := World.cell?_alloc_new (w.alloc (.cells #[.slice ao N cap] 39)) #[.slice none 0 0] 26 0
    have a2 := World.frozen?_alloc_new (w.alloc (.cells #[.slice ao N cap] 39)) #[.slice none 0 0] 26 0
    rw [World.size_alloc] at a1 a2
    exact ⟨(h3.cell (p := ⟨w.heap.size + 1, 0, none⟩) (by show w.heap.size + 1 < _; simp)).trans a1, (h3.frozen (p := ⟨w.heap.size + 1, 0, none⟩) (by show w.heap.size + 1 < _; simp)).trans a2⟩
  have q2 : (((w.alloc (.cells #[.slice ao N cap] 39)).alloc (.cells #[.slice none 0 0] 26)).alloc (.cells #[.slice none 0 0] 26)).cell? ⟨w.heap.size + 1 + 1, 0, none⟩ = some (.slice none 0 0) ∧ (((w.alloc (.cells #[.slice ao N cap] 39)).alloc (.cells #[.slice none 0 0] 26)).alloc (.cells #[.slice none 0 0] 26)).frozen? ⟨w.heap.size + 1 + 1, 0, none⟩ = false := by
    have a1 := World.cell?_alloc_new ((w.alloc (.cells #[.slice ao N cap] 39)).alloc (.cells #[.slice none 0 0] 26)) #[.slice none 0 0] 26 0
    have a2 := World.frozen?_alloc_new ((w.alloc (.cells #[.slice ao N cap] 39)).alloc (.cells #[.slice none 0 0] 26)) #[.slice none 0 0] 26 0
    rw [World.size_alloc, World.size_alloc] at a1 a2
    exact ⟨a1, a2⟩
  generalize (((w.alloc (.cells #[.slice ao N cap] 39)).alloc (.cells #[.slice none 0 0] 26)).alloc (.cells #[.slice none 0 0] 26)) = W at hz hb q1 q2 ⊢
  refine (toIntS_any ao N cap f W (HR.out.below hb) hN).mono ?_
  rintro e w1 ⟨rfl, hi, hl, hb1⟩
  have q1' : w1.cell? ⟨w.heap.size + 1, 0, none⟩ = some (.slice none 0 0) := (hb1.cell (p := ⟨w.heap.size + 1, 0, none⟩) (by show w.heap.size + 1 < _; omega)).trans q1.1
  have f1' : w1.frozen? ⟨w.heap.size + 1, 0, none⟩ = false := (hb1.frozen (p := ⟨w.heap.size + 1, 0, none⟩) (by show w.heap.size + 1 < _; omega)).trans q1.2
  have q2' : w1.cell? ⟨w.heap.size + 1 + 1, 0, none⟩ = some (.slice none 0 0) := (hb1.cell (p := ⟨w.heap.size + 1 + 1, 0, none⟩) (by show w.heap.size + 1 + 1 < _; omega)).trans q2.1
  have f2' : w1.frozen? ⟨w.heap.size + 1 + 1, 0, none⟩ = false := (hb1.frozen (p := ⟨w.heap.size + 1 + 1, 0, none⟩) (by show w.heap.size + 1 + 1 < _; omega)).trans q2.2
  have HI : Hid (Ints w1 W.heap.size 0 N f ∧ W.heap.size < w1.heap.size ∧ Below w.heap.size w w1 ∧ W.heap.size = w.heap.size + 3) := ⟨hi, hl, below_join hb hb1, hz⟩
  clear hi hl hb hb1 q1 q2 hz
  go_wp2_with fail
  have hI := HI.out
  have h4 := hI.2.2.2
  refine bodyPost_ret (v := .agg #[.slice (some ⟨W.heap.size, 0, none⟩) N N]) (by simp [results, Try.results20, go_sem, q1']) rfl ⟨W.heap.size, rfl, by omega, ?_, ?_, ?_⟩
  · exact (hI.1.turn ((Turn.refl (w.heap.size + 1 + 1) _).set 0 _) (by omega) hI.2.1).turn ((Turn.refl (w.heap.size + 1) _).set 0 _) (by omega) (by rw [World.size_setCell]; exact hI.2.1)
  · rw [World.size_setCell, World.size_setCell]; exact hI.2.1
  · exact (hI.2.2.1.setCell (by show w.heap.size ≤ w.heap.size + 1 + 1; omega) _).setCell (by show w.heap.size ≤ w.heap.size + 1; omega) _

theorem eqHeap_same (ao bo : Option Addr) (N ca cb : Nat) (f g : Nat → Int) (w : World) (ha : RdI w ao N f) (hb : RdI w bo N g) (he : ∀ j, j < N → f j = g j) (hN : N ≤ 1048576) :
    Calls Try.prog 23 #[.agg #[.slice ao N ca], .agg #[.slice bo N cb]] w fun e w' => e = .returned (.bool true) ∧ Below w.heap.size w w' := by
  have HA : Hid (RdI w ao N f) := ha
  have HB : Hid (RdI w bo N g) := hb
  have HE : Hid (∀ j, j < N → f j = g j) := he
  clear ha hb he
  go_enter Try.func23, Try.ntmps23
  go_wp2_with fail
  have hb2 := ((Below.refl w.heap.size w).alloc (Nat.le_refl _) (.cells #[.slice ao N ca] 26)).alloc (by simp) (.cells #[.slice bo N cb] 26)
  refine (eqIntS_same ao bo N ca cb f g _ (HA.out.below hb2) (HB.out.below hb2) HE.out hN).mono ?_
  rintro e w1 ⟨rfl, hb1⟩
  have HB1 : Hid (Below w.heap.size w w1) := hb2.trans (hb1.mono (by simp; omega))
  clear hb1 hb2
  go_wp2_with fail
  go_ret
  exact ⟨rfl, HB1.out⟩


set_option maxHeartbeats 1000000 in
theorem szStr2_any (ao : Option Addr) (cap : Nat) (L : List ByteArray) (w : World) (hr : RdT w ao L) (hN : L.length ≤ maxLen) (hs : ∀ x ∈ L, x.size ≤ maxLen) (lf0 : Int) (hl0 : 0 ≤ lf0) (hl1 : lf0 ≤ 1048576) :
    Calls Try.prog 19 #[.slice ao L.length cap, .int .i64 lf0] w fun e w' => ∃ y : Int, e = .returned (.int .i64 y) ∧ w' = w ∧ -1 ≤ y ∧ (0 ≤ y → L.length ≤ 1048576 ∧ ∀ x ∈ L, x.size ≤ 1048576) := by
  have HR : Hid (RdT w ao L) := hr
  have HS : Hid (∀ x ∈ L, x.size ≤ maxLen) := hs
  clear hr hs
  unfold maxLen at hN
  by_cases hb : (L.length : Int) ≤ lf0
  · go_enter Try.func19, Try.ntmps19
    go_wp2_with fail
    go_loop [1, 5] (fun a i => ∃ (m : Nat) (c : Int), m ≤ L.length ∧ i = .int .i64 m ∧ a = .int .i64 c ∧ 0 ≤ c ∧ c ≤ 1048576 ∧ ∀ x ∈ L.take m, x.size ≤ 1048576) (fun _ i => L.length - (intOf i).toNat)
    case atStart => exact ⟨0, lf0 - L.length, Nat.zero_le _, rfl, rfl, by omega, by omega, fun x hx => by simp at hx⟩
    case round =>
      obtain ⟨m, c, hm, rfl, rfl, hc0, hc1, htk⟩ := hrel
      have HTK : Hid (∀ x ∈ L.take m, x.size ≤ 1048576) := htk
      clear htk
      by_cases hlt : m < L.length
      · obtain ⟨b, o, rfl, hc⟩ := HR.out (by omega)
        have q := hc m hlt
        have hsz := HS.out _ (List.getElem_mem hlt)
        unfold maxLen at hsz
        have HNX : Hid (L[m].size ≤ 1048576 → ∀ x ∈ L.take (m + 1), x.size ≤ 1048576) := fun h x hx => by
          rw [List.take_add_one, List.getElem?_eq_getElem hlt] at hx
          rcases List.mem_append.mp hx with h1 | h1
          · exact HTK.out x h1
          · simp at h1; rw [h1]; exact h
        generalize L[m] = x at *
        clear hc
        by_cases hx : c - x.size < 0
        · go_wp2_with fail
          go_ret
          exact ⟨(-1 : Int), rfl, rfl, by omega, fun h => absurd h (by omega)⟩
        · go_wp2_with fail
          go_round
          case rel => exact ⟨m + 1, c - x.size, by omega, by go_num, rfl, by omega, by omega, HNX.out (by omega)⟩
          case measure => simp [intOf]; omega
      · go_wp2_with fail
        go_ret
        have e : m = L.length := by omega
        have h := HTK.out
        rw [e, List.take_length] at h
        exact ⟨c, rfl, rfl, by omega, fun _ => ⟨by omega, h⟩⟩
  · go_enter Try.func19, Try.ntmps19
    go_wp2_with fail
    go_ret
    exact ⟨_, rfl, rfl, by omega, fun h => absurd h (by omega)⟩


theorem keep0 {w w' : World} (h : Below w.heap.size w w') {b o : Nat} {v : Value} (hc : w.cell? ⟨b, o, none⟩ = some v) : w'.cell? ⟨b, o, none⟩ = some v := by
  rw [h.cell (p := ⟨b, o, none⟩) (World.block_lt_of_cell? w _ hc)]; exact hc
theorem bundrew2 {W w3 : World} (hb : Below W.drew.heap.size W.drew w3) : Below W.heap.size W w3 := ⟨hb.os, hb.tape, hb.output, hb.size, hb.block⟩

def rootsOf (n : Nat) (g : Nat → Int) : List Int := (List.range n).map g
theorem roots_len (n : Nat) (g : Nat → Int) : (rootsOf n g).length = n := by simp [rootsOf]

set_option maxHeartbeats 1000000 in
theorem markIntS_any (b o N cap : Nat) (f : Nat → Int) (w : World) (hI : Ints w b o N f) (k : Int) (hk : 0 ≤ k ∧ k ≤ 1048576) (hN : N ≤ 1048576) :
    Calls Try.prog 51 #[.slice (some ⟨b, o, none⟩) N cap, .int .i64 k] w fun e w' => e = .returned (.int .i64 (k + N)) ∧ Turn b w w' ∧ Ints w' b o N (fun j => k + j) := by
  have HI : Hid (Ints w b o N f) := hI
  clear hI
  go_enter Try.func51, Try.ntmps51
  go_wp2_with fail
  go_loopw [1, 5] (fun a i w' => ∃ m : Nat, m ≤ N ∧ i = .int .i64 m ∧ a = .int .i64 (k + m) ∧ Turn b w w' ∧ Ints w' b o N (fun j => if j < m then k + j else f j)) (fun _ i _ => N - (intOf i).toNat)
  case atStart => exact ⟨0, Nat.zero_le _, by simp, by simp, Turn.refl _ _, HI.out.congr (fun j _ => by rw [if_neg (by omega)])⟩
  case round =>
    obtain ⟨m, hm, rfl, rfl, ht, hi⟩ := hrel
    have HT : Hid (Turn b w wr) := ht
    have HI2 : Hid (Ints wr b o N (fun j => if j < m then k + j else f j)) := hi
    by_cases hlt : m < N
    · have cm := hi.cell m hlt
      rw [if_neg (by omega)] at cm
      have fr : ∀ x, wr.frozen? ⟨b, x, none⟩ = false := hi.free
      clear ht hi
      go_wp2_with fail
      go_roundw
      case rel =>
        refine ⟨m + 1, by omega, by go_num, by go_num, HT.out.set _ _, (HI2.out.set m hlt _).congr fun j _ => ?_⟩
        unfold upd
        by_cases e : j = m
        · subst e
          rw [if_pos rfl, if_pos (by omega)]
        · rw [if_neg e]
          dsimp only
          by_cases e2 : j < m
          · rw [if_pos e2, if_pos (by omega)]
          · rw [if_neg e2, if_neg (by omega)]
      case measure => simp [intOf]; omega
    · have hme : m = N := by omega
      subst hme
      clear ht hi
      go_wp2_with fail
      go_ret
      exact ⟨rfl, HT.out, HI2.out.congr (fun j hj => by rw [if_pos hj])⟩

theorem markHeap_any (b o N cap : Nat) (f : Nat → Int) (w : World) (hI : Ints w b o N f) (k : Int) (hk : 0 ≤ k ∧ k ≤ 1048576) (hN : N ≤ 1048576) (hlt : b < w.heap.size) :
    Calls Try.prog 25 #[.agg #[.slice (some ⟨b, o, none⟩) N cap], .int .i64 k] w fun e w' => e = .returned (.int .i64 (k + N)) ∧ Turn b w w' ∧ Ints w' b o N (fun j => k + j) := by
  have HI : Hid (Ints w b o N f) := hI
  clear hI
  go_enter Try.func25, Try.ntmps25
  go_wp2_with fail
  have hb := (Below.refl w.heap.size w).alloc (Nat.le_refl _) (.cells #[.slice (some ⟨b, o, none⟩) N cap] 26)
  refine (markIntS_any b o N cap f _ (HI.out.below hb hlt) k hk hN).mono ?_
  rintro e w1 ⟨rfl, ht, hi⟩
  have HT : Hid (Turn b w w1) := (Turn.of_below hb).trans ht
  have HI2 : Hid (Ints w1 b o N (fun j => k + j)) := hi
  clear ht hi hb
  go_wp2_with fail
  go_ret
  exact ⟨rfl, HT.out, HI2.out⟩
set_option maxHeartbeats 1000000 in
theorem markStr2_any (b N cap : Nat) (f : Nat → ByteArray) (w : World) (hI : Sts w b N f) (hlt0 : b < w.heap.size) (hN : N ≤ 1048577) (K : Nat) (hK : 1 ≤ K) (hK2 : K ≤ 1048577) :
    Calls Try.prog 26 #[.slice (some ⟨b, 0, none⟩) N cap, .int .i64 K] w fun e w' => e = .returned (.int .i64 ((K : Int) + N)) ∧ Turn b w w' ∧ Sts w' b N (fun j => mkT (K + j)) := by
  have HI : Hid (Sts w b N f) := hI
  clear hI
  go_enter Try.func26, Try.ntmps26
  go_wp2_with fail
  go_loopw [1, 5] (fun a i w' => ∃ m : Nat, m ≤ N ∧ i = .int .i64 m ∧ a = .int .i64 ((K + m : Nat) : Int) ∧ Turn b w w' ∧ Sts w' b N (fun j => if j < m then mkT (K + j) else f j)) (fun _ i _ => N - (intOf i).toNat)
  case atStart => exact ⟨0, Nat.zero_le _, by simp, by simp, Turn.refl _ _, HI.out.congr (fun j _ => by rw [if_neg (by omega)])⟩
  case round =>
    obtain ⟨m, hm, rfl, rfl, ht, hi⟩ := hrel
    have HT : Hid (Turn b w wr) := ht
    have HI2 : Hid (Sts wr b N (fun j => if j < m then mkT (K + j) else f j)) := hi
    have hltr : b < wr.heap.size := Nat.lt_of_lt_of_le hlt0 ht.size
    clear ht hi
    by_cases hlt : m < N
    · obtain ⟨u, hu⟩ : ∃ u : Nat, u = K + m := ⟨_, rfl⟩
      have HU : Hid (u = K + m) := hu
      have hu1 : 1 ≤ u := by omega
      have hu2 : u ≤ 4000000000 := by omega
      rw [← hu]
      clear hu
      go_wp2_with fail
      refine (markText_any u hu1 hu2 wr).mono ?_
      rintro e w1 ⟨rfl, hb1⟩
      have HT1 : Hid (Turn b w w1) := HT.out.trans (Turn.of_below hb1)
      have hi1 := HI2.out.below hb1 hltr
      have HI1 : Hid (Sts w1 b N (fun j => if j < m then mkT (K + j) else f j)) := hi1
      have cm := hi1.cell m hlt
      have fr : ∀ x, w1.frozen? ⟨b, x, none⟩ = false := hi1.free
      clear hi1 hb1
      generalize hx : mkT u = x
      have HX : Hid (mkT u = x) := hx
      clear hx
      go_wp2_with fail
      go_roundw
      case rel =>
        refine ⟨m + 1, by omega, by go_num, by rw [HU.out]; go_num, HT1.out.set _ _, (HI1.out.set m hlt _).congr fun j _ => ?_⟩
        unfold updS
        by_cases e : j = m
        · subst e
          rw [if_pos rfl, if_pos (by omega), ← HX.out, HU.out]
        · rw [if_neg e]
          dsimp only
          by_cases e2 : j < m
          · rw [if_pos e2, if_pos (by omega)]
          · rw [if_neg e2, if_neg (by omega)]
      case measure => simp [intOf]; omega
    · have hme : m = N := by omega
      subst hme
      go_wp2_with fail
      go_ret
      exact ⟨ret_int (by omega), HT.out, HI2.out.congr (fun j hj => by rw [if_pos hj])⟩


theorem markTerm_any (k0 n0 : Int) (s0 : ByteArray) (l : List Tm) (ao : Option Addr) (cap : Nat) (w : World) (lo hi : Nat) (h : OwL w l lo hi ao) (hhi : hi ≤ w.heap.size) (hlc : l.length ≤ cap) (hcm : cap ≤ maxLen) (hc : cL l ≤ 2900) :
    Calls Try.prog 27 #[.agg #[.int .i64 k0, .int .i64 n0, .string s0, .slice ao l.length cap], .int .i64 1] w fun e w' => e = .returned (.int .i64 ((1 + cL l : Nat) : Int)) ∧ OwL w' (mrL l 1) lo hi ao ∧ Out lo hi w w' := by
  have HH : Hid (OwL w l lo hi ao) := h
  have HC : Hid (l.length ≤ cap ∧ cap ≤ maxLen) := ⟨hlc, hcm⟩
  clear h hlc hcm
  go_enter Try.func27, Try.ntmps27
  go_wp2_with fail
  have hb : Below w.heap.size w (w.alloc (.cells #[.int .i64 k0, .int .i64 n0, .string s0, .slice ao l.length cap] 32)) := (Below.refl _ _).alloc (Nat.le_refl _) _
  refine (mkS_all l _ lo hi ao cap 1 (OwL.keep _ _ _ _ (fun b _ _ hbl => hb.block b hbl) HH.out) (by rw [World.size_alloc]; omega) HC.out.1 HC.out.2 (by omega) (by omega)).mono ?_
  rintro e w1 ⟨rfl, h1, h2⟩
  have HO : Hid (OwL w1 (mrL l 1) lo hi ao) := h1
  have HT : Hid (Out lo hi w w1) := (Out.below hb).trans h2
  clear h1 h2 hb
  go_wp2_with fail
  go_ret
  exact ⟨rfl, HO.out, HT.out⟩
theorem heldTerm_any (k0 n0 : Int) (s0 : ByteArray) (l : List Tm) (ao : Option Addr) (cap : Nat) (w : World) (h : RepL 0 w (mrL l 1) ao) (hlc : l.length ≤ cap) (hcm : cap ≤ maxLen) (hc : cL l ≤ 2900) :
    Calls Try.prog 28 #[.agg #[.int .i64 k0, .int .i64 n0, .string s0, .slice ao l.length cap], .int .i64 1] w fun e w' => e = .returned (.int .i64 ((1 + cL l : Nat) : Int)) ∧ Below w.heap.size w w' := by
  have HH : Hid (RepL 0 w (mrL l 1) ao) := h
  have HC : Hid (l.length ≤ cap ∧ cap ≤ maxLen) := ⟨hlc, hcm⟩
  clear h hlc hcm
  go_enter Try.func28, Try.ntmps28
  go_wp2_with fail
  have hb : Below w.heap.size w (w.alloc (.cells #[.int .i64 k0, .int .i64 n0, .string s0, .slice ao l.length cap] 32)) := (Below.refl _ _).alloc (Nat.le_refl _) _
  refine (heS_all l _ ao cap 1 (repL_below HH.out hb) HC.out.1 HC.out.2 (by omega) (by omega)).mono ?_
  rintro e w1 ⟨rfl, h1⟩
  have HB : Hid (Below w.heap.size w w1) := hb.trans (h1.mono (by rw [World.size_alloc]; omega))
  clear h1 hb
  go_wp2_with fail
  go_ret
  exact ⟨rfl, HB.out⟩

/-! ### What both answer, a term in each case -/
def tOf : Option Tm → Tm
  | some t => t
  | none => .mk 0 0 ByteArray.empty []
mutual
theorem look_cT : ∀ (t : Tm) (d m x : Nat), look t d m = some x → cT t + 3 * x ≤ 3 * m
  | .mk k n s l, d, m, x, h => by
    rw [look] at h
    split at h
    · cases h
    · rename_i hc
      have := look_cL l _ _ _ h
      rw [cT]
      omega
theorem look_cL : ∀ (l : List Tm) (d m x : Nat), lookL l d m = some x → cL l + 3 * x ≤ 3 * m
  | [], d, m, x, h => by rw [lookL] at h; cases h; rw [cL]; omega
  | t :: r, d, m, x, h => by
    rw [lookL] at h
    split at h
    · cases h
    · rename_i y hy
      have h1 := look_cT t d m y hy
      have h2 := look_cL r d y x h
      rw [cL]
      omega
end
theorem repV_below {w w' : World} {t : Tm} {v : Value} (h : RepV 0 w t v) (hb : Below w.heap.size w w') : RepV 0 w' t v := (Keeps.below hb 0).repV h
end Go.Proofs.Ythdoamdjhpkimaa
