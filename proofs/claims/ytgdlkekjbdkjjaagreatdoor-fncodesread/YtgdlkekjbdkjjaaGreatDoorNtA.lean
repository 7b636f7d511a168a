/-
  A number's text: what l1Num answers.
-/
import Derived.Test.YtgdlkekjbdkjjaaGreatDoorAtB
import Derived.Lib.ItoaLen
import Derived.Deep.RegionWith
import Derived.BigQuiet
import Derived.Laws.IdiomStrings
namespace Go.Proofs.YtgdlkekjbdkjjaaGreatDoor.Num
open Go.RowKit
set_option linter.unusedVariables false

theorem conv1 (b : UInt8) (x : Int) (h : x = b.toNat) (W : World) (g : Nat) (hc : W.cell? ⟨g, 0, none⟩ = some (.int .u8 x)) :
    (convert 22 9 (.slice (some ⟨g, 0, none⟩) 1 1)).run Tryz.prog W = .ok (.string ⟨#[b]⟩) W := by
  have := run_convert_bytes_back (P := Tryz.prog) W 22 9 5 ⟨g, 0, none⟩ 1 [b] Tryz.underlying22 Tryz.underlying5 Tryz.underlying9 (fun j hj => by
    have : j = 0 := by simpa using hj
    subst this
    show W.cell? ((⟨g, 0, none⟩ : Addr).add 0) = some (.int .u8 (b.toNat : Int))
    rw [← h]
    simpa [Addr.add] using hc)
  exact this
theorem hq_of {w w1 : World} {x : Value} (hb : Below (w.alloc (.cells #[x] 5)).drew.heap.size (w.alloc (.cells #[x] 5)).drew w1) : w1.cell? ⟨w.heap.size, 0, none⟩ = some x := by
  rw [hb.cell (p := ⟨w.heap.size, 0, none⟩) (by show w.heap.size < (w.heap.push _).size; simp)]
  simp
theorem bel1 {w w1 : World} (hb : Below w.drew.heap.size w.drew w1) (o : Obj) : Below w.heap.size w (w1.alloc o) :=
  ((Below.refl _ _).drew.trans hb).alloc hb.size _
theorem bel2 {w w1 : World} {o : Obj} (hb : Below (w.alloc o).drew.heap.size (w.alloc o).drew w1) : Below w.heap.size w w1 :=
  (((Below.refl _ _).alloc (Nat.le_refl _) _).drew).trans (hb.mono (by show w.heap.size ≤ (w.heap.push _).size; simp))
theorem ret_str {a b : ByteArray} (h : a = b) : Ending.returned (.string a) = .returned (.string b) := by rw [h]

set_option maxRecDepth 100000 in
set_option maxHeartbeats 400000 in
theorem num_small (u : Nat) (hu : u < 10) (w : World) :
    Calls Tryz.prog 83 #[.int .i64 u] w fun e w' => e = .returned (.string ⟨(Lib.decDigits u).toArray⟩) ∧ Below w.heap.size w w' := by
  obtain ⟨b, hb⟩ : ∃ b, b = UInt8.ofNat (48 + u) := ⟨_, rfl⟩
  have hcv := conv1 b (48 + (u : Int)) (by rw [hb]; simp; omega) (w.alloc (Obj.cells #[Value.int IntKind.u8 (48 + ↑u)] 5)) w.heap.size (by simp)
  have HD : Hid (Lib.decDigits u = [b]) := by show _ = _; rw [hb]; exact Lib.decDigits_one hu
  clear hb
  go_enter Tryz.func83, Tryz.ntmps83
  go_wp2_with fail
  go_ret
  exact ⟨ret_str (by rw [HD.out]), (Below.refl _ _).alloc (Nat.le_refl _) _⟩

theorem tm (u : Nat) : IntKind.u8.wrap (IntKind.i64.wrap (48 + ((u : Int).tmod 10))) = ((UInt8.ofNat (48 + u % 10)).toNat : Int) := by
  have h : (u : Int).tmod 10 = ((u % 10 : Nat) : Int) := by
    rw [Int.tmod_eq_emod_of_nonneg (by omega)]; omega
  rw [h, IntKind.wrap_i64, IntKind.wrap_u8]
  simp; omega
theorem tq (u : Nat) (hm : u ≤ 9223372036854775807) : IntKind.i64.wrap ((u : Int) / 10) = ((u / 10 : Nat) : Int) := by
  rw [IntKind.wrap_i64]; omega

set_option maxRecDepth 100000 in
set_option maxHeartbeats 1000000 in
theorem num_big (u : Nat) (hu : 10 ≤ u) (hm : u ≤ 9223372036854775807) (w : World) 
   (ih : ∀ w, Calls Tryz.prog 83 #[.int .i64 ((u / 10 : Nat) : Int)] w fun e w' => e = .returned (.string ⟨(Lib.decDigits (u / 10)).toArray⟩) ∧ Below w.heap.size w w') :
    Calls Tryz.prog 83 #[.int .i64 u] w fun e w' => e = .returned (.string ⟨(Lib.decDigits u).toArray⟩) ∧ Below w.heap.size w w' := by
  have IH : Hid (∀ w, Calls Tryz.prog 83 #[.int .i64 ((u / 10 : Nat) : Int)] w fun e w' => e = .returned (.string ⟨(Lib.decDigits (u / 10)).toArray⟩) ∧ Below w.heap.size w w') := ih
  clear ih
  obtain ⟨b, hb⟩ : ∃ b, b = UInt8.ofNat (48 + u % 10) := ⟨_, rfl⟩
  have hcv0 := conv1 b (IntKind.u8.wrap (IntKind.i64.wrap (48 + ((u : Int).tmod 10)))) (by rw [hb]; exact tm u)
  have HV : Hid (∀ (W : World) (g : Nat), W.cell? ⟨g, 0, none⟩ = some (.int .u8 (IntKind.u8.wrap (IntKind.i64.wrap (48 + ((u : Int).tmod 10))))) → (convert 22 9 (.slice (some ⟨g, 0, none⟩) 1 1)).run Tryz.prog W = .ok (.string ⟨#[b]⟩) W) := hcv0
  have hcv : ∀ W : World, (convert 22 9 (.slice (some ⟨W.heap.size, 0, none⟩) 1 1)).run Tryz.prog (W.alloc (.cells #[.int .u8 (IntKind.u8.wrap (IntKind.i64.wrap (48 + ((u : Int).tmod 10))))] 5)) = .ok (.string ⟨#[b]⟩) (W.alloc (.cells #[.int .u8 (IntKind.u8.wrap (IntKind.i64.wrap (48 + ((u : Int).tmod 10))))] 5)) :=
    fun W => hcv0 _ _ (by simp)
  have hcvd : ∀ W : World, (convert 22 9 (.slice (some ⟨W.heap.size, 0, none⟩) 1 1)).run Tryz.prog (W.alloc (.cells #[.int .u8 (IntKind.u8.wrap (IntKind.i64.wrap (48 + ((u : Int).tmod 10))))] 5)).drew = .ok (.string ⟨#[b]⟩) (W.alloc (.cells #[.int .u8 (IntKind.u8.wrap (IntKind.i64.wrap (48 + ((u : Int).tmod 10))))] 5)).drew :=
    fun W => hcv0 _ _ (by simp)
  clear hcv0
  have HQ : Hid (IntKind.i64.wrap ((u : Int) / 10) = ((u / 10 : Nat) : Int)) := tq u hm
  have HD : Hid (Lib.decDigits u = Lib.decDigits (u / 10) ++ [b]) := by
    show _ = _
    rw [hb]; conv => lhs; rw [Lib.decDigits, dif_neg (by omega : ¬ u < 10)]
  clear hb
  have hAl : (Lib.decDigits (u / 10)).length ≤ 20 := by rw [Lib.decDigits_length]; exact Lib.nDigits_le20 _ (by omega)
  generalize hA : Lib.decDigits (u / 10) = A at *
  have HA : Hid (Lib.decDigits (u / 10) = A) := hA
  clear hA
  go_enter Tryz.func83, Tryz.ntmps83
  go_wp2_with fail
  go_region_with (go_at_call 83; rw [HQ.out]; refine (IH.out _).mono ?_; rintro e w1 ⟨rfl, hb1⟩; try (have hcv2 := HV.out w1 w.heap.size (hq_of hb1)))
  all_goals
    go_wp2_with fail
    go_ret
    refine ⟨ret_str (by rw [HD.out]; exact ByteArray.mk_append_mk A [b]), ?_⟩
    first
      | exact bel1 hb1 _
      | exact bel2 hb1

theorem num_nat (u : Nat) : u ≤ 9223372036854775807 → ∀ w, Calls Tryz.prog 83 #[.int .i64 u] w fun e w' => e = .returned (.string ⟨(Lib.decDigits u).toArray⟩) ∧ Below w.heap.size w w' := by
  induction u using Nat.strongRecOn with
  | ind u ih =>
    intro hm w
    by_cases hu : u < 10
    · exact num_small u hu w
    · exact num_big u (by omega) hm w (ih (u / 10) (by omega) (by omega))

set_option maxRecDepth 100000 in
set_option maxHeartbeats 400000 in
theorem l1Num_any (n : Int) (h0 : -9223372036854775807 ≤ n) (h1 : n ≤ 9223372036854775807) (w : World) :
    Calls Tryz.prog 83 #[.int .i64 n] w fun e w' => e = .returned (.string ⟨(Lib.itoa n).toArray⟩) ∧ Below w.heap.size w w' := by
  by_cases hn : n < 0
  · obtain ⟨u, rfl⟩ : ∃ u : Nat, n = -(u : Int) := ⟨n.natAbs, by omega⟩
    have HN : Hid (u ≤ 9223372036854775807) := by show _ ≤ _; omega
    have HE : Hid (Lib.itoa (-(u : Int)) = 45 :: Lib.decDigits u) := by
      show _ = _
      unfold Lib.itoa
      rw [if_pos hn]; simp
    have hAl : (Lib.decDigits u).length ≤ 20 := by rw [Lib.decDigits_length]; exact Lib.nDigits_le20 _ (by omega)
    go_enter Tryz.func83, Tryz.ntmps83
    go_wp2_with fail
    refine (num_nat u HN.out _).mono ?_
    rintro e w1 ⟨rfl, hb1⟩
    have HB : Hid (Below w.heap.size w w1) := hb1
    clear hb1
    generalize hA : Lib.decDigits u = A at *
    have HA : Hid (Lib.decDigits u = A) := hA
    clear hA
    go_wp2_with fail
    go_ret
    exact ⟨ret_str (by rw [HE.out]; exact ByteArray.mk_append_mk [45] A), HB.out⟩
  · obtain ⟨u, rfl⟩ : ∃ u : Nat, n = (u : Int) := ⟨n.toNat, by omega⟩
    have HE : Lib.itoa (u : Int) = Lib.decDigits u := by
      unfold Lib.itoa
      rw [if_neg hn]; simp
    rw [HE]
    exact num_nat u (by omega) w
end Go.Proofs.YtgdlkekjbdkjjaaGreatDoor.Num
