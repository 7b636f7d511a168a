/-
  Timers that are due, timers that are dropped: the program's answers.
-/
import Derived.Test.YtljfjaoebbmfgaaTrK
namespace Go.Proofs.Ytljfjaoebbmfgaa.Tr
open Go.RowKit Atom
set_option linter.unusedVariables false


set_option maxHeartbeats 2000000 in
set_option maxRecDepth 100000 in
theorem implDue_any (l : List Sd) (bs0 : List Nat) (ao : Option Addr) (cap : Nat) (z : Int) (w : World) (hr : GL eltS w l bs0 ao) (hnd0 : bs0.Nodup) (hl : l.length ≤ 1048576) (hn : ∀ x ∈ l, ntL [x.t] ≤ 4194304) :
    Calls Try.prog 12 #[.slice ao l.length cap, .int .i64 z] w fun e w' => (∃ a1 c1 a2 c2 e1 e2, e = .returned (.tuple #[.slice a1 (l.filter (dueB z)).length c1, .slice a2 (l.filter (notB (dueB z))).length c2]) ∧ GL eltS w' (l.filter (dueB z)) e1 a1 ∧ GL eltS w' (l.filter (notB (dueB z))) e2 a2 ∧ (e1 ++ e2).Nodup ∧ ∀ b ∈ e1 ++ e2, w.heap.size ≤ b) ∧ Below w.heap.size w w' := by
  obtain ⟨wa, hwa⟩ : ∃ wa, wa = w.alloc (.cells #[.int .i64 z] 3) := ⟨_, rfl⟩
  have hba : Below w.heap.size w wa := by rw [hwa]; exact (Below.refl _ _).alloc (Nat.le_refl _) _
  have hca : wa.cell? ⟨w.heap.size, 0, none⟩ = some (.int .i64 z) := by rw [hwa, World.cell?_alloc_new]; rfl
  have HBA : Hid (Below w.heap.size w wa ∧ wa.cell? ⟨w.heap.size, 0, none⟩ = some (.int .i64 z)) := ⟨hba, hca⟩
  have HC : Hid (Calls Try.prog 24 #[.slice ao l.length cap] wa fun e w' => (∃ (g : Nat) (bs : List Nat), e = .returned (.slice (some ⟨g, 0, none⟩) l.length l.length) ∧ GL eltS w' l bs (some ⟨g, 0, none⟩) ∧ bs.Nodup ∧ ∀ b ∈ bs, wa.heap.size ≤ b) ∧ Below wa.heap.size wa w') := ownTimers_any l bs0 ao cap wa (hr.below hba) hnd0 hl hn
  clear hr hnd0 hn hba hca
  go_enter Try.func12, Try.ntmps12
  go_wp2_with (go_at_call 24; fail)
  rw [← hwa]
  clear hwa
  refine HC.out.mono ?_
  rintro e w1 ⟨⟨g, bs, rfl, hg, hnd, hlo⟩, hb1⟩
  have HS : Hid (Calls Try.prog 25 #[.slice (some ⟨g, 0, none⟩) l.length l.length, .func (.func 26) #[] #[.pointer (some ⟨w.heap.size, 0, none⟩)]] w1 fun e w' => ∃ a1 c1 a2 c2 e1 e2, e = .returned (.tuple #[.slice a1 (l.filter (dueB z)).length c1, .slice a2 (l.filter (notB (dueB z))).length c2]) ∧ GL eltS w' (l.filter (dueB z)) e1 a1 ∧ GL eltS w' (l.filter (notB (dueB z))) e2 a2 ∧ (e1 ++ e2).Nodup ∧ (∀ b ∈ e1 ++ e2, b ∈ bs ∨ w1.heap.size ≤ b) ∧ Below w1.heap.size w1 w') := splitDue_any l bs _ _ z w.heap.size w1 hg hnd hl (keepOt hb1 HBA.out.2)
  have HB1 : Hid (Below w.heap.size w w1 ∧ ∀ b, (b ∈ bs ∨ w1.heap.size ≤ b) → w.heap.size ≤ b) := by
    have h := HBA.out.1.trans (hb1.mono HBA.out.1.size)
    exact ⟨h, fun b hb => by
      rcases hb with hb | hb
      · exact Nat.le_trans HBA.out.1.size (hlo b hb)
      · exact Nat.le_trans h.size hb⟩
  clear hg hnd hlo hb1
  go_wp2_with (go_at_call 25; fail)
  refine HS.out.mono ?_
  rintro e w2 ⟨a1, c1, a2, c2, e1, e2, rfl, h1, h2, h3, h4, hb2⟩
  have HF : Hid (GL eltS w2 (l.filter (dueB z)) e1 a1 ∧ GL eltS w2 (l.filter (notB (dueB z))) e2 a2 ∧ (e1 ++ e2).Nodup ∧ (∀ b ∈ e1 ++ e2, w.heap.size ≤ b) ∧ Below w.heap.size w w2) := ⟨h1, h2, h3, fun b hb => HB1.out.2 b (h4 b hb), HB1.out.1.trans (hb2.mono HB1.out.1.size)⟩
  clear h1 h2 h3 h4 hb2
  go_wp2_with fail
  exact bodyPost_ret (v := .tuple #[.slice a1 (l.filter (dueB z)).length c1, .slice a2 (l.filter (notB (dueB z))).length c2]) (by simp [results, Try.results12, go_sem]) rfl ⟨⟨a1, c1, a2, c2, e1, e2, rfl, HF.out.1, HF.out.2.1, HF.out.2.2.1, HF.out.2.2.2.1⟩, HF.out.2.2.2.2⟩

set_option maxHeartbeats 2000000 in
set_option maxRecDepth 100000 in
theorem implDrop_any (l : List Sd) (bs0 : List Nat) (ao : Option Addr) (cap : Nat) (z : Int) (w : World) (hr : GL eltS w l bs0 ao) (hnd0 : bs0.Nodup) (hl : l.length ≤ 1048576) (hn : ∀ x ∈ l, ntL [x.t] ≤ 4194304) :
    Calls Try.prog 16 #[.slice ao l.length cap, .int .i64 z] w fun e w' => (∃ a1 c1 e1, e = .returned (.slice a1 (l.filter (notB (ofB z))).length c1) ∧ GL eltS w' (l.filter (notB (ofB z))) e1 a1 ∧ e1.Nodup ∧ ∀ b ∈ e1, w.heap.size ≤ b) ∧ Below w.heap.size w w' := by
  obtain ⟨wa, hwa⟩ : ∃ wa, wa = w.alloc (.cells #[.int .i64 z] 3) := ⟨_, rfl⟩
  have hba : Below w.heap.size w wa := by rw [hwa]; exact (Below.refl _ _).alloc (Nat.le_refl _) _
  have hca : wa.cell? ⟨w.heap.size, 0, none⟩ = some (.int .i64 z) := by rw [hwa, World.cell?_alloc_new]; rfl
  have HBA : Hid (Below w.heap.size w wa ∧ wa.cell? ⟨w.heap.size, 0, none⟩ = some (.int .i64 z)) := ⟨hba, hca⟩
  have HC : Hid (Calls Try.prog 24 #[.slice ao l.length cap] wa fun e w' => (∃ (g : Nat) (bs : List Nat), e = .returned (.slice (some ⟨g, 0, none⟩) l.length l.length) ∧ GL eltS w' l bs (some ⟨g, 0, none⟩) ∧ bs.Nodup ∧ ∀ b ∈ bs, wa.heap.size ≤ b) ∧ Below wa.heap.size wa w') := ownTimers_any l bs0 ao cap wa (hr.below hba) hnd0 hl hn
  clear hr hnd0 hn hba hca
  go_enter Try.func16, Try.ntmps16
  go_wp2_with (go_at_call 24; fail)
  rw [← hwa]
  clear hwa
  refine HC.out.mono ?_
  rintro e w1 ⟨⟨g, bs, rfl, hg, hnd, hlo⟩, hb1⟩
  have HS : Hid (Calls Try.prog 25 #[.slice (some ⟨g, 0, none⟩) l.length l.length, .func (.func 30) #[] #[.pointer (some ⟨w.heap.size, 0, none⟩)]] w1 fun e w' => ∃ a1 c1 a2 c2 e1 e2, e = .returned (.tuple #[.slice a1 (l.filter (ofB z)).length c1, .slice a2 (l.filter (notB (ofB z))).length c2]) ∧ GL eltS w' (l.filter (ofB z)) e1 a1 ∧ GL eltS w' (l.filter (notB (ofB z))) e2 a2 ∧ (e1 ++ e2).Nodup ∧ (∀ b ∈ e1 ++ e2, b ∈ bs ∨ w1.heap.size ≤ b) ∧ Below w1.heap.size w1 w') := splitDrop_any l bs _ _ z w.heap.size w1 hg hnd hl (keepOt hb1 HBA.out.2)
  have HB1 : Hid (Below w.heap.size w w1 ∧ ∀ b, (b ∈ bs ∨ w1.heap.size ≤ b) → w.heap.size ≤ b) := by
    have h := HBA.out.1.trans (hb1.mono HBA.out.1.size)
    exact ⟨h, fun b hb => by
      rcases hb with hb | hb
      · exact Nat.le_trans HBA.out.1.size (hlo b hb)
      · exact Nat.le_trans h.size hb⟩
  clear hg hnd hlo hb1
  go_wp2_with (go_at_call 25; fail)
  refine HS.out.mono ?_
  rintro e w2 ⟨a1, c1, a2, c2, e1, e2, rfl, h1, h2, h3, h4, hb2⟩
  have HF : Hid (GL eltS w2 (l.filter (ofB z)) e1 a1 ∧ GL eltS w2 (l.filter (notB (ofB z))) e2 a2 ∧ (e1 ++ e2).Nodup ∧ (∀ b ∈ e1 ++ e2, w.heap.size ≤ b) ∧ Below w.heap.size w w2) := ⟨h1, h2, h3, fun b hb => HB1.out.2 b (h4 b hb), HB1.out.1.trans (hb2.mono HB1.out.1.size)⟩
  clear h1 h2 h3 h4 hb2
  go_wp2_with fail
  go_ret
  exact ⟨⟨a2, c2, e2, rfl, HF.out.2.1, (List.nodup_append.1 HF.out.2.2.1).2.1, fun b hb => HF.out.2.2.2.1 b (List.mem_append_right _ hb)⟩, HF.out.2.2.2.2⟩
end Go.Proofs.Ytljfjaoebbmfgaa.Tr
