/-
  Whether timers are right: the specification's TimersOk and the program's.
-/
import Derived.Test.YtimnnedmpmlmdaaTrE
namespace Go.Proofs.Ytimnnedmpmlmdaa.Tr
open Go.RowKit Atom
set_option linter.unusedVariables false

/-- None of them is ahead of an earlier one. -/
def ordB (l : List Sd) : Bool := decide (∀ j, (hj : j < l.length) → (l[j - 1]'(Nat.lt_of_le_of_lt (Nat.sub_le _ _) hj)).kind ≤ l[j].kind)
def allB (l : List Sd) : Bool := l.all tmB
/-- Timers that are right. -/
def tmsB (l : List Sd) : Bool := decide (l.length ≤ 50) && (ordB l && allB l)
theorem ordB_no {l : List Sd} {j : Nat} (hj : j < l.length) (h : l[j].kind < (l[j - 1]'(Nat.lt_of_le_of_lt (Nat.sub_le _ _) hj)).kind) : ordB l = false :=
  decide_eq_false fun q => by have := q j hj; omega
theorem ordB_yes {l : List Sd} (h : ∀ j, (hj : j < l.length) → (l[j - 1]'(Nat.lt_of_le_of_lt (Nat.sub_le _ _) hj)).kind ≤ l[j].kind) : ordB l = true := decide_eq_true h
theorem allB_no {l : List Sd} {j : Nat} (hj : j < l.length) (h : tmB l[j] = false) : allB l = false := by
  unfold allB
  rw [List.all_eq_false]
  exact ⟨l[j], List.getElem_mem hj, by rw [h]; simp⟩
theorem allB_yes {l : List Sd} (h : ∀ j (hj : j < l.length), tmB l[j] = true) : allB l = true := by
  unfold allB
  rw [List.all_eq_true]
  intro x hx
  obtain ⟨j, hj, rfl⟩ := List.getElem_of_mem hx
  exact h j hj
theorem tmsB_no1 {l : List Sd} (h : ¬ l.length ≤ 50) : tmsB l = false := by unfold tmsB; rw [decide_eq_false h]; rfl
theorem tmsB_no2 {l : List Sd} (h : ordB l = false) : tmsB l = false := by unfold tmsB; rw [h]; simp
theorem tmsB_no3 {l : List Sd} (h : allB l = false) : tmsB l = false := by unfold tmsB; rw [h]; simp

set_option maxHeartbeats 1000000 in
set_option maxRecDepth 100000 in
theorem sorted_any (l : List Sd) (ao : Option Addr) (cap : Nat) (w : World) (hr : RowS w ao l) (hl : l.length ≤ maxLen) :
    Calls Try.prog 42 #[.slice ao l.length cap, .func (.func 43) #[] #[]] w fun e w' => e = .returned (.bool (ordB l)) ∧ Below w.heap.size w w' := by
  have HR : Hid (RowS w ao l) := hr
  clear hr
  unfold maxLen at hl
  go_enter Try.func42, Try.ntmps42
  go_wp2_with fail
  go_loopw [5] (fun i wr => ∃ k : Nat, k ≤ l.length ∧ i = .int .i64 ((k : Int) - 1) ∧ Below w.heap.size w wr ∧ ∀ j, (hj : j < l.length) → k ≤ j → (l[j - 1]'(Nat.lt_of_le_of_lt (Nat.sub_le _ _) hj)).kind ≤ l[j].kind) (fun i _ => (intOf i).toNat)
  case atStart => exact ⟨l.length, Nat.le_refl _, rfl, Below.refl _ _, fun j hj h => absurd hj (by omega)⟩
  case round =>
    obtain ⟨k, hk, rfl, hb, hn⟩ := hrel
    have HB : Hid (Below w.heap.size w wr) := hb
    have HN : Hid (∀ j, (hj : j < l.length) → k ≤ j → (l[j - 1]'(Nat.lt_of_le_of_lt (Nat.sub_le _ _) hj)).kind ≤ l[j].kind) := hn
    clear hn hb
    by_cases hlt : 1 < k
    · obtain ⟨m, rfl⟩ : ∃ m, k = m + 2 := ⟨k - 2, by omega⟩
      rcases HR.out.below HB.out with h0 | ⟨b, o, rfl, hrow⟩
      · rw [h0] at hk; simp at hk
      have hbx := hrow (m + 1) (by omega)
      have hby := hrow m (by omega)
      have HS : Hid (l[m].kind ≤ l[m + 1].kind → ∀ j, (hj : j < l.length) → m + 1 ≤ j → (l[j - 1]'(Nat.lt_of_le_of_lt (Nat.sub_le _ _) hj)).kind ≤ l[j].kind) := fun hq j hj hjk => by
        rcases Nat.lt_or_ge j (m + 2) with h | h
        · have : j = m + 1 := by omega
          subst this; exact hq
        · exact HN.out j hj h
      have HNO : Hid (l[m + 1].kind < l[m].kind → ordB l = false) := fun h => ordB_no (j := m + 1) (by omega) h
      obtain ⟨tk, tn, ts, tao, tlen, tcap, e0, e1, e2, e3, _⟩ := hbx.t.cells
      obtain ⟨tk', tn', ts', tao', tlen', tcap', e0', e1', e2', e3', _⟩ := hby.t.cells
      have c0 := Inn.keep hbx.c0
      have c1 := Inn.keep hbx.c1
      have c2 := Inn.keep e0
      have c3 := Inn.keep e1
      have c4 := Inn.keep e2
      have c5 := Inn.keep e3
      have d0 := Inn.keep hby.c0
      have d1 := Inn.keep hby.c1
      have d2 := Inn.keep e0'
      have d3 := Inn.keep e1'
      have d4 := Inn.keep e2'
      have d5 := Inn.keep e3'
      clear hrow hbx hby e0 e1 e2 e3 e0' e1' e2' e3'
      generalize l[m + 1].kind = x at *
      generalize l[m].kind = y at *
      generalize (l[m + 1]).pid = px at *
      generalize (l[m]).pid = py at *
      have HBI : Hid (∀ w7, (∃ x : Inn wr, w7 = x.val) → Below w.heap.size w w7) := fun w7 ⟨x7, h7⟩ => by
        have : Below wr.heap.size wr w7 := by rw [h7]; exact x7.bel
        exact HB.out.trans (this.mono HB.out.size)
      haveI := inn_ne wr
      have ek : ((m + 2 : Nat) : Int) - 1 = ((m + 1 : Nat) : Int) := by omega
      rw [ek]
      have em : IntKind.i64.wrap (((m + 1 : Nat) : Int) - 1) = (m : Int) := by rw [IntKind.wrap_i64]; omega
      have HC : Hid (cmpI x y < 0 ↔ x < y) := by
        show _ ↔ _
        unfold cmpI
        split
        · rename_i h; exact ⟨fun _ => h, fun _ => by decide⟩
        · rename_i h
          split
          · exact ⟨fun q => absurd q (by decide), fun q => absurd q h⟩
          · exact ⟨fun q => absurd q (by decide), fun q => absurd q h⟩
      go_wp2_with fail
      refine wp_region_inn ?_ ?_ ?_
      · kernel_rfl
      · kernel_rfl
      repeat (go_big_quiet_step (first
        | (go_at_call 43; exact calls_inn (byTime_any _ _ _ _ _ _ _ _ _ _ _ _ _ _ _ _ _))))
      refine wpQuiet_nil ?_
      intro w7 h7
      have HB7 : Hid (Below w.heap.size w w7) := HBI.out w7 h7
      clear h7 c0 c1 c2 c3 c4 c5 d0 d1 d2 d3 d4 d5
      by_cases hxy : x < y
      · have hc : cmpI x y < 0 := HC.out.2 hxy
        have HF : Hid (ordB l = false) := HNO.out hxy
        generalize cmpI x y = z at *
        go_wp2_with fail
        go_ret
        exact ⟨ret_bool HF.out.symm, HB7.out⟩
      · have hc : ¬ cmpI x y < 0 := fun q => hxy (HC.out.1 q)
        have HF : Hid (∀ j, (hj : j < l.length) → m + 1 ≤ j → (l[j - 1]'(Nat.lt_of_le_of_lt (Nat.sub_le _ _) hj)).kind ≤ l[j].kind) := HS.out (by omega)
        generalize cmpI x y = z at *
        go_wp2_with fail
        go_roundw
        case rel => exact ⟨m + 1, by omega, congrArg (Value.int .i64) (by omega), HB7.out, HF.out⟩
        case measure => simp [intOf]
    · have HF : Hid (ordB l = true) := ordB_yes fun j hj => by
        rcases Nat.eq_zero_or_pos j with h | h
        · subst h; exact Int.le_refl _
        · exact HN.out j hj (by omega)
      obtain ⟨z, hz⟩ : ∃ z, z = (k : Int) - 1 := ⟨_, rfl⟩
      rw [← hz]
      have hz0 : z ≤ 0 := by omega
      clear hz
      go_wp2_with fail
      go_ret
      exact ⟨ret_bool HF.out.symm, HB.out⟩

theorem inOrder_any (l : List Sd) (ao : Option Addr) (cap : Nat) (w : World) (hr : RowS w ao l) (hl : l.length ≤ maxLen) :
    Calls Try.prog 24 #[.slice ao l.length cap] w fun e w' => e = .returned (.bool (ordB l)) ∧ Below w.heap.size w w' := by
  have HC := sorted_any l ao cap w hr hl
  generalize ordB l = z at *
  go_enter Try.func24, Try.ntmps24
  go_wp2_with fail
  refine HC.mono ?_
  rintro e w1 ⟨rfl, hb1⟩
  have HB1 : Hid (Below w.heap.size w w1) := hb1
  clear hb1 HC
  go_wp2_with fail
  go_ret
  exact ⟨rfl, HB1.out⟩
end Go.Proofs.Ytimnnedmpmlmdaa.Tr
