/-
  TermText, the specification's and the program's; and the walk of the law.
-/
import Derived.Test.YtghfhlheenaacabDoorTmC
import Derived.Test.YtghfhlheenaacabDoorTmD
import Derived.Test.YtghfhlheenaacabDoorTmI
import Derived.Test.YtghfhlheenaacabDoorTxE
import Derived.Test.YtghfhlheenaacabDoorTxG
namespace Go.Proofs.YtghfhlheenaacabDoor
open Go.RowKit Atom
set_option linter.unusedVariables false

/-- A term's text; nothing of what is not right. -/
def textOf (t : Tm) : List UInt8 := if (look t 6 100).isSome then text t else []

set_option maxHeartbeats 400000 in
theorem specText_any (t : Tm) (B : Nat) (w : World) (v : Value) (hv : RepV B w t v) :
    Calls Tryd.prog 5 #[v] w fun e w' => e = .returned (.string ⟨(textOf t).toArray⟩) ∧ Below w.heap.size w w' := by
  obtain ⟨a, b, c, d, e, f, rfl⟩ := hv.form
  have HV : Hid (RepV B w t (.agg #[.int .i64 a, .int .i64 b, .string c, .slice d e f])) := hv
  clear hv
  go_enter Tryd.func5, Tryd.ntmps5
  go_wp2_with fail
  refine (specOk_any t B _ _ ((Keeps.below ?_ B).repV HV.out)).mono ?_
  · exact (Below.refl _ _).alloc (Nat.le_refl _) _
  rintro e w1 ⟨rfl, hb1⟩
  obtain ⟨z1, q1, f1⟩ := one_new (hb1.mono (B' := w.heap.size + 1) (by simp))
  have HB1 : Hid (Below w.heap.size w w1) := ((Below.refl _ _).alloc (Nat.le_refl _) _).trans (hb1.mono (by simp))
  clear hb1
  cases ho : look t 6 100 with
  | none =>
    have HE : Hid (textOf t = []) := by show _ = _; unfold textOf; rw [ho]; rfl
    simp only [Option.isSome_none]
    clear ho
    go_wp2_with fail
    go_ret
    exact ⟨ret_str (by rw [HE.out]), HB1.out⟩
  | some x =>
    have HE : Hid (textOf t = text t) := by show _ = _; unfold textOf; rw [ho]; rfl
    have HL : Hid (Right t ∧ (text t).length ≤ 9000) := ⟨⟨6, 100, x, ho⟩, text_small t x ho⟩
    simp only [Option.isSome_some]
    clear ho
    go_wp2_with fail
    refine (ltext_all t B _ _ (Below.repV HB1.out HV.out) HL.out.1 HL.out.2).mono ?_
    rintro e w2 ⟨rfl, hb2⟩
    have HB2 : Hid (Below w.heap.size w w2) := HB1.out.trans (hb2.mono HB1.out.size)
    clear hb2
    generalize hA : text t = A at *
    have HA : Hid (text t = A) := hA
    clear hA
    go_wp2_with fail
    go_ret
    exact ⟨ret_str (by rw [HE.out]), HB2.out⟩

set_option maxHeartbeats 400000 in
theorem implText_any (t : Tm) (w : World) (v : Value) (hv : RepV 0 w t v) (hT : Tab w.heap.size w) :
    Calls Tryd.prog 7 #[v] w fun e w' => e = .returned (.string ⟨(textOf t).toArray⟩) ∧ Below w.heap.size w w' := by
  obtain ⟨a, b, c, d, e, f, rfl⟩ := hv.form
  have HV : Hid (RepV 0 w t (.agg #[.int .i64 a, .int .i64 b, .string c, .slice d e f])) := hv
  have HT : Hid (Tab w.heap.size w) := hT
  clear hv hT
  go_enter Tryd.func7, Tryd.ntmps7
  go_wp2_with fail
  refine (implOk_any t 0 _ _ ((Keeps.below ?_ 0).repV HV.out)).mono ?_
  · exact (Below.refl _ _).alloc (Nat.le_refl _) _
  rintro e w1 ⟨rfl, hb1⟩
  obtain ⟨z1, q1, f1⟩ := one_new (hb1.mono (B' := w.heap.size + 1) (by simp))
  have HB1 : Hid (Below w.heap.size w w1) := ((Below.refl _ _).alloc (Nat.le_refl _) _).trans (hb1.mono (by simp))
  clear hb1
  cases ho : look t 6 100 with
  | none =>
    have HE : Hid (textOf t = []) := by show _ = _; unfold textOf; rw [ho]; rfl
    simp only [Option.isSome_none]
    clear ho
    go_wp2_with fail
    go_ret
    exact ⟨ret_str (by rw [HE.out]), HB1.out⟩
  | some x =>
    have HE : Hid (textOf t = text t) := by show _ = _; unfold textOf; rw [ho]; rfl
    have HL : Hid (Right t ∧ (text t).length ≤ 9000) := ⟨⟨6, 100, x, ho⟩, text_small t x ho⟩
    simp only [Option.isSome_some]
    clear ho
    go_wp2_with fail
    refine (apT_all t w1 w1.heap.size w1 (.slice none 0 0) 0 [] _ (Below.repV HB1.out HV.out) (Nat.le_refl _) (Nat.le_refl _) (Below.refl _ _) (World.ownsRow_nil _ _ _ _) HL.out.1 (by have := HL.out.2; omega) (Lib.tabBelow_of_tabIs (HT.out.on HB1.out).here)).mono ?_
    rintro e w2 ⟨v2, rfl, ho2, hb2⟩
    have HB2 : Hid (Below w.heap.size w w2) := HB1.out.trans (hb2.mono HB1.out.size)
    rw [Nat.zero_add, List.nil_append] at ho2
    clear hb2
    generalize hA : text t = A at *
    have HA : Hid (text t = A) := hA
    clear hA
    have hcv := conv_own ho2
    clear ho2
    go_wp2_with fail
    go_ret
    exact ⟨ret_str (by rw [HE.out]), HB2.out⟩

set_option maxRecDepth 100000 in
set_option maxHeartbeats 1000000 in
theorem law_walk (t : Tm) (w : World) (v : Value) (hv : RepV 0 w t v) (hT : Tab w.heap.size w) :
    Calls Tryd.prog 3 #[v] w fun e w' => e = .returned (.bool true) ∧ Below w.heap.size w w' := by
  obtain ⟨a, b, c, d, e, f, rfl⟩ := hv.form
  have HV : Hid (RepV 0 w t (.agg #[.int .i64 a, .int .i64 b, .string c, .slice d e f])) := hv
  have HTb : Hid (Tab w.heap.size w) := hT
  clear hv hT
  go_enter Tryd.func3, Tryd.ntmps3
  go_wp2_with fail
  refine (szT_all t 0 _ _ 1048576 (Below.repV ?_ HV.out) (by omega) (by omega)).mono ?_
  · exact (Below.refl _ _).alloc (Nat.le_refl _) _
  rintro e w1 ⟨rfl, hb1⟩
  have hb1' := hb1.mono (B' := w.heap.size + 1) (by simp)
  obtain ⟨z1, q1, f1⟩ := one_new hb1'
  have H1 : Hid (Below (w.heap.size + 1) (w.alloc (.cells #[.int .i64 a, .int .i64 b, .string c, .slice d e f] 24)) w1) := hb1'
  have HB1 : Hid (Below w.heap.size w w1) := ((Below.refl _ _).alloc (Nat.le_refl _) _).trans (hb1.mono (by simp))
  clear hb1 hb1'
  have hsm := sz_small t 1048576 (by omega) (by omega)
  have HS : Hid (0 ≤ szT t 1048576 → SmallT t) := hsm
  clear hsm
  generalize szT t 1048576 = x at *
  by_cases hx : x < 0
  · go_wp2_with fail
    go_ret
    exact ⟨rfl, HB1.out⟩
  · have HT : Hid (ToT t) := toT_all t (HS.out (by omega))
    clear HS
    go_wp2_with fail
    refine (HT.out 0 _ _ (Below.repV HB1.out HV.out)).mono ?_
    rintro e w2 ⟨v2, rfl, hb2, hv2⟩
    have H2 : Hid (Below (w.heap.size + 1) (w.alloc (.cells #[.int .i64 a, .int .i64 b, .string c, .slice d e f] 24)) w2) := H1.out.trans (hb2.mono (by omega))
    have HB2 : Hid (Below w.heap.size w w2) := HB1.out.trans (hb2.mono HB1.out.size)
    have HV2 : Hid (RepV w1.heap.size w2 t v2) := hv2
    clear hb2 hv2 q1 f1
    go_wp2_with fail
    refine (specText_any t w1.heap.size _ v2 HV2.out).mono ?_
    rintro e w3 ⟨rfl, hb3⟩
    have hb3' : Below (w.heap.size + 1) (w.alloc (.cells #[.int .i64 a, .int .i64 b, .string c, .slice d e f] 24)) w3 := H2.out.trans (hb3.mono (by have := H2.out.size; simp at this; omega))
    obtain ⟨z3, q3, f3⟩ := one_new hb3'
    have H3 : Hid (Below (w.heap.size + 1) (w.alloc (.cells #[.int .i64 a, .int .i64 b, .string c, .slice d e f] 24)) w3) := hb3'
    have HB3 : Hid (Below w.heap.size w w3) := HB2.out.trans (hb3.mono HB2.out.size)
    clear hb3 hb3'
    generalize hg : textOf t = bb
    have HG : Hid (textOf t = bb) := hg
    clear hg
    go_wp2_with fail
    refine (HT.out 0 _ _ (Below.repV HB3.out HV.out)).mono ?_
    rintro e w4 ⟨v4, rfl, hb4, hv4⟩
    obtain ⟨a4, b4, c4, d4, e4, f4, rfl⟩ := hv4.form
    have H4 : Hid (Below (w.heap.size + 1) (w.alloc (.cells #[.int .i64 a, .int .i64 b, .string c, .slice d e f] 24)) w4) := H3.out.trans (hb4.mono (by omega))
    have HB4 : Hid (Below w.heap.size w w4) := HB3.out.trans (hb4.mono HB3.out.size)
    have HV4 : Hid (RepV 0 w4 t (.agg #[.int .i64 a4, .int .i64 b4, .string c4, .slice d4 e4 f4])) := hv4.mono (Nat.zero_le _)
    clear hb4 hv4 q3 f3
    go_wp2_with fail
    refine (implText_any t _ _ (Below.repV ?_ HV4.out) (Lib.tabBelow_of_tabIs (HTb.out.on ?_).here)).mono ?_
    · exact (Below.refl _ _).alloc (Nat.le_refl _) _
    · exact HB4.out.alloc HB4.out.size _
    rintro e w5 ⟨he, hb5⟩
    rw [HG.out] at he
    subst he
    obtain ⟨z5, q5, f5⟩ := one_new (hb5.mono (B' := w4.heap.size + 1) (by simp))
    have X5 : Hid (Below (w4.heap.size + 1) (w4.alloc (.cells #[.int .i64 a4, .int .i64 b4, .string c4, .slice d4 e4 f4] 29)) w5) := hb5.mono (by simp)
    have B5 : Below (w.heap.size + 1) (w.alloc (.cells #[.int .i64 a, .int .i64 b, .string c, .slice d e f] 24)) w5 :=
      (H4.out.alloc (by have := H4.out.size; simp at this; omega) _).trans (hb5.mono (by have := H4.out.size; simp at this ⊢; omega))
    obtain ⟨z5', q5', f5'⟩ := one_new B5
    have H5 : Hid (Below (w.heap.size + 1) (w.alloc (.cells #[.int .i64 a, .int .i64 b, .string c, .slice d e f] 24)) w5) := B5
    have HV5 : Hid (RepV 0 w5 t (.agg #[.int .i64 a4, .int .i64 b4, .string c4, .slice d4 e4 f4])) := Below.repV (((Below.refl _ _).alloc (Nat.le_refl _) _).trans (hb5.mono (by simp))) HV4.out
    have HB5 : Hid (Below w.heap.size w w5) := (HB4.out.alloc HB4.out.size _).trans (hb5.mono (by have := HB4.out.size; simp; omega))
    clear hb5 B5
    · go_wp2_with fail
      go_region_with (first
        | (go_at_call 6; refine (HT.out 0 _ _ ?_).mono ?_; exact (Below.repV HB5.out HV.out).drew; rintro e w6 ⟨v6, rfl, hb6, hv6⟩; obtain ⟨z6, q6, f6⟩ := one_new (X5.out.drew.trans (hb6.mono z5)))
        | (go_at_call 8; refine (eqT_all t 0 _ _ _ ?_ ?_).mono ?_; exact Below.repV hb6 HV5.out.drew; exact hv6.mono (Nat.zero_le _); rintro e w7 ⟨rfl, hb7⟩))
      all_goals
        have HB7 : Hid (Below w.heap.size w w7) := (HB5.out.drew.trans (hb6.mono HB5.out.size)).trans (hb7.mono (Nat.le_trans HB5.out.size hb6.size))
        clear hb6 hb7 hv6
        go_wp2_with fail
        go_ret
        exact ⟨rfl, HB7.out⟩
end Go.Proofs.YtghfhlheenaacabDoor
