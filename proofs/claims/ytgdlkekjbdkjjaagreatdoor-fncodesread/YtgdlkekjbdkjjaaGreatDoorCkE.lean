/-
  Code's text: the specification's and the program's CodeText: both answer textC.
-/
import Derived.Test.YtgdlkekjbdkjjaaGreatDoorCkB
import Derived.Test.YtgdlkekjbdkjjaaGreatDoorCtB
import Derived.Test.YtgdlkekjbdkjjaaGreatDoorBuA
namespace Go.Proofs.YtgdlkekjbdkjjaaGreatDoor.Code
open Go.RowKit
open Go.Proofs.YtgdlkekjbdkjjaaGreatDoor.Atom
set_option linter.unusedVariables false

def codeT (l : List I) : List UInt8 := l.flatMap fun x => textI x ++ [10]
def textC (l : List I) : List UInt8 := if codeB l then codeT l else []
def Al64 (l : List I) : Prop := ∀ x ∈ l, In64 x

theorem textI_len {x : I} (h : In64 x) (hs : x.s.size ≤ 1048576) : (textI x).length ≤ 4000000 := by
  unfold textI
  split
  · rename_i h1
    obtain ⟨k, hk, he⟩ : ∃ k : Nat, k < 20 ∧ x.op.toNat = k + 1 := by
      have := of_decide_eq_true h1
      exact ⟨(x.op - 1).toNat, by omega, by omega⟩
    rw [he]
    exact accT_len h hs _ _ (names_len k hk).2
  · simp
theorem codeT_take (l : List I) (k : Nat) (hk : k < l.length) : codeT (l.take (k + 1)) = codeT (l.take k) ++ textI l[k] ++ [10] := by
  unfold codeT
  rw [List.take_succ_eq_append_getElem hk, List.flatMap_append]; simp
theorem codeT_len (l : List I) (h : Al64 l) (hs : SmI 1048576 l) : (codeT l).length ≤ 4000001 * l.length := by
  induction l with
  | nil => simp [codeT]
  | cons x l ih =>
    have h1 := ih (fun y hy => h y (List.mem_cons_of_mem _ hy)) (fun y hy => hs y (List.mem_cons_of_mem _ hy))
    have h2 := textI_len (h x List.mem_cons_self) (hs x List.mem_cons_self)
    unfold codeT at *
    simp only [List.flatMap_cons, List.length_append, List.length_cons, List.length_nil]
    omega
theorem codeT_small (l : List I) (k : Nat) (h : Al64 l) (hs : SmI 1048576 l) (hl : l.length ≤ 200) : (codeT (l.take k)).length ≤ 800000200 := by
  have h1 := codeT_len (l.take k) (fun x hx => h x (List.mem_of_mem_take hx)) (fun x hx => hs x (List.mem_of_mem_take hx))
  have h2 : (l.take k).length ≤ 200 := by simp; omega
  omega
theorem codeB_len {l : List I} (h : codeB l = true) : 1 ≤ l.length ∧ l.length ≤ 200 := by
  unfold codeB at h
  rw [Bool.and_eq_true] at h
  exact of_decide_eq_true h.1
theorem cat_nl (A B : List UInt8) : (⟨A.toArray⟩ : ByteArray) ++ ⟨B.toArray⟩ ++ ⟨#[10]⟩ = ⟨(A ++ B ++ [10]).toArray⟩ := by
  rw [show (⟨#[10]⟩ : ByteArray) = ⟨[10].toArray⟩ from rfl, ByteArray.mk_append_mk, ByteArray.mk_append_mk]

set_option maxHeartbeats 1000000 in
theorem specCodeText_any (l : List I) (ao : Option Addr) (cap : Nat) (w : World) (hr : RowI w ao l) (hs : SmI 1048576 l) (h64 : Al64 l) (hl : l.length ≤ 1048576) :
    Calls Tryz.prog 16 #[.slice ao l.length cap] w fun e w' => e = .returned (.string ⟨(textC l).toArray⟩) ∧ Below w.heap.size w w' := by
  have HCK : Hid (∀ w', w' = w → Calls Tryz.prog 24 #[.slice ao l.length cap] w' fun e w'' => e = .returned (.bool (codeB l)) ∧ Below w'.heap.size w' w'') := fun w' h => by
    subst h; exact specCode_any l ao cap w' hr (fun x hx => Nat.le_trans (hs x hx) (by unfold maxLen; omega)) (by omega)
  have HRW : Hid (RowI w ao l) := hr
  have HSM : Hid (SmI 1048576 l) := hs
  have H64 : Hid (Al64 l) := h64
  clear hr hs h64
  cases hc : codeB l
  · have HT : Hid (textC l = []) := by show _ = _; unfold textC; rw [hc]; rfl
    rw [hc] at HCK
    go_enter Tryz.func16, Tryz.ntmps16
    go_wp2_with (go_at_call 24; refine (HCK.out _ rfl).mono ?_; rintro e w1 ⟨rfl, hb1⟩; have HB1 : Hid (Below w.heap.size w w1) := hb1; clear hb1)
    go_ret
    exact ⟨by rw [HT.out]; rfl, HB1.out⟩
  · have HT : Hid (textC l = codeT l) := by show _ = _; unfold textC; rw [hc]; rfl
    have HL : Hid (l.length ≤ 200) := (codeB_len hc).2
    rw [hc] at HCK
    go_enter Tryz.func16, Tryz.ntmps16
    go_wp2_with (go_at_call 24; refine (HCK.out _ rfl).mono ?_; rintro e w1 ⟨rfl, hb1⟩; have HB1 : Hid (Below w.heap.size w w1) := hb1; clear hb1)
    go_loopw [3, 4] (fun v i wr => ∃ k : Nat, k ≤ l.length ∧ i = .int .i64 k ∧ v = .string ⟨(codeT (l.take k)).toArray⟩ ∧ Below w.heap.size w wr) (fun v i wr => l.length - (intOf i).toNat)
    case atStart => exact ⟨0, Nat.zero_le _, rfl, by simp [codeT], HB1.out⟩
    case round =>
      obtain ⟨k, hk, rfl, rfl, hbr⟩ := hrel
      have HBR : Hid (Below w.heap.size w wr) := hbr
      clear hbr
      by_cases hlt : k < l.length
      · rcases HRW.out with h | ⟨b, o, rfl, hrow⟩
        · rw [h] at hlt; simp at hlt
        have hbx := (hrow k hlt).below HBR.out
        have hA : (codeT (l.take k)).length ≤ 800000200 := codeT_small l k H64.out HSM.out HL.out
        have HTK : Hid (codeT (l.take (k + 1)) = codeT (l.take k) ++ textI l[k] ++ [10]) := codeT_take l k hlt
        have hsx := HSM.out l[k] (List.getElem_mem hlt)
        have h6x := H64.out l[k] (List.getElem_mem hlt)
        have hB := textI_len h6x hsx
        generalize l[k] = x at hbx hsx h6x HTK hB
        generalize codeT (l.take k) = A at hA HTK ⊢
        obtain ⟨op, xa, xb, xc, xn, xs⟩ := x
        have d0 := hbx.c0
        have d1 := hbx.c1
        have d2 := hbx.c2
        have d3 := hbx.c3
        have d4 := hbx.c4
        have d5 := hbx.c5
        clear hbx hrow
        have HSP : Hid (∀ w', Calls Tryz.prog 37 #[.agg #[.int .i64 op, .int .i64 xa, .int .i64 xb, .int .i64 xc, .int .i64 xn, .string xs]] w' fun e w'' => e = .returned (.string ⟨(textI ⟨op, xa, xb, xc, xn, xs⟩).toArray⟩) ∧ Below w'.heap.size w' w'') := fun w' => specText_any op xa xb xc xn xs w' hsx h6x
        generalize textI ⟨op, xa, xb, xc, xn, xs⟩ = X at HTK HSP hB
        go_wp2_with (go_at_call 37; refine (HSP.out _).mono ?_; rintro e w3 ⟨rfl, hb3⟩; have HB3 : Hid (Below w.heap.size w w3) := HBR.out.trans (hb3.mono HBR.out.size); clear hb3)
        go_roundw
        case rel => exact ⟨k + 1, by omega, by go_num, by rw [HTK.out, cat_nl], HB3.out⟩
        case measure => simp [intOf]; omega
      · have HJ : Hid (l.take k = l) := by show _ = _; exact List.take_of_length_le (by omega)
        go_wp2
        go_ret
        exact ⟨by rw [HT.out, HJ.out]; rfl, HBR.out⟩

theorem bld_below {B b : Nat} {l : List UInt8} {w w' : World} (h : Bu.Bld B b l w) (hb : Below w.heap.size w w') : Bu.Bld B b l w' := by
  have hg : w.grownBy w' none := ⟨hb.os, hb.tape, hb.output, hb.size, fun k hk _ => hb.block k hk⟩
  have one : ∀ p, Lib.BuilderAt 64 5 B b p (Lib.byteCells l) w → Lib.BuilderAt 64 5 B b p (Lib.byteCells l) w' := fun p h => by
    have hlt := h.lt
    obtain ⟨hB, v, hbk, hown, hne⟩ := h
    exact ⟨hB, v, (hb.block _ hlt).trans hbk, hown.kept hg (by cases v.ownBlock <;> simp), hne⟩
  rcases h with h | h
  · exact .inl (one _ h)
  · exact .inr (one _ h)

/-- What the loop over the instructions has in hand. -/
structure Cw (w wr : World) (b : Nat) (t : List UInt8) : Prop where
  bel : Below w.heap.size w wr
  bld : Bu.Bld w.heap.size b t wr
theorem Cw.below {w wr w' : World} {b : Nat} {t : List UInt8} (h : Cw w wr b t) (hb : Below wr.heap.size wr w') : Cw w w' b t := ⟨h.bel.trans (hb.mono h.bel.size), bld_below h.bld hb⟩

set_option maxHeartbeats 2000000 in
theorem implCodeText_any (l : List I) (ao : Option Addr) (cap : Nat) (w : World) (hr : RowI w ao l) (hs : SmI 1048576 l) (h64 : Al64 l) (hl : l.length ≤ 1048576) (hS : Shp w) (hP : Pow w) (hE : Es.Ety w) :
    Calls Tryz.prog 12 #[.slice ao l.length cap] w fun e w' => e = .returned (.string ⟨(textC l).toArray⟩) ∧ Below w.heap.size w w' := by
  have HCK : Hid (∀ w', w' = w → Calls Tryz.prog 11 #[.slice ao l.length cap] w' fun e w'' => e = .returned (.bool (codeB l)) ∧ Below w'.heap.size w' w'') := fun w' h => by
    subst h; exact implCode_any l ao cap w' hr (fun x hx => Nat.le_trans (hs x hx) (by unfold maxLen; omega)) (by omega) hS hP hE
  have HRW : Hid (RowI w ao l) := hr
  have HSM : Hid (SmI 1048576 l) := hs
  have H64 : Hid (Al64 l) := h64
  clear hr hs h64
  cases hc : codeB l
  · have HT : Hid (textC l = []) := by show _ = _; unfold textC; rw [hc]; rfl
    rw [hc] at HCK
    go_enter Tryz.func12, Tryz.ntmps12
    go_wp2_with (go_at_call 11; refine (HCK.out _ rfl).mono ?_; rintro e w1 ⟨rfl, hb1⟩; have HB1 : Hid (Below w.heap.size w w1) := hb1; clear hb1)
    go_ret
    exact ⟨by rw [HT.out]; rfl, HB1.out⟩
  · have HT : Hid (textC l = codeT l) := by show _ = _; unfold textC; rw [hc]; rfl
    have HL : Hid (l.length ≤ 200) := (codeB_len hc).2
    rw [hc] at HCK
    go_enter Tryz.func12, Tryz.ntmps12
    go_wp2_with (go_at_call 11; refine (HCK.out _ rfl).mono ?_; rintro e w1 ⟨rfl, hb1⟩; have HB1 : Hid (Below w.heap.size w w1) := hb1; clear hb1)
    have HC0 : Hid (Cw w (w1.alloc (.cells #[.pointer none, .slice none 0 0] 64)) w1.heap.size []) := by
      refine ⟨HB1.out.alloc HB1.out.size _, .inl ⟨HB1.out.size, .slice none 0 0, ?_, ?_, by simp [Value.ownBlock]⟩⟩
      · show (w1.heap.push _)[w1.heap.size]? = _; simp
      · exact ⟨by decide, .inl ⟨rfl, rfl⟩⟩
    go_loopw [11] (fun i wr => ∃ k : Nat, k ≤ l.length ∧ i = .int .i64 k ∧ Cw w wr w1.heap.size (codeT (l.take k))) (fun i wr => l.length - (intOf i).toNat)
    case atStart => exact ⟨0, Nat.zero_le _, rfl, by simpa [codeT] using HC0.out⟩
    case round =>
      obtain ⟨k, hk, rfl, hcw⟩ := hrel
      have HCW : Hid (Cw w wr w1.heap.size (codeT (l.take k))) := hcw
      clear hcw HC0
      by_cases hlt : k < l.length
      · rcases HRW.out with h | ⟨b, o, rfl, hrow⟩
        · rw [h] at hlt; simp at hlt
        have hbx := (hrow k hlt).below HCW.out.bel
        have HA : Hid ((codeT (l.take k)).length ≤ 800000200) := codeT_small l k H64.out HSM.out HL.out
        have HTK : Hid (codeT (l.take (k + 1)) = codeT (l.take k) ++ textI l[k] ++ [10]) := codeT_take l k hlt
        have hsx := HSM.out l[k] (List.getElem_mem hlt)
        have h6x := H64.out l[k] (List.getElem_mem hlt)
        have HBL : Hid ((textI l[k]).length ≤ 4000000) := textI_len h6x hsx
        generalize l[k] = x at hbx hsx h6x HTK HBL
        generalize codeT (l.take k) = A at HA HTK HCW
        obtain ⟨op, xa, xb, xc, xn, xs⟩ := x
        have d0 := hbx.c0
        have d1 := hbx.c1
        have d2 := hbx.c2
        have d3 := hbx.c3
        have d4 := hbx.c4
        have d5 := hbx.c5
        clear hbx hrow
        have HSP : Hid (∀ w', Shp w' → Pow w' → Calls Tryz.prog 33 #[.agg #[.int .i64 op, .int .i64 xa, .int .i64 xb, .int .i64 xc, .int .i64 xn, .string xs]] w' fun e w'' => e = .returned (.string ⟨(textI ⟨op, xa, xb, xc, xn, xs⟩).toArray⟩) ∧ Below w'.heap.size w' w'') := fun w' h1 h2 => implText_any op xa xb xc xn xs w' hsx h6x h1 h2
        generalize textI ⟨op, xa, xb, xc, xn, xs⟩ = X at HTK HSP HBL
        have HCA : Hid (Cw w (wr.alloc (.cells #[.int .i64 op, .int .i64 xa, .int .i64 xb, .int .i64 xc, .int .i64 xn, .string xs] 47)) w1.heap.size A) := HCW.out.below ((Below.refl _ wr).alloc (Nat.le_refl _) _)
        go_wp2_with (go_at_call 33; fail)
        refine (HSP.out _ (hS.below HCA.out.bel) (hP.below HCA.out.bel)).mono ?_
        rintro e w3 ⟨rfl, hb3⟩
        have HC3 : Hid (Cw w w3 w1.heap.size A) := HCA.out.below hb3
        clear hb3
        go_wp2_with (go_at_call 32; fail)
        refine (Bu.writeString_any w.heap.size w1.heap.size A ⟨X.toArray⟩ _ HC3.out.bld (by have := HA.out; have := HBL.out; simp [ByteArray.size]; omega) HC3.out.bel.size).mono ?_
        rintro e w4 ⟨rfl, hbd, hb4⟩
        have HC4 : Hid (Cw w w4 w1.heap.size (A ++ X)) := ⟨HC3.out.bel.trans hb4, by simpa using hbd⟩
        clear hbd hb4
        go_wp2_with (go_at_call 34; fail)
        refine (Bu.writeByte_any w.heap.size w1.heap.size (A ++ X) 10 10 rfl _ HC4.out.bld (by have := HA.out; have := HBL.out; simp; omega) HC4.out.bel.size).mono ?_
        rintro e w5 ⟨rfl, hbd, hb5⟩
        have HC5 : Hid (Cw w w5 w1.heap.size (A ++ X ++ [10])) := ⟨HC4.out.bel.trans hb5, hbd⟩
        clear hbd hb5
        go_wp2_with fail
        go_roundw
        case rel => exact ⟨k + 1, by omega, by go_num, by rw [HTK.out]; exact HC5.out⟩
        case measure => simp [intOf]; omega
      · have HJ : Hid (l.take k = l) := by show _ = _; exact List.take_of_length_le (by omega)
        go_wp2_with (go_at_call 35; fail)
        refine (Bu.string_any w.heap.size w1.heap.size _ _ HCW.out.bld HCW.out.bel.size).mono ?_
        rintro e w3 ⟨rfl, hb3⟩
        have HB3 : Hid (Below w.heap.size w w3) := HCW.out.bel.trans hb3
        clear hb3
        go_wp2
        go_ret
        exact ⟨by rw [HT.out, HJ.out]; rfl, HB3.out⟩
end Go.Proofs.YtgdlkekjbdkjjaaGreatDoor.Code
