/-
  Code that is drawn: the specification's l8Codes and l8Code.
-/
import Derived.Test.YtgdlkekjbdkjjaaGreatDoorPaE
import Derived.Test.YtgdlkekjbdkjjaaGreatDoorDcA
namespace Go.Proofs.YtgdlkekjbdkjjaaGreatDoor.Code
open Go.RowKit
open Go.Proofs.YtgdlkekjbdkjjaaGreatDoor.Atom
set_option linter.unusedVariables false

def weeB (x : I) : Bool := decide (-2000000 ≤ x.op) && (decide (x.op ≤ 2000000) && (decide (-2000000 ≤ x.a) && (decide (x.a ≤ 2000000) && (decide (-2000000 ≤ x.b) && (decide (x.b ≤ 2000000) && (decide (-2000000 ≤ x.c) && (decide (x.c ≤ 2000000) && (decide (-2000000 ≤ x.n) && (decide (x.n ≤ 2000000) && decide (x.s.size ≤ 1000))))))))))
theorem weeB_of {x : I} (h : weeB x = true) : Wee x := by
  unfold weeB at h
  simp only [Bool.and_eq_true, decide_eq_true_eq] at h
  obtain ⟨a, b, c, d, e, f, g, i, j, k, l⟩ := h
  exact ⟨⟨a, b⟩, ⟨c, d⟩, ⟨e, f⟩, ⟨g, i⟩, ⟨j, k⟩, l⟩
def weeP (o : Option (List I)) : Bool := match o with
  | some l => decide (1 ≤ l.length) && (decide (l.length ≤ 20) && l.all weeB)
  | none => false
theorem weeP_of {l : List I} (h : weeP (some l) = true) : 1 ≤ l.length ∧ l.length ≤ 20 ∧ ∀ x ∈ l, Wee x := by
  unfold weeP at h
  simp only [Bool.and_eq_true, decide_eq_true_eq, List.all_eq_true] at h
  exact ⟨h.1, h.2.1, fun x hx => weeB_of (h.2.2 x hx)⟩

theorem codes_any (w : World) :
    Calls Tryz.prog 39 #[] w fun e w' => e = .returned (.slice (some ⟨w.heap.size, 0, none⟩) 6 6) ∧ Below w.heap.size w w' ∧ ∀ k, k < 6 → ∃ s, w'.cell? ⟨w.heap.size, k, none⟩ = some (.string s) ∧ s.size ≤ 1000 ∧ weeP (parseP (dat s)) = true := by
  go_enter Tryz.func39, Tryz.ntmps39
  go_wp2
  go_ret
  refine ⟨rfl, (Below.refl _ w).alloc (Nat.le_refl _) _, fun k hk => ?_⟩
  rw [World.cell?_alloc_new]
  rcases (show k = 0 ∨ k = 1 ∨ k = 2 ∨ k = 3 ∨ k = 4 ∨ k = 5 by omega) with rfl | rfl | rfl | rfl | rfl | rfl
  all_goals exact ⟨_, rfl, by decide, by kernel_rfl⟩

theorem IRow.turn {cb B : Nat} {w w' : World} {v : Value} {l : List I} (h : IRow w B v l) (t : Turn cb w w') (hc : cb < B) : IRow w' B v l := by
  refine World.ownsRow.kept h t.grown ?_
  cases hv : v.ownBlock with
  | none => exact .inl rfl
  | some x =>
    refine .inr fun e => ?_
    have h1 := (World.ownsRow.lt h x hv).1
    simp only [Option.some.injEq] at e
    omega
theorem drawn_grown {cb : Nat} {ao : Option Addr} {len cap : Nat} {zs : List Int} {w W w5 : World} {row : Option Nat} (h : Drawn cb ao len cap zs w W) (hcb : cb < w.heap.size) (hg : W.grownBy w5 row) (hr : ∀ g, row = some g → w.heap.size ≤ g) : Drawn cb ao len cap zs w w5 := by
  have hb : ∀ k, k < w.heap.size → w5.heap[k]? = W.heap[k]? := fun k hk => hg.block k (Nat.lt_of_lt_of_le hk h.2.size) (fun e => by have := hr k e.symm; omega)
  exact ⟨h.1.same fun b hbc => hb b (by omega), ⟨hg.os.trans h.2.os, hg.tape.trans h.2.tape, hg.output.trans h.2.output, Nat.le_trans h.2.size hg.size, fun k hk hn => (hb k hk).trans (h.2.block k hk hn)⟩⟩
theorem drawn_below {cb : Nat} {ao : Option Addr} {len cap : Nat} {zs : List Int} {w W w5 : World} (h : Drawn cb ao len cap zs w W) (hb : Below W.heap.size W w5) : Drawn cb ao len cap zs w w5 := ⟨h.1.below hb, h.2.trans (Turn.of_below hb)⟩
theorem drawn_trans {cb : Nat} {ao : Option Addr} {len cap : Nat} {zs : List Int} {w W w5 : World} (h : Drawn cb ao len cap zs w W) (hb : Drawn cb ao len cap zs W w5) : Drawn cb ao len cap zs w w5 := ⟨hb.1, h.2.trans hb.2⟩

theorem parse_right {t : List UInt8} {l : List I} (h : parseP t = some l) : codeB l = true := by
  unfold parseP at h
  split at h
  · split at h
    · split at h
      · rename_i hc
        simp only [Option.some.injEq] at h
        rw [← h]; exact hc
      · cases h
    · cases h
  · cases h
theorem jump_right {z : Int} {N : Int} (h0 : 0 ≤ z) (h1 : z < N) (hN : N ≤ 200) : specOk ⟨12, 0, 0, 0, z, ⟨#[]⟩⟩ N = true := by
  unfold specOk
  simp only [Bool.and_eq_true]
  exact ⟨decide_eq_true (by omega), rfl, rfl, rfl, rfl, rfl, (by show decide (0 ≤ z ∧ z < N) = true; exact decide_eq_true (by omega))⟩
theorem codeB_snoc {l : List I} {x : I} {N : Int} (hl : ((l.length + 1 : Nat) : Int) = N) (hN : N ≤ 200) (ha : ∀ y ∈ l, specOk y N = true) (hx : specOk x N = true) (ho : x.op = 12) : codeB (l ++ [x]) = true := by
  unfold codeB
  have hlen : (l ++ [x]).length = l.length + 1 := by simp
  have hlast : lastOp (l ++ [x]) = 12 := by
    unfold lastOp
    rw [hlen, Nat.add_sub_cancel, List.getD_eq_getElem?_getD, List.getElem?_append_right (Nat.le_refl _)]
    simp [ho]
  rw [hlast, hlen, hl]
  simp only [Bool.and_eq_true, List.all_eq_true]
  refine ⟨decide_eq_true (by omega), rfl, fun y hy => ?_⟩
  rcases List.mem_append.1 hy with hy | hy
  · exact ha y hy
  · rw [List.mem_singleton.1 hy]; exact hx

/-- What l8Code answers: a row of the call's own, of small instructions. -/
def CodeP (cb : Nat) (ao : Option Addr) (len cap : Nat) (zs : List Int) (w : World) (e : Ending) (w' : World) : Prop :=
  (∃ (v : Value) (l : List I), e = .returned v ∧ IRow w' w.heap.size v l ∧ 1 ≤ l.length ∧ l.length ≤ 20 ∧ (∀ x ∈ l, Wee x) ∧ codeB l = true) ∧ Drawn cb ao len cap zs w w'

set_option maxHeartbeats 4000000 in
theorem code_any (cb : Nat) (ao : Option Addr) (len cap : Nat) (zs : List Int) (w : World) (hc : Cur cb ao len cap zs w) :
    Calls Tryz.prog 17 #[.pointer (some ⟨cb, 0, none⟩)] w (CodeP cb ao len cap zs w) := by
  have hcb := cur_lt hc
  have HC : Hid (Cur cb ao len cap zs w) := hc
  have HCB : Hid (cb < w.heap.size) := hcb
  clear hc hcb
  obtain ⟨i0, hi, hz0, hz1, hz2⟩ := info_parts infoIns
  have HI : Hid (Tryz.prog.info? 47 = some i0 ∧ i0.zero = some (.agg #[.int .i64 0, .int .i64 0, .int .i64 0, .int .i64 0, .int .i64 0, .string ⟨#[]⟩]) ∧ i0.size = 6 ∧ i0.bytes = 56) := ⟨hi, hz0, hz1, hz2⟩
  clear hi hz0 hz1 hz2
  go_enter Tryz.func17, Tryz.ntmps17
  go_wp2_with (go_at_call 38; fail)
  refine (once_any cb ao len cap zs _ HC.out 2 (by decide) (by decide)).mono ?_
  rintro e w1 ⟨x, rfl, hd1⟩
  have HD1 : Hid (Drawn cb ao len cap zs w w1) := hd1
  clear hd1 HC
  cases x with
  | true =>
    go_wp2_with (go_at_call 39; fail)
    refine (codes_any _).mono ?_
    rintro e w2 ⟨rfl, hb2, hc2⟩
    have HD2 : Hid (Drawn cb ao len cap zs w w2) := drawn_below HD1.out hb2
    have HC2 : Hid (∀ k, k < 6 → ∃ s, w2.cell? ⟨w1.heap.size, k, none⟩ = some (.string s) ∧ s.size ≤ 1000 ∧ weeP (parseP (dat s)) = true) := hc2
    clear hc2 hb2
    go_wp2_with (go_at_call 18; fail)
    refine (below_any cb ao len cap zs _ HD2.out.1 6 (by decide) (by decide)).mono ?_
    rintro e w3 ⟨y, rfl, hy0, hy1, hd3⟩
    obtain ⟨k, rfl⟩ : ∃ k : Nat, y = (k : Int) := ⟨y.toNat, by omega⟩
    obtain ⟨s, hs1, hs2, hs3⟩ := HC2.out k (by omega)
    have c3 : w3.cell? ⟨w1.heap.size, k, none⟩ = some (.string s) := by
      have h1 := HD1.out.2.size
      have h2 := HCB.out
      rw [World.cell?_of_block (w := w2) (hd3.2.block _ (World.block_lt_of_cell? w2 _ hs1) (by show w1.heap.size ≠ cb; omega))]; exact hs1
    have HD3 : Hid (Drawn cb ao len cap zs w w3) := drawn_trans HD2.out hd3
    have HWP : Hid (weeP (parseP (dat s)) = true) := hs3
    clear hd3 hs1 hs3 HC2 HD2
    go_wp2_with (go_at_call 7; fail)
    refine (specParse_any s w3 (by omega)).mono ?_
    rintro e w4 ⟨⟨va, vc, l, rfl, hrow, hor⟩, hb4⟩
    have HR : Hid (IRow w4 w.heap.size (.slice va l.length vc) l) := hrow.base HD3.out.2.size
    have HD4 : Hid (Drawn cb ao len cap zs w w4) := drawn_below HD3.out hb4
    have HL : Hid (1 ≤ l.length ∧ l.length ≤ 20 ∧ (∀ x ∈ l, Wee x) ∧ codeB l = true) := by
      rcases hor with h | ⟨h, _⟩
      · have h2 := weeP_of (l := l) (by rw [← h]; exact HWP.out)
        exact ⟨h2.1, h2.2.1, h2.2.2, parse_right h⟩
      · have := HWP.out; rw [h] at this; cases this
    clear hrow hor hb4
    go_wp2_with fail
    go_ret
    exact ⟨⟨_, l, rfl, HR.out, HL.out.1, HL.out.2.1, HL.out.2.2.1, HL.out.2.2.2⟩, HD4.out⟩
  | false =>
    go_wp2_with (go_at_call 18; fail)
    refine (below_any cb ao len cap zs _ HD1.out.1 10 (by decide) (by decide)).mono ?_
    rintro e w2 ⟨y, rfl, hy0, hy1, hd2⟩
    have HD2 : Hid (Drawn cb ao len cap zs w w2) := drawn_trans HD1.out hd2
    clear hd2
    obtain ⟨m, hm, rfl⟩ : ∃ m : Nat, m < 10 ∧ y = (m : Int) := ⟨y.toNat, by omega, by omega⟩
    have e3 : IntKind.i64.wrap (3 + (m : Int)) = 3 + (m : Int) := by rw [IntKind.wrap_i64]; omega
    have HO0 : Hid (IRow (w2.alloc (.cells #[] 47)) w.heap.size (.slice (some ⟨w2.heap.size, 0, none⟩) 0 0) [] ∧ Drawn cb ao len cap zs w (w2.alloc (.cells #[] 47))) :=
      ⟨IRow.base (B := w2.heap.size) (World.ownsRow_made (base := w2.heap.size) (e := 47) (size := 6) w2 #[] 0 (Nat.le_refl _) (Nat.zero_le _) rfl) HD2.out.2.size, drawn_below HD2.out ((Below.refl _ _).alloc (Nat.le_refl _) _)⟩
    clear hy0 hy1
    go_wp2_with fail
    clear e3
    go_loopw [6, 7] (fun v iv wr => ∃ (j : Nat) (l : List I), j ≤ m + 2 ∧ iv = .int .i64 j ∧ l.length = j ∧ (∀ x ∈ l, specOk x (3 + (m : Int)) = true) ∧ IRow wr w.heap.size v l ∧ Drawn cb ao len cap zs w wr) (fun v iv wr => m + 2 - (intOf iv).toNat)
    case atStart => exact ⟨0, [], Nat.zero_le _, rfl, rfl, fun x hx => (nomatch hx), HO0.out.1, HO0.out.2⟩
    case round =>
      obtain ⟨j, l, hj, rfl, hlj, hwl, hrow, hdr⟩ := hrel
      obtain ⟨va, oc, rfl, hoc⟩ := hrow.slice
      have HRO : Hid (IRow wr w.heap.size (.slice va l.length oc) l) := hrow
      have HDR : Hid (Drawn cb ao len cap zs w wr) := hdr
      have HWL : Hid (∀ x ∈ l, specOk x (3 + (m : Int)) = true) := hwl
      have HLJ : Hid (l.length = j) := hlj
      clear hrow hdr hoc HO0 hwl hlj
      have e1 : IntKind.i64.wrap ((j : Int) + 1) = (j : Int) + 1 := by rw [IntKind.wrap_i64]; omega
      by_cases hlt : (j : Int) + 1 < 3 + (m : Int)
      · go_wp2_with (go_at_call 40; fail)
        refine (draw_any cb ao len cap zs (3 + (m : Int)) (by omega) (by omega) wr HDR.out.1 (cur_lt HDR.out.1)).mono ?_
        rintro e w3 ⟨⟨op, xa, xb, xc, xn, xs, rfl, hwe⟩, hd3⟩
        have HWE : Hid (specOk ⟨op, xa, xb, xc, xn, xs⟩ (3 + (m : Int)) = true) := hwe
        have HD3 : Hid (Drawn cb ao len cap zs w w3) := drawn_trans HDR.out hd3
        have HR3 : Hid (IRow w3 w.heap.size (.slice va l.length oc) l) := HRO.out.turn hd3.2 HCB.out
        clear hd3 hwe
        have C3 : Hid (l.length + 1 ≤ maxLen) := by have := HLJ.out; show _ ≤ _; unfold maxLen; omega
        have C4 : Hid ((l.length + 1) * 56 ≤ 140737488355328) := by have := HLJ.out; show _ ≤ _; omega
        have hb4 := (Below.refl w3.heap.size w3).alloc (Nat.le_refl _) (.cells #[.int .i64 op, .int .i64 xa, .int .i64 xb, .int .i64 xc, .int .i64 xn, .string xs] 47)
        have CR : Hid (IRow (w3.alloc (.cells #[.int .i64 op, .int .i64 xa, .int .i64 xb, .int .i64 xc, .int .i64 xn, .string xs] 47)) w.heap.size (.slice va l.length oc) l) := HR3.out.kept hb4
        have CB : Hid (Drawn cb ao len cap zs w (w3.alloc (.cells #[.int .i64 op, .int .i64 xa, .int .i64 xb, .int .i64 xc, .int .i64 xn, .string xs] 47))) := drawn_below HD3.out hb4
        have C1 : Hid (∀ j u, (insL ⟨op, xa, xb, xc, xn, xs⟩)[j]? = some u → (w3.alloc (.cells #[.int .i64 op, .int .i64 xa, .int .i64 xb, .int .i64 xc, .int .i64 xn, .string xs] 47)).cell? ((⟨w3.heap.size, 0, none⟩ : Addr).add j) = some u) := news6 w3 ⟨op, xa, xb, xc, xn, xs⟩
        have C5 : Hid (w.heap.size ≤ (w3.alloc (.cells #[.int .i64 op, .int .i64 xa, .int .i64 xb, .int .i64 xc, .int .i64 xn, .string xs] 47)).heap.size) := CB.out.2.size
        clear hb4
        go_wp2_with (at_builtin; refine wpList_append_own _ rfl _ _ 25 rfl w.heap.size 47 i0 (.agg #[.int .i64 0, .int .i64 0, .int .i64 0, .int .i64 0, .int .i64 0, .string ⟨#[]⟩]) 6 56 undInsS HI.out.1 HI.out.2.1 HI.out.2.2.1 HI.out.2.2.2 rfl (by decide) _ _ _ rfl CR.out ⟨w3.heap.size, 0, none⟩ 1 1 (insL ⟨op, xa, xb, xc, xn, xs⟩) rfl rfl C1.out (one6 _) C3.out C4.out C5.out ?_; intro v2 w5 hown2 hgr2 hnil2)
        have HR5 : Hid (IRow w5 w.heap.size v2 (l ++ [⟨op, xa, xb, xc, xn, xs⟩])) := iRow_snoc hown2
        have HB5 : Hid (Drawn cb ao len cap zs w w5) := drawn_grown CB.out HCB.out hgr2 (fun k hk => (World.ownsRow.lt CR.out k hk).1)
        clear hown2 hgr2 hnil2
        go_wp2_with fail
        go_roundw
        case rel =>
          refine ⟨j + 1, l ++ [⟨op, xa, xb, xc, xn, xs⟩], by omega, by go_num, by have := HLJ.out; simp; omega, fun x hx => ?_, HR5.out, HB5.out⟩
          rcases List.mem_append.1 hx with hx | hx
          · exact HWL.out x hx
          · rw [List.mem_singleton.1 hx]; exact HWE.out
        case measure => simp [intOf]; omega
      · go_wp2_with (go_at_call 18; fail)
        refine (below_any cb ao len cap zs _ HDR.out.1 (3 + (m : Int)) (by omega) (by omega)).mono ?_
        rintro e w3 ⟨z, rfl, hz0, hz1, hd3⟩
        have HWE : Hid (specOk ⟨12, 0, 0, 0, z, ⟨#[]⟩⟩ (3 + (m : Int)) = true) := jump_right hz0 hz1 (by omega)
        have HJM : Hid (((l.length + 1 : Nat) : Int) = 3 + (m : Int)) := by have := HLJ.out; show _ = _; omega
        have HD3 : Hid (Drawn cb ao len cap zs w w3) := drawn_trans HDR.out hd3
        have HR3 : Hid (IRow w3 w.heap.size (.slice va l.length oc) l) := HRO.out.turn hd3.2 HCB.out
        clear hd3 hz0 hz1
        have C3 : Hid (l.length + 1 ≤ maxLen) := by have := HLJ.out; show _ ≤ _; unfold maxLen; omega
        have C4 : Hid ((l.length + 1) * 56 ≤ 140737488355328) := by have := HLJ.out; show _ ≤ _; omega
        have hb4 := (Below.refl w3.heap.size w3).alloc (Nat.le_refl _) (.cells #[.int .i64 12, .int .i64 0, .int .i64 0, .int .i64 0, .int .i64 z, .string ⟨#[]⟩] 47)
        have CR : Hid (IRow (w3.alloc (.cells #[.int .i64 12, .int .i64 0, .int .i64 0, .int .i64 0, .int .i64 z, .string ⟨#[]⟩] 47)) w.heap.size (.slice va l.length oc) l) := HR3.out.kept hb4
        have CB : Hid (Drawn cb ao len cap zs w (w3.alloc (.cells #[.int .i64 12, .int .i64 0, .int .i64 0, .int .i64 0, .int .i64 z, .string ⟨#[]⟩] 47))) := drawn_below HD3.out hb4
        have C1 : Hid (∀ j u, (insL ⟨12, 0, 0, 0, z, ⟨#[]⟩⟩)[j]? = some u → (w3.alloc (.cells #[.int .i64 12, .int .i64 0, .int .i64 0, .int .i64 0, .int .i64 z, .string ⟨#[]⟩] 47)).cell? ((⟨w3.heap.size, 0, none⟩ : Addr).add j) = some u) := news6 w3 ⟨12, 0, 0, 0, z, ⟨#[]⟩⟩
        have C5 : Hid (w.heap.size ≤ (w3.alloc (.cells #[.int .i64 12, .int .i64 0, .int .i64 0, .int .i64 0, .int .i64 z, .string ⟨#[]⟩] 47)).heap.size) := CB.out.2.size
        clear hb4
        go_wp2_with (at_builtin; refine wpList_append_own _ rfl _ _ 25 rfl w.heap.size 47 i0 (.agg #[.int .i64 0, .int .i64 0, .int .i64 0, .int .i64 0, .int .i64 0, .string ⟨#[]⟩]) 6 56 undInsS HI.out.1 HI.out.2.1 HI.out.2.2.1 HI.out.2.2.2 rfl (by decide) _ _ _ rfl CR.out ⟨w3.heap.size, 0, none⟩ 1 1 (insL ⟨12, 0, 0, 0, z, ⟨#[]⟩⟩) rfl rfl C1.out (one6 _) C3.out C4.out C5.out ?_; intro v2 w5 hown2 hgr2 hnil2)
        have HR5 : Hid (IRow w5 w.heap.size v2 (l ++ [⟨12, 0, 0, 0, z, ⟨#[]⟩⟩])) := iRow_snoc hown2
        have HB5 : Hid (Drawn cb ao len cap zs w w5) := drawn_grown CB.out HCB.out hgr2 (fun k hk => (World.ownsRow.lt CR.out k hk).1)
        clear hown2 hgr2 hnil2
        go_wp2_with fail
        go_ret
        have hcd := codeB_snoc (x := ⟨12, 0, 0, 0, z, ⟨#[]⟩⟩) HJM.out (by omega) HWL.out HWE.out rfl
        refine ⟨⟨_, _, rfl, HR5.out, by simp, by have := HLJ.out; simp; omega, fun x hx => ?_, hcd⟩, HB5.out⟩
        rcases List.mem_append.1 hx with hx | hx
        · exact wee_of (HWL.out x hx)
        · rw [List.mem_singleton.1 hx]; exact wee_of HWE.out
end Go.Proofs.YtgdlkekjbdkjjaaGreatDoor.Code
