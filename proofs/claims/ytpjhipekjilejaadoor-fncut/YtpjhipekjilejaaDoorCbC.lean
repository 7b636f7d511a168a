/-
  Code as bytes: what the program's PutCode answers.
-/
import Derived.Test.YtpjhipekjilejaaDoorCbB
import Derived.Test.YtpjhipekjilejaaDoorByE
import Derived.Test.YtpjhipekjilejaaDoorCkB
namespace Go.Proofs.YtpjhipekjilejaaDoor.Cb
open Go.RowKit
open Go.Proofs.YtpjhipekjilejaaDoor.By
open Go.Proofs.YtpjhipekjilejaaDoor.Code (I codeB specOk RowI SmI Bx6)
set_option linter.unusedVariables false

theorem owB_full {w : World} {base : Nat} {v : Value} {L : List UInt8} (h : OwB w base v L) (hn : L.length ≠ 0) : ∃ g c, v = .slice (some ⟨g, 0, none⟩) L.length c := by
  rcases h.2 with ⟨e, h0⟩ | ⟨g, cap, cur, rfl, _⟩
  · exact absurd h0 hn
  · exact ⟨g, cap, rfl⟩
theorem nsAt_new (w : World) (ns : List Int) (t : TypeId) : NsAt (w.alloc (.cells (ns.map (Value.int .i64)).toArray t)) w.heap.size ns := by
  intro j hj
  rw [World.cell?_alloc_new]
  simp [hj]
theorem ins_cut (x : I) (K R : List UInt8) : K ++ (insB x ++ R) = ((K ++ numsB [x.op, x.a, x.b, x.c, x.n, ((x.s.size : Nat) : Int)]) ++ sB x.s) ++ R := by
  simp [insB, List.append_assoc]
/-- putNums of new numbers onto a row of one's own. -/
theorem putNew {w wr : World} {g c : Nat} {K K' : List UInt8} (ns : List Int) (h : OwB wr w.heap.size (.slice (some ⟨g, 0, none⟩) K.length c) K) (hb : Below w.heap.size w wr) (hK : K ++ numsB ns = K') (hl : K.length + 4 * ns.length ≤ 1048600) (gb : Nat) (hgb : gb = wr.heap.size) (X : Nat) (hX : X < wr.heap.size) (hgX : g ≠ X) :
    Calls Tryd.prog 10 #[.slice (some ⟨g, 0, none⟩) K.length c, .slice (some ⟨gb, 0, none⟩) ns.length ns.length] (wr.alloc (.cells (ns.map (Value.int .i64)).toArray 3)) fun e w' => ∃ g' c', e = .returned (.slice (some ⟨g', 0, none⟩) K'.length c') ∧ OwB w' w.heap.size (.slice (some ⟨g', 0, none⟩) K'.length c') K' ∧ Below w.heap.size w w' ∧ w'.heap[X]? = wr.heap[X]? := by
  subst hgb
  have hlt := h.at.2.2.1
  have hba : Below w.heap.size w (wr.alloc (.cells (ns.map (Value.int .i64)).toArray 3)) := hb.alloc hb.size _
  refine (putNums_any w.heap.size wr.heap.size ns.length _ K ns _ (h.below ((Below.refl _ _).alloc (Nat.le_refl _) _)) hba.size (nsAt_new wr ns 3) (by simp only [Value.ownBlock]; intro e; injection e with e; omega) (by rw [World.size_alloc]; omega) hl).mono ?_
  rintro e w' ⟨v', rfl, ho, hn, hb2, hbl⟩
  rw [hK] at ho
  obtain ⟨g', c', rfl⟩ := ho.some (fun e => by have := hn e; cases this)
  refine ⟨g', c', rfl, ho, hba.trans hb2, ?_⟩
  rw [hbl X (by rw [World.size_alloc]; omega) (by simp only [Value.ownBlock]; intro e; injection e with e; omega)]
  show (wr.heap.push _)[X]? = _
  rw [Array.getElem?_push, if_neg (by omega)]
/-- putNums of one number onto nothing. -/
theorem putFirst (w : World) (n : Int) (B : Nat) (hB : B ≤ w.heap.size) :
    Calls Tryd.prog 10 #[.slice none 0 0, .slice (some ⟨w.heap.size, 0, none⟩) 1 1] (w.alloc (.cells #[.int .i64 n] 3)) fun e w' => ∃ g' c', e = .returned (.slice (some ⟨g', 0, none⟩) (numB n).length c') ∧ OwB w' B (.slice (some ⟨g', 0, none⟩) (numB n).length c') (numB n) ∧ Below B w w' := by
  have h := putNums_any B w.heap.size 1 (.slice none 0 0) [] [n] (w.alloc (.cells #[.int .i64 n] 3)) (World.ownsRow_nil _ _ _ _) (by rw [World.size_alloc]; omega) (nsAt_one w n 3) (by simp [Value.ownBlock]) (by rw [World.size_alloc]; omega) (by simp)
  refine h.mono ?_
  rintro e w' ⟨v', rfl, ho, hn, hb2, _⟩
  rw [List.nil_append, numsB_one] at ho
  have h1 := num_len n
  obtain ⟨g', c', rfl⟩ := owB_full ho (by omega)
  exact ⟨g', c', rfl, ho, ((Below.refl B w).alloc hB _).trans hb2⟩

set_option maxHeartbeats 4000000 in
set_option maxRecDepth 100000 in
theorem implPutC_any (l : List I) (ao : Option Addr) (cap : Nat) (w : World) (hr : RowI w ao l) (hs : SmI maxLen l) (hl : l.length ≤ 9223372036854775807) (hS : Code.Shp w) (hP : Code.Pow w) (hE : Es.Ety w) :
    Calls Tryd.prog 5 #[.slice ao l.length cap] w fun e w' => ∃ g c, e = .returned (.slice (some ⟨g, 0, none⟩) (putC l).length c) ∧ OwB w' w.heap.size (.slice (some ⟨g, 0, none⟩) (putC l).length c) (putC l) ∧ Below w.heap.size w w' := by
  obtain ⟨i0, hi, hz0, hz1, hz2⟩ := parts8 infoU8
  have HI : Hid (Tryd.prog.info? 5 = some i0 ∧ i0.zero = some (.int .u8 0) ∧ i0.size = 1 ∧ i0.bytes = 1) := ⟨hi, hz0, hz1, hz2⟩
  clear hi hz0 hz1 hz2
  have HR : Hid (RowI w ao l) := hr
  have HOK : Hid (Calls Tryd.prog 9 #[.slice ao l.length cap] w fun e w' => e = .returned (.bool (codeB l)) ∧ Below w.heap.size w w') := Code.implCode_any l ao cap w hr hs hl hS hP hE
  clear hr hs hS hP hE
  cases hcb : codeB l with
  | false =>
    rw [hcb] at HOK
    rw [putC_no hcb]
    clear hcb
    go_enter Tryd.func5, Tryd.ntmps5
    go_wp2_with fail
    refine HOK.out.mono ?_
    rintro e w1 ⟨rfl, hb1⟩
    have HB1 : Hid (Below w.heap.size w w1) := hb1
    clear hb1
    go_wp2_with fail
    go_ret
    exact ⟨w1.heap.size, 0, rfl, World.ownsRow_made w1 #[] 0 HB1.out.size (Nat.zero_le _) rfl, HB1.out.alloc HB1.out.size _⟩
  | true =>
    rw [hcb] at HOK
    rw [putC_yes hcb]
    have hlen := codeB_len hcb
    have HSM : Hid (∀ x ∈ l, x.s.size ≤ 12) := code_small hcb
    obtain ⟨N, hN⟩ : ∃ N, codeBy l = N := ⟨_, rfl⟩
    have hNl : N.length ≤ 7204 := by rw [← hN]; exact codeBy_len hcb
    have HN : Hid (codeBy l = N) := hN
    rw [hN]
    obtain ⟨hl1, hl2⟩ := hlen
    clear hcb hN
    go_enter Tryd.func5, Tryd.ntmps5
    go_wp2_with fail
    refine HOK.out.mono ?_
    rintro e w1 ⟨rfl, hb1⟩
    have HB1 : Hid (Below w.heap.size w w1) := hb1
    clear hb1 HOK
    go_wp2_with fail
    refine (putFirst w1 ((l.length : Nat) : Int) w.heap.size HB1.out.size).mono ?_
    rintro e w2 ⟨g2, c2, rfl, ho2, hb2⟩
    obtain ⟨K0, hK0⟩ : ∃ K0, numB ((l.length : Nat) : Int) = K0 := ⟨_, rfl⟩
    rw [hK0] at ho2 ⊢
    have HK0 : Hid (K0 ++ insBs (l.drop 0) = N) := by show _ = _; rw [← hK0]; exact HN.out
    have HO2 : Hid (OwB w2 w.heap.size (.slice (some ⟨g2, 0, none⟩) K0.length c2) K0) := ho2
    have HB2 : Hid (Below w.heap.size w w2) := HB1.out.trans hb2
    clear ho2 hb2 hK0 HB1
    go_wp2_with fail
    go_loopw [3, 5, 16] (fun v _ iv wr => ∃ (k : Nat) (K : List UInt8) (g c : Nat), k ≤ l.length ∧ iv = .int .i64 k ∧ v = .slice (some ⟨g, 0, none⟩) K.length c ∧ K ++ insBs (l.drop k) = N ∧ OwB wr w.heap.size (.slice (some ⟨g, 0, none⟩) K.length c) K ∧ Below w.heap.size w wr) (fun _ _ iv _ => l.length - (intOf iv).toNat)
    case atStart => exact ⟨0, K0, g2, c2, Nat.zero_le _, rfl, rfl, HK0.out, HO2.out, HB2.out⟩
    case round =>
      obtain ⟨k, K, g, c, hk, rfl, rfl, hK, how, hb⟩ := hrel
      have HK : Hid (K ++ insBs (l.drop k) = N) := hK
      have HOW : Hid (OwB wr w.heap.size (.slice (some ⟨g, 0, none⟩) K.length c) K) := how
      have HB : Hid (Below w.heap.size w wr) := hb
      clear hK how hb
      by_cases hlt : k < l.length
      · rcases HR.out with h | ⟨b, o, rfl, hrow⟩
        · rw [h] at hlt; simp at hlt
        have hbx := (hrow k hlt).below HB.out
        have hsx := HSM.out l[k] (List.getElem_mem hlt)
        have hKn : K ++ (insB l[k] ++ insBs (l.drop (k + 1))) = N := by rw [← ins_next hlt]; exact HK.out
        rw [ins_cut] at hKn
        generalize l[k] = x at hbx hsx hKn
        obtain ⟨op, xa, xb, xc, xn, xs⟩ := x
        simp only at hsx hKn
        obtain ⟨K6, hK6⟩ : ∃ K6, K ++ numsB [op, xa, xb, xc, xn, ((xs.size : Nat) : Int)] = K6 := ⟨_, rfl⟩
        rw [hK6] at hKn
        have h6N : K6.length ≤ 7204 := by
          have := congrArg List.length hKn
          rw [List.length_append, List.length_append] at this; omega
        have L0 : K.length ≤ 7204 := by have := congrArg List.length hK6; rw [List.length_append] at this; omega
        have HKN : Hid ((K6 ++ sB xs) ++ insBs (l.drop (k + 1)) = N) := hKn
        have HK6 : Hid (K ++ numsB [op, xa, xb, xc, xn, ((xs.size : Nat) : Int)] = K6) := hK6
        have HL : Hid (K.length ≤ 7204) := L0
        have C3 : Hid (K6.length + xs.size ≤ maxLen) := by show _ ≤ _; unfold maxLen; omega
        have C4 : Hid (K6.length + xs.size ≤ 140737488355328) := by show _ ≤ _; omega
        have d0 := hbx.c0
        have d1 := hbx.c1
        have d2 := hbx.c2
        have d3 := hbx.c3
        have d4 := hbx.c4
        have d5 := hbx.c5
        have HBA : Hid (Below w.heap.size w (wr.alloc (.cells #[.int .i64 op, .int .i64 xa, .int .i64 xb, .int .i64 xc, .int .i64 xn, .string xs] 33))) := HB.out.alloc HB.out.size _
        have HOA : Hid (OwB (wr.alloc (.cells #[.int .i64 op, .int .i64 xa, .int .i64 xb, .int .i64 xc, .int .i64 xn, .string xs] 33)) w.heap.size (.slice (some ⟨g, 0, none⟩) K.length c) K) := HOW.out.below ((Below.refl _ _).alloc (Nat.le_refl _) _)
        clear hK6 hKn h6N L0 hbx hrow
        go_wp2_with fail
        have HQ : Hid (∀ i, (wr.alloc (.cells #[.int .i64 op, .int .i64 xa, .int .i64 xb, .int .i64 xc, .int .i64 xn, .string xs] 33)).cell? ⟨wr.heap.size, i, none⟩ = (#[.int .i64 op, .int .i64 xa, .int .i64 xb, .int .i64 xc, .int .i64 xn, .string xs] : Array Value)[i]?) := fun i => World.cell?_alloc_new wr _ _ i
        have hsz : (wr.alloc (.cells #[.int .i64 op, .int .i64 xa, .int .i64 xb, .int .i64 xc, .int .i64 xn, .string xs] 33)).heap.size = wr.heap.size + 1 := World.size_alloc _ _
        have hgl := HOW.out.at.2.2.1
        refine (putNew [op, xa, xb, xc, xn, ((xs.size : Nat) : Int)] HOA.out HBA.out HK6.out (by have := HL.out; simp; omega) (wr.heap.size + 1) hsz.symm wr.heap.size (by rw [hsz]; omega) (by omega)).mono ?_
        rintro e w3 ⟨g3, c3, rfl, ho3, hb3, hx3⟩
        have q5 : w3.cell? ⟨wr.heap.size, 5, none⟩ = some (.string xs) := by
          rw [World.cell?_of_block (w := wr.alloc (.cells #[.int .i64 op, .int .i64 xa, .int .i64 xb, .int .i64 xc, .int .i64 xn, .string xs] 33)) hx3]; exact HQ.out 5
        have HO3 : Hid (OwB w3 w.heap.size (.slice (some ⟨g3, 0, none⟩) K6.length c3) K6) := ho3
        have HB3 : Hid (Below w.heap.size w w3) := hb3
        clear hsz hgl ho3 hb3 hx3 d0 d1 d2 d3 d4 d5
        go_wp2_with (at_builtin; refine Lib.wpList_append_own_string _ rfl _ _ 22 9 rfl w.heap.size 5 i0 undU8 Tryd.underlying9 HI.out.1 HI.out.2.1 HI.out.2.2.1 HI.out.2.2.2 _ K6.length (bcs K6) rfl HO3.out xs rfl C3.out C4.out HB3.out.size ?_; intro v7 w7 hown7 hgr7 hnn7)
        have how7 : OwB w7 w.heap.size v7 (K6 ++ sB xs) := owB_str hown7 rfl
        obtain ⟨g7, c7, rfl⟩ := how7.some (fun e => by have := (hnn7.1 e).1; cases this)
        have HB7 : Hid (Below w.heap.size w w7) := HB3.out.grown hgr7 HB3.out.size (fun k hk => (World.ownsRow.lt HO3.out k hk).1)
        have HO7 : Hid (OwB w7 w.heap.size (.slice (some ⟨g7, 0, none⟩) (K6 ++ sB xs).length c7) (K6 ++ sB xs)) := how7
        clear hown7 hgr7 hnn7 how7
        go_wp2_with fail
        go_roundw
        case rel => exact ⟨k + 1, _, g7, c7, by omega, by go_num, rfl, HKN.out, HO7.out, HB7.out⟩
        case measure => simp [intOf]; omega
      · have hke : k = l.length := by omega
        subst hke
        have HE : Hid (K = N) := by
          have := HK.out
          rw [ins_end, List.append_nil] at this
          exact this
        go_wp2_with fail
        go_ret
        obtain rfl := HE.out
        exact ⟨g, c, rfl, HOW.out, HB.out⟩
end Go.Proofs.YtpjhipekjilejaaDoor.Cb
