/-
  Code comes back of its bytes; of bytes that are cut, or have more behind them, none. Reckoning.
  (Ahead of it, in this text: Code as bytes: what is put of it. Reckoning. Code as bytes: what the specification's PutCode answers. What the program's PutNum answers, and what the law FnExactPutNum does. Code as bytes: what the program's PutCode answers. Code read of bytes: what both kinds of GetCode read. Reckoning. Code read of bytes: what the program's getNums and getIns answer. Code read of bytes: what the program's GetCode answers.)
-/
import Derived.Test.YtgdlkekjbdkjjaaGreatDoorByD
import Derived.Test.YtgdlkekjbdkjjaaGreatDoorCkA
import Derived.Lib.AppendStr
import Derived.Deep.RegionLaw
import Derived.Deep.RegionHeld3
import Derived.Test.YtgdlkekjbdkjjaaGreatDoorCkB
import Derived.Test.YtgdlkekjbdkjjaaGreatDoorByF
import Derived.Test.YtgdlkekjbdkjjaaGreatDoorByG
import Derived.Test.YtgdlkekjbdkjjaaGreatDoorCkC
namespace Go.Proofs.YtgdlkekjbdkjjaaGreatDoor.Cb
open Go.RowKit
open Go.Proofs.YtgdlkekjbdkjjaaGreatDoor.By
open Go.Proofs.YtgdlkekjbdkjjaaGreatDoor.Code (I codeB specOk RowI SmI Bx6)
set_option linter.unusedVariables false

def sB (s : ByteArray) : List UInt8 := s.data.toList
theorem sB_len (s : ByteArray) : (sB s).length = s.size := by unfold sB; rw [Array.length_toList]; rfl
theorem sB_cells (s : ByteArray) : bcs (sB s) = s.data.toList.map fun b => Value.int .u8 ((b.toNat : Nat) : Int) := rfl
/-- The bytes of an instruction. -/
def insB (x : I) : List UInt8 := numsB [x.op, x.a, x.b, x.c, x.n, ((x.s.size : Nat) : Int)] ++ sB x.s
def insBs (l : List I) : List UInt8 := (l.map insB).flatten
/-- The bytes of code. -/
def codeBy (l : List I) : List UInt8 := numB ((l.length : Nat) : Int) ++ insBs l
def putC (l : List I) : List UInt8 := if codeB l = true then codeBy l else []
theorem putC_yes {l : List I} (h : codeB l = true) : putC l = codeBy l := if_pos h
theorem putC_no {l : List I} (h : codeB l = false) : putC l = [] := if_neg (by rw [h]; decide)

theorem s_small {x : I} {N : Int} (h : specOk x N = true) : x.s.size ≤ 12 := by
  unfold Code.specOk at h
  simp only [Bool.and_eq_true] at h
  have h6 := h.2.2.2.2.2.1
  by_cases ho : x.op = 2
  · rw [if_pos ho] at h6
    unfold Atom.atomB at h6
    simp only [Bool.and_eq_true] at h6
    exact (of_decide_eq_true h6.2).2
  · rw [if_neg ho] at h6
    have : (sB x.s).length = 0 := by rw [List.isEmpty_iff.1 h6 |> (fun e => show sB x.s = [] from e)]; rfl
    rw [sB_len] at this
    omega
theorem codeB_all {l : List I} (h : codeB l = true) : ∀ x ∈ l, specOk x l.length = true := by
  unfold Code.codeB at h
  simp only [Bool.and_eq_true] at h
  exact fun x hx => List.all_eq_true.1 h.2.2 x hx
theorem codeB_len {l : List I} (h : codeB l = true) : 1 ≤ l.length ∧ l.length ≤ 200 := by
  unfold Code.codeB at h
  simp only [Bool.and_eq_true] at h
  exact of_decide_eq_true h.1
theorem code_small {l : List I} (h : codeB l = true) : ∀ x ∈ l, x.s.size ≤ 12 := fun x hx => s_small (codeB_all h x hx)
theorem insB_len {x : I} (h : x.s.size ≤ 12) : (insB x).length ≤ 36 := by
  have := numsB_len [x.op, x.a, x.b, x.c, x.n, ((x.s.size : Nat) : Int)]
  unfold insB
  rw [List.length_append, sB_len]
  simp at this
  omega
theorem insBs_len : ∀ (l : List I), (∀ x ∈ l, x.s.size ≤ 12) → (insBs l).length ≤ 36 * l.length
  | [], _ => by simp [insBs]
  | x :: l, h => by
    have h1 := insB_len (h x (List.mem_cons_self ..))
    have h2 := insBs_len l (fun y hy => h y (List.mem_cons_of_mem _ hy))
    have e : insBs (x :: l) = insB x ++ insBs l := rfl
    rw [e, List.length_append, List.length_cons]; omega
theorem codeBy_len {l : List I} (h : codeB l = true) : (codeBy l).length ≤ 7204 := by
  have h1 := num_len ((l.length : Nat) : Int)
  have h2 := insBs_len l (code_small h)
  have h3 := codeB_len h
  unfold codeBy
  rw [List.length_append]; omega
theorem putC_len (l : List I) : (putC l).length ≤ 7204 := by
  cases h : codeB l with
  | true => rw [putC_yes h]; exact codeBy_len h
  | false => rw [putC_no h]; simp
theorem ins_next {l : List I} {k : Nat} (h : k < l.length) : insBs (l.drop k) = insB l[k] ++ insBs (l.drop (k + 1)) := by
  rw [List.drop_eq_getElem_cons h]; rfl
theorem ins_end (l : List I) : insBs (l.drop l.length) = [] := by rw [List.drop_length]; rfl
theorem ins_parts (x : I) (K R : List UInt8) : K ++ (insB x ++ R) = (((((((K ++ numB x.op) ++ numB x.a) ++ numB x.b) ++ numB x.c) ++ numB x.n) ++ numB ((x.s.size : Nat) : Int)) ++ sB x.s) ++ R := by
  simp [insB, numsB, List.append_assoc]
theorem owB_str {w : World} {base : Nat} {v : Value} {L : List UInt8} {s : ByteArray} {n : Nat} (h : w.ownsRow base 5 1 v n (bcs L ++ (s.data.toList.map fun b => Value.int .u8 b.toNat))) (hn : n = L.length + s.size) : OwB w base v (L ++ sB s) :=
  owB_more (M := sB s) h (by rw [sB_len]; exact hn)
theorem owB_base {w : World} {b b' : Nat} {v : Value} {L : List UInt8} (h : OwB w b v L) (hb : b' ≤ b) : OwB w b' v L := by
  refine ⟨h.1, ?_⟩
  rcases h.2 with h | ⟨g, c, cur, e, hg, rest⟩
  · exact .inl h
  · exact .inr ⟨g, c, cur, e, Nat.le_trans hb hg, rest⟩

/-- An append of a string's bytes in a region that draws. -/
theorem step_append_str {P : Program} {w : World} {ops : Array Oper} {o : Oper} {a : Act} {K : Act → World → Prop} {Q : Exit → Act → World → Prop} {E : Prop} (hgd : o.guard = none) (sl x : Operand) (t u : TypeId)
    (ho : o.op = .call { callee := .builtin .append, args := #[sl, x], argTypes := #[t, u] })
    (base : Nat) (e : TypeId) (i : TypeInfo) (ht : P.underlying t = some (.slice e)) (hu : P.underlying u = some .string) (hi : P.info? e = some i) (hz : i.zero = some (.int .u8 0))
    (hsize : i.size = 1) (hby : i.bytes = 1)
    (v : Value) (n : Nat) (xs : List Value) (hs : a.eval sl = v) (hown : w.ownsRow base e 1 v n xs) (s : ByteArray) (hx : a.eval x = .string s)
    (h63 : n + s.size ≤ maxLen) (hbytes : n + s.size ≤ 140737488355328) (hbase : base ≤ w.heap.size)
    (h : ∀ v' w', w'.ownsRow base e 1 v' (n + s.size) (xs ++ Lib.strCells s) → w.grownBy w' v.ownBlock → (v' = .slice none 0 0 ↔ v = .slice none 0 0 ∧ s.size = 0) → K (a.put o.dst v') w') :
    if Region.wanted o (yielded ops a.tmps) = true then Oper.wp P o a w K Q else E := by
  have hw : Region.wanted o (yielded ops a.tmps) = true := by simp [Region.wanted, hgd]
  rw [if_pos hw]
  obtain ⟨v', w', hr, h2, h3, h4⟩ := Lib.run_append_own_string (P := P) w base t u o.type e i ht hu hi hz hsize hby v n xs hown s h63 hbytes hbase
  unfold Oper.wp execOp
  simp only [ho, resolve, invoke, builtin, Sem.run_bind, Sem.run_pure, Result.andThen_ok, List.map_toArray, List.map_cons, List.map_nil, hs, hx, hr]
  exact h v' w' h2 h3 h4
end Go.Proofs.YtgdlkekjbdkjjaaGreatDoor.Cb
namespace Go.Proofs.YtgdlkekjbdkjjaaGreatDoor.Cb
open Go.RowKit
open Go.Proofs.YtgdlkekjbdkjjaaGreatDoor.By
open Go.Proofs.YtgdlkekjbdkjjaaGreatDoor.Code (I codeB specOk RowI SmI Bx6)
set_option linter.unusedVariables false

/-- What a round has in hand: the row K at g, and the instruction in the box X. -/
structure Rs (w wX : World) (X : Nat) (x : I) (g c : Nat) (K : List UInt8) : Prop where
  own : OwB wX w.heap.size (.slice (some ⟨g, 0, none⟩) K.length c) K
  below : Below w.heap.size w wX
  box : Bx6 wX X 0 x
  ne : g ≠ X
theorem Rs.drew {w wX : World} {X : Nat} {x : I} {g c : Nat} {K : List UInt8} (h : Rs w wX X x g c K) : Rs w wX.drew X x g c K := ⟨h.own, h.below.drew, ⟨h.box.c0, h.box.c1, h.box.c2, h.box.c3, h.box.c4, h.box.c5⟩, h.ne⟩
theorem Rs.put {w wX : World} {X : Nat} {x : I} {g c : Nat} {K K' : List UInt8} {n : Int} (h : Rs w wX X x g c K) (hK : K ++ numB n = K') (hl : K.length ≤ 1048590) :
    Calls Tryz.prog 50 #[.slice (some ⟨g, 0, none⟩) K.length c, .int .i64 n] wX fun e w' => ∃ g' c', e = .returned (.slice (some ⟨g', 0, none⟩) K'.length c') ∧ Rs w w' X x g' c' K' := by
  refine (specPut_any g 0 c K n wX h.own.at.1 hl).mono ?_
  rintro e w' ⟨g', c', rfl, ho, hb⟩
  rw [hK] at ho ⊢
  exact ⟨g', c', rfl, owB_base ho h.below.size, h.below.trans (hb.mono h.below.size), h.box.below hb, by have h1 := ho.at.2.1; have h2 := h.box.lt; omega⟩

set_option maxHeartbeats 4000000 in
set_option maxRecDepth 100000 in
theorem specPutC_any (l : List I) (ao : Option Addr) (cap : Nat) (w : World) (hr : RowI w ao l) (hs : SmI maxLen l) (hl : l.length ≤ 9223372036854775807) :
    Calls Tryz.prog 25 #[.slice ao l.length cap] w fun e w' => ∃ g c, e = .returned (.slice (some ⟨g, 0, none⟩) (putC l).length c) ∧ OwB w' w.heap.size (.slice (some ⟨g, 0, none⟩) (putC l).length c) (putC l) ∧ Below w.heap.size w w' := by
  obtain ⟨i0, hi, hz0, hz1, hz2⟩ := parts8 infoU8
  have HI : Hid (Tryz.prog.info? 5 = some i0 ∧ i0.zero = some (.int .u8 0) ∧ i0.size = 1 ∧ i0.bytes = 1) := ⟨hi, hz0, hz1, hz2⟩
  clear hi hz0 hz1 hz2
  have HR : Hid (RowI w ao l) := hr
  have HOK : Hid (Calls Tryz.prog 24 #[.slice ao l.length cap] w fun e w' => e = .returned (.bool (codeB l)) ∧ Below w.heap.size w w') := Code.specCode_any l ao cap w hr hs hl
  clear hr hs
  cases hcb : codeB l with
  | false =>
    rw [hcb] at HOK
    rw [putC_no hcb]
    clear hcb
    go_enter Tryz.func25, Tryz.ntmps25
    go_wp2_with fail
    refine HOK.out.mono ?_
    rintro e w1 ⟨rfl, hb1⟩
    have HB1 : Hid (Below w.heap.size w w1) := hb1
    clear hb1
    go_wp2_with fail
    go_ret
    exact ⟨w1.heap.size, 0, rfl, World.ownsRow_made w1 #[] 0 HB1.out.size (Nat.zero_le _) rfl, HB1.out.alloc HB1.out.size _⟩
  | true =>
    rw [hcb] at HOK
    rw [putC_yes hcb]
    have hlen := codeB_len hcb
    have HSM : Hid (∀ x ∈ l, x.s.size ≤ 12) := code_small hcb
    obtain ⟨N, hN⟩ : ∃ N, codeBy l = N := ⟨_, rfl⟩
    have hNl : N.length ≤ 7204 := by rw [← hN]; exact codeBy_len hcb
    have HN : Hid (codeBy l = N) := hN
    rw [hN]
    obtain ⟨hl1, hl2⟩ := hlen
    clear hcb hN
    go_enter Tryz.func25, Tryz.ntmps25
    go_wp2_with fail
    refine HOK.out.mono ?_
    rintro e w1 ⟨rfl, hb1⟩
    have HB1 : Hid (Below w.heap.size w (w1.alloc (.cells #[] 5))) := hb1.alloc hb1.size _
    clear hb1 HOK
    go_wp2_with fail
    refine (specPut_any w1.heap.size 0 0 [] ((l.length : Nat) : Int) (w1.alloc (.cells #[] 5)) (fun j hj => by simp at hj) (by simp)).mono ?_
    rintro e w2 ⟨g2, c2, rfl, ho2, hb2⟩
    rw [List.nil_append] at ho2 ⊢
    obtain ⟨K0, hK0⟩ : ∃ K0, numB ((l.length : Nat) : Int) = K0 := ⟨_, rfl⟩
    rw [hK0] at ho2 ⊢
    have HK0 : Hid (K0 ++ insBs (l.drop 0) = N) := by show _ = _; rw [← hK0]; exact HN.out
    have HO2 : Hid (OwB w2 w.heap.size (.slice (some ⟨g2, 0, none⟩) K0.length c2) K0) := owB_base ho2 HB1.out.size
    have HB2 : Hid (Below w.heap.size w w2) := HB1.out.trans (hb2.mono HB1.out.size)
    clear ho2 hb2 hK0 HB1
    go_wp2_with fail
    go_loopw [3, 4, 5] (fun v iv _ wr => ∃ (k : Nat) (K : List UInt8) (g c : Nat), k ≤ l.length ∧ iv = .int .i64 k ∧ v = .slice (some ⟨g, 0, none⟩) K.length c ∧ K ++ insBs (l.drop k) = N ∧ OwB wr w.heap.size (.slice (some ⟨g, 0, none⟩) K.length c) K ∧ Below w.heap.size w wr) (fun _ iv _ _ => l.length - (intOf iv).toNat)
    case atStart => exact ⟨0, K0, g2, c2, Nat.zero_le _, rfl, rfl, HK0.out, HO2.out, HB2.out⟩
    case round =>
      obtain ⟨k, K, g, c, hk, rfl, rfl, hK, how, hb⟩ := hrel
      have HK : Hid (K ++ insBs (l.drop k) = N) := hK
      have HOW : Hid (OwB wr w.heap.size (.slice (some ⟨g, 0, none⟩) K.length c) K) := how
      have HB : Hid (Below w.heap.size w wr) := hb
      clear hK how hb
      by_cases hlt : k < l.length
      · rcases HR.out with h | ⟨b, o, rfl, hrow⟩
        · rw [h] at hlt; simp at hlt
        have hbx := (hrow k hlt).below HB.out
        have hsx := HSM.out l[k] (List.getElem_mem hlt)
        have hKn : K ++ (insB l[k] ++ insBs (l.drop (k + 1))) = N := by rw [← ins_next hlt]; exact HK.out
        rw [ins_parts] at hKn
        generalize l[k] = x at hbx hsx hKn
        obtain ⟨op, xa, xb, xc, xn, xs⟩ := x
        simp only at hsx hKn
        obtain ⟨K1, hK1⟩ : ∃ K1, K ++ numB op = K1 := ⟨_, rfl⟩
        rw [hK1] at hKn
        obtain ⟨K2, hK2⟩ : ∃ K2, K1 ++ numB xa = K2 := ⟨_, rfl⟩
        rw [hK2] at hKn
        obtain ⟨K3, hK3⟩ : ∃ K3, K2 ++ numB xb = K3 := ⟨_, rfl⟩
        rw [hK3] at hKn
        obtain ⟨K4, hK4⟩ : ∃ K4, K3 ++ numB xc = K4 := ⟨_, rfl⟩
        rw [hK4] at hKn
        obtain ⟨K5, hK5⟩ : ∃ K5, K4 ++ numB xn = K5 := ⟨_, rfl⟩
        rw [hK5] at hKn
        obtain ⟨K6, hK6⟩ : ∃ K6, K5 ++ numB ((xs.size : Nat) : Int) = K6 := ⟨_, rfl⟩
        rw [hK6] at hKn
        have hle : ∀ (A B : List UInt8) (n : Int), A ++ numB n = B → A.length ≤ B.length := fun A B n h => by rw [← h, List.length_append]; omega
        have h6N : K6.length ≤ 7204 := by
          have := congrArg List.length hKn
          rw [List.length_append, List.length_append] at this; omega
        have L5 : K5.length ≤ 1048590 := by have := hle _ _ _ hK6; omega
        have L4 : K4.length ≤ 1048590 := by have := hle _ _ _ hK5; omega
        have L3 : K3.length ≤ 1048590 := by have := hle _ _ _ hK4; omega
        have L2 : K2.length ≤ 1048590 := by have := hle _ _ _ hK3; omega
        have L1 : K1.length ≤ 1048590 := by have := hle _ _ _ hK2; omega
        have L0 : K.length ≤ 1048590 := by have := hle _ _ _ hK1; omega
        have HKN : Hid ((K6 ++ sB xs) ++ insBs (l.drop (k + 1)) = N) := hKn
        have HC : Hid (_ ∧ _ ∧ _ ∧ _ ∧ _ ∧ _) := ⟨hK1, hK2, hK3, hK4, hK5, hK6⟩
        have HL : Hid (_ ∧ _ ∧ _ ∧ _ ∧ _ ∧ _) := ⟨L0, L1, L2, L3, L4, L5⟩
        have HL6 : Hid (K6.length ≤ 7204) := h6N
        have C3 : Hid (K6.length + xs.size ≤ maxLen) := by show _ ≤ _; unfold maxLen; omega
        have C4 : Hid (K6.length + xs.size ≤ 140737488355328) := by show _ ≤ _; omega
        have d0 := hbx.c0
        have d1 := hbx.c1
        have d2 := hbx.c2
        have d3 := hbx.c3
        have d4 := hbx.c4
        have d5 := hbx.c5
        have hs0 : Rs w (wr.alloc (.cells #[.int .i64 op, .int .i64 xa, .int .i64 xb, .int .i64 xc, .int .i64 xn, .string xs] 47)) wr.heap.size ⟨op, xa, xb, xc, xn, xs⟩ g c K := by
          have hq := fun i => World.cell?_alloc_new wr #[.int .i64 op, .int .i64 xa, .int .i64 xb, .int .i64 xc, .int .i64 xn, .string xs] 47 i
          exact ⟨HOW.out.below ((Below.refl _ _).alloc (Nat.le_refl _) _), HB.out.alloc HB.out.size _, ⟨hq 0, hq 1, hq 2, hq 3, hq 4, hq 5⟩, by have := HOW.out.at.2.2.1; omega⟩
        have HS0 : Hid (Rs w (wr.alloc (.cells #[.int .i64 op, .int .i64 xa, .int .i64 xb, .int .i64 xc, .int .i64 xn, .string xs] 47)) wr.heap.size ⟨op, xa, xb, xc, xn, xs⟩ g c K) := hs0
        clear hK1 hK2 hK3 hK4 hK5 hK6 hKn hle h6N L0 L1 L2 L3 L4 L5 hbx hrow hs0
        go_wp2_with fail
        have hs0 := HS0.out
        generalize (wr.alloc (.cells #[.int .i64 op, .int .i64 xa, .int .i64 xb, .int .i64 xc, .int .i64 xn, .string xs] 47)) = wa at *
        have e0 := hs0.box.c0
        have e1 := hs0.box.c1
        have e2 := hs0.box.c2
        have e3 := hs0.box.c3
        have e4 := hs0.box.c4
        have e5 := hs0.box.c5
        clear d0 d1 d2 d3 d4 d5
        generalize wr.heap.size = X at *
        go_region_held3 (fun w' => w'.cell? ⟨X, 0, none⟩ = some (.int .i64 op) ∧ w'.cell? ⟨X, 1, none⟩ = some (.int .i64 xa) ∧ w'.cell? ⟨X, 2, none⟩ = some (.int .i64 xb) ∧ w'.cell? ⟨X, 3, none⟩ = some (.int .i64 xc) ∧ w'.cell? ⟨X, 4, none⟩ = some (.int .i64 xn)) (first | (refine ⟨?_, ?_, ?_, ?_, ?_⟩ <;> assumption) | go_keep)
          (first
            | (go_at_call 50; (with_reducible refine (Rs.put (w := w) (X := X) (x := ⟨op, xa, xb, xc, xn, xs⟩) (K := K) ?_ HC.out.1 HL.out.1).mono ?_); (focus (first | exact hs0 | exact hs0.drew)); rintro e w_1 ⟨g_1, c_1, rfl, hs1⟩; have f0 := hs1.box.c0; have f1 := hs1.box.c1; have f2 := hs1.box.c2; have f3 := hs1.box.c3; have f4 := hs1.box.c4)
            | (go_at_call 50; (with_reducible refine (Rs.put (w := w) (X := X) (x := ⟨op, xa, xb, xc, xn, xs⟩) (K := K1) ?_ HC.out.2.1 HL.out.2.1).mono ?_); (focus (first | exact hs1 | exact hs1.drew)); rintro e w_2 ⟨g_2, c_2, rfl, hs2⟩; have f0 := hs2.box.c0; have f1 := hs2.box.c1; have f2 := hs2.box.c2; have f3 := hs2.box.c3; have f4 := hs2.box.c4)
            | (go_at_call 50; (with_reducible refine (Rs.put (w := w) (X := X) (x := ⟨op, xa, xb, xc, xn, xs⟩) (K := K2) ?_ HC.out.2.2.1 HL.out.2.2.1).mono ?_); (focus (first | exact hs2 | exact hs2.drew)); rintro e w_3 ⟨g_3, c_3, rfl, hs3⟩; have f0 := hs3.box.c0; have f1 := hs3.box.c1; have f2 := hs3.box.c2; have f3 := hs3.box.c3; have f4 := hs3.box.c4)
            | (go_at_call 50; (with_reducible refine (Rs.put (w := w) (X := X) (x := ⟨op, xa, xb, xc, xn, xs⟩) (K := K3) ?_ HC.out.2.2.2.1 HL.out.2.2.2.1).mono ?_); (focus (first | exact hs3 | exact hs3.drew)); rintro e w_4 ⟨g_4, c_4, rfl, hs4⟩; have f0 := hs4.box.c0; have f1 := hs4.box.c1; have f2 := hs4.box.c2; have f3 := hs4.box.c3; have f4 := hs4.box.c4)
            | (go_at_call 50; (with_reducible refine (Rs.put (w := w) (X := X) (x := ⟨op, xa, xb, xc, xn, xs⟩) (K := K4) ?_ HC.out.2.2.2.2.1 HL.out.2.2.2.2.1).mono ?_); (focus (first | exact hs4 | exact hs4.drew)); rintro e w_5 ⟨g_5, c_5, rfl, hs5⟩; have f0 := hs5.box.c0; have f1 := hs5.box.c1; have f2 := hs5.box.c2; have f3 := hs5.box.c3; have f4 := hs5.box.c4))
        all_goals
          clear e0 e1 e2 e3 e4 e5 f0 f1 f2 f3 f4
          have e5 := hs5.box.c5
          clear hs0 hs1 hs2 hs3 hs4
          go_wp2_with fail
          go_region_held3 (fun w' => w'.cell? ⟨X, 5, none⟩ = some (.string xs)) (first | assumption | go_keep)
            (first
              | (go_at_call 50; (with_reducible refine (Rs.put (w := w) (X := X) (x := ⟨op, xa, xb, xc, xn, xs⟩) (K := K5) ?_ HC.out.2.2.2.2.2 HL.out.2.2.2.2.2).mono ?_); (focus (first | exact hs5 | exact hs5.drew)); rintro e w_6 ⟨g_6, c_6, rfl, hs6⟩; have f5 := hs6.box.c5)
              | (refine step_append_str rfl (.tmp 44) (.tmp 46) 22 9 rfl w.heap.size 5 i0 undU8 Tryz.underlying9 HI.out.1 HI.out.2.1 HI.out.2.2.1 HI.out.2.2.2 (.slice (some ⟨g_6, 0, none⟩) K6.length c_6) K6.length (bcs K6) ?_ ?_ xs ?_ C3.out C4.out ?_ ?_; (focus (simp [Act.eval]; done)); (focus (first | exact hs6.own | exact hs6.drew.own)); (focus (simp [Act.eval]; done)); (focus (first | exact hs6.below.size | exact hs6.drew.below.size)); intro v7 w7 hown7 hgr7 hnn7; have f6 : w7.cell? ⟨X, 5, none⟩ = some (.string xs) := World.grownBy.cell hgr7 f5 (fun e => hs6.ne (Option.some.inj e).symm)))
          all_goals
            have how7 : OwB w7 w.heap.size v7 (K6 ++ sB xs) := owB_str hown7 rfl
            obtain ⟨g7, c7, rfl⟩ := how7.some (fun e => by have := (hnn7.1 e).1; cases this)
            have HB7 : Hid (Below w.heap.size w w7) := by
              first
                | exact hs6.below.grown hgr7 hs6.below.size (fun k hk => (World.ownsRow.lt hs6.own k hk).1)
                | exact hs6.drew.below.grown hgr7 hs6.drew.below.size (fun k hk => (World.ownsRow.lt hs6.own k hk).1)
            have HO7 : Hid (OwB w7 w.heap.size (.slice (some ⟨g7, 0, none⟩) (K6 ++ sB xs).length c7) (K6 ++ sB xs)) := how7
            clear hown7 hgr7 hnn7 how7 f5 f6 e5 hs5 hs6
            go_wp2_with fail
            go_roundw
            case rel => exact ⟨k + 1, _, g7, c7, by omega, by go_num, rfl, HKN.out, HO7.out, HB7.out⟩
            case measure => simp [intOf]; omega
      · have hke : k = l.length := by omega
        subst hke
        have HE : Hid (K = N) := by
          have := HK.out
          rw [ins_end, List.append_nil] at this
          exact this
        go_wp2_with fail
        go_ret
        obtain rfl := HE.out
        exact ⟨g, c, rfl, HOW.out, HB.out⟩
end Go.Proofs.YtgdlkekjbdkjjaaGreatDoor.Cb
namespace Go.Proofs.YtgdlkekjbdkjjaaGreatDoor.By
open Go.RowKit
set_option linter.unusedVariables false

theorem nsAt_one (w : World) (x : Int) (t : TypeId) : NsAt (w.alloc (.cells #[.int .i64 x] t)) w.heap.size [x] := by
  intro j hj
  have : j = 0 := by simpa using hj
  subst this
  rw [World.cell?_alloc_new]; rfl
theorem numsB_one (n : Int) : numsB [n] = numB n := by simp [numsB]

/-- What the law has in hand: the specification's bytes at gs, the argument's copy at g3, the program's bytes at g4. -/
structure Ax (w wx : World) (N : Nat) (M : List UInt8) (gs g3 g4 : Nat) (F3 F4 : Nat → Int) : Prop where
  below : Below w.heap.size w wx
  sp : BAt wx gs 0 M
  xw : Bys wx g3 N F3
  im : Bys wx g4 M.length F4
  l0 : w.heap.size ≤ gs
  l1 : gs < g3
  l2 : g3 < g4
  l3 : g4 < wx.heap.size
theorem Ax.call {w wx wy : World} {N : Nat} {M : List UInt8} {gs g3 g4 : Nat} {F3 F4 : Nat → Int} (s : Ax w wx N M gs g3 g4 F3 F4) (hb : Below wx.heap.size wx wy) : Ax w wy N M gs g3 g4 F3 F4 := by
  have a0 := s.l0
  have a1 := s.l1
  have a2 := s.l2
  have a3 := s.l3
  exact ⟨join8 s.below hb, s.sp.below hb, s.xw.below hb (by omega), s.im.below hb (by omega), a0, a1, a2, Nat.lt_of_lt_of_le a3 hb.size⟩
theorem Ax.markX {w wx wy : World} {N : Nat} {M : List UInt8} {gs g3 g4 : Nat} {F3 F4 G : Nat → Int} (s : Ax w wx N M gs g3 g4 F3 F4) (ht : Turn g3 wx wy) (hi : Bys wy g3 N G) : Ax w wy N M gs g3 g4 G F4 := by
  have a0 := s.l0
  have a1 := s.l1
  have a2 := s.l2
  have a3 := s.l3
  exact ⟨Turn.below s.below s.below.size ht (by omega), s.sp.turn ht (by omega), hi, s.im.turn ht (by omega) (by omega), a0, a1, a2, Nat.lt_of_lt_of_le a3 ht.size⟩
theorem Ax.markI {w wx wy : World} {N : Nat} {M : List UInt8} {gs g3 g4 : Nat} {F3 F4 G : Nat → Int} (s : Ax w wx N M gs g3 g4 F3 F4) (ht : Turn g4 wx wy) (hi : Bys wy g4 M.length G) : Ax w wy N M gs g3 g4 F3 G := by
  have a0 := s.l0
  have a1 := s.l1
  have a2 := s.l2
  have a3 := s.l3
  exact ⟨Turn.below s.below s.below.size ht (by omega), s.sp.turn ht (by omega), s.xw.turn ht (by omega) (by omega), hi, a0, a1, a2, Nat.lt_of_lt_of_le a3 ht.size⟩

end Go.Proofs.YtgdlkekjbdkjjaaGreatDoor.By
namespace Go.Proofs.YtgdlkekjbdkjjaaGreatDoor.Cb
open Go.RowKit
open Go.Proofs.YtgdlkekjbdkjjaaGreatDoor.By
open Go.Proofs.YtgdlkekjbdkjjaaGreatDoor.Code (I codeB specOk RowI SmI Bx6)
set_option linter.unusedVariables false

theorem owB_full {w : World} {base : Nat} {v : Value} {L : List UInt8} (h : OwB w base v L) (hn : L.length ≠ 0) : ∃ g c, v = .slice (some ⟨g, 0, none⟩) L.length c := by
  rcases h.2 with ⟨e, h0⟩ | ⟨g, cap, cur, rfl, _⟩
  · exact absurd h0 hn
  · exact ⟨g, cap, rfl⟩
theorem nsAt_new (w : World) (ns : List Int) (t : TypeId) : NsAt (w.alloc (.cells (ns.map (Value.int .i64)).toArray t)) w.heap.size ns := by
  intro j hj
  rw [World.cell?_alloc_new]
  simp [hj]
theorem ins_cut (x : I) (K R : List UInt8) : K ++ (insB x ++ R) = ((K ++ numsB [x.op, x.a, x.b, x.c, x.n, ((x.s.size : Nat) : Int)]) ++ sB x.s) ++ R := by
  simp [insB, List.append_assoc]
/-- putNums of new numbers onto a row of one's own. -/
theorem putNew {w wr : World} {g c : Nat} {K K' : List UInt8} (ns : List Int) (h : OwB wr w.heap.size (.slice (some ⟨g, 0, none⟩) K.length c) K) (hb : Below w.heap.size w wr) (hK : K ++ numsB ns = K') (hl : K.length + 4 * ns.length ≤ 1048600) (gb : Nat) (hgb : gb = wr.heap.size) (X : Nat) (hX : X < wr.heap.size) (hgX : g ≠ X) :
    Calls Tryz.prog 36 #[.slice (some ⟨g, 0, none⟩) K.length c, .slice (some ⟨gb, 0, none⟩) ns.length ns.length] (wr.alloc (.cells (ns.map (Value.int .i64)).toArray 3)) fun e w' => ∃ g' c', e = .returned (.slice (some ⟨g', 0, none⟩) K'.length c') ∧ OwB w' w.heap.size (.slice (some ⟨g', 0, none⟩) K'.length c') K' ∧ Below w.heap.size w w' ∧ w'.heap[X]? = wr.heap[X]? := by
  subst hgb
  have hlt := h.at.2.2.1
  have hba : Below w.heap.size w (wr.alloc (.cells (ns.map (Value.int .i64)).toArray 3)) := hb.alloc hb.size _
  refine (putNums_any w.heap.size wr.heap.size ns.length _ K ns _ (h.below ((Below.refl _ _).alloc (Nat.le_refl _) _)) hba.size (nsAt_new wr ns 3) (by simp only [Value.ownBlock]; intro e; injection e with e; omega) (by rw [World.size_alloc]; omega) hl).mono ?_
  rintro e w' ⟨v', rfl, ho, hn, hb2, hbl⟩
  rw [hK] at ho
  obtain ⟨g', c', rfl⟩ := ho.some (fun e => by have := hn e; cases this)
  refine ⟨g', c', rfl, ho, hba.trans hb2, ?_⟩
  rw [hbl X (by rw [World.size_alloc]; omega) (by simp only [Value.ownBlock]; intro e; injection e with e; omega)]
  show (wr.heap.push _)[X]? = _
  rw [Array.getElem?_push, if_neg (by omega)]
/-- putNums of one number onto nothing. -/
theorem putFirst (w : World) (n : Int) (B : Nat) (hB : B ≤ w.heap.size) :
    Calls Tryz.prog 36 #[.slice none 0 0, .slice (some ⟨w.heap.size, 0, none⟩) 1 1] (w.alloc (.cells #[.int .i64 n] 3)) fun e w' => ∃ g' c', e = .returned (.slice (some ⟨g', 0, none⟩) (numB n).length c') ∧ OwB w' B (.slice (some ⟨g', 0, none⟩) (numB n).length c') (numB n) ∧ Below B w w' := by
  have h := putNums_any B w.heap.size 1 (.slice none 0 0) [] [n] (w.alloc (.cells #[.int .i64 n] 3)) (World.ownsRow_nil _ _ _ _) (by rw [World.size_alloc]; omega) (nsAt_one w n 3) (by simp [Value.ownBlock]) (by rw [World.size_alloc]; omega) (by simp)
  refine h.mono ?_
  rintro e w' ⟨v', rfl, ho, hn, hb2, _⟩
  rw [List.nil_append, numsB_one] at ho
  have h1 := num_len n
  obtain ⟨g', c', rfl⟩ := owB_full ho (by omega)
  exact ⟨g', c', rfl, ho, ((Below.refl B w).alloc hB _).trans hb2⟩

set_option maxHeartbeats 4000000 in
set_option maxRecDepth 100000 in
theorem implPutC_any (l : List I) (ao : Option Addr) (cap : Nat) (w : World) (hr : RowI w ao l) (hs : SmI maxLen l) (hl : l.length ≤ 9223372036854775807) (hS : Code.Shp w) (hP : Code.Pow w) (hE : Es.Ety w) :
    Calls Tryz.prog 14 #[.slice ao l.length cap] w fun e w' => ∃ g c, e = .returned (.slice (some ⟨g, 0, none⟩) (putC l).length c) ∧ OwB w' w.heap.size (.slice (some ⟨g, 0, none⟩) (putC l).length c) (putC l) ∧ Below w.heap.size w w' := by
  obtain ⟨i0, hi, hz0, hz1, hz2⟩ := parts8 infoU8
  have HI : Hid (Tryz.prog.info? 5 = some i0 ∧ i0.zero = some (.int .u8 0) ∧ i0.size = 1 ∧ i0.bytes = 1) := ⟨hi, hz0, hz1, hz2⟩
  clear hi hz0 hz1 hz2
  have HR : Hid (RowI w ao l) := hr
  have HOK : Hid (Calls Tryz.prog 11 #[.slice ao l.length cap] w fun e w' => e = .returned (.bool (codeB l)) ∧ Below w.heap.size w w') := Code.implCode_any l ao cap w hr hs hl hS hP hE
  clear hr hs hS hP hE
  cases hcb : codeB l with
  | false =>
    rw [hcb] at HOK
    rw [putC_no hcb]
    clear hcb
    go_enter Tryz.func14, Tryz.ntmps14
    go_wp2_with fail
    refine HOK.out.mono ?_
    rintro e w1 ⟨rfl, hb1⟩
    have HB1 : Hid (Below w.heap.size w w1) := hb1
    clear hb1
    go_wp2_with fail
    go_ret
    exact ⟨w1.heap.size, 0, rfl, World.ownsRow_made w1 #[] 0 HB1.out.size (Nat.zero_le _) rfl, HB1.out.alloc HB1.out.size _⟩
  | true =>
    rw [hcb] at HOK
    rw [putC_yes hcb]
    have hlen := codeB_len hcb
    have HSM : Hid (∀ x ∈ l, x.s.size ≤ 12) := code_small hcb
    obtain ⟨N, hN⟩ : ∃ N, codeBy l = N := ⟨_, rfl⟩
    have hNl : N.length ≤ 7204 := by rw [← hN]; exact codeBy_len hcb
    have HN : Hid (codeBy l = N) := hN
    rw [hN]
    obtain ⟨hl1, hl2⟩ := hlen
    clear hcb hN
    go_enter Tryz.func14, Tryz.ntmps14
    go_wp2_with fail
    refine HOK.out.mono ?_
    rintro e w1 ⟨rfl, hb1⟩
    have HB1 : Hid (Below w.heap.size w w1) := hb1
    clear hb1 HOK
    go_wp2_with fail
    refine (putFirst w1 ((l.length : Nat) : Int) w.heap.size HB1.out.size).mono ?_
    rintro e w2 ⟨g2, c2, rfl, ho2, hb2⟩
    obtain ⟨K0, hK0⟩ : ∃ K0, numB ((l.length : Nat) : Int) = K0 := ⟨_, rfl⟩
    rw [hK0] at ho2 ⊢
    have HK0 : Hid (K0 ++ insBs (l.drop 0) = N) := by show _ = _; rw [← hK0]; exact HN.out
    have HO2 : Hid (OwB w2 w.heap.size (.slice (some ⟨g2, 0, none⟩) K0.length c2) K0) := ho2
    have HB2 : Hid (Below w.heap.size w w2) := HB1.out.trans hb2
    clear ho2 hb2 hK0 HB1
    go_wp2_with fail
    go_loopw [3, 5, 16] (fun v _ iv wr => ∃ (k : Nat) (K : List UInt8) (g c : Nat), k ≤ l.length ∧ iv = .int .i64 k ∧ v = .slice (some ⟨g, 0, none⟩) K.length c ∧ K ++ insBs (l.drop k) = N ∧ OwB wr w.heap.size (.slice (some ⟨g, 0, none⟩) K.length c) K ∧ Below w.heap.size w wr) (fun _ _ iv _ => l.length - (intOf iv).toNat)
    case atStart => exact ⟨0, K0, g2, c2, Nat.zero_le _, rfl, rfl, HK0.out, HO2.out, HB2.out⟩
    case round =>
      obtain ⟨k, K, g, c, hk, rfl, rfl, hK, how, hb⟩ := hrel
      have HK : Hid (K ++ insBs (l.drop k) = N) := hK
      have HOW : Hid (OwB wr w.heap.size (.slice (some ⟨g, 0, none⟩) K.length c) K) := how
      have HB : Hid (Below w.heap.size w wr) := hb
      clear hK how hb
      by_cases hlt : k < l.length
      · rcases HR.out with h | ⟨b, o, rfl, hrow⟩
        · rw [h] at hlt; simp at hlt
        have hbx := (hrow k hlt).below HB.out
        have hsx := HSM.out l[k] (List.getElem_mem hlt)
        have hKn : K ++ (insB l[k] ++ insBs (l.drop (k + 1))) = N := by rw [← ins_next hlt]; exact HK.out
        rw [ins_cut] at hKn
        generalize l[k] = x at hbx hsx hKn
        obtain ⟨op, xa, xb, xc, xn, xs⟩ := x
        simp only at hsx hKn
        obtain ⟨K6, hK6⟩ : ∃ K6, K ++ numsB [op, xa, xb, xc, xn, ((xs.size : Nat) : Int)] = K6 := ⟨_, rfl⟩
        rw [hK6] at hKn
        have h6N : K6.length ≤ 7204 := by
          have := congrArg List.length hKn
          rw [List.length_append, List.length_append] at this; omega
        have L0 : K.length ≤ 7204 := by have := congrArg List.length hK6; rw [List.length_append] at this; omega
        have HKN : Hid ((K6 ++ sB xs) ++ insBs (l.drop (k + 1)) = N) := hKn
        have HK6 : Hid (K ++ numsB [op, xa, xb, xc, xn, ((xs.size : Nat) : Int)] = K6) := hK6
        have HL : Hid (K.length ≤ 7204) := L0
        have C3 : Hid (K6.length + xs.size ≤ maxLen) := by show _ ≤ _; unfold maxLen; omega
        have C4 : Hid (K6.length + xs.size ≤ 140737488355328) := by show _ ≤ _; omega
        have d0 := hbx.c0
        have d1 := hbx.c1
        have d2 := hbx.c2
        have d3 := hbx.c3
        have d4 := hbx.c4
        have d5 := hbx.c5
        have HBA : Hid (Below w.heap.size w (wr.alloc (.cells #[.int .i64 op, .int .i64 xa, .int .i64 xb, .int .i64 xc, .int .i64 xn, .string xs] 47))) := HB.out.alloc HB.out.size _
        have HOA : Hid (OwB (wr.alloc (.cells #[.int .i64 op, .int .i64 xa, .int .i64 xb, .int .i64 xc, .int .i64 xn, .string xs] 47)) w.heap.size (.slice (some ⟨g, 0, none⟩) K.length c) K) := HOW.out.below ((Below.refl _ _).alloc (Nat.le_refl _) _)
        clear hK6 hKn h6N L0 hbx hrow
        go_wp2_with fail
        have HQ : Hid (∀ i, (wr.alloc (.cells #[.int .i64 op, .int .i64 xa, .int .i64 xb, .int .i64 xc, .int .i64 xn, .string xs] 47)).cell? ⟨wr.heap.size, i, none⟩ = (#[.int .i64 op, .int .i64 xa, .int .i64 xb, .int .i64 xc, .int .i64 xn, .string xs] : Array Value)[i]?) := fun i => World.cell?_alloc_new wr _ _ i
        have hsz : (wr.alloc (.cells #[.int .i64 op, .int .i64 xa, .int .i64 xb, .int .i64 xc, .int .i64 xn, .string xs] 47)).heap.size = wr.heap.size + 1 := World.size_alloc _ _
        have hgl := HOW.out.at.2.2.1
        refine (putNew [op, xa, xb, xc, xn, ((xs.size : Nat) : Int)] HOA.out HBA.out HK6.out (by have := HL.out; simp; omega) (wr.heap.size + 1) hsz.symm wr.heap.size (by rw [hsz]; omega) (by omega)).mono ?_
        rintro e w3 ⟨g3, c3, rfl, ho3, hb3, hx3⟩
        have q5 : w3.cell? ⟨wr.heap.size, 5, none⟩ = some (.string xs) := by
          rw [World.cell?_of_block (w := wr.alloc (.cells #[.int .i64 op, .int .i64 xa, .int .i64 xb, .int .i64 xc, .int .i64 xn, .string xs] 47)) hx3]; exact HQ.out 5
        have HO3 : Hid (OwB w3 w.heap.size (.slice (some ⟨g3, 0, none⟩) K6.length c3) K6) := ho3
        have HB3 : Hid (Below w.heap.size w w3) := hb3
        clear hsz hgl ho3 hb3 hx3 d0 d1 d2 d3 d4 d5
        go_wp2_with (at_builtin; refine Lib.wpList_append_own_string _ rfl _ _ 22 9 rfl w.heap.size 5 i0 undU8 Tryz.underlying9 HI.out.1 HI.out.2.1 HI.out.2.2.1 HI.out.2.2.2 _ K6.length (bcs K6) rfl HO3.out xs rfl C3.out C4.out HB3.out.size ?_; intro v7 w7 hown7 hgr7 hnn7)
        have how7 : OwB w7 w.heap.size v7 (K6 ++ sB xs) := owB_str hown7 rfl
        obtain ⟨g7, c7, rfl⟩ := how7.some (fun e => by have := (hnn7.1 e).1; cases this)
        have HB7 : Hid (Below w.heap.size w w7) := HB3.out.grown hgr7 HB3.out.size (fun k hk => (World.ownsRow.lt HO3.out k hk).1)
        have HO7 : Hid (OwB w7 w.heap.size (.slice (some ⟨g7, 0, none⟩) (K6 ++ sB xs).length c7) (K6 ++ sB xs)) := how7
        clear hown7 hgr7 hnn7 how7
        go_wp2_with fail
        go_roundw
        case rel => exact ⟨k + 1, _, g7, c7, by omega, by go_num, rfl, HKN.out, HO7.out, HB7.out⟩
        case measure => simp [intOf]; omega
      · have hke : k = l.length := by omega
        subst hke
        have HE : Hid (K = N) := by
          have := HK.out
          rw [ins_end, List.append_nil] at this
          exact this
        go_wp2_with fail
        go_ret
        obtain rfl := HE.out
        exact ⟨g, c, rfl, HOW.out, HB.out⟩
end Go.Proofs.YtgdlkekjbdkjjaaGreatDoor.Cb
namespace Go.Proofs.YtgdlkekjbdkjjaaGreatDoor.Cb
open Go.RowKit
open Go.Proofs.YtgdlkekjbdkjjaaGreatDoor.By
open Go.Proofs.YtgdlkekjbdkjjaaGreatDoor.Code (I codeB specOk RowI SmI Bx6)
set_option linter.unusedVariables false

/-- Numbers read one behind the other, and the place behind. -/
def rdNs (L : List UInt8) : Nat → Int → Option (List Int × Int)
  | 0, a => some ([], a)
  | k + 1, a => match getB L a with
    | none => none
    | some (n, e) => match rdNs L k e with
      | none => none
      | some (ns, e') => some (n :: ns, e')
theorem rdNs_len {L : List UInt8} : ∀ {k : Nat} {a e : Int} {ns : List Int}, rdNs L k a = some (ns, e) → ns.length = k := by
  intro k
  induction k with
  | zero => intro a e ns h; simp [rdNs] at h; rw [h.1]; rfl
  | succ k ih =>
    intro a e ns h
    rw [rdNs] at h
    cases hg : getB L a with
    | none => rw [hg] at h; cases h
    | some p =>
      rw [hg] at h
      simp only at h
      cases hr : rdNs L k p.2 with
      | none => rw [hr] at h; cases h
      | some q =>
        rw [hr] at h
        simp only [Option.some.injEq, Prod.mk.injEq] at h
        rw [← h.1, List.length_cons, ih hr]
/-- The place behind lies within. -/
theorem rdNs_at {L : List UInt8} : ∀ {k : Nat} {a e : Int} {ns : List Int}, rdNs L (k + 1) a = some (ns, e) → 0 ≤ e ∧ e ≤ L.length := by
  intro k
  induction k with
  | zero =>
    intro a e ns h
    rw [rdNs] at h
    cases hg : getB L a with
    | none => rw [hg] at h; cases h
    | some p =>
      rw [hg] at h
      have hb := get_back (y := p.1) (e := p.2) hg
      simp only [rdNs, Option.some.injEq, Prod.mk.injEq] at h
      rw [← h.2]; omega
  | succ k ih =>
    intro a e ns h
    rw [rdNs] at h
    cases hg : getB L a with
    | none => rw [hg] at h; cases h
    | some p =>
      rw [hg] at h
      simp only at h
      cases hr : rdNs L (k + 1) p.2 with
      | none => rw [hr] at h; cases h
      | some q =>
        rw [hr] at h
        simp only [Option.some.injEq, Prod.mk.injEq] at h
        have := ih (e := q.2) (ns := q.1) hr
        rw [← h.2]; exact this
/-- One more number read ahead of the rest. -/
def addNs (ns : List Int) (o : Option (List Int × Int)) : Option (List Int × Int) := o.map fun p => (ns ++ p.1, p.2)
theorem addNs_step (L : List UInt8) (ns : List Int) (k : Nat) (a n e : Int) (h : getB L a = some (n, e)) : addNs ns (rdNs L (k + 1) a) = addNs (ns ++ [n]) (rdNs L k e) := by
  rw [rdNs, h]
  simp only
  cases rdNs L k e with
  | none => rfl
  | some p => simp [addNs]
theorem addNs_none (L : List UInt8) (ns : List Int) (k : Nat) (a : Int) (h : getB L a = none) : addNs ns (rdNs L (k + 1) a) = none := by
  rw [rdNs, h]; rfl
theorem addNs_nil (o : Option (List Int × Int)) : addNs [] o = o := by cases o <;> simp [addNs]

/-- The bytes from a on, as a text. -/
def cutS (L : List UInt8) (a n : Nat) : ByteArray := ⟨((L.drop a).take n).toArray⟩
theorem cutS_size (L : List UInt8) (a n : Nat) (h : a + n ≤ L.length) : (cutS L a n).size = n := by
  show ((L.drop a).take n).toArray.size = n
  simp; omega
/-- An instruction read; m is how long a text may be. -/
def rdI (L : List UInt8) (m : Int) (a : Int) : Option (I × Int) := match rdNs L 6 a with
  | some ([op, xa, xb, xc, xn, sz], e) => if 0 ≤ sz ∧ sz ≤ m ∧ sz ≤ (L.length : Int) - e then some (⟨op, xa, xb, xc, xn, cutS L e.toNat sz.toNat⟩, e + sz) else none
  | _ => none
def rdIs (L : List UInt8) (m : Int) : Nat → Int → Option (List I × Int)
  | 0, a => some ([], a)
  | k + 1, a => match rdI L m a with
    | none => none
    | some (x, e) => match rdIs L m k e with
      | none => none
      | some (l, e') => some (x :: l, e')
def addIs (l : List I) (o : Option (List I × Int)) : Option (List I × Int) := o.map fun p => (l ++ p.1, p.2)
theorem addIs_step (L : List UInt8) (m : Int) (l : List I) (k : Nat) (a e : Int) (x : I) (h : rdI L m a = some (x, e)) : addIs l (rdIs L m (k + 1) a) = addIs (l ++ [x]) (rdIs L m k e) := by
  rw [rdIs, h]
  simp only
  cases rdIs L m k e with
  | none => rfl
  | some p => simp [addIs]
theorem addIs_none (L : List UInt8) (m : Int) (l : List I) (k : Nat) (a : Int) (h : rdI L m a = none) : addIs l (rdIs L m (k + 1) a) = none := by
  rw [rdIs, h]; rfl
theorem addIs_nil (o : Option (List I × Int)) : addIs [] o = o := by cases o <;> simp [addIs]
/-- What is asked of what was read. -/
def okC (L : List UInt8) (o : Option (List I × Int)) : Option (List I) := match o with
  | none => none
  | some (l, e) => if e = (L.length : Int) ∧ codeB l = true then some l else none
/-- Code read. -/
def getCm (L : List UInt8) (m : Int) : Option (List I) := match getB L 0 with
  | none => none
  | some (n, e) => if 1 ≤ n ∧ n ≤ 200 then okC L (rdIs L m n.toNat e) else none
/-- What the specification reads, and the program. -/
def getC (L : List UInt8) : Option (List I) := getCm L 12

theorem rdI_size {L : List UInt8} {m a e : Int} {x : I} (h : rdI L m a = some (x, e)) : ((x.s.size : Nat) : Int) ≤ m := by
  unfold rdI at h
  cases hr : rdNs L 6 a with
  | none => rw [hr] at h; cases h
  | some p =>
    obtain ⟨ns, e6⟩ := p
    rw [hr] at h
    have hl := rdNs_len hr
    have ha := rdNs_at hr
    match ns, hl with
    | [op, xa, xb, xc, xn, sz], _ =>
      simp only at h
      by_cases hc : 0 ≤ sz ∧ sz ≤ m ∧ sz ≤ (L.length : Int) - e6
      · rw [if_pos hc] at h
        simp only [Option.some.injEq, Prod.mk.injEq] at h
        rw [← h.1]
        show (((cutS L e6.toNat sz.toNat).size : Nat) : Int) ≤ m
        rw [cutS_size _ _ _ (by omega)]
        omega
      · rw [if_neg hc] at h; cases h
theorem rdI_more {L : List UInt8} {m a e : Int} {x : I} (hm : m ≤ L.length + 100) (h : rdI L m a = some (x, e)) (m' : Int) (hx : ((x.s.size : Nat) : Int) ≤ m') : rdI L m' a = some (x, e) := by
  unfold rdI at h ⊢
  cases hr : rdNs L 6 a with
  | none => rw [hr] at h; cases h
  | some p =>
    obtain ⟨ns, e6⟩ := p
    rw [hr] at h
    have hl := rdNs_len hr
    have ha := rdNs_at hr
    match ns, hl with
    | [op, xa, xb, xc, xn, sz], _ =>
      simp only at h ⊢
      by_cases hc : 0 ≤ sz ∧ sz ≤ m ∧ sz ≤ (L.length : Int) - e6
      · rw [if_pos hc] at h
        have h2 := h
        simp only [Option.some.injEq, Prod.mk.injEq] at h2
        rw [← h2.1] at hx
        have hx2 : (((cutS L e6.toNat sz.toNat).size : Nat) : Int) ≤ m' := hx
        rw [cutS_size _ _ _ (by omega)] at hx2
        rw [if_pos (by omega)]; exact h
      · rw [if_neg hc] at h; cases h
theorem rdIs_more {L : List UInt8} {m m' : Int} (hm : m ≤ L.length + 100) : ∀ {k : Nat} {a e : Int} {l : List I}, rdIs L m k a = some (l, e) → (∀ x ∈ l, ((x.s.size : Nat) : Int) ≤ m') → rdIs L m' k a = some (l, e) := by
  intro k
  induction k with
  | zero => intro a e l h _; exact h
  | succ k ih =>
    intro a e l h hx
    rw [rdIs] at h ⊢
    cases hg : rdI L m a with
    | none => rw [hg] at h; cases h
    | some p =>
      obtain ⟨x, e1⟩ := p
      rw [hg] at h
      simp only at h
      cases hr : rdIs L m k e1 with
      | none => rw [hr] at h; cases h
      | some q =>
        obtain ⟨l2, e2⟩ := q
        rw [hr] at h
        have h3 := h
        simp only [Option.some.injEq, Prod.mk.injEq] at h3
        have hxx : ∀ y ∈ x :: l2, ((y.s.size : Nat) : Int) ≤ m' := by rw [h3.1]; exact hx
        rw [rdI_more hm hg m' (hxx x (List.mem_cons_self ..))]
        simp only
        rw [ih hr (fun y hy => hxx y (List.mem_cons_of_mem _ hy))]
        exact h
theorem rdIs_small {L : List UInt8} {m : Int} : ∀ {k : Nat} {a e : Int} {l : List I}, rdIs L m k a = some (l, e) → ∀ x ∈ l, ((x.s.size : Nat) : Int) ≤ m := by
  intro k
  induction k with
  | zero => intro a e l h x hx; simp [rdIs] at h; rw [h.1] at hx; cases hx
  | succ k ih =>
    intro a e l h x hx
    rw [rdIs] at h
    cases hg : rdI L m a with
    | none => rw [hg] at h; cases h
    | some p =>
      obtain ⟨y, e1⟩ := p
      rw [hg] at h
      simp only at h
      cases hr : rdIs L m k e1 with
      | none => rw [hr] at h; cases h
      | some q =>
        obtain ⟨l2, e2⟩ := q
        rw [hr] at h
        simp only [Option.some.injEq, Prod.mk.injEq] at h
        rw [← h.1] at hx
        rcases List.mem_cons.1 hx with rfl | hx
        · exact rdI_size hg
        · exact ih hr x hx
theorem okC_some {L : List UInt8} {o : Option (List I × Int)} {l : List I} (h : okC L o = some l) : o = some (l, (L.length : Int)) ∧ codeB l = true := by
  unfold okC at h
  cases o with
  | none => cases h
  | some p =>
    obtain ⟨l2, e⟩ := p
    simp only at h
    by_cases hc : e = (L.length : Int) ∧ codeB l2 = true
    · rw [if_pos hc] at h
      injection h with h
      subst h
      rw [hc.1]; exact ⟨rfl, hc.2⟩
    · rw [if_neg hc] at h; cases h
theorem okC_of {L : List UInt8} {l : List I} (h : codeB l = true) : okC L (some (l, (L.length : Int))) = some l := by
  exact if_pos ⟨rfl, h⟩
/-- However long a text may be for a while: the same is read. -/
theorem get_any (L : List UInt8) (m : Int) (h12 : 12 ≤ m) (hm : m ≤ L.length + 100) : getCm L m = getC L := by
  unfold getC getCm
  cases hg : getB L 0 with
  | none => rfl
  | some p =>
    obtain ⟨n, e⟩ := p
    simp only
    by_cases hn : 1 ≤ n ∧ n ≤ 200
    · rw [if_pos hn, if_pos hn]
      cases h1 : okC L (rdIs L m n.toNat e) with
      | some l =>
        obtain ⟨h2, h3⟩ := okC_some h1
        have hs : ∀ x ∈ l, ((x.s.size : Nat) : Int) ≤ 12 := fun x hx => by have := code_small h3 x hx; omega
        rw [rdIs_more hm h2 hs, okC_of h3]
      | none =>
        cases h2 : okC L (rdIs L 12 n.toNat e) with
        | none => rfl
        | some l =>
          obtain ⟨h3, h4⟩ := okC_some h2
          have hs : ∀ x ∈ l, ((x.s.size : Nat) : Int) ≤ m := fun x hx => by have := rdIs_small h3 x hx; omega
          rw [rdIs_more (by omega) h3 hs, okC_of h4] at h1
          cases h1
    · rw [if_neg hn, if_neg hn]
end Go.Proofs.YtgdlkekjbdkjjaaGreatDoor.Cb
namespace Go.Proofs.YtgdlkekjbdkjjaaGreatDoor.Cb
open Go.RowKit
open Go.Proofs.YtgdlkekjbdkjjaaGreatDoor.By
open Go.Proofs.YtgdlkekjbdkjjaaGreatDoor.Code (I codeB specOk RowI SmI Bx6)
set_option linter.unusedVariables false

/-- Where the j-th of six numbers is wanted. -/
def pAt (X Y j : Nat) : Addr := if j < 5 then ⟨X, j, none⟩ else ⟨Y, 0, none⟩
/-- What getNums has done so far: the numbers ns stand where they are wanted. -/
structure Gn (w wr : World) (X Y : Nat) (ns : List Int) : Prop where
  os : wr.os = w.os
  tape : wr.tape = w.tape
  output : wr.output = w.output
  size : wr.heap.size = w.heap.size
  blk : ∀ k, k ≠ X → k ≠ Y → wr.heap[k]? = w.heap[k]?
  old : ∀ j, j < 6 → ∃ v, wr.cell? (pAt X Y j) = some v
  new : ∀ j (h : j < ns.length), j < 6 → wr.cell? (pAt X Y j) = some (.int .i64 ns[j])
  last : wr.cell? ⟨X, 5, none⟩ = w.cell? ⟨X, 5, none⟩
  fx : ∀ o, wr.frozen? ⟨X, o, none⟩ = false
  fy : ∀ o, wr.frozen? ⟨Y, o, none⟩ = false
theorem pAt_ne {X Y i j : Nat} (hXY : X ≠ Y) (hi : i < 6) (hj : j < 6) (h : j ≠ i) : pAt X Y j ≠ pAt X Y i := by
  unfold pAt
  intro e
  by_cases h1 : j < 5
  · by_cases h2 : i < 5
    · rw [if_pos h1, if_pos h2] at e; injection e with _ e; omega
    · rw [if_pos h1, if_neg h2] at e; injection e with e; omega
  · by_cases h2 : i < 5
    · rw [if_neg h1, if_pos h2] at e; injection e with e; omega
    · omega
theorem Gn.put {w wr : World} {X Y : Nat} {ns : List Int} (h : Gn w wr X Y ns) (hXY : X ≠ Y) (hl : ns.length < 6) (n : Int) : Gn w (wr.setCell (pAt X Y ns.length) (.int .i64 n)) X Y (ns ++ [n]) := by
  have hblk : (pAt X Y ns.length).block = X ∨ (pAt X Y ns.length).block = Y := by unfold pAt; split <;> simp
  have h5 : (⟨X, 5, none⟩ : Addr) ≠ pAt X Y ns.length := by
    unfold pAt; split
    · intro e; injection e with _ e; omega
    · intro e; injection e with e; omega
  refine ⟨h.os, h.tape, h.output, by rw [World.size_setCell]; exact h.size, fun k hX hY => ?_, fun j hj => ?_, fun j hj hj6 => ?_, ?_, fun o => by rw [World.frozen?_setCell]; exact h.fx o, fun o => by rw [World.frozen?_setCell]; exact h.fy o⟩
  · rw [Below.heap_setCell wr (pAt X Y ns.length) _ k (by rcases hblk with e | e <;> rw [e] <;> assumption)]; exact h.blk k hX hY
  · obtain ⟨v, hv⟩ := h.old j hj
    by_cases e : j = ns.length
    · subst e
      exact ⟨_, World.cell?_setCell_same wr _ _ hv⟩
    · exact ⟨v, by rw [World.cell?_setCell_other (h := (pAt_ne hXY hl hj e).symm)]; exact hv⟩
  · by_cases e : j = ns.length
    · subst e
      obtain ⟨v, hv⟩ := h.old ns.length hl
      rw [World.cell?_setCell_same wr _ _ hv]
      simp
    · have hj2 : j < ns.length := by simp at hj; omega
      rw [World.cell?_setCell_other (h := (pAt_ne hXY hl hj6 e).symm), h.new j hj2 hj6, List.getElem_append_left hj2]
  · rw [World.cell?_setCell_other (h := h5.symm)]; exact h.last

/-- What getNums answers. -/
def GnP (L : List UInt8) (a : Int) (w : World) (X Y : Nat) (e : Ending) (w' : World) : Prop :=
  (∃ ns b, rdNs L 6 a = some (ns, b) ∧ e = .returned (.tuple #[.int .i64 b, .bool true]) ∧ Gn w w' X Y ns) ∨
  (rdNs L 6 a = none ∧ e = .returned (.tuple #[.int .i64 0, .bool false]) ∧ ∃ ns, Gn w w' X Y ns)

set_option maxHeartbeats 2000000 in
set_option maxRecDepth 100000 in
theorem getNums_any (ao : Option Addr) (cap : Nat) (L : List UInt8) (a : Int) (X Y P : Nat) (w : World) (hr : L.length ≠ 0 → ∃ b o, ao = some ⟨b, o, none⟩ ∧ b ≠ X ∧ b ≠ Y ∧ BAt w b o L) (hN : L.length ≤ 1048600) (hcap : L.length ≤ cap) (hXY : X ≠ Y) (hPX : P ≠ X) (hPY : P ≠ Y)
    (hp : ∀ j, j < 6 → w.cell? ⟨P, j, none⟩ = some (.pointer (some (pAt X Y j)))) (hg : Gn w w X Y []) :
    Calls Tryz.prog 53 #[.slice ao L.length cap, .int .i64 a, .slice (some ⟨P, 0, none⟩) 6 6] w fun e w' => GnP L a w X Y e w' := by
  have HR : Hid (L.length ≠ 0 → ∃ b o, ao = some ⟨b, o, none⟩ ∧ b ≠ X ∧ b ≠ Y ∧ BAt w b o L) := hr
  have HP : Hid (∀ j, j < 6 → w.cell? ⟨P, j, none⟩ = some (.pointer (some (pAt X Y j)))) := hp
  have HG : Hid (Gn w w X Y []) := hg
  have HX : Hid (X ≠ Y ∧ P ≠ X ∧ P ≠ Y) := ⟨hXY, hPX, hPY⟩
  have HA0 : Hid (addNs [] (rdNs L 6 a) = rdNs L 6 a) := addNs_nil _
  have HRD : Hid (∀ wr ns, Gn w wr X Y ns → RdB wr ao L) := fun wr ns h h0 => by
    obtain ⟨b, o, e, h1, h2, hb⟩ := HR.out h0
    exact ⟨b, o, e, fun j hj => by rw [World.cell?_of_block (w := w) (h.blk b h1 h2)]; exact hb j hj⟩
  have HPR : Hid (∀ wr ns j, Gn w wr X Y ns → j < 6 → wr.cell? ⟨P, j, none⟩ = some (.pointer (some (pAt X Y j)))) := fun wr ns j h hj => by
    rw [World.cell?_of_block (w := w) (h.blk P HX.out.2.1 HX.out.2.2)]; exact HP.out j hj
  clear hr hXY hPX hPY hp hg
  go_enter Tryz.func53, Tryz.ntmps53
  go_wp2_with fail
  go_loopw [1, 9, 10, 13] (fun av _ _ iv wr => ∃ (ns : List Int) (b : Int), ns.length ≤ 6 ∧ iv = .int .i64 ns.length ∧ av = .int .i64 b ∧ addNs ns (rdNs L (6 - ns.length) b) = rdNs L 6 a ∧ Gn w wr X Y ns) (fun _ _ _ iv _ => 6 - (intOf iv).toNat)
  case atStart => exact ⟨[], a, Nat.zero_le _, rfl, rfl, HA0.out, HG.out⟩
  case round =>
    obtain ⟨ns, b, hl, rfl, rfl, hE, hgn⟩ := hrel
    have HE : Hid (addNs ns (rdNs L (6 - ns.length) b) = rdNs L 6 a) := hE
    have HGN : Hid (Gn w wr X Y ns) := hgn
    by_cases hlt : ns.length < 6
    · have q := HPR.out wr ns ns.length hgn hlt
      obtain ⟨v, hv⟩ := hgn.old ns.length hlt
      have hfz : wr.frozen? (pAt X Y ns.length) = false := by
        unfold pAt; split
        · exact hgn.fx _
        · exact hgn.fy _
      have HRB : Hid (RdB wr ao L) := HRD.out wr ns hgn
      clear hE hgn
      generalize hpp : pAt X Y ns.length = p at *
      have HPP : Hid (pAt X Y ns.length = p) := hpp
      clear hpp
      obtain ⟨pb, po, ps⟩ := p
      obtain rfl : ps = none := World.cell?_spot hv
      cases hgb : getB L b with
      | none =>
        have HN0 : Hid (rdNs L 6 a = none) := by
          show _ = _
          rw [← HE.out, show 6 - ns.length = (5 - ns.length) + 1 by omega]
          exact addNs_none L ns _ b hgb
        have HC : Hid (∀ w', w' = wr → Calls Tryz.prog 27 #[.slice ao L.length cap, .int .i64 b] w' fun e w'' => e = .returned (.tuple #[.int .i64 0, .int .i64 0, .bool false]) ∧ w'' = w') := fun w' h => by
          subst h
          have := implGet_any ao cap L b w' HRB.out hN hcap
          rw [hgb] at this; exact this
        have HG2 : Hid (Gn w (wr.setCell ⟨pb, po, none⟩ (.int .i64 0)) X Y (ns ++ [0])) := by
          have := HGN.out.put HX.out.1 hlt 0
          rw [HPP.out] at this; exact this
        clear hgb
        go_wp2_with (go_at_call 27; refine (HC.out _ rfl).mono ?_; rintro e w2 ⟨rfl, hw2⟩; obtain rfl := hw2.symm)
        refine bodyPost_ret (v := .tuple #[.int .i64 0, .bool false]) (by simp [results, Tryz.results53, go_sem]) rfl (.inr ⟨HN0.out, rfl, _, HG2.out⟩)
      | some q2 =>
        obtain ⟨n, e⟩ := q2
        have HC : Hid (∀ w', w' = wr → Calls Tryz.prog 27 #[.slice ao L.length cap, .int .i64 b] w' fun e' w'' => e' = .returned (.tuple #[.int .i64 n, .int .i64 e, .bool true]) ∧ w'' = w') := fun w' h => by
          subst h
          have := implGet_any ao cap L b w' HRB.out hN hcap
          rw [hgb] at this; exact this
        have HG2 : Hid (Gn w (wr.setCell ⟨pb, po, none⟩ (.int .i64 n)) X Y (ns ++ [n])) := by
          have := HGN.out.put HX.out.1 hlt n
          rw [HPP.out] at this; exact this
        have HE2 : Hid (addNs (ns ++ [n]) (rdNs L (6 - (ns ++ [n]).length) e) = rdNs L 6 a) := by
          show _ = _
          rw [← HE.out, show 6 - ns.length = (5 - ns.length) + 1 by omega, addNs_step L ns _ b n e hgb]
          congr 2
          simp
          try omega
        have HL2 : Hid ((ns ++ [n]).length = ns.length + 1) := by show _ = _; simp
        clear hgb
        go_wp2_with (go_at_call 27; refine (HC.out _ rfl).mono ?_; rintro e w2 ⟨rfl, hw2⟩; obtain rfl := hw2.symm)
        go_roundw
        case rel => exact ⟨ns ++ [n], e, by rw [HL2.out]; omega, by rw [HL2.out]; go_num, rfl, HE2.out, HG2.out⟩
        case measure => simp [intOf]; omega
    · have h6 : ns.length = 6 := by omega
      have HEE : Hid (rdNs L 6 a = some (ns, b)) := by
        have := HE.out
        rw [h6] at this
        show _ = _
        rw [← this]; simp [rdNs, addNs]
      clear hE hgn
      rw [h6]
      go_wp2_with fail
      refine bodyPost_ret (v := .tuple #[.int .i64 b, .bool true]) (by simp [results, Tryz.results53, go_sem]) rfl (.inl ⟨ns, b, HEE.out, rfl, HGN.out⟩)

/-- What getIns answers. -/
def ansI (o : Option (I × Int)) : Value := match o with
  | none => .tuple #[.agg #[.int .i64 0, .int .i64 0, .int .i64 0, .int .i64 0, .int .i64 0, .string ⟨#[]⟩], .int .i64 0, .bool false]
  | some (x, e) => .tuple #[.agg #[.int .i64 x.op, .int .i64 x.a, .int .i64 x.b, .int .i64 x.c, .int .i64 x.n, .string x.s], .int .i64 e, .bool true]
theorem bat_part {w : World} {b o : Nat} {L : List UInt8} (h : BAt w b o L) (i n : Nat) : BAt w b (o + i) ((L.drop i).take n) := fun j hj => by
  have hj2 : i + j < L.length := by simp at hj; omega
  have := h (i + j) hj2
  rw [Nat.add_assoc]
  simp only [List.getElem_take, List.getElem_drop]
  exact this
theorem conv_part (W : World) (b o n cap : Nat) (l : List UInt8) (hl : l.length = n) (h : BAt W b o l) :
    (convert 22 9 (.slice (some ⟨b, o, none⟩) n cap)).run Tryz.prog W = .ok (.string ⟨l.toArray⟩) W := by
  subst hl
  exact run_convert_bytes_back (P := Tryz.prog) W 22 9 5 ⟨b, o, none⟩ cap l Tryz.underlying22 Tryz.underlying5 Tryz.underlying9 (fun j hj => by rw [Addr.add_lit]; exact h j hj)

theorem setBlk {w : World} {R : Nat} {cs : Array Value} {t : TypeId} {f : Nat × Nat} (h : w.heap[R]? = some (.cells cs t f)) {i : Nat} (v : Value) : (w.setCell ⟨R, i, none⟩ v).heap[R]? = some (.cells (cs.setIfInBounds i v) t f) := by
  simp [World.setCell, Array.getElem?_modify, h]
theorem six_blk {w : World} {R : Nat} {a0 b0 c0 d0 e0 g0 : Value} {t : TypeId} {f : Nat × Nat} (h : w.heap[R]? = some (.cells #[a0, b0, c0, d0, e0, g0] t f)) (a b c d e g : Value) :
    ((((((w.setCell ⟨R, 0, none⟩ a).setCell ⟨R, 1, none⟩ b).setCell ⟨R, 2, none⟩ c).setCell ⟨R, 3, none⟩ d).setCell ⟨R, 4, none⟩ e).setCell ⟨R, 5, none⟩ g).heap[R]? = some (.cells #[a, b, c, d, e, g] t f) := by
  rw [setBlk (setBlk (setBlk (setBlk (setBlk (setBlk h a) b) c) d) e) g]; rfl
theorem drew_heap {W : World} {R : Nat} {o : Option Obj} (h : W.heap[R]? = o) : W.drew.heap[R]? = o := h
theorem results_cell_tmp2 {fn : Func} {p u v : Tmp} {ty : TypeId} (h : fn.results = #[.cell p ty, .tmp u, .tmp v]) (tmps : Array Value) (P : Program) (w : World) :
    (results fn tmps).run P w =
      ((asAddr (tmps.getD p undef)).run P w).andThen fun a w₁ => ((loadVar ty a).run P w₁).andThen fun x w₂ => .ok (.tuple #[x, tmps.getD u undef, tmps.getD v undef]) w₂ := by
  simp only [results, h]
  simp [Sem.run_bind, Result.andThen]
theorem res_ins3 {w : World} {R : Nat} {a b c d e g : Value} {tmps : Array Value} {fn : Func} {p : Int} {q : Bool} (hf : fn.results = #[.cell 4 47, .tmp 5, .tmp 6]) (h : w.heap[R]? = some (.cells #[a, b, c, d, e, g] 47 (0, 0)))
    (h4 : tmps.getD 4 undef = .pointer (some ⟨R, 0, none⟩)) (h5 : tmps.getD 5 undef = .int .i64 p) (h6 : tmps.getD 6 undef = .bool q) : (results fn tmps).run Tryz.prog w = .ok (.tuple #[.agg #[a, b, c, d, e, g], .int .i64 p, .bool q]) w := by
  rw [results_cell_tmp2 hf, h4, h5, h6]
  simp [asAddr, Result.andThen, run_loadVar_row w R 47 47 #[a, b, c, d, e, g] (0, 0) _ h Tryz.underlying47 rfl (by kernel_rfl)]
theorem run_cutB (b o len cap i n : Nat) (hc : i + n ≤ cap) (W : World) :
    (Instr.slice 22 (.slice (some ⟨b, o, none⟩) len cap) (some (.int .i64 (i : Int))) (some (.int .i64 ((i : Int) + (n : Int)))) none).run Tryz.prog W = .ok (.slice (some ⟨b, if cap = i then o else o + i, none⟩) n (cap - i)) W := by
  have hs : (sizeOf (Tryz.prog.elem 22)).run Tryz.prog W = .ok 1 W := by kernel_rfl
  have h := run_slice_lh (P := Tryz.prog) (w := W) (t := 22) (a := some ⟨b, o, none⟩) (len := len) (cap := cap) (by kernel_rfl) .i64 .i64 (i : Int) ((i : Int) + (n : Int)) (by omega) (by omega) (by omega)
  rw [h, hs]
  have e1 : ((i : Int) + (n : Int)).toNat = i + n := by omega
  simp only [Result.andThen, sliced, Int.toNat_natCast, e1]
  by_cases hci : cap = i
  · rw [if_pos hci, if_pos hci]; simp
  · rw [if_neg hci, if_neg hci]; simp [Addr.add]

/-- Four new blocks. -/
theorem four_new (w : World) (A B C D : Array Value) (ta tb tc td : TypeId) :
    let W := (((w.alloc (.cells A ta)).alloc (.cells B tb)).alloc (.cells C tc)).alloc (.cells D td)
    W.heap[w.heap.size]? = some (.cells A ta (0, 0)) ∧ W.heap[w.heap.size + 1]? = some (.cells B tb (0, 0)) ∧ W.heap[w.heap.size + 1 + 1]? = some (.cells C tc (0, 0)) ∧ W.heap[w.heap.size + 1 + 1 + 1]? = some (.cells D td (0, 0)) ∧ Below w.heap.size w W ∧ W.heap.size = w.heap.size + 1 + 1 + 1 + 1 := by
  intro W
  have z1 : (w.alloc (.cells A ta)).heap.size = w.heap.size + 1 := World.size_alloc _ _
  have z2 : ((w.alloc (.cells A ta)).alloc (.cells B tb)).heap.size = w.heap.size + 1 + 1 := by rw [World.size_alloc, z1]
  have z3 : (((w.alloc (.cells A ta)).alloc (.cells B tb)).alloc (.cells C tc)).heap.size = w.heap.size + 1 + 1 + 1 := by rw [World.size_alloc, z2]
  have k1 : ∀ k, k < w.heap.size + 1 → ((w.alloc (.cells A ta)).alloc (.cells B tb)).heap[k]? = (w.alloc (.cells A ta)).heap[k]? := fun k hk => ((Below.refl _ _).alloc (Nat.le_refl _) _).block k (by rw [z1]; exact hk)
  have k2 : ∀ k, k < w.heap.size + 1 + 1 → (((w.alloc (.cells A ta)).alloc (.cells B tb)).alloc (.cells C tc)).heap[k]? = ((w.alloc (.cells A ta)).alloc (.cells B tb)).heap[k]? := fun k hk => ((Below.refl _ _).alloc (Nat.le_refl _) _).block k (by rw [z2]; exact hk)
  have k3 : ∀ k, k < w.heap.size + 1 + 1 + 1 → W.heap[k]? = (((w.alloc (.cells A ta)).alloc (.cells B tb)).alloc (.cells C tc)).heap[k]? := fun k hk => ((Below.refl _ _).alloc (Nat.le_refl _) _).block k (by rw [z3]; exact hk)
  refine ⟨?_, ?_, ?_, ?_, (((Below.refl w.heap.size w).alloc (Nat.le_refl _) _).alloc (by rw [World.size_alloc]; omega) _).alloc (by rw [World.size_alloc, World.size_alloc]; omega) _ |>.alloc (by rw [World.size_alloc, World.size_alloc, World.size_alloc]; omega) _, by rw [World.size_alloc, World.size_alloc, World.size_alloc, World.size_alloc]⟩
  · rw [k3 _ (by omega), k2 _ (by omega), k1 _ (by omega)]; exact heap_alloc_new w _
  · rw [k3 _ (by omega), k2 _ (by omega)]
    have := heap_alloc_new (w.alloc (.cells A ta)) (.cells B tb)
    rw [z1] at this; exact this
  · rw [k3 _ (by omega)]
    have := heap_alloc_new ((w.alloc (.cells A ta)).alloc (.cells B tb)) (.cells C tc)
    rw [z2] at this; exact this
  · have := heap_alloc_new (((w.alloc (.cells A ta)).alloc (.cells B tb)).alloc (.cells C tc)) (.cells D td)
    rw [z3] at this; exact this
theorem cell_blk {w : World} {R o : Nat} {cs : Array Value} {t : TypeId} {f : Nat × Nat} (h : w.heap[R]? = some (.cells cs t f)) : w.cell? ⟨R, o, none⟩ = cs[o]? := by simp [World.cell?, h]
theorem free_blk {w : World} {R o : Nat} {cs : Array Value} {t : TypeId} (h : w.heap[R]? = some (.cells cs t (0, 0))) : w.frozen? ⟨R, o, none⟩ = false := by simp [World.frozen?, h]

set_option maxHeartbeats 2000000 in
set_option maxRecDepth 100000 in
theorem getIns_any (ao : Option Addr) (cap : Nat) (L : List UInt8) (a : Int) (w : World) (hr : RdB w ao L) (hN : L.length ≤ 1048600) (hcap : L.length ≤ cap) :
    Calls Tryz.prog 28 #[.slice ao L.length cap, .int .i64 a] w fun e w' => e = .returned (ansI (rdI L (L.length + 100) a)) ∧ Below w.heap.size w w' := by
  have HR : Hid (RdB w ao L) := hr
  clear hr
  go_enter Tryz.func28, Tryz.ntmps28
  go_wp2_with fail
  obtain ⟨b0, b1, b2, b3, hbl, hsz⟩ := four_new w #[.int .i64 0, .int .i64 0, .int .i64 0, .int .i64 0, .int .i64 0, .string ⟨#[]⟩] #[.int .i64 0, .int .i64 0, .int .i64 0, .int .i64 0, .int .i64 0, .string ⟨#[]⟩] #[.int .i64 0] #[.pointer (some ⟨w.heap.size + 1, 0, none⟩), .pointer (some ⟨w.heap.size + 1, 1, none⟩), .pointer (some ⟨w.heap.size + 1, 2, none⟩), .pointer (some ⟨w.heap.size + 1, 3, none⟩), .pointer (some ⟨w.heap.size + 1, 4, none⟩), .pointer (some ⟨w.heap.size + 1 + 1, 0, none⟩)] 47 47 3 92
  generalize ((((w.alloc (.cells #[.int .i64 0, .int .i64 0, .int .i64 0, .int .i64 0, .int .i64 0, .string ⟨#[]⟩] 47)).alloc (.cells #[.int .i64 0, .int .i64 0, .int .i64 0, .int .i64 0, .int .i64 0, .string ⟨#[]⟩] 47)).alloc (.cells #[.int .i64 0] 3)).alloc (.cells #[.pointer (some ⟨w.heap.size + 1, 0, none⟩), .pointer (some ⟨w.heap.size + 1, 1, none⟩), .pointer (some ⟨w.heap.size + 1, 2, none⟩), .pointer (some ⟨w.heap.size + 1, 3, none⟩), .pointer (some ⟨w.heap.size + 1, 4, none⟩), .pointer (some ⟨w.heap.size + 1 + 1, 0, none⟩)] 92)) = W at b0 b1 b2 b3 hbl hsz ⊢
  have hgn : Gn W W (w.heap.size + 1) (w.heap.size + 1 + 1) [] := by
    refine ⟨rfl, rfl, rfl, rfl, fun _ _ _ => rfl, fun j hj => ?_, fun j hj => by simp at hj, rfl, fun o => free_blk b1, fun o => free_blk b2⟩
    unfold pAt
    split
    · rename_i h5
      refine ⟨.int .i64 0, ?_⟩
      rw [cell_blk b1]
      rcases (show j = 0 ∨ j = 1 ∨ j = 2 ∨ j = 3 ∨ j = 4 by omega) with rfl | rfl | rfl | rfl | rfl <;> rfl
    · exact ⟨.int .i64 0, by rw [cell_blk b2]; rfl⟩
  have HB0 : Hid (Below w.heap.size w W ∧ W.heap.size = w.heap.size + 1 + 1 + 1 + 1) := ⟨hbl, hsz⟩
  have HBK : Hid (W.heap[w.heap.size]? = some (.cells #[.int .i64 0, .int .i64 0, .int .i64 0, .int .i64 0, .int .i64 0, .string ⟨#[]⟩] 47 (0, 0)) ∧ W.heap[w.heap.size + 1]? = some (.cells #[.int .i64 0, .int .i64 0, .int .i64 0, .int .i64 0, .int .i64 0, .string ⟨#[]⟩] 47 (0, 0))) := ⟨b0, b1⟩
  have hrd : L.length ≠ 0 → ∃ b o, ao = some ⟨b, o, none⟩ ∧ b ≠ w.heap.size + 1 ∧ b ≠ w.heap.size + 1 + 1 ∧ BAt W b o L := fun h0 => by
    obtain ⟨b, o, e, hb⟩ := HR.out h0
    have hlt := World.block_lt_of_cell? w _ (hb 0 (by omega))
    simp only at hlt
    exact ⟨b, o, e, by omega, by omega, hb.below hbl⟩
  refine (getNums_any ao cap L a (w.heap.size + 1) (w.heap.size + 1 + 1) (w.heap.size + 1 + 1 + 1) W hrd hN hcap (by omega) (by omega) (by omega) (fun j hj => by rw [cell_blk b3]; rcases (show j = 0 ∨ j = 1 ∨ j = 2 ∨ j = 3 ∨ j = 4 ∨ j = 5 by omega) with rfl | rfl | rfl | rfl | rfl | rfl <;> rfl) hgn).mono ?_
  have HRD : Hid (∀ w5 ns, Gn W w5 (w.heap.size + 1) (w.heap.size + 1 + 1) ns → L.length ≠ 0 → ∃ b o, ao = some ⟨b, o, none⟩ ∧ BAt w5 b o L) := fun w5 ns h h0 => by
    obtain ⟨b, o, e, h1, h2, hb⟩ := hrd h0
    exact ⟨b, o, e, fun j hj => by rw [World.cell?_of_block (w := W) (h.blk b h1 h2)]; exact hb j hj⟩
  have HBE : Hid (∀ w5 ns, Gn W w5 (w.heap.size + 1) (w.heap.size + 1 + 1) ns → Below w.heap.size w w5 ∧ w5.heap[w.heap.size]? = some (.cells #[.int .i64 0, .int .i64 0, .int .i64 0, .int .i64 0, .int .i64 0, .string ⟨#[]⟩] 47 (0, 0))) := fun w5 ns h => by
    have hb := HB0.out.1
    exact ⟨⟨h.os.trans hb.os, h.tape.trans hb.tape, h.output.trans hb.output, by rw [h.size]; exact hb.size, fun k hk => (h.blk k (by omega) (by omega)).trans (hb.block k hk)⟩, (h.blk w.heap.size (by omega) (by omega)).trans HBK.out.1⟩
  clear hgn hrd b0 b1 b2 b3 hbl hsz
  generalize hRR : w.heap.size = R at *
  have HRR : Hid (w.heap.size = R) := hRR
  clear hRR
  rintro e w5 hgp
  rcases hgp with ⟨ns, b, hrd, rfl, hgn⟩ | ⟨hrd, rfl, ns, hgn⟩
  · obtain ⟨hb5, hk5⟩ := HBE.out w5 ns hgn
    have hl6 := rdNs_len hrd
    have hat := rdNs_at hrd
    have hx5 : w5.cell? ⟨R + 1, 5, none⟩ = some (.string ⟨#[]⟩) := by rw [hgn.last, cell_blk HBK.out.2]; rfl
    match ns, hl6 with
    | [n0, n1, n2, n3, n4, n5], _ =>
      have q0 : w5.cell? ⟨R + 1, 0, none⟩ = some (.int .i64 n0) := hgn.new 0 (by simp) (by decide)
      have q1 : w5.cell? ⟨R + 1, 1, none⟩ = some (.int .i64 n1) := hgn.new 1 (by simp) (by decide)
      have q2 : w5.cell? ⟨R + 1, 2, none⟩ = some (.int .i64 n2) := hgn.new 2 (by simp) (by decide)
      have q3 : w5.cell? ⟨R + 1, 3, none⟩ = some (.int .i64 n3) := hgn.new 3 (by simp) (by decide)
      have q4 : w5.cell? ⟨R + 1, 4, none⟩ = some (.int .i64 n4) := hgn.new 4 (by simp) (by decide)
      have qy : w5.cell? ⟨R + 1 + 1, 0, none⟩ = some (.int .i64 n5) := hgn.new 5 (by simp) (by decide)
      have fx := hgn.fx
      have HB5 : Hid (Below R w w5) := hb5
      have HK5 : Hid (w5.heap[R]? = some (.cells #[.int .i64 0, .int .i64 0, .int .i64 0, .int .i64 0, .int .i64 0, .string ⟨#[]⟩] 47 (0, 0))) := hk5
      have HRL : Hid (L.length ≠ 0 → ∃ b o, ao = some ⟨b, o, none⟩ ∧ BAt w5 b o L) := HRD.out w5 _ hgn
      have HRDN : Hid (rdNs L 6 a = some ([n0, n1, n2, n3, n4, n5], b)) := hrd
      obtain ⟨b, rfl⟩ : ∃ k : Nat, b = k := ⟨b.toNat, by omega⟩
      have d0 : w5.cell? ⟨R, 0, none⟩ = some (.int .i64 0) := by rw [cell_blk hk5]; rfl
      have d1 : w5.cell? ⟨R, 1, none⟩ = some (.int .i64 0) := by rw [cell_blk hk5]; rfl
      have d2 : w5.cell? ⟨R, 2, none⟩ = some (.int .i64 0) := by rw [cell_blk hk5]; rfl
      have d3 : w5.cell? ⟨R, 3, none⟩ = some (.int .i64 0) := by rw [cell_blk hk5]; rfl
      have d4 : w5.cell? ⟨R, 4, none⟩ = some (.int .i64 0) := by rw [cell_blk hk5]; rfl
      have d5 : w5.cell? ⟨R, 5, none⟩ = some (.string ⟨#[]⟩) := by rw [cell_blk hk5]; rfl
      have df : ∀ o, w5.frozen? ⟨R, o, none⟩ = false := fun o => free_blk hk5
      have hbl : b ≤ L.length := by omega
      clear hrd hgn hb5 hk5 hl6 hat
      by_cases hno : 0 ≤ n5 ∧ n5 ≤ (L.length : Int) - b
      · have h0 := hno.1
        obtain ⟨n, rfl⟩ : ∃ k : Nat, n5 = k := ⟨n5.toNat, by omega⟩
        have hbn : b + n ≤ L.length := by omega
        have HY : Hid (rdI L (L.length + 100) a = some (⟨n0, n1, n2, n3, n4, cutS L b n⟩, (b : Int) + (n : Int))) := by
          show _ = _
          unfold rdI
          rw [HRDN.out]
          simp only
          rw [if_pos ⟨by omega, by omega, hno.2⟩]
          simp
        have h2 : (n : Int) ≤ (L.length : Int) - (b : Int) := hno.2
        clear hno
        by_cases hL0 : L.length = 0
        · exfalso
          have h6 := HRDN.out
          rw [rdNs] at h6
          cases hg : getB L a with
          | none => rw [hg] at h6; cases h6
          | some p =>
            have := get_back (y := p.1) (e := p.2) hg
            omega
        · obtain ⟨bb, oo, rfl, hB⟩ := HRL.out hL0
          have hsl := run_cutB bb oo L.length cap b n (by omega)
          have hcv := conv_part w5 bb (if cap = b then oo else oo + b) n (cap - b) ((L.drop b).take n) (by simp; omega) (by
            split
            · have : n = 0 := by omega
              subst this
              intro j hj; simp at hj
            · exact bat_part hB b n)
          obtain ⟨of, hof⟩ : ∃ of, (if cap = b then oo else oo + b) = of := ⟨_, rfl⟩
          rw [hof] at hsl hcv
          obtain ⟨S, hS⟩ : ∃ S : ByteArray, ⟨((L.drop b).take n).toArray⟩ = S := ⟨_, rfl⟩
          rw [hS] at hcv
          have HSS : Hid (cutS L b n = S) := hS
          have HYY : Hid (Ending.returned (.tuple #[.agg #[.int .i64 n0, .int .i64 n1, .int .i64 n2, .int .i64 n3, .int .i64 n4, .string S], .int .i64 ((b : Int) + (n : Int)), .bool true]) = .returned (ansI (rdI L (L.length + 100) a))) := by show _ = _; rw [HY.out, HSS.out]; rfl
          have r0 : (w5.setCell ⟨R + 1, 5, none⟩ (.string S)).cell? ⟨R + 1, 0, none⟩ = some (.int .i64 n0) := by rw [World.cell?_setCell_other (h := by simp)]; exact q0
          have r1 : (w5.setCell ⟨R + 1, 5, none⟩ (.string S)).cell? ⟨R + 1, 1, none⟩ = some (.int .i64 n1) := by rw [World.cell?_setCell_other (h := by simp)]; exact q1
          have r2 : (w5.setCell ⟨R + 1, 5, none⟩ (.string S)).cell? ⟨R + 1, 2, none⟩ = some (.int .i64 n2) := by rw [World.cell?_setCell_other (h := by simp)]; exact q2
          have r3 : (w5.setCell ⟨R + 1, 5, none⟩ (.string S)).cell? ⟨R + 1, 3, none⟩ = some (.int .i64 n3) := by rw [World.cell?_setCell_other (h := by simp)]; exact q3
          have r4 : (w5.setCell ⟨R + 1, 5, none⟩ (.string S)).cell? ⟨R + 1, 4, none⟩ = some (.int .i64 n4) := by rw [World.cell?_setCell_other (h := by simp)]; exact q4
          have r5 : (w5.setCell ⟨R + 1, 5, none⟩ (.string S)).cell? ⟨R + 1, 5, none⟩ = some (.string S) := World.cell?_setCell_same w5 _ _ hx5
          have ry : (w5.setCell ⟨R + 1, 5, none⟩ (.string S)).cell? ⟨R + 1 + 1, 0, none⟩ = some (.int .i64 (n : Int)) := by rw [World.cell?_setCell_other (h := by simp)]; exact qy
          have rk : (w5.setCell ⟨R + 1, 5, none⟩ (.string S)).heap[R]? = some (.cells #[.int .i64 0, .int .i64 0, .int .i64 0, .int .i64 0, .int .i64 0, .string ⟨#[]⟩] 47 (0, 0)) := (Below.heap_setCell w5 ⟨R + 1, 5, none⟩ _ R (by simp)).trans HK5.out
          have HB6 : Hid (Below R w (w5.setCell ⟨R + 1, 5, none⟩ (.string S))) := HB5.out.setCell (by show R ≤ R + 1; omega) _
          clear hB hof hS
          go_wp2_with fail
          generalize (w5.setCell ⟨R + 1, 5, none⟩ (.string S)) = w6 at *
          have d0 : w6.cell? ⟨R, 0, none⟩ = some (.int .i64 0) := by rw [cell_blk rk]; rfl
          have d1 : w6.cell? ⟨R, 1, none⟩ = some (.int .i64 0) := by rw [cell_blk rk]; rfl
          have d2 : w6.cell? ⟨R, 2, none⟩ = some (.int .i64 0) := by rw [cell_blk rk]; rfl
          have d3 : w6.cell? ⟨R, 3, none⟩ = some (.int .i64 0) := by rw [cell_blk rk]; rfl
          have d4 : w6.cell? ⟨R, 4, none⟩ = some (.int .i64 0) := by rw [cell_blk rk]; rfl
          have d5 : w6.cell? ⟨R, 5, none⟩ = some (.string ⟨#[]⟩) := by rw [cell_blk rk]; rfl
          have df : ∀ o, w6.frozen? ⟨R, o, none⟩ = false := fun o => free_blk rk
          have HS : Hid (∀ (x0 x1 x2 x3 x4 x5 : Value), ((((((w6.setCell ⟨R, 0, none⟩ x0).setCell ⟨R, 1, none⟩ x1).setCell ⟨R, 2, none⟩ x2).setCell ⟨R, 3, none⟩ x3).setCell ⟨R, 4, none⟩ x4).setCell ⟨R, 5, none⟩ x5).heap[R]? = some (.cells #[x0, x1, x2, x3, x4, x5] 47 (0, 0))) := six_blk rk
          clear rk q0 q1 q2 q3 q4 qy hx5 hsl hcv fx
          go_region
          all_goals
            go_wp2_with fail
            refine bodyPost_ret (res_ins3 Tryz.results28 (drew_heap (HS.out (.int .i64 n0) (.int .i64 n1) (.int .i64 n2) (.int .i64 n3) (.int .i64 n4) (.string S))) rfl rfl rfl) rfl ⟨HYY.out, ?_⟩
            rw [HRR.out]
            exact ((((((HB6.out.setCell (Nat.le_refl _) _).setCell (Nat.le_refl _) _).setCell (Nat.le_refl _) _).setCell (Nat.le_refl _) _).setCell (Nat.le_refl _) _).setCell (Nat.le_refl _) _).drew
      · have HN : Hid (rdI L (L.length + 100) a = none) := by
          show _ = _
          unfold rdI
          rw [HRDN.out]
          simp only
          rw [if_neg (by omega)]
        have HS : Hid (∀ (x0 x1 x2 x3 x4 x5 : Value), ((((((w5.setCell ⟨R, 0, none⟩ x0).setCell ⟨R, 1, none⟩ x1).setCell ⟨R, 2, none⟩ x2).setCell ⟨R, 3, none⟩ x3).setCell ⟨R, 4, none⟩ x4).setCell ⟨R, 5, none⟩ x5).heap[R]? = some (.cells #[x0, x1, x2, x3, x4, x5] 47 (0, 0))) := six_blk HK5.out
        by_cases hn0 : n5 < 0
        · clear hno
          go_wp2_with fail
          refine bodyPost_ret (res_ins3 Tryz.results28 (HS.out _ _ _ _ _ _) rfl rfl rfl) rfl ⟨by rw [HN.out]; rfl, ?_⟩
          rw [HRR.out]
          exact (((((HB5.out.setCell (Nat.le_refl _) _).setCell (Nat.le_refl _) _).setCell (Nat.le_refl _) _).setCell (Nat.le_refl _) _).setCell (Nat.le_refl _) _).setCell (Nat.le_refl _) _
        · have hn1 : (L.length : Int) - (b : Int) < n5 := by omega
          clear hno
          go_wp2_with fail
          refine bodyPost_ret (res_ins3 Tryz.results28 (HS.out _ _ _ _ _ _) rfl rfl rfl) rfl ⟨by rw [HN.out]; rfl, ?_⟩
          rw [HRR.out]
          exact (((((HB5.out.setCell (Nat.le_refl _) _).setCell (Nat.le_refl _) _).setCell (Nat.le_refl _) _).setCell (Nat.le_refl _) _).setCell (Nat.le_refl _) _).setCell (Nat.le_refl _) _
  · obtain ⟨hb5, hk5⟩ := HBE.out w5 ns hgn
    have HN : Hid (rdI L (L.length + 100) a = none) := by show _ = _; unfold rdI; rw [hrd]
    have HB5 : Hid (Below R w w5) := hb5
    have HS : Hid (∀ (x0 x1 x2 x3 x4 x5 : Value), ((((((w5.setCell ⟨R, 0, none⟩ x0).setCell ⟨R, 1, none⟩ x1).setCell ⟨R, 2, none⟩ x2).setCell ⟨R, 3, none⟩ x3).setCell ⟨R, 4, none⟩ x4).setCell ⟨R, 5, none⟩ x5).heap[R]? = some (.cells #[x0, x1, x2, x3, x4, x5] 47 (0, 0))) := six_blk hk5
    have d0 : w5.cell? ⟨R, 0, none⟩ = some (.int .i64 0) := by rw [cell_blk hk5]; rfl
    have d1 : w5.cell? ⟨R, 1, none⟩ = some (.int .i64 0) := by rw [cell_blk hk5]; rfl
    have d2 : w5.cell? ⟨R, 2, none⟩ = some (.int .i64 0) := by rw [cell_blk hk5]; rfl
    have d3 : w5.cell? ⟨R, 3, none⟩ = some (.int .i64 0) := by rw [cell_blk hk5]; rfl
    have d4 : w5.cell? ⟨R, 4, none⟩ = some (.int .i64 0) := by rw [cell_blk hk5]; rfl
    have d5 : w5.cell? ⟨R, 5, none⟩ = some (.string ⟨#[]⟩) := by rw [cell_blk hk5]; rfl
    have df : ∀ o, w5.frozen? ⟨R, o, none⟩ = false := fun o => free_blk hk5
    clear hrd hgn hb5 hk5
    go_wp2_with fail
    refine bodyPost_ret (res_ins3 Tryz.results28 (HS.out _ _ _ _ _ _) rfl rfl rfl) rfl ⟨by rw [HN.out]; rfl, ?_⟩
    rw [HRR.out]
    exact (((((HB5.out.setCell (Nat.le_refl _) _).setCell (Nat.le_refl _) _).setCell (Nat.le_refl _) _).setCell (Nat.le_refl _) _).setCell (Nat.le_refl _) _).setCell (Nat.le_refl _) _
end Go.Proofs.YtgdlkekjbdkjjaaGreatDoor.Cb
namespace Go.Proofs.YtgdlkekjbdkjjaaGreatDoor.Cb
open Go.RowKit
open Go.Proofs.YtgdlkekjbdkjjaaGreatDoor.By
open Go.Proofs.YtgdlkekjbdkjjaaGreatDoor.Code (I codeB specOk RowI SmI Bx6 zeroI insL)
set_option linter.unusedVariables false

/-- A row of n instructions of one's own that is being filled: the first ones are l. -/
structure Fl (w wr : World) (g n : Nat) (l : List I) : Prop where
  below : Below w.heap.size w wr
  lt : g < wr.heap.size
  ge : w.heap.size ≤ g
  full : ∀ j, j < n * 6 → ∃ v, wr.cell? ⟨g, j, none⟩ = some v
  free : ∀ o, wr.frozen? ⟨g, o, none⟩ = false
  rep : ∀ i (hi : i < l.length), Bx6 wr g (i * 6) l[i]
theorem Fl.call {w wr w' : World} {g n : Nat} {l : List I} (h : Fl w wr g n l) (hb : Below wr.heap.size wr w') : Fl w w' g n l :=
  ⟨h.below.trans (hb.mono h.below.size), Nat.lt_of_lt_of_le h.lt hb.size, h.ge, fun j hj => by rw [hb.cell (p := ⟨g, j, none⟩) h.lt]; exact h.full j hj,
    fun o => by rw [hb.frozen (p := ⟨g, o, none⟩) h.lt]; exact h.free o, fun i hi => (h.rep i hi).below hb⟩
theorem six_other {w : World} {g j o : Nat} {a b c d e f : Value} (h : o < j * 6 ∨ j * 6 + 6 ≤ o) :
    ((((((w.setCell ⟨g, j * 6, none⟩ a).setCell ⟨g, j * 6 + 1, none⟩ b).setCell ⟨g, j * 6 + 2, none⟩ c).setCell ⟨g, j * 6 + 3, none⟩ d).setCell ⟨g, j * 6 + 4, none⟩ e).setCell ⟨g, j * 6 + 5, none⟩ f).cell? ⟨g, o, none⟩ = w.cell? ⟨g, o, none⟩ := by
  rw [World.cell?_setCell_other (h := by simp <;> omega), World.cell?_setCell_other (h := by simp <;> omega), World.cell?_setCell_other (h := by simp <;> omega), World.cell?_setCell_other (h := by simp <;> omega), World.cell?_setCell_other (h := by simp <;> omega), World.cell?_setCell_other (h := by simp <;> omega)]
theorem six_same {w : World} {g j : Nat} {x : I} (hs : ∀ k, k < 6 → ∃ v, w.cell? ⟨g, j * 6 + k, none⟩ = some v) :
    Bx6 ((((((w.setCell ⟨g, j * 6, none⟩ (.int .i64 x.op)).setCell ⟨g, j * 6 + 1, none⟩ (.int .i64 x.a)).setCell ⟨g, j * 6 + 2, none⟩ (.int .i64 x.b)).setCell ⟨g, j * 6 + 3, none⟩ (.int .i64 x.c)).setCell ⟨g, j * 6 + 4, none⟩ (.int .i64 x.n)).setCell ⟨g, j * 6 + 5, none⟩ (.string x.s)) g (j * 6) x := by
  obtain ⟨v0, h0⟩ := hs 0 (by decide)
  obtain ⟨v1, h1⟩ := hs 1 (by decide)
  obtain ⟨v2, h2⟩ := hs 2 (by decide)
  obtain ⟨v3, h3⟩ := hs 3 (by decide)
  obtain ⟨v4, h4⟩ := hs 4 (by decide)
  obtain ⟨v5, h5⟩ := hs 5 (by decide)
  have o : ∀ {w : World} {p q : Nat} {v : Value}, p ≠ q → (w.setCell ⟨g, p, none⟩ v).cell? ⟨g, q, none⟩ = w.cell? ⟨g, q, none⟩ := fun {w p q v} h => World.cell?_setCell_other w ⟨g, p, none⟩ ⟨g, q, none⟩ v (by simp <;> exact h)
  rw [Nat.add_zero] at h0
  refine ⟨?_, ?_, ?_, ?_, ?_, ?_⟩
  · rw [o (by omega), o (by omega), o (by omega), o (by omega), o (by omega)]; exact World.cell?_setCell_same _ _ _ h0
  · rw [o (by omega), o (by omega), o (by omega), o (by omega)]; exact World.cell?_setCell_same _ _ _ (by rw [o (by omega)]; exact h1)
  · rw [o (by omega), o (by omega), o (by omega)]; exact World.cell?_setCell_same _ _ _ (by rw [o (by omega), o (by omega)]; exact h2)
  · rw [o (by omega), o (by omega)]; exact World.cell?_setCell_same _ _ _ (by rw [o (by omega), o (by omega), o (by omega)]; exact h3)
  · rw [o (by omega)]; exact World.cell?_setCell_same _ _ _ (by rw [o (by omega), o (by omega), o (by omega), o (by omega)]; exact h4)
  · exact World.cell?_setCell_same _ _ _ (by rw [o (by omega), o (by omega), o (by omega), o (by omega), o (by omega)]; exact h5)
theorem Fl.put {w wr : World} {g n : Nat} {l : List I} (h : Fl w wr g n l) (hl : l.length < n) (x : I) :
    Fl w ((((((wr.setCell ⟨g, l.length * 6, none⟩ (.int .i64 x.op)).setCell ⟨g, l.length * 6 + 1, none⟩ (.int .i64 x.a)).setCell ⟨g, l.length * 6 + 2, none⟩ (.int .i64 x.b)).setCell ⟨g, l.length * 6 + 3, none⟩ (.int .i64 x.c)).setCell ⟨g, l.length * 6 + 4, none⟩ (.int .i64 x.n)).setCell ⟨g, l.length * 6 + 5, none⟩ (.string x.s)) g n (l ++ [x]) := by
  have hge := h.ge
  have hbx := six_same (w := wr) (g := g) (j := l.length) (x := x) (fun k hk => h.full _ (by omega))
  refine ⟨((((((h.below.setCell hge _).setCell hge _).setCell hge _).setCell hge _).setCell hge _).setCell hge _), by simp only [World.size_setCell]; exact h.lt, hge, fun j hj => ?_, fun o => by simp only [World.frozen?_setCell]; exact h.free o, fun i hi => ?_⟩
  · by_cases hin : j < l.length * 6 ∨ l.length * 6 + 6 ≤ j
    · rw [six_other hin]; exact h.full j hj
    · rcases (show j = l.length * 6 ∨ j = l.length * 6 + 1 ∨ j = l.length * 6 + 2 ∨ j = l.length * 6 + 3 ∨ j = l.length * 6 + 4 ∨ j = l.length * 6 + 5 by omega) with rfl | rfl | rfl | rfl | rfl | rfl
      · exact ⟨_, hbx.c0⟩
      · exact ⟨_, hbx.c1⟩
      · exact ⟨_, hbx.c2⟩
      · exact ⟨_, hbx.c3⟩
      · exact ⟨_, hbx.c4⟩
      · exact ⟨_, hbx.c5⟩
  · by_cases e : i = l.length
    · subst e
      rw [List.getElem_append_right (Nat.le_refl _)]
      simp only [Nat.sub_self, List.getElem_cons_zero]
      exact hbx
    · have hi2 : i < l.length := by simp at hi; omega
      rw [List.getElem_append_left hi2]
      have hb := h.rep i hi2
      have k : ∀ m, m < 6 → i * 6 + m < l.length * 6 ∨ l.length * 6 + 6 ≤ i * 6 + m := fun m hm => by omega
      have k0 := k 0 (by decide)
      rw [Nat.add_zero] at k0
      exact ⟨by rw [six_other k0]; exact hb.c0, by rw [six_other (k 1 (by decide))]; exact hb.c1, by rw [six_other (k 2 (by decide))]; exact hb.c2, by rw [six_other (k 3 (by decide))]; exact hb.c3, by rw [six_other (k 4 (by decide))]; exact hb.c4, by rw [six_other (k 5 (by decide))]; exact hb.c5⟩
theorem fl_start (w w0 : World) (n : Nat) (hb : Below w.heap.size w w0) : Fl w (w0.alloc (.cells (Code.zeros6 n) 47)) w0.heap.size n [] where
  below := hb.alloc hb.size _
  lt := by rw [World.size_alloc]; omega
  ge := hb.size
  full := fun j hj => by
    rw [World.cell?_alloc_new]
    have hs : (Code.zeros6 n).size = n * 6 := by unfold Code.zeros6; exact size_madeCells _ _
    exact ⟨_, Array.getElem?_eq_getElem (by rw [hs]; exact hj)⟩
  free := fun o => World.frozen?_alloc_new w0 _ _ o
  rep := fun i hi => by simp at hi
theorem Fl.row {w wr : World} {g : Nat} {l : List I} (h : Fl w wr g l.length l) : RowI wr (some ⟨g, 0, none⟩) l := .inr ⟨g, 0, rfl, fun j hj => by rw [Nat.zero_add]; exact h.rep j hj⟩

/-- What GetCode answers: a row of one's own, or nothing. -/
def GcP (L : List UInt8) (w : World) (e : Ending) (w' : World) : Prop :=
  (∃ l g, getC L = some l ∧ e = .returned (.tuple #[.slice (some ⟨g, 0, none⟩) l.length l.length, .bool true]) ∧ Fl w w' g l.length l) ∨
  (getC L = none ∧ ∃ g, e = .returned (.tuple #[.slice (some ⟨g, 0, none⟩) 0 0, .bool false]) ∧ Below w.heap.size w w')

set_option maxHeartbeats 2000000 in
set_option maxRecDepth 100000 in
theorem implGetC_any (ao : Option Addr) (cap : Nat) (L : List UInt8) (w : World) (hr : RdB w ao L) (hN : L.length ≤ 1048600) (hcap : L.length ≤ cap) (hS : Code.Shp w) (hP : Code.Pow w) (hE : Es.Ety w) :
    Calls Tryz.prog 9 #[.slice ao L.length cap] w fun e w' => GcP L w e w' := by
  have HR : Hid (RdB w ao L) := hr
  have HG : Hid (Code.Shp w ∧ Code.Pow w ∧ Es.Ety w) := ⟨hS, hP, hE⟩
  have HGA : Hid (getCm L (L.length + 100) = getC L) := get_any L _ (by omega) (Int.le_refl _)
  clear hr hS hP hE
  go_enter Tryz.func9, Tryz.ntmps9
  go_wp2_with fail
  refine (implGet_any ao cap L 0 w HR.out hN hcap).mono ?_
  rintro e w1 ⟨rfl, hw1⟩
  obtain rfl := hw1.symm
  clear hw1
  cases hg : getB L 0 with
  | none =>
    have HNO : Hid (getC L = none) := by show _ = _; rw [← HGA.out]; unfold getCm; rw [hg]
    rw [show ansN none = .tuple #[.int .i64 0, .int .i64 0, .bool false] from rfl]
    clear hg
    go_wp2_with fail
    refine bodyPost_ret (v := .tuple #[.slice (some ⟨w.heap.size, 0, none⟩) 0 0, .bool false]) (by simp [results, Tryz.results9, go_sem]) rfl (.inr ⟨HNO.out, _, rfl, (Below.refl _ _).alloc (Nat.le_refl _) _⟩)
  | some p =>
    obtain ⟨n, e0⟩ := p
    rw [show ansN (some (n, e0)) = .tuple #[.int .i64 n, .int .i64 e0, .bool true] from rfl]
    by_cases hn : 1 ≤ n ∧ n ≤ 200
    · have hget : getC L = okC L (rdIs L (L.length + 100) n.toNat e0) := by rw [← HGA.out]; unfold getCm; rw [hg]; simp only; rw [if_pos hn]
      obtain ⟨k, rfl⟩ : ∃ k : Nat, n = k := ⟨n.toNat, by omega⟩
      rw [Int.toNat_natCast] at hget
      have HGET : Hid (getC L = okC L (rdIs L (L.length + 100) k e0)) := hget
      have hk1 : 1 ≤ k := by omega
      have hk2 : k ≤ 200 := by omega
      have hmk := Code.run_zeros6 k (by omega)
      have HF0 : Hid (Fl w (w.alloc (.cells (Code.zeros6 k) 47)) w.heap.size k []) := fl_start w w k (Below.refl _ _)
      have HA0 : Hid (addIs [] (rdIs L (L.length + 100) (k - ([] : List I).length) e0) = rdIs L (L.length + 100) k e0) := addIs_nil _
      clear hg hn hget
      go_wp2_with fail
      clear hmk
      go_loopw [5, 6, 8, 30] (fun ev _ _ iv wr => ∃ (l : List I) (e : Int), l.length ≤ k ∧ iv = .int .i64 l.length ∧ ev = .int .i64 e ∧ addIs l (rdIs L (L.length + 100) (k - l.length) e) = rdIs L (L.length + 100) k e0 ∧ Fl w wr w.heap.size k l) (fun _ _ _ iv _ => k - (intOf iv).toNat)
      case atStart => exact ⟨[], e0, Nat.zero_le _, rfl, rfl, HA0.out, HF0.out⟩
      case round =>
        obtain ⟨l, e, hl, rfl, rfl, hE, hf⟩ := hrel
        have HE : Hid (addIs l (rdIs L (L.length + 100) (k - l.length) e) = rdIs L (L.length + 100) k e0) := hE
        have HF : Hid (Fl w wr w.heap.size k l) := hf
        clear hE hf
        by_cases hlt : l.length < k
        · go_wp2_with fail
          refine (getIns_any ao cap L e wr (HR.out.below HF.out.below) hN hcap).mono ?_
          rintro e' w2 ⟨rfl, hb2⟩
          have HF2 : Hid (Fl w w2 w.heap.size k l) := HF.out.call hb2
          clear hb2
          obtain ⟨x0, hs0⟩ := HF2.out.full (l.length * 6) (by omega)
          obtain ⟨x1, hs1⟩ := HF2.out.full (l.length * 6 + 1) (by omega)
          obtain ⟨x2, hs2⟩ := HF2.out.full (l.length * 6 + 2) (by omega)
          obtain ⟨x3, hs3⟩ := HF2.out.full (l.length * 6 + 3) (by omega)
          obtain ⟨x4, hs4⟩ := HF2.out.full (l.length * 6 + 4) (by omega)
          obtain ⟨x5, hs5⟩ := HF2.out.full (l.length * 6 + 5) (by omega)
          have hfz := HF2.out.free
          cases hri : rdI L (L.length + 100) e with
          | none =>
            have HNO : Hid (getC L = none) := by
              show _ = _
              rw [HGET.out, ← HE.out, show k - l.length = (k - l.length - 1) + 1 by omega, addIs_none L _ l _ e hri]; rfl
            have HB : Hid (Below w.heap.size w ((((((w2.setCell ⟨w.heap.size, l.length * 6, none⟩ (.int .i64 0)).setCell ⟨w.heap.size, l.length * 6 + 1, none⟩ (.int .i64 0)).setCell ⟨w.heap.size, l.length * 6 + 2, none⟩ (.int .i64 0)).setCell ⟨w.heap.size, l.length * 6 + 3, none⟩ (.int .i64 0)).setCell ⟨w.heap.size, l.length * 6 + 4, none⟩ (.int .i64 0)).setCell ⟨w.heap.size, l.length * 6 + 5, none⟩ (.string ⟨#[]⟩))) := (HF2.out.put hlt ⟨0, 0, 0, 0, 0, ⟨#[]⟩⟩).below
            rw [show ansI none = .tuple #[.agg #[.int .i64 0, .int .i64 0, .int .i64 0, .int .i64 0, .int .i64 0, .string ⟨#[]⟩], .int .i64 0, .bool false] from rfl]
            clear hri
            go_wp2_with fail
            refine bodyPost_ret (v := .tuple #[.slice (some ⟨w2.heap.size, 0, none⟩) 0 0, .bool false]) (by simp [results, Tryz.results9, go_sem]) rfl (.inr ⟨HNO.out, _, rfl, HB.out.alloc HB.out.size _⟩)
          | some q =>
            obtain ⟨x, e2⟩ := q
            have HE2 : Hid (addIs (l ++ [x]) (rdIs L (L.length + 100) (k - (l ++ [x]).length) e2) = rdIs L (L.length + 100) k e0) := by
              show _ = _
              rw [← HE.out, show k - l.length = (k - l.length - 1) + 1 by omega, addIs_step L _ l _ e e2 x hri]
              congr 2
              rw [List.length_append]
              simp
              try omega
            have HL2 : Hid ((l ++ [x]).length = l.length + 1) := by show _ = _; simp
            have HF3 := HF2.out.put hlt x
            have HFF : Hid (Fl w _ w.heap.size k (l ++ [x])) := HF3
            rw [show ansI (some (x, e2)) = .tuple #[.agg #[.int .i64 x.op, .int .i64 x.a, .int .i64 x.b, .int .i64 x.c, .int .i64 x.n, .string x.s], .int .i64 e2, .bool true] from rfl]
            clear hri HF3
            go_wp2_with fail
            go_roundw
            case rel => exact ⟨l ++ [x], e2, by rw [HL2.out]; omega, by rw [HL2.out]; go_num, rfl, HE2.out, HFF.out⟩
            case measure => simp [intOf]; omega
        · have hlk : l.length = k := by omega
          subst hlk
          have hEE : rdIs L (L.length + 100) l.length e0 = some (l, e) := by
            rw [← HE.out, Nat.sub_self]; simp [rdIs, addIs]
          have HSM : Hid (SmI maxLen l) := fun x hx => by
            have := rdIs_small hEE x hx
            unfold maxLen; omega
          have HGT : Hid (getC L = okC L (some (l, e))) := by show _ = _; rw [HGET.out, hEE]
          clear hEE
          by_cases he : e = (L.length : Int)
          · subst he
            have HCO : Hid (∀ w', w' = wr → Calls Tryz.prog 11 #[.slice (some ⟨w.heap.size, 0, none⟩) l.length l.length] w' fun e w'' => e = .returned (.bool (codeB l)) ∧ Below w'.heap.size w' w'') := fun w' h => by
              subst h
              exact Code.implCode_any l (some ⟨w.heap.size, 0, none⟩) l.length w' HF.out.row HSM.out (by omega) (HG.out.1.below HF.out.below) (HG.out.2.1.below HF.out.below) (HG.out.2.2.below HF.out.below)
            cases hcb : codeB l with
            | true =>
              have HY : Hid (getC L = some l) := by show _ = _; rw [HGT.out]; exact okC_of hcb
              rw [hcb] at HCO
              clear hcb
              go_wp2_with (go_at_call 11; refine (HCO.out _ rfl).mono ?_; rintro e w3 ⟨rfl, hb3⟩; have HF3 : Hid (Fl w w3 w.heap.size l.length l) := HF.out.call hb3; clear hb3)
              refine bodyPost_ret (v := .tuple #[.slice (some ⟨w.heap.size, 0, none⟩) l.length l.length, .bool true]) (by simp [results, Tryz.results9, go_sem]) rfl (.inl ⟨l, _, HY.out, rfl, HF3.out⟩)
            | false =>
              have HNO : Hid (getC L = none) := by
                show _ = _
                rw [HGT.out]; unfold okC; simp only; rw [if_neg (by rw [hcb]; simp)]
              rw [hcb] at HCO
              clear hcb
              go_wp2_with (go_at_call 11; refine (HCO.out _ rfl).mono ?_; rintro e w3 ⟨rfl, hb3⟩; have HF3 : Hid (Fl w w3 w.heap.size l.length l) := HF.out.call hb3; clear hb3)
              refine bodyPost_ret (v := .tuple #[.slice (some ⟨w3.heap.size, 0, none⟩) 0 0, .bool false]) (by simp [results, Tryz.results9, go_sem]) rfl (.inr ⟨HNO.out, _, rfl, HF3.out.below.alloc HF3.out.below.size _⟩)
          · have HNO : Hid (getC L = none) := by
              show _ = _
              rw [HGT.out]; unfold okC; simp only; rw [if_neg (fun h => he h.1)]
            have hne : (e != (L.length : Int)) = true := by simpa using he
            clear he
            go_wp2_with fail
            refine bodyPost_ret (v := .tuple #[.slice (some ⟨wr.heap.size, 0, none⟩) 0 0, .bool false]) (by simp [results, Tryz.results9, go_sem]) rfl (.inr ⟨HNO.out, _, rfl, HF.out.below.alloc HF.out.below.size _⟩)
    · have HNO : Hid (getC L = none) := by show _ = _; rw [← HGA.out]; unfold getCm; rw [hg]; simp only; rw [if_neg hn]
      clear hg
      by_cases h1 : n < 1
      · clear hn
        go_wp2_with fail
        refine bodyPost_ret (v := .tuple #[.slice (some ⟨w.heap.size, 0, none⟩) 0 0, .bool false]) (by simp [results, Tryz.results9, go_sem]) rfl (.inr ⟨HNO.out, _, rfl, (Below.refl _ _).alloc (Nat.le_refl _) _⟩)
      · have h2 : 200 < n := by omega
        clear hn
        go_wp2_with fail
        refine bodyPost_ret (v := .tuple #[.slice (some ⟨w.heap.size, 0, none⟩) 0 0, .bool false]) (by simp [results, Tryz.results9, go_sem]) rfl (.inr ⟨HNO.out, _, rfl, (Below.refl _ _).alloc (Nat.le_refl _) _⟩)
end Go.Proofs.YtgdlkekjbdkjjaaGreatDoor.Cb
namespace Go.Proofs.YtgdlkekjbdkjjaaGreatDoor.Cb
open Go.RowKit
open Go.Proofs.YtgdlkekjbdkjjaaGreatDoor.By
open Go.Proofs.YtgdlkekjbdkjjaaGreatDoor.Code (I codeB specOk RowI SmI Bx6)
set_option linter.unusedVariables false

/-- A number that is kept as it is. -/
def InM (n : Int) : Prop := -1000000 ≤ n ∧ n ≤ 1000000
theorem reg_in {u : List UInt8} {ch r : Int} (h : Code.regB u ch r = true) : 0 ≤ r ∧ r ≤ 7 := by
  unfold Code.regB at h
  split at h
  · exact of_decide_eq_true h
  · have : r = 0 := by simpa using h
    omega
theorem ins_in {x : I} {N : Int} (h : specOk x N = true) : InM x.op ∧ InM x.a ∧ InM x.b ∧ InM x.c ∧ InM x.n := by
  unfold Code.specOk at h
  simp only [Bool.and_eq_true] at h
  obtain ⟨h1, h2, h3, h4, h5, h6, h7⟩ := h
  have hN : 1 ≤ N ∧ N ≤ 200 := of_decide_eq_true h1
  have ho : 1 ≤ x.op ∧ x.op ≤ 20 := of_decide_eq_true h2
  have ha := reg_in h3
  have hc := reg_in h4
  have hb : 0 ≤ x.b ∧ x.b ≤ 7 := by
    split at h5
    · have : 1 ≤ x.b ∧ x.b ≤ 6 := of_decide_eq_true h5
      omega
    · exact reg_in h5
  unfold InM
  refine ⟨by omega, by omega, by omega, by omega, ?_⟩
  unfold Code.numB at h7
  split at h7
  · exact of_decide_eq_true h7
  split at h7
  · simp only [Bool.and_eq_true] at h7
    have : 0 ≤ x.n ∧ x.n ≤ 8 := of_decide_eq_true h7.1
    omega
  split at h7
  · have : 0 ≤ x.n ∧ x.n ≤ 7 := of_decide_eq_true h7
    omega
  split at h7
  · have : 0 ≤ x.n ∧ x.n < N := of_decide_eq_true h7
    omega
  · have : x.n = 0 := by simpa using h7
    omega

theorem getB_of {P R : List UInt8} {n : Int} (h : InM n) : getB (P ++ numB n ++ R) ((P.length : Nat) : Int) = some (n, (((P ++ numB n).length : Nat) : Int)) := by
  rw [get_put P R n, clamp_id h.1 h.2, List.length_append]
  simp
theorem rdNs_put : ∀ (ns : List Int) (P R : List UInt8), (∀ n ∈ ns, InM n) → rdNs (P ++ numsB ns ++ R) ns.length ((P.length : Nat) : Int) = some (ns, (((P ++ numsB ns).length : Nat) : Int)) := by
  intro ns
  induction ns with
  | nil => intro P R _; simp [rdNs, numsB]
  | cons n ns ih =>
    intro P R h
    have e : P ++ numsB (n :: ns) ++ R = P ++ numB n ++ (numsB ns ++ R) := by
      show P ++ (numB n ++ numsB ns) ++ R = _
      simp [List.append_assoc]
    rw [e, List.length_cons, rdNs, getB_of (h n (List.mem_cons_self ..))]
    simp only
    rw [← List.append_assoc, ih (P ++ numB n) R (fun y hy => h y (List.mem_cons_of_mem _ hy))]
    simp only [Option.some.injEq, Prod.mk.injEq, true_and]
    have e2 : P ++ numsB (n :: ns) = P ++ numB n ++ numsB ns := by
      show P ++ (numB n ++ numsB ns) = _
      rw [List.append_assoc]
    rw [e2]
theorem cut_same (P Q R : List UInt8) (s : ByteArray) (hs : Q = sB s) : cutS (P ++ Q ++ R) P.length s.size = s := by
  subst hs
  unfold cutS
  have e : ((P ++ sB s ++ R).drop P.length).take s.size = sB s := by
    rw [List.append_assoc, List.drop_left, ← sB_len s, List.take_left]
  rw [e]
  unfold sB
  simp
theorem rdI_put (x : I) (P R : List UInt8) {N : Int} (h : specOk x N = true) : rdI (P ++ insB x ++ R) 12 ((P.length : Nat) : Int) = some (x, (((P ++ insB x).length : Nat) : Int)) := by
  obtain ⟨h1, h2, h3, h4, h5⟩ := ins_in h
  have hs := s_small h
  have hns : ∀ n ∈ [x.op, x.a, x.b, x.c, x.n, ((x.s.size : Nat) : Int)], InM n := fun n hn => by
    simp only [List.mem_cons, List.not_mem_nil, or_false] at hn
    rcases hn with rfl | rfl | rfl | rfl | rfl | rfl
    · exact h1
    · exact h2
    · exact h3
    · exact h4
    · exact h5
    · unfold InM; omega
  have hr := rdNs_put [x.op, x.a, x.b, x.c, x.n, ((x.s.size : Nat) : Int)] P (sB x.s ++ R) hns
  have e : P ++ insB x ++ R = P ++ numsB [x.op, x.a, x.b, x.c, x.n, ((x.s.size : Nat) : Int)] ++ (sB x.s ++ R) := by
    unfold insB; simp [List.append_assoc]
  have e3 : P ++ insB x ++ R = (P ++ numsB [x.op, x.a, x.b, x.c, x.n, ((x.s.size : Nat) : Int)]) ++ sB x.s ++ R := by
    unfold insB; simp [List.append_assoc]
  have hcut : cutS (P ++ insB x ++ R) (P ++ numsB [x.op, x.a, x.b, x.c, x.n, ((x.s.size : Nat) : Int)]).length x.s.size = x.s := by
    rw [e3]; exact cut_same _ _ _ x.s rfl
  have hlen : (P ++ insB x ++ R).length = (P ++ numsB [x.op, x.a, x.b, x.c, x.n, ((x.s.size : Nat) : Int)]).length + x.s.size + R.length := by
    rw [e3, List.length_append, List.length_append, sB_len]
  have hend : (P ++ insB x).length = (P ++ numsB [x.op, x.a, x.b, x.c, x.n, ((x.s.size : Nat) : Int)]).length + x.s.size := by
    unfold insB
    rw [← List.append_assoc, List.length_append, sB_len]
  unfold rdI
  rw [← e] at hr
  have hr6 : rdNs (P ++ insB x ++ R) 6 ((P.length : Nat) : Int) = some ([x.op, x.a, x.b, x.c, x.n, ((x.s.size : Nat) : Int)], (((P ++ numsB [x.op, x.a, x.b, x.c, x.n, ((x.s.size : Nat) : Int)]).length : Nat) : Int)) := hr
  rw [hr6]
  simp only
  rw [if_pos ⟨by omega, by omega, by rw [hlen]; omega⟩, Int.toNat_natCast, Int.toNat_natCast, hcut, hend]
  simp
theorem rdIs_put : ∀ (l : List I) (P R : List UInt8) (N : Int), (∀ x ∈ l, specOk x N = true) → rdIs (P ++ insBs l ++ R) 12 l.length ((P.length : Nat) : Int) = some (l, (((P ++ insBs l).length : Nat) : Int)) := by
  intro l
  induction l with
  | nil => intro P R N _; simp [rdIs, insBs]
  | cons x l ih =>
    intro P R N h
    have e : P ++ insBs (x :: l) ++ R = P ++ insB x ++ (insBs l ++ R) := by
      show P ++ (insB x ++ insBs l) ++ R = _
      simp [List.append_assoc]
    rw [e, List.length_cons, rdIs, rdI_put x P (insBs l ++ R) (h x (List.mem_cons_self ..))]
    simp only
    rw [← List.append_assoc, ih (P ++ insB x) R N (fun y hy => h y (List.mem_cons_of_mem _ hy))]
    simp only [Option.some.injEq, Prod.mk.injEq, true_and]
    have e2 : P ++ insBs (x :: l) = P ++ insB x ++ insBs l := by
      show P ++ (insB x ++ insBs l) = _
      rw [List.append_assoc]
    rw [e2]
/-- Whatever stands behind: the code is read up to its end. -/
def rdAll (L : List UInt8) : Option (List I × Int) := match getB L 0 with
  | none => none
  | some (n, e) => if 1 ≤ n ∧ n ≤ 200 then rdIs L 12 n.toNat e else none
theorem getC_all (L : List UInt8) : getC L = okC L (rdAll L) := by
  unfold getC getCm rdAll
  cases getB L 0 with
  | none => rfl
  | some p =>
    simp only
    split
    · rfl
    · rfl
theorem rdAll_put {l : List I} (h : codeB l = true) (R : List UInt8) : rdAll (codeBy l ++ R) = some (l, (((codeBy l).length : Nat) : Int)) := by
  have hl := codeB_len h
  have hm : InM ((l.length : Nat) : Int) := by unfold InM; omega
  have h0 := getB_of (P := []) (R := insBs l ++ R) hm
  have e0 : [] ++ numB ((l.length : Nat) : Int) ++ (insBs l ++ R) = codeBy l ++ R := by unfold codeBy; simp [List.append_assoc]
  rw [e0] at h0
  unfold rdAll
  have h00 : getB (codeBy l ++ R) 0 = some (((l.length : Nat) : Int), (((numB ((l.length : Nat) : Int)).length : Nat) : Int)) := h0
  rw [h00]
  simp only
  rw [if_pos ⟨by omega, by omega⟩, Int.toNat_natCast]
  have := rdIs_put l (numB ((l.length : Nat) : Int)) R _ (codeB_all h)
  exact this
theorem get_code {l : List I} (h : codeB l = true) : getC (codeBy l) = some l := by
  have := rdAll_put h []
  rw [List.append_nil] at this
  rw [getC_all, this, okC_of h]
theorem get_more {l : List I} (h : codeB l = true) {R : List UInt8} (hR : R ≠ []) : getC (codeBy l ++ R) = none := by
  rw [getC_all, rdAll_put h R]
  unfold okC
  simp only
  rw [if_neg]
  rintro ⟨e, _⟩
  rw [List.length_append] at e
  have : R.length ≠ 0 := fun h0 => hR (List.length_eq_zero_iff.1 h0)
  omega

theorem nums_back {L : List UInt8} : ∀ (k : Nat) (a : Nat) (e : Int) (ns : List Int), rdNs L k a = some (ns, e) → ∃ b : Nat, e = b ∧ a ≤ b ∧ (k = 0 ∨ b ≤ L.length) ∧ (L.drop a).take (b - a) = numsB ns ∧ b - a = (numsB ns).length := by
  intro k
  induction k with
  | zero =>
    intro a e ns h
    simp [rdNs] at h
    rw [h.1]
    exact ⟨a, h.2.symm, Nat.le_refl _, .inl rfl, by simp [numsB], by simp [numsB]⟩
  | succ k ih =>
    intro a e ns h
    rw [rdNs] at h
    cases hg : getB L a with
    | none => rw [hg] at h; cases h
    | some p =>
      obtain ⟨n, e1⟩ := p
      rw [hg] at h
      simp only at h
      obtain ⟨h0, h1, h2, _, _, h5, h6⟩ := get_back hg
      obtain ⟨c, rfl⟩ : ∃ c : Nat, e1 = c := ⟨e1.toNat, by omega⟩
      cases hr : rdNs L k c with
      | none => rw [hr] at h; cases h
      | some q =>
        obtain ⟨ms, e2⟩ := q
        rw [hr] at h
        simp only [Option.some.injEq, Prod.mk.injEq] at h
        obtain ⟨b, hb, hcb, hbl, ht, hlen⟩ := ih c e2 ms hr
        rw [← h.1]
        have e3 : numsB (n :: ms) = numB n ++ numsB ms := rfl
        have h7 : ((c : Int) - (a : Int)).toNat = c - a := by omega
        rw [h7, Int.toNat_natCast] at h6
        refine ⟨b, by rw [← h.2]; exact hb, by omega, .inr ?_, ?_, ?_⟩
        · rcases hbl with hz | hz
          · subst hz
            simp [rdNs] at hr
            have : (c : Int) = b := by rw [← hb]; exact hr.2
            omega
          · exact hz
        · rw [e3, ← h6, ← ht, show b - a = (c - a) + (b - c) by omega, List.take_add, List.drop_drop, show a + (c - a) = c by omega]
        · rw [e3, List.length_append, ← hlen]
          omega
theorem ins_back {L : List UInt8} {a : Nat} {e : Int} {x : I} (h : rdI L 12 a = some (x, e)) : ∃ b : Nat, e = b ∧ a ≤ b ∧ b ≤ L.length ∧ (L.drop a).take (b - a) = insB x ∧ b - a = (insB x).length := by
  unfold rdI at h
  cases hr : rdNs L 6 a with
  | none => rw [hr] at h; cases h
  | some p =>
    obtain ⟨ns, e6⟩ := p
    rw [hr] at h
    have hl := rdNs_len hr
    match ns, hl with
    | [op, xa, xb, xc, xn, sz], _ =>
      simp only at h
      by_cases hc : 0 ≤ sz ∧ sz ≤ 12 ∧ sz ≤ (L.length : Int) - e6
      · rw [if_pos hc] at h
        simp only [Option.some.injEq, Prod.mk.injEq] at h
        obtain ⟨c, rfl, hac, hcl, ht, hlen⟩ := nums_back 6 a e6 _ hr
        have hcl2 : c ≤ L.length := by rcases hcl with hz | hz <;> omega
        obtain ⟨n, rfl⟩ : ∃ n : Nat, sz = n := ⟨sz.toNat, by omega⟩
        rw [Int.toNat_natCast, Int.toNat_natCast] at h
        have hcs : (cutS L c n).size = n := cutS_size L c n (by omega)
        have hi : insB x = numsB [op, xa, xb, xc, xn, ((n : Nat) : Int)] ++ (L.drop c).take n := by
          rw [← h.1]
          show numsB [op, xa, xb, xc, xn, (((cutS L c n).size : Nat) : Int)] ++ sB (cutS L c n) = _
          rw [hcs]
          congr 1
        refine ⟨c + n, by rw [← h.2]; omega, by omega, by omega, ?_, ?_⟩
        · rw [hi, ← ht, show c + n - a = (c - a) + n by omega, List.take_add, List.drop_drop, show a + (c - a) = c by omega]
        · rw [hi, List.length_append, ← hlen]
          simp
          try omega
      · rw [if_neg hc] at h; cases h
theorem inss_back {L : List UInt8} : ∀ (k : Nat) (a : Nat) (e : Int) (l : List I), a ≤ L.length → rdIs L 12 k a = some (l, e) → l.length = k ∧ ∃ b : Nat, e = b ∧ a ≤ b ∧ b ≤ L.length ∧ (L.drop a).take (b - a) = insBs l := by
  intro k
  induction k with
  | zero =>
    intro a e l ha h
    simp [rdIs] at h
    rw [h.1]
    exact ⟨rfl, a, h.2.symm, Nat.le_refl _, ha, by simp [insBs]⟩
  | succ k ih =>
    intro a e l ha h
    rw [rdIs] at h
    cases hg : rdI L 12 a with
    | none => rw [hg] at h; cases h
    | some p =>
      obtain ⟨x, e1⟩ := p
      rw [hg] at h
      simp only at h
      obtain ⟨c, rfl, hac, hcl, ht, hlen⟩ := ins_back hg
      cases hr : rdIs L 12 k c with
      | none => rw [hr] at h; cases h
      | some q =>
        obtain ⟨m, e2⟩ := q
        rw [hr] at h
        simp only [Option.some.injEq, Prod.mk.injEq] at h
        obtain ⟨hmk, b, hb, hcb, hbl, ht2⟩ := ih c e2 m hcl hr
        rw [← h.1]
        have e3 : insBs (x :: m) = insB x ++ insBs m := rfl
        refine ⟨by rw [List.length_cons, hmk], b, by rw [← h.2]; exact hb, by omega, hbl, ?_⟩
        rw [e3, ← ht, ← ht2, show b - a = (c - a) + (b - c) by omega, List.take_add, List.drop_drop, show a + (c - a) = c by omega]
/-- What is read as code has these bytes. -/
theorem code_back {L : List UInt8} {l : List I} (h : getC L = some l) : codeB l = true ∧ codeBy l = L := by
  rw [getC_all] at h
  obtain ⟨h1, h2⟩ := okC_some h
  refine ⟨h2, ?_⟩
  unfold rdAll at h1
  cases hg : getB L 0 with
  | none => rw [hg] at h1; cases h1
  | some p =>
    obtain ⟨n, e⟩ := p
    rw [hg] at h1
    simp only at h1
    by_cases hn : 1 ≤ n ∧ n ≤ 200
    · rw [if_pos hn] at h1
      obtain ⟨h0, h3, h4, _, _, h5, h6⟩ := get_back hg
      obtain ⟨c, rfl⟩ : ∃ c : Nat, e = c := ⟨e.toNat, by omega⟩
      obtain ⟨hlen, b, hb, hcb, hbl, ht⟩ := inss_back n.toNat c _ l (by omega) h1
      have hbL : b = L.length := by omega
      subst hbL
      have hnl : ((l.length : Nat) : Int) = n := by omega
      unfold codeBy
      rw [hnl, ← h6, ← ht]
      have e1 : ((c : Int) - 0).toNat = c := by omega
      rw [e1]
      simp only [Int.toNat_zero, List.drop_zero]
      rw [List.take_of_length_le (l := List.drop c L) (by rw [List.length_drop]; omega), List.take_append_drop]
    · rw [if_neg hn] at h1; cases h1
/-- Bytes of code that are cut are none. -/
theorem get_short {l : List I} (h : codeB l = true) {k : Nat} (hk : k < (codeBy l).length) : getC ((codeBy l).take k) = none := by
  cases hg : getC ((codeBy l).take k) with
  | none => rfl
  | some m =>
    exfalso
    obtain ⟨hm, he⟩ := code_back hg
    have h1 := rdAll_put h []
    rw [List.append_nil] at h1
    have h2 := rdAll_put hm ((codeBy l).drop k)
    rw [he, List.take_append_drop, h1] at h2
    simp only [Option.some.injEq, Prod.mk.injEq] at h2
    have h3 := h2.2
    rw [List.length_take] at h3
    omega
end Go.Proofs.YtgdlkekjbdkjjaaGreatDoor.Cb
