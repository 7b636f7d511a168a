/-
  The bytes of drawn code that are cut are none, and so are those with a byte more: for every list of bytes the law FnCut returns true and its argument reads as before. The program's variable shapes, three tables and the type of error of Go's library hold what their initialisers lay: the card ties them.
  (Ahead of it, in this text: What is drawn for the law FnNums: bytes and a number; bytes and a place. What DrawCode draws: code that is right. Code comes back of its bytes; of bytes that are cut, or have more behind them, none. Reckoning. What the law FnCut does.)
-/
import Derived.Test.YtpjhipekjilejaaDoorByD
import Derived.Test.YtpjhipekjilejaaDoorByG
import Derived.Test.YtpjhipekjilejaaDoorDcB
import Derived.Test.YtpjhipekjilejaaDoorCbE
import Derived.Test.YtpjhipekjilejaaDoorCbC
import Derived.Test.YtpjhipekjilejaaDoorU2
import Derived.Test.YtpjhipekjilejaaDoorCkD
import Derived.ChangeOld
namespace Go.Proofs.YtpjhipekjilejaaDoor.By
open Go.RowKit
set_option linter.unusedVariables false

theorem bigB_any (ao : Option Addr) (len cap : Nat) (w : World) (hm : len ≤ maxLen) :
    Calls Tryd.prog 4 #[.slice ao len cap] w fun e w' => e = .returned (.bool (decide (1048576 < len))) ∧ w' = w := by
  unfold maxLen at hm
  by_cases h : 1048576 < len
  · go_enter Tryd.func4, Tryd.ntmps4
    go_wp2_with fail
    go_ret
    exact ⟨by simp [h]; omega, rfl⟩
  · go_enter Tryd.func4, Tryd.ntmps4
    go_wp2_with fail
    go_ret
    exact ⟨by simp [h]; omega, rfl⟩

set_option maxHeartbeats 1000000 in
theorem belowBig_any (cb : Nat) (ao : Option Addr) (len cap : Nat) (zs : List Int) (w : World) (hc : Cur cb ao len cap zs w) :
    Calls Tryd.prog 21 #[.pointer (some ⟨cb, 0, none⟩), .int .i64 10000] w fun e w' => ∃ x : Int, e = .returned (.int .i64 x) ∧ Drawn cb ao len cap zs w w' := by
  have HC : Hid (Cur cb ao len cap zs w) := hc
  clear hc
  go_enter Tryd.func21, Tryd.ntmps21
  go_wp2_with fail
  refine (byte_any cb ao len cap zs _ HC.out).mono ?_
  rintro e w1 ⟨x, rfl, hx0, hx1, hc1, ht1⟩
  have HD1 : Hid (Drawn cb ao len cap zs w w1) := ⟨hc1, ht1⟩
  clear hc1 ht1
  go_wp2_with fail
  refine (byte_any cb ao len cap zs _ HD1.out.1).mono ?_
  rintro e w2 ⟨y, rfl, hy0, hy1, hc1, ht1⟩
  have HD2 : Hid (Drawn cb ao len cap zs w w2) := ⟨hc1, HD1.out.2.trans ht1⟩
  clear hc1 ht1
  go_wp2_with fail
  refine (byte_any cb ao len cap zs _ HD2.out.1).mono ?_
  rintro e w3 ⟨z, rfl, hz0, hz1, hc1, ht1⟩
  have HD3 : Hid (Drawn cb ao len cap zs w w3) := ⟨hc1, HD2.out.2.trans ht1⟩
  clear hc1 ht1
  go_wp2_with fail
  go_ret
  exact ⟨_, rfl, HD3.out⟩

/-- A row of bytes drawn: it lies behind the cursor. -/
structure DrB (cb : Nat) (ao : Option Addr) (len cap : Nat) (zs : List Int) (w wr : World) (v : Value) (B : List UInt8) : Prop where
  own : OwB wr w.heap.size v B
  cur : Cur cb ao len cap zs wr
  turn : Turn cb w wr
theorem turn_grownR {cb : Nat} {a w w' : World} {row : Option Nat} (h : Turn cb a w) (hg : w.grownBy w' row) (hr : ∀ k, row = some k → a.heap.size ≤ k) : Turn cb a w' :=
  ⟨hg.os.trans h.os, hg.tape.trans h.tape, hg.output.trans h.output, Nat.le_trans h.size hg.size, fun k hk hn => (hg.block k (Nat.lt_of_lt_of_le hk h.size) (fun e => by have := hr k e.symm; omega)).trans (h.block k hk hn)⟩
theorem cur_kept {cb : Nat} {ao : Option Addr} {len cap : Nat} {zs : List Int} {w w' : World} (h : Cur cb ao len cap zs w) (hs : ∀ b, b ≤ cb → w'.heap[b]? = w.heap[b]?) : Cur cb ao len cap zs w' := by
  have e : ∀ b o v, b ≤ cb → w.cell? ⟨b, o, none⟩ = some v → w'.cell? ⟨b, o, none⟩ = some v := fun b o v hb hc => by
    rw [World.cell?_of_block (w := w) (hs b hb)]; exact hc
  obtain ⟨i, hi, h1⟩ := h.c1
  obtain ⟨x, h2⟩ := h.c2
  refine ⟨e _ _ _ (Nat.le_refl _) h.c0, ⟨i, hi, e _ _ _ (Nat.le_refl _) h1⟩, ⟨x, e _ _ _ (Nat.le_refl _) h2⟩, fun o => by rw [World.frozen?_of_block (w := w) (hs cb (Nat.le_refl _))]; exact h.free o, fun hn => ?_, h.rng, h.small⟩
  obtain ⟨b, off, e1, e2, e3⟩ := h.code hn
  exact ⟨b, off, e1, e2, fun j hj => e _ _ _ (Nat.le_of_lt e2) (e3 j hj)⟩
theorem DrB.more {cb : Nat} {ao : Option Addr} {len cap : Nat} {zs : List Int} {w wr w3 : World} {v v3 : Value} {B : List UInt8} {x : Int} {c : UInt8} (h : DrB cb ao len cap zs w wr v B) (hcb : cb < w.heap.size) (hx : x = ((c.toNat : Nat) : Int))
    (hown : w3.ownsRow w.heap.size 5 1 v3 (B.length + 1) (bcs B ++ [.int .u8 x])) (hgr : (wr.alloc (.cells #[.int .u8 x] 5)).grownBy w3 v.ownBlock) : DrB cb ao len cap zs w w3 v3 (B ++ [c]) := by
  have hs := h.turn.size
  refine ⟨owB_byte hown hx, ?_, turn_grownR (h.turn.alloc _) hgr (fun k hk => (World.ownsRow.lt h.own k hk).1)⟩
  refine cur_kept h.cur fun b hb => ?_
  rw [hgr.block b (by rw [World.size_alloc]; omega) (fun e => by have := (World.ownsRow.lt h.own b e.symm).1; omega)]
  show (wr.heap.push _)[b]? = _
  rw [Array.getElem?_push, if_neg (by omega)]
theorem DrB.drawn {cb : Nat} {ao : Option Addr} {len cap : Nat} {zs : List Int} {w wr w2 : World} {v : Value} {B : List UInt8} (h : DrB cb ao len cap zs w wr v B) (hcb : cb < w.heap.size) (hd : Drawn cb ao len cap zs wr w2) : DrB cb ao len cap zs w w2 v B := by
  refine ⟨?_, hd.1, h.turn.trans hd.2⟩
  refine World.ownsRow.kept (row := some cb) h.own ⟨hd.2.os, hd.2.tape, hd.2.output, hd.2.size, fun k hk hn => hd.2.block k hk (fun e => hn (by rw [e]))⟩ ?_
  cases hv : v.ownBlock with
  | none => exact .inl rfl
  | some k => exact .inr (fun e => by injection e with e; have := (World.ownsRow.lt h.own k hv).1; omega)
theorem byte_of {x : Int} (h0 : 0 ≤ x) (h1 : x ≤ 255) : x = (((UInt8.ofNat x.toNat).toNat : Nat) : Int) := by rw [toNat_of (by omega)]; omega

end Go.Proofs.YtpjhipekjilejaaDoor.By
namespace Go.Proofs.YtpjhipekjilejaaDoor.Code
open Go.RowKit
open Go.Proofs.YtpjhipekjilejaaDoor.Atom
set_option linter.unusedVariables false

theorem drawCode_any (ao : Option Addr) (len cap : Nat) (zs : List Int) (w : World) (hr : IsRow w ao len cap zs) (hsm : len ≤ 1048576) :
    Calls Tryd.prog 6 #[.slice ao len cap] w fun e w' => (∃ (va : Option Addr) (vc : Nat) (l : List I), e = .returned (.slice va l.length vc) ∧ IRow w' w.heap.size (.slice va l.length vc) l ∧ 1 ≤ l.length ∧ l.length ≤ 20 ∧ (∀ x ∈ l, Wee x) ∧ codeB l = true) ∧ Below w.heap.size w w' := by
  have HR : Hid (IsRow w ao len cap zs) := hr
  clear hr
  go_enter Tryd.func6, Tryd.ntmps6
  go_wp2_with (go_at_call 11; fail)
  refine (new_any w ao len cap zs HR.out hsm).mono ?_
  rintro e w1 ⟨rfl, hcur, hb1, hsz⟩
  have HC1 : Hid (Cur w.heap.size ao len cap zs w1 ∧ Below w.heap.size w w1) := ⟨hcur, hb1⟩
  clear hcur hb1 hsz
  go_wp2_with (go_at_call 12; fail)
  refine (code_any w.heap.size ao len cap zs w1 HC1.out.1).mono ?_
  rintro e w2 ⟨⟨v, l, rfl, hrow, h1, h2, h3, h4⟩, hd2⟩
  obtain ⟨va, vc, rfl, _⟩ := hrow.slice
  have HB2 : Hid (Below w.heap.size w w2) := Turn.below HC1.out.2 HC1.out.2.size hd2.2 (Nat.le_refl _)
  have HRO : Hid (IRow w2 w.heap.size (.slice va l.length vc) l) := hrow.base HC1.out.2.size
  have HL : Hid (1 ≤ l.length ∧ l.length ≤ 20 ∧ (∀ x ∈ l, Wee x) ∧ codeB l = true) := ⟨h1, h2, h3, h4⟩
  clear hrow h1 h2 h3 h4 hd2
  go_wp2_with fail
  go_ret
  exact ⟨⟨va, vc, l, rfl, HRO.out, HL.out.1, HL.out.2.1, HL.out.2.2.1, HL.out.2.2.2⟩, HB2.out⟩
end Go.Proofs.YtpjhipekjilejaaDoor.Code
namespace Go.Proofs.YtpjhipekjilejaaDoor.Cb
open Go.RowKit
open Go.Proofs.YtpjhipekjilejaaDoor.By
open Go.Proofs.YtpjhipekjilejaaDoor.Code (I codeB specOk RowI SmI Bx6)
set_option linter.unusedVariables false

/-- A number that is kept as it is. -/
def InM (n : Int) : Prop := -1000000 ≤ n ∧ n ≤ 1000000
theorem reg_in {u : List UInt8} {ch r : Int} (h : Code.regB u ch r = true) : 0 ≤ r ∧ r ≤ 7 := by
  unfold Code.regB at h
  split at h
  · exact of_decide_eq_true h
  · have : r = 0 := by simpa using h
    omega
theorem ins_in {x : I} {N : Int} (h : specOk x N = true) : InM x.op ∧ InM x.a ∧ InM x.b ∧ InM x.c ∧ InM x.n := by
  unfold Code.specOk at h
  simp only [Bool.and_eq_true] at h
  obtain ⟨h1, h2, h3, h4, h5, h6, h7⟩ := h
  have hN : 1 ≤ N ∧ N ≤ 200 := of_decide_eq_true h1
  have ho : 1 ≤ x.op ∧ x.op ≤ 20 := of_decide_eq_true h2
  have ha := reg_in h3
  have hc := reg_in h4
  have hb : 0 ≤ x.b ∧ x.b ≤ 7 := by
    split at h5
    · have : 1 ≤ x.b ∧ x.b ≤ 6 := of_decide_eq_true h5
      omega
    · exact reg_in h5
  unfold InM
  refine ⟨by omega, by omega, by omega, by omega, ?_⟩
  unfold Code.numB at h7
  split at h7
  · exact of_decide_eq_true h7
  split at h7
  · simp only [Bool.and_eq_true] at h7
    have : 0 ≤ x.n ∧ x.n ≤ 8 := of_decide_eq_true h7.1
    omega
  split at h7
  · have : 0 ≤ x.n ∧ x.n ≤ 7 := of_decide_eq_true h7
    omega
  split at h7
  · have : 0 ≤ x.n ∧ x.n < N := of_decide_eq_true h7
    omega
  · have : x.n = 0 := by simpa using h7
    omega

theorem getB_of {P R : List UInt8} {n : Int} (h : InM n) : getB (P ++ numB n ++ R) ((P.length : Nat) : Int) = some (n, (((P ++ numB n).length : Nat) : Int)) := by
  rw [get_put P R n, clamp_id h.1 h.2, List.length_append]
  simp
theorem rdNs_put : ∀ (ns : List Int) (P R : List UInt8), (∀ n ∈ ns, InM n) → rdNs (P ++ numsB ns ++ R) ns.length ((P.length : Nat) : Int) = some (ns, (((P ++ numsB ns).length : Nat) : Int)) := by
  intro ns
  induction ns with
  | nil => intro P R _; simp [rdNs, numsB]
  | cons n ns ih =>
    intro P R h
    have e : P ++ numsB (n :: ns) ++ R = P ++ numB n ++ (numsB ns ++ R) := by
      show P ++ (numB n ++ numsB ns) ++ R = _
      simp [List.append_assoc]
    rw [e, List.length_cons, rdNs, getB_of (h n (List.mem_cons_self ..))]
    simp only
    rw [← List.append_assoc, ih (P ++ numB n) R (fun y hy => h y (List.mem_cons_of_mem _ hy))]
    simp only [Option.some.injEq, Prod.mk.injEq, true_and]
    have e2 : P ++ numsB (n :: ns) = P ++ numB n ++ numsB ns := by
      show P ++ (numB n ++ numsB ns) = _
      rw [List.append_assoc]
    rw [e2]
theorem cut_same (P Q R : List UInt8) (s : ByteArray) (hs : Q = sB s) : cutS (P ++ Q ++ R) P.length s.size = s := by
  subst hs
  unfold cutS
  have e : ((P ++ sB s ++ R).drop P.length).take s.size = sB s := by
    rw [List.append_assoc, List.drop_left, ← sB_len s, List.take_left]
  rw [e]
  unfold sB
  simp
theorem rdI_put (x : I) (P R : List UInt8) {N : Int} (h : specOk x N = true) : rdI (P ++ insB x ++ R) 12 ((P.length : Nat) : Int) = some (x, (((P ++ insB x).length : Nat) : Int)) := by
  obtain ⟨h1, h2, h3, h4, h5⟩ := ins_in h
  have hs := s_small h
  have hns : ∀ n ∈ [x.op, x.a, x.b, x.c, x.n, ((x.s.size : Nat) : Int)], InM n := fun n hn => by
    simp only [List.mem_cons, List.not_mem_nil, or_false] at hn
    rcases hn with rfl | rfl | rfl | rfl | rfl | rfl
    · exact h1
    · exact h2
    · exact h3
    · exact h4
    · exact h5
    · unfold InM; omega
  have hr := rdNs_put [x.op, x.a, x.b, x.c, x.n, ((x.s.size : Nat) : Int)] P (sB x.s ++ R) hns
  have e : P ++ insB x ++ R = P ++ numsB [x.op, x.a, x.b, x.c, x.n, ((x.s.size : Nat) : Int)] ++ (sB x.s ++ R) := by
    unfold insB; simp [List.append_assoc]
  have e3 : P ++ insB x ++ R = (P ++ numsB [x.op, x.a, x.b, x.c, x.n, ((x.s.size : Nat) : Int)]) ++ sB x.s ++ R := by
    unfold insB; simp [List.append_assoc]
  have hcut : cutS (P ++ insB x ++ R) (P ++ numsB [x.op, x.a, x.b, x.c, x.n, ((x.s.size : Nat) : Int)]).length x.s.size = x.s := by
    rw [e3]; exact cut_same _ _ _ x.s rfl
  have hlen : (P ++ insB x ++ R).length = (P ++ numsB [x.op, x.a, x.b, x.c, x.n, ((x.s.size : Nat) : Int)]).length + x.s.size + R.length := by
    rw [e3, List.length_append, List.length_append, sB_len]
  have hend : (P ++ insB x).length = (P ++ numsB [x.op, x.a, x.b, x.c, x.n, ((x.s.size : Nat) : Int)]).length + x.s.size := by
    unfold insB
    rw [← List.append_assoc, List.length_append, sB_len]
  unfold rdI
  rw [← e] at hr
  have hr6 : rdNs (P ++ insB x ++ R) 6 ((P.length : Nat) : Int) = some ([x.op, x.a, x.b, x.c, x.n, ((x.s.size : Nat) : Int)], (((P ++ numsB [x.op, x.a, x.b, x.c, x.n, ((x.s.size : Nat) : Int)]).length : Nat) : Int)) := hr
  rw [hr6]
  simp only
  rw [if_pos ⟨by omega, by omega, by rw [hlen]; omega⟩, Int.toNat_natCast, Int.toNat_natCast, hcut, hend]
  simp
theorem rdIs_put : ∀ (l : List I) (P R : List UInt8) (N : Int), (∀ x ∈ l, specOk x N = true) → rdIs (P ++ insBs l ++ R) 12 l.length ((P.length : Nat) : Int) = some (l, (((P ++ insBs l).length : Nat) : Int)) := by
  intro l
  induction l with
  | nil => intro P R N _; simp [rdIs, insBs]
  | cons x l ih =>
    intro P R N h
    have e : P ++ insBs (x :: l) ++ R = P ++ insB x ++ (insBs l ++ R) := by
      show P ++ (insB x ++ insBs l) ++ R = _
      simp [List.append_assoc]
    rw [e, List.length_cons, rdIs, rdI_put x P (insBs l ++ R) (h x (List.mem_cons_self ..))]
    simp only
    rw [← List.append_assoc, ih (P ++ insB x) R N (fun y hy => h y (List.mem_cons_of_mem _ hy))]
    simp only [Option.some.injEq, Prod.mk.injEq, true_and]
    have e2 : P ++ insBs (x :: l) = P ++ insB x ++ insBs l := by
      show P ++ (insB x ++ insBs l) = _
      rw [List.append_assoc]
    rw [e2]
/-- Whatever stands behind: the code is read up to its end. -/
def rdAll (L : List UInt8) : Option (List I × Int) := match getB L 0 with
  | none => none
  | some (n, e) => if 1 ≤ n ∧ n ≤ 200 then rdIs L 12 n.toNat e else none
theorem getC_all (L : List UInt8) : getC L = okC L (rdAll L) := by
  unfold getC getCm rdAll
  cases getB L 0 with
  | none => rfl
  | some p =>
    simp only
    split
    · rfl
    · rfl
theorem rdAll_put {l : List I} (h : codeB l = true) (R : List UInt8) : rdAll (codeBy l ++ R) = some (l, (((codeBy l).length : Nat) : Int)) := by
  have hl := codeB_len h
  have hm : InM ((l.length : Nat) : Int) := by unfold InM; omega
  have h0 := getB_of (P := []) (R := insBs l ++ R) hm
  have e0 : [] ++ numB ((l.length : Nat) : Int) ++ (insBs l ++ R) = codeBy l ++ R := by unfold codeBy; simp [List.append_assoc]
  rw [e0] at h0
  unfold rdAll
  have h00 : getB (codeBy l ++ R) 0 = some (((l.length : Nat) : Int), (((numB ((l.length : Nat) : Int)).length : Nat) : Int)) := h0
  rw [h00]
  simp only
  rw [if_pos ⟨by omega, by omega⟩, Int.toNat_natCast]
  have := rdIs_put l (numB ((l.length : Nat) : Int)) R _ (codeB_all h)
  exact this
theorem get_code {l : List I} (h : codeB l = true) : getC (codeBy l) = some l := by
  have := rdAll_put h []
  rw [List.append_nil] at this
  rw [getC_all, this, okC_of h]
theorem get_more {l : List I} (h : codeB l = true) {R : List UInt8} (hR : R ≠ []) : getC (codeBy l ++ R) = none := by
  rw [getC_all, rdAll_put h R]
  unfold okC
  simp only
  rw [if_neg]
  rintro ⟨e, _⟩
  rw [List.length_append] at e
  have : R.length ≠ 0 := fun h0 => hR (List.length_eq_zero_iff.1 h0)
  omega

theorem nums_back {L : List UInt8} : ∀ (k : Nat) (a : Nat) (e : Int) (ns : List Int), rdNs L k a = some (ns, e) → ∃ b : Nat, e = b ∧ a ≤ b ∧ (k = 0 ∨ b ≤ L.length) ∧ (L.drop a).take (b - a) = numsB ns ∧ b - a = (numsB ns).length := by
  intro k
  induction k with
  | zero =>
    intro a e ns h
    simp [rdNs] at h
    rw [h.1]
    exact ⟨a, h.2.symm, Nat.le_refl _, .inl rfl, by simp [numsB], by simp [numsB]⟩
  | succ k ih =>
    intro a e ns h
    rw [rdNs] at h
    cases hg : getB L a with
    | none => rw [hg] at h; cases h
    | some p =>
      obtain ⟨n, e1⟩ := p
      rw [hg] at h
      simp only at h
      obtain ⟨h0, h1, h2, _, _, h5, h6⟩ := get_back hg
      obtain ⟨c, rfl⟩ : ∃ c : Nat, e1 = c := ⟨e1.toNat, by omega⟩
      cases hr : rdNs L k c with
      | none => rw [hr] at h; cases h
      | some q =>
        obtain ⟨ms, e2⟩ := q
        rw [hr] at h
        simp only [Option.some.injEq, Prod.mk.injEq] at h
        obtain ⟨b, hb, hcb, hbl, ht, hlen⟩ := ih c e2 ms hr
        rw [← h.1]
        have e3 : numsB (n :: ms) = numB n ++ numsB ms := rfl
        have h7 : ((c : Int) - (a : Int)).toNat = c - a := by omega
        rw [h7, Int.toNat_natCast] at h6
        refine ⟨b, by rw [← h.2]; exact hb, by omega, .inr ?_, ?_, ?_⟩
        · rcases hbl with hz | hz
          · subst hz
            simp [rdNs] at hr
            have : (c : Int) = b := by rw [← hb]; exact hr.2
            omega
          · exact hz
        · rw [e3, ← h6, ← ht, show b - a = (c - a) + (b - c) by omega, List.take_add, List.drop_drop, show a + (c - a) = c by omega]
        · rw [e3, List.length_append, ← hlen]
          omega
theorem ins_back {L : List UInt8} {a : Nat} {e : Int} {x : I} (h : rdI L 12 a = some (x, e)) : ∃ b : Nat, e = b ∧ a ≤ b ∧ b ≤ L.length ∧ (L.drop a).take (b - a) = insB x ∧ b - a = (insB x).length := by
  unfold rdI at h
  cases hr : rdNs L 6 a with
  | none => rw [hr] at h; cases h
  | some p =>
    obtain ⟨ns, e6⟩ := p
    rw [hr] at h
    have hl := rdNs_len hr
    match ns, hl with
    | [op, xa, xb, xc, xn, sz], _ =>
      simp only at h
      by_cases hc : 0 ≤ sz ∧ sz ≤ 12 ∧ sz ≤ (L.length : Int) - e6
      · rw [if_pos hc] at h
        simp only [Option.some.injEq, Prod.mk.injEq] at h
        obtain ⟨c, rfl, hac, hcl, ht, hlen⟩ := nums_back 6 a e6 _ hr
        have hcl2 : c ≤ L.length := by rcases hcl with hz | hz <;> omega
        obtain ⟨n, rfl⟩ : ∃ n : Nat, sz = n := ⟨sz.toNat, by omega⟩
        rw [Int.toNat_natCast, Int.toNat_natCast] at h
        have hcs : (cutS L c n).size = n := cutS_size L c n (by omega)
        have hi : insB x = numsB [op, xa, xb, xc, xn, ((n : Nat) : Int)] ++ (L.drop c).take n := by
          rw [← h.1]
          show numsB [op, xa, xb, xc, xn, (((cutS L c n).size : Nat) : Int)] ++ sB (cutS L c n) = _
          rw [hcs]
          congr 1
        refine ⟨c + n, by rw [← h.2]; omega, by omega, by omega, ?_, ?_⟩
        · rw [hi, ← ht, show c + n - a = (c - a) + n by omega, List.take_add, List.drop_drop, show a + (c - a) = c by omega]
        · rw [hi, List.length_append, ← hlen]
          simp
          try omega
      · rw [if_neg hc] at h; cases h
theorem inss_back {L : List UInt8} : ∀ (k : Nat) (a : Nat) (e : Int) (l : List I), a ≤ L.length → rdIs L 12 k a = some (l, e) → l.length = k ∧ ∃ b : Nat, e = b ∧ a ≤ b ∧ b ≤ L.length ∧ (L.drop a).take (b - a) = insBs l := by
  intro k
  induction k with
  | zero =>
    intro a e l ha h
    simp [rdIs] at h
    rw [h.1]
    exact ⟨rfl, a, h.2.symm, Nat.le_refl _, ha, by simp [insBs]⟩
  | succ k ih =>
    intro a e l ha h
    rw [rdIs] at h
    cases hg : rdI L 12 a with
    | none => rw [hg] at h; cases h
    | some p =>
      obtain ⟨x, e1⟩ := p
      rw [hg] at h
      simp only at h
      obtain ⟨c, rfl, hac, hcl, ht, hlen⟩ := ins_back hg
      cases hr : rdIs L 12 k c with
      | none => rw [hr] at h; cases h
      | some q =>
        obtain ⟨m, e2⟩ := q
        rw [hr] at h
        simp only [Option.some.injEq, Prod.mk.injEq] at h
        obtain ⟨hmk, b, hb, hcb, hbl, ht2⟩ := ih c e2 m hcl hr
        rw [← h.1]
        have e3 : insBs (x :: m) = insB x ++ insBs m := rfl
        refine ⟨by rw [List.length_cons, hmk], b, by rw [← h.2]; exact hb, by omega, hbl, ?_⟩
        rw [e3, ← ht, ← ht2, show b - a = (c - a) + (b - c) by omega, List.take_add, List.drop_drop, show a + (c - a) = c by omega]
/-- What is read as code has these bytes. -/
theorem code_back {L : List UInt8} {l : List I} (h : getC L = some l) : codeB l = true ∧ codeBy l = L := by
  rw [getC_all] at h
  obtain ⟨h1, h2⟩ := okC_some h
  refine ⟨h2, ?_⟩
  unfold rdAll at h1
  cases hg : getB L 0 with
  | none => rw [hg] at h1; cases h1
  | some p =>
    obtain ⟨n, e⟩ := p
    rw [hg] at h1
    simp only at h1
    by_cases hn : 1 ≤ n ∧ n ≤ 200
    · rw [if_pos hn] at h1
      obtain ⟨h0, h3, h4, _, _, h5, h6⟩ := get_back hg
      obtain ⟨c, rfl⟩ : ∃ c : Nat, e = c := ⟨e.toNat, by omega⟩
      obtain ⟨hlen, b, hb, hcb, hbl, ht⟩ := inss_back n.toNat c _ l (by omega) h1
      have hbL : b = L.length := by omega
      subst hbL
      have hnl : ((l.length : Nat) : Int) = n := by omega
      unfold codeBy
      rw [hnl, ← h6, ← ht]
      have e1 : ((c : Int) - 0).toNat = c := by omega
      rw [e1]
      simp only [Int.toNat_zero, List.drop_zero]
      rw [List.take_of_length_le (l := List.drop c L) (by rw [List.length_drop]; omega), List.take_append_drop]
    · rw [if_neg hn] at h1; cases h1
/-- Bytes of code that are cut are none. -/
theorem get_short {l : List I} (h : codeB l = true) {k : Nat} (hk : k < (codeBy l).length) : getC ((codeBy l).take k) = none := by
  cases hg : getC ((codeBy l).take k) with
  | none => rfl
  | some m =>
    exfalso
    obtain ⟨hm, he⟩ := code_back hg
    have h1 := rdAll_put h []
    rw [List.append_nil] at h1
    have h2 := rdAll_put hm ((codeBy l).drop k)
    rw [he, List.take_append_drop, h1] at h2
    simp only [Option.some.injEq, Prod.mk.injEq] at h2
    have h3 := h2.2
    rw [List.length_take] at h3
    omega
end Go.Proofs.YtpjhipekjilejaaDoor.Cb
namespace Go.Proofs.YtpjhipekjilejaaDoor.Cb
open Go.RowKit
open Go.Proofs.YtpjhipekjilejaaDoor.By
open Go.Proofs.YtpjhipekjilejaaDoor.Code (I codeB specOk RowI SmI Bx6)
set_option linter.unusedVariables false

set_option maxHeartbeats 1000000 in
theorem at8_any (w : World) (ao : Option Addr) (len cap : Nat) (zs : List Int) (hr : IsRow w ao len cap zs) (hsm : len ≤ 1048576) (k : Nat) (hk : k ≤ 10) :
    Calls Tryd.prog 7 #[.slice ao len cap, .int .i64 (k : Int)] w fun e w' => ∃ x : Int, e = .returned (.int .i64 x) ∧ 0 ≤ x ∧ x ≤ 255 ∧ w' = w := by
  by_cases hlt : k < len
  · obtain ⟨b, o, rfl, hc⟩ := hr.at (by omega)
    have q := hc k hlt
    have hrg := hr.rng k
    generalize zs.getD k 0 = x at q hrg
    obtain ⟨h0, h1⟩ := hrg
    clear hc hr
    go_enter Tryd.func7, Tryd.ntmps7
    go_wp2_with fail
    go_ret
    exact ⟨x, rfl, h0, h1, rfl⟩
  · clear hr
    go_enter Tryd.func7, Tryd.ntmps7
    go_wp2_with fail
    go_ret
    exact ⟨_, rfl, Int.emod_nonneg _ (by decide), Int.le_of_lt_add_one (Int.emod_lt_of_pos _ (by decide)), rfl⟩

theorem own_of {w : World} {b : Nat} {v : Value} {P : List UInt8} (h : w.ownsRow b 5 1 v (0 + P.length) ([] ++ bcs P)) : OwB w b v P := by
  rw [Nat.zero_add, List.nil_append] at h; exact h
theorem nn_of8 {v5 v : Value} {m n c : Nat} {a : Addr} (h : v5 = .slice none 0 0 ↔ v = .slice none 0 0 ∧ m = 0) (hv : v = .slice (some a) n c) : v5 ≠ .slice none 0 0 := fun e => by
  have := (h.1 e).1
  rw [hv] at this
  cases this
theorem size_of {w w4 : World} {o : Obj} {r : Option Nat} (h : (w.alloc o).grownBy w4 r) (o2 : Obj) : w.heap.size ≤ (w4.alloc o2).heap.size := by
  have := h.size
  rw [World.size_alloc] at this ⊢
  omega
set_option maxHeartbeats 2000000 in
set_option maxRecDepth 100000 in
theorem cut_law (ao : Option Addr) (len cap : Nat) (zs : List Int) (w : World) (hr : IsRow w ao len cap zs) (hlc : len ≤ cap) (hcm : cap ≤ maxLen) (hS : Code.Shp w) (hP : Code.Pow w) (hE : Es.Ety w) :
    Calls Tryd.prog 3 #[.slice ao len cap] w fun e w' => e = .returned (.bool true) ∧ Below w.heap.size w w' := by
  obtain ⟨i0, hi, hz0, hz1, hz2⟩ := parts8 infoU8
  have HI : Hid (Tryd.prog.info? 5 = some i0 ∧ i0.zero = some (.int .u8 0) ∧ i0.size = 1 ∧ i0.bytes = 1) := ⟨hi, hz0, hz1, hz2⟩
  clear hi hz0 hz1 hz2
  have HR : Hid (IsRow w ao len cap zs) := hr
  have HG : Hid (Code.Shp w ∧ Code.Pow w ∧ Es.Ety w) := ⟨hS, hP, hE⟩
  have HBG : Hid (∀ w', Calls Tryd.prog 4 #[.slice ao len cap] w' fun e w'' => e = .returned (.bool (decide (1048576 < len))) ∧ w'' = w') := fun w' => bigB_any ao len cap w' (Nat.le_trans hlc hcm)
  clear hr hlc hcm hS hP hE
  by_cases hbig : 1048576 < len
  · have hd : decide (1048576 < len) = true := by simpa using hbig
    rw [hd] at HBG
    go_enter Tryd.func3, Tryd.ntmps3
    go_wp2_with (go_at_call 4; refine (HBG.out _).mono ?_; rintro e w' ⟨rfl, rfl⟩)
    go_ret
    exact ⟨rfl, Below.refl _ _⟩
  · have hd : decide (1048576 < len) = false := by simpa using hbig
    rw [hd] at HBG
    have HSM : Hid (len ≤ 1048576) := by show _ ≤ _; omega
    clear hd hbig
    go_enter Tryd.func3, Tryd.ntmps3
    go_wp2_with (go_at_call 4; refine (HBG.out _).mono ?_; rintro e w' ⟨rfl, hw'⟩; obtain rfl := hw'.symm)
    refine (Code.drawCode_any ao len cap zs w HR.out HSM.out).mono ?_
    rintro e w1 ⟨⟨va, vc, l, rfl, hrow, h1, h20, _, hcb⟩, hb1⟩
    have HCB : Hid (codeB l = true) := hcb
    have HW1 : Hid (Below w.heap.size w w1 ∧ RowI w1 va l) := ⟨hb1, hrow.row⟩
    have HSL : Hid (SmI maxLen l) := fun x hx => by have := code_small hcb x hx; unfold maxLen; omega
    clear hrow hcb hb1
    go_wp2_with fail
    refine (implPutC_any l va vc w1 HW1.out.2 HSL.out (by omega) (HG.out.1.below HW1.out.1) (HG.out.2.1.below HW1.out.1) (HG.out.2.2.below HW1.out.1)).mono ?_
    rw [putC_yes HCB.out]
    obtain ⟨P, hP⟩ : ∃ P, codeBy l = P := ⟨_, rfl⟩
    have HP : Hid (codeBy l = P) := hP
    have hP1 : 1 ≤ P.length := by rw [← hP]; unfold codeBy; rw [List.length_append]; have := num_len ((l.length : Nat) : Int); omega
    have hP2 : P.length ≤ 7204 := by rw [← hP]; exact codeBy_len HCB.out
    rw [hP]
    clear hP
    rintro e w2 ⟨g, c, rfl, ho2, hb2⟩
    have HO2 : Hid (OwB w2 w1.heap.size (.slice (some ⟨g, 0, none⟩) P.length c) P) := ho2
    have HB2 : Hid (Below w.heap.size w w2) := join8 HW1.out.1 hb2
    have hcc : P.length ≤ c := by
      rcases ho2.2 with ⟨e, _⟩ | ⟨_, cc, _, e, _, _, hl, _⟩
      · cases e
      · injection e with _ _ e; omega
    clear ho2 hb2
    have hp0 : ((P.length : Int) == 0) = false := by rw [beq_eq_false_iff_ne]; omega
    go_wp2_with fail
    refine (at8_any w2 ao len cap zs (HR.out.below HB2.out) HSM.out 2 (by decide)).mono ?_
    rintro e w3 ⟨x, rfl, hx0, hx1, hw3⟩
    obtain rfl := hw3.symm
    clear hw3
    go_wp2_with fail
    refine (at8_any w2 ao len cap zs (HR.out.below HB2.out) HSM.out 3 (by decide)).mono ?_
    rintro e w3 ⟨y, rfl, hy0, hy1, hw3⟩
    obtain rfl := hw3.symm
    clear hw3
    obtain ⟨k, hk⟩ : ∃ k : Nat, (x * 256 + y) % (P.length : Int) = k := ⟨((x * 256 + y) % (P.length : Int)).toNat, by have := Int.emod_nonneg (x * 256 + y) (show (P.length : Int) ≠ 0 by omega); omega⟩
    have hkl : k < P.length := by have := Int.emod_lt_of_pos (x * 256 + y) (show (0 : Int) < P.length by omega); omega
    have hkt : (x * 256 + y).tmod (P.length : Int) = (k : Int) := by rw [Int.tmod_eq_emod_of_nonneg (by omega)]; exact hk
    have hw1 : IntKind.i64.wrap (k : Int) = (k : Int) := by rw [IntKind.wrap_i64]; omega
    clear hk
    have HTK : Hid ((P.take k).length = k) := by show _ = _; rw [List.length_take]; omega
    have HC3 : Hid (Calls Tryd.prog 8 #[.slice (some ⟨g, 0, none⟩) (P.take k).length c] w2 fun e w' => GcP (P.take k) w2 e w') := implGetC_any (some ⟨g, 0, none⟩) c (P.take k) w2 (by have := bat_part HO2.out.at.1 0 k; rw [List.drop_zero] at this; exact this.rd) (by rw [HTK.out]; omega) (by rw [HTK.out]; omega) (HG.out.1.below HB2.out) (HG.out.2.1.below HB2.out) (HG.out.2.2.below HB2.out)
    rw [HTK.out] at HC3
    have HNO : Hid (getC (P.take k) = none) := by show _ = _; rw [← HP.out]; exact get_short HCB.out (by rw [HP.out]; exact hkl)
    have hkc : (k : Int) ≤ c := by omega
    go_wp2_with fail
    refine HC3.out.mono ?_
    rintro e w3 (⟨m, _, hm, _⟩ | ⟨_, g3, rfl, hb3⟩)
    · rw [HNO.out] at hm; cases hm
    have HB3 : Hid (Below w.heap.size w (w3.alloc (.cells #[] 5))) := (join8 HB2.out hb3).alloc (join8 HB2.out hb3).size _
    have HW3 : Hid (w.heap.size ≤ w3.heap.size) := (join8 HB2.out hb3).size
    have HO3 : Hid (BAt (w3.alloc (.cells #[] 5)) g 0 P) := (HO2.out.at.1.below hb3).below ((Below.refl _ _).alloc (Nat.le_refl _) _)
    clear hb3 HC3 hkt hw1
    have HO : Hid ((w3.alloc (.cells #[] 5)).ownsRow w3.heap.size 5 1 (.slice (some ⟨w3.heap.size, 0, none⟩) 0 0) 0 []) := World.ownsRow_made w3 #[] 0 (Nat.le_refl _) (Nat.zero_le _) rfl
    have HC : Hid (∀ j u, (bcs P)[j]? = some u → (w3.alloc (.cells #[] 5)).cell? ((⟨g, 0, none⟩ : Addr).add j) = some u) := srcB HO3.out
    have C3 : Hid (0 + P.length ≤ maxLen) := by show _ ≤ _; unfold maxLen; omega
    have C4 : Hid ((0 + P.length) * 1 ≤ 140737488355328) := by show _ ≤ _; omega
    have C5 : Hid (w3.heap.size ≤ (w3.alloc (.cells #[] 5)).heap.size) := by show _ ≤ _; rw [World.size_alloc]; omega
    have D3 : Hid (P.length + 1 ≤ maxLen) := by show _ ≤ _; unfold maxLen; omega
    have D4 : Hid ((P.length + 1) * 1 ≤ 140737488355328) := by show _ ≤ _; omega
    obtain ⟨Z, hZ⟩ : ∃ Z, P ++ [(0 : UInt8)] = Z := ⟨_, rfl⟩
    have HZ : Hid (P ++ [(0 : UInt8)] = Z) := hZ
    have HZL : Hid (Z.length ≤ 7205) := by show _ ≤ _; rw [← hZ, List.length_append]; simp; omega
    have HNZ : Hid (getC Z = none) := by show _ = _; rw [← hZ, ← HP.out]; exact get_more HCB.out (by simp)
    clear hZ
    go_wp2_with (at_builtin; first
      | (refine wpList_append_own_at _ rfl _ _ 22 rfl w3.heap.size 5 i0 (.int .u8 0) 1 1 undU8 HI.out.1 HI.out.2.1 HI.out.2.2.1 HI.out.2.2.2 rfl Nat.zero_lt_one _ 0 [] rfl HO.out ⟨g, 0, none⟩ P.length c (bcs P) rfl (lenBs P) HC.out (oneBs P) C3.out C4.out C5.out ?_; intro v4 w4 hown4 hgr4 hnn4 hat4; have HO4 : Hid (OwB w4 w3.heap.size v4 P) := (own_of hown4); have HS4 : Hid ((w3.alloc (.cells #[] 5)).grownBy w4 (some w3.heap.size)) := hgr4; have HN4 : Hid (v4 ≠ .slice none 0 0) := fun e => nn_of8 hnn4 rfl e; clear hown4 hgr4 hnn4 hat4)
      | (refine wpList_append_own_at _ rfl _ _ 22 rfl w3.heap.size 5 i0 (.int .u8 0) 1 1 undU8 HI.out.1 HI.out.2.1 HI.out.2.2.1 HI.out.2.2.2 rfl Nat.zero_lt_one _ P.length _ rfl (World.ownsRow.alloc HO4.out _) ⟨_, 0, none⟩ 1 1 [.int .u8 0] rfl rfl (cell_one_new _ _ _) (oneB _ _) D3.out D4.out (size_of HS4.out _) ?_; intro v5 w5 hown5 hgr5 hnn5 hat5))
    have how5 : OwB w5 w3.heap.size v5 Z := by
      have := owB_byte (c := 0) hown5 rfl
      rw [HZ.out] at this
      exact this
    have hb4 : Below w.heap.size w w4 := HB3.out.grown HS4.out HB3.out.size (fun k hk => by injection hk with hk; have := HB3.out.size; rw [← hk]; have h9 := HB2.out.size; have h8 := HB3.out; have h7 : w.heap.size ≤ w3.heap.size := HW3.out; omega)
    have hb5 : Below w.heap.size w w5 := (hb4.alloc hb4.size _).grown hgr5 (by rw [World.size_alloc]; have := hb4.size; omega) (fun k hk => by have := (World.ownsRow.lt HO4.out k hk).1; have h7 := HW3.out; omega)
    obtain ⟨g5, c5, rfl⟩ := how5.some (fun e => HN4.out (hnn5.1 e).1)
    have hz5 : Z.length ≤ c5 := by
      rcases how5.2 with ⟨e, _⟩ | ⟨_, cc, _, e, _, _, hl, _⟩
      · cases e
      · injection e with _ _ e; omega
    have HB5 : Hid (Below w.heap.size w w5) := hb5
    have HA5 : Hid (BAt w5 g5 0 Z) := how5.at.1
    clear how5 hb4 hb5 hown5 hgr5 hnn5 hat5
    refine (implGetC_any (some ⟨g5, 0, none⟩) c5 Z w5 HA5.out.rd (by have := HZL.out; omega) hz5 (HG.out.1.below HB5.out) (HG.out.2.1.below HB5.out) (HG.out.2.2.below HB5.out)).mono ?_
    rintro e w6 (⟨m, _, hm, _⟩ | ⟨_, g6, rfl, hb6⟩)
    · rw [HNZ.out] at hm; cases hm
    have HB6 : Hid (Below w.heap.size w w6) := join8 HB5.out hb6
    clear hb6
    go_wp2_with fail
    go_ret
    exact ⟨rfl, HB6.out⟩
end Go.Proofs.YtpjhipekjilejaaDoor.Cb
namespace Go.Proofs.YtpjhipekjilejaaDoor.fnCut
open Go.ChangeShapes Go.WideShapes Go.ChangeAt Go.RowKit
open Go.Proofs.YtpjhipekjilejaaDoor.Code
set_option linter.unusedVariables false

theorem row_len {w : World} {a : Option Addr} {len cap : Nat} {zs : List Int} (h : IsRow w a len cap zs) : len ≤ cap ∧ cap ≤ maxLen := by
  rcases h with ⟨_, rfl, rfl, _⟩ | ⟨_, _, h1, h2, _⟩
  · exact ⟨Nat.le_refl _, Nat.zero_le _⟩
  · exact ⟨h1, h2⟩
theorem laid_of {W : World} (h : laidMetH Tryd.prog Rows.fnCutRow.laid W) : (Shp W ∧ Pow W) ∧ Es.Ety W := by
  have h' : laidMet Tryd.prog [("math/bits.deBruijn32tab", Rows.laid_math_bits_deBruijn32tab), ("math/bits.deBruijn64tab", Rows.laid_math_bits_deBruijn64tab), ("internal/strconv.uint64pow10", Rows.laid_internal_strconv_uint64pow10), ("loop.example/g00248/impl.shapes", Rows.laid_loop_example_g00248_impl_shapes)] W ∧ handlesMet Tryd.prog [("errors.errorType", Rows.laid_errors_errorType)] W := h
  have h3 := laidMet.tail (laidMet.tail h'.1)
  exact ⟨⟨shp_of_met (laidMet.tail h3), pow_of_met h3⟩, ety_of (by kernel_rfl) h'.2⟩
theorem shp_of {W : World} (h : laidMetH Tryd.prog Rows.fnCutRow.laid W) : Shp W := (laid_of h).1.1

/-- The heap that the variables' own initialisers leave meets the condition. -/
theorem door_met (os : Os) (args : Array Value) : laidMetH Tryd.prog Rows.fnCutRow.laid ((World.doorLaid Tryd.prog 400 os).forCall (fun _ _ => 0) ⟨#[], args, []⟩).memory :=
  laidMetH_of_parts3 (fuel := 8) (laidMet_of_run' 8 (by kernel_rfl) (by kernel_rfl)) (by kernel_rfl) (by kernel_rfl)

set_option maxRecDepth 100000 in
theorem lifted (os : Os) (started : os.Started) (H : Type) (enc : TypeId × Value → H) :
    ReturnsInHanded {} Tryd.checked os 3 .any (fun w args => (Rows.fnCutSpec.pre enc Tryd.prog Tryd.f3 [] false w args ∧ laidMetH Tryd.prog Rows.fnCutRow.laid w) ∧ sizedMet enc Tryd.prog Tryd.f3 (OpenSpec.ofChange Rows.fnCutSpec) false w args)
      (Rows.fnCutSpec.post enc Tryd.prog Tryd.f3 false true false false) := by
  refine returnsInHanded_of_change_and (C := Tryd.checked) (X := fun w _ => laidMetH Tryd.prog Rows.fnCutRow.laid w) (fun _ _ _ hh h => h.of_heap hh) own started (by kernel_rfl) Tryd.func3
    (ChangeSpec.witness_shaped (enc := enc) (C := Tryd.checked) (os := os) (X := fun w _ => laidMetH Tryd.prog Rows.fnCutRow.laid w) false (World.doorLaid Tryd.prog 400 os) #[.slice none 0 0] 8 rfl (World.shaped_of_RefB (by kernel_rfl) (by kernel_rfl)) (by kernel_rfl) (by kernel_rfl) (by kernel_rfl) (door_met os _)) ?_
  intro W base args ds gs before hval0 hW _ _ hL _
  have hval : ∀ (j : Nat) t v, Tryd.f3.params[j]? = some t → args[j]? = some v → Value.okWide Tryd.prog W .any base t v := hval0
  have hW' := hW
  obtain ⟨p, q, hA0, hV, rfl, hfz, hnd⟩ := hW
  have hA : DataW.TrodAll enc Tryd.prog W 0 (fun _ => true) true Tryd.f3.params.toList args.toList ds p := hA0
  rw [Tryd.params3] at hA hval
  obtain ⟨v0, vs0, d0, ds0, p0, q0, hargs, rfl, rfl, h0, r0⟩ := trodAll_cons hA
  obtain ⟨rfl, rfl, rfl⟩ := trodAll_nil r0
  obtain rfl : args = #[v0] := by cases args; simp_all
  have k0 := h0
  have lt0 : ∀ x ∈ p0, x.block < W.heap.size := by obtain ⟨m, hm⟩ := k0; exact DataW.trod_lt m _ _ _ hm
  obtain ⟨a0, len0, cap0, rfl⟩ := okWide_slice Tryd.underlying22 (hval 0 22 v0 rfl rfl)
  obtain ⟨z0, w0⟩ : ∃ zs, IsRow W a0 len0 cap0 zs := by
    obtain ⟨fuel, hf⟩ := h0
    rcases open_ints Tryd.underlying22 Tryd.underlying5 (by kernel_rfl) hf with ⟨hcs, _⟩ | ⟨x, l, c, zs, hcs, _, hl, hm, hz, _, hcell, hwz⟩
    · simp [Value.cells] at hcs
      obtain ⟨rfl, rfl, rfl⟩ := hcs
      exact ⟨[], .inl ⟨rfl, rfl, rfl, rfl⟩⟩
    · simp [Value.cells] at hcs
      obtain ⟨rfl, rfl, rfl⟩ := hcs
      exact ⟨zs, .inr ⟨_, rfl, hl, hm, by simpa using hz, hcell, hwz⟩⟩
  have hS := shp_of hL
  clear hA0 hval0
  refine (Cb.cut_law a0 len0 cap0 z0 W w0 (row_len w0).1 (row_len w0).2 hS (laid_of hL).1.2 (laid_of hL).2).mono fun e W' ⟨he, bel⟩ => ?_
  subst he
  obtain ⟨q', hv'⟩ := vars_after (by kernel_rfl) hS hV bel
  have hg : ∃ g, gs = [g] := by
    obtain ⟨g, t, cs, fuel, d, p, e, _⟩ := trodVars_one hV
    exact ⟨d, e⟩
  obtain ⟨g, rfl⟩ := hg
  exact ⟨_, rfl, _, _, _, [], _, q', hW', trodAll_mk1 (shut_bool Tryd.underlying4 _), (trodAll_cons_mk (Below.trod laidOut (by kernel_rfl) (of_decide_eq_true (by kernel_rfl)) k0 bel lt0) trodAll_mk0), hv', bel.frame _, fun h => by cases h⟩

theorem over : Rows.fnCutRow.holds Tryd.pinned (OpenSpec.ofChange Rows.fnCutSpec) :=
  OpenClaim.holds_of_wide 3 Tryd.f3 rfl rfl rfl rfl rfl rfl rfl ⟨rfl, rfl, rfl, rfl, rfl⟩ rfl rfl rfl rfl rfl (by kernel_rfl) Tryd.func3 (by kernel_rfl)
    (of_decide_eq_true (by kernel_rfl)) (by unfold Func.isWrapper; first | (rw [if_pos (by decide +kernel)]; kernel_rfl) | (rw [if_neg (by decide +kernel)]; exact ⟨rfl, rfl⟩))
    (fun os started H enc _ => lifted os started H enc)
end Go.Proofs.YtpjhipekjilejaaDoor.fnCut
namespace Go.Proofs.YtpjhipekjilejaaDoor
theorem fnCut_holds : Rows.FnCutCardSaid :=
  Claim7.holds_tied_plain_at .later [] [.data, .data, .data, .handle, .data] true Rows.fnCutCard.stood.harness true
    fnCut.over (fun _ h => by cases h) (by kernel_rfl) (fun _ h => by cases h) fnCut_row_tie rfl ⟨rfl, rfl⟩ (by kernel_rfl) rfl
    (fun f fn hf hfn => by
      obtain rfl : f = 3 := Option.some.inj ((show Tryd.prog.funcNamed Rows.fnCutRow.func = some 3 by kernel_rfl).symm.trans hf) |>.symm
      obtain rfl : fn = Tryd.f3 := (Option.some.inj (Tryd.func3.symm.trans hfn)).symm
      exact ⟨by kernel_rfl, fun j t ht => by
        rw [Tryd.params3] at ht
        have hm : t ∈ [22] := by simpa using Array.mem_of_getElem? ht
        have hall : ([22].all fun u => !Tryd.prog.wantsStandIn u) = true := by kernel_rfl
        exact (show Tryd.prog.wantsStandIn t = false by simpa using List.all_eq_true.1 hall t hm)⟩)
    (by kernel_rfl)
#print axioms fnCut_holds
end Go.Proofs.YtpjhipekjilejaaDoor
