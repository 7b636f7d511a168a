/-
  Code read of bytes: what the specification's l13Num and l13Ins answer.
-/
import Derived.Test.YtgdlkekjbdkjjaaGreatDoorU3
import Derived.Test.YtgdlkekjbdkjjaaGreatDoorInn
import Derived.Deep.RegionHeld3
namespace Go.Proofs.YtgdlkekjbdkjjaaGreatDoor.Cb
open Go.RowKit
open Go.Proofs.YtgdlkekjbdkjjaaGreatDoor.By
open Go.Proofs.YtgdlkekjbdkjjaaGreatDoor.Code (I codeB specOk RowI SmI Bx6)
set_option linter.unusedVariables false

/-- The reader in the block rb: the place a, and whether it went wrong. -/
structure Rdr (w : World) (rb : Nat) (ao : Option Addr) (cap : Nat) (L : List UInt8) (a : Int) (bad : Bool) : Prop where
  blk : w.heap[rb]? = some (.cells #[.slice ao L.length cap, .int .i64 a, .bool bad] 58 (0, 0))
  rd : L.length ≠ 0 → ∃ b o, ao = some ⟨b, o, none⟩ ∧ b ≠ rb ∧ BAt w b o L
theorem Rdr.lt {w : World} {rb : Nat} {ao : Option Addr} {cap : Nat} {L : List UInt8} {a : Int} {bad : Bool} (h : Rdr w rb ao cap L a bad) : rb < w.heap.size := (Array.getElem?_eq_some_iff.1 h.blk).1
theorem Rdr.below {w w' : World} {rb : Nat} {ao : Option Addr} {cap : Nat} {L : List UInt8} {a : Int} {bad : Bool} (h : Rdr w rb ao cap L a bad) (hb : Below w.heap.size w w') : Rdr w' rb ao cap L a bad :=
  ⟨(hb.block rb h.lt).trans h.blk, fun h0 => by obtain ⟨b, o, e, hn, hx⟩ := h.rd h0; exact ⟨b, o, e, hn, hx.below hb⟩⟩
theorem Rdr.rdB {w : World} {rb : Nat} {ao : Option Addr} {cap : Nat} {L : List UInt8} {a : Int} {bad : Bool} (h : Rdr w rb ao cap L a bad) : RdB w ao L := fun h0 => by obtain ⟨b, o, e, _, hx⟩ := h.rd h0; exact ⟨b, o, e, hx⟩
theorem rdr_turn {w : World} {rb : Nat} {ao : Option Addr} {L : List UInt8} {v : Value} {i : Nat} (h : L.length ≠ 0 → ∃ b o, ao = some ⟨b, o, none⟩ ∧ b ≠ rb ∧ BAt w b o L) : L.length ≠ 0 → ∃ b o, ao = some ⟨b, o, none⟩ ∧ b ≠ rb ∧ BAt (w.setCell ⟨rb, i, none⟩ v) b o L := fun h0 => by
  obtain ⟨b, o, e, hn, hx⟩ := h h0
  exact ⟨b, o, e, hn, hx.turn ((Turn.refl rb w).set i v) hn⟩
theorem Rdr.set1 {w : World} {rb : Nat} {ao : Option Addr} {cap : Nat} {L : List UInt8} {a : Int} {bad : Bool} (h : Rdr w rb ao cap L a bad) (a' : Int) : Rdr (w.setCell ⟨rb, 1, none⟩ (.int .i64 a')) rb ao cap L a' bad :=
  ⟨by rw [setBlk h.blk]; rfl, rdr_turn h.rd⟩
theorem Rdr.set2 {w : World} {rb : Nat} {ao : Option Addr} {cap : Nat} {L : List UInt8} {a : Int} {bad : Bool} (h : Rdr w rb ao cap L a bad) (b' : Bool) : Rdr (w.setCell ⟨rb, 2, none⟩ (.bool b')) rb ao cap L a b' :=
  ⟨by rw [setBlk h.blk]; rfl, rdr_turn h.rd⟩
theorem Rdr.drew {w : World} {rb : Nat} {ao : Option Addr} {cap : Nat} {L : List UInt8} {a : Int} {bad : Bool} (h : Rdr w rb ao cap L a bad) : Rdr w.drew rb ao cap L a bad := ⟨h.blk, h.rd⟩

/-- A number read: the number, the place behind, and whether it went wrong. -/
def nSt (L : List UInt8) (a : Int) (bad : Bool) : Int × Int × Bool := if bad = true then (0, a, true) else match getB L a with
  | none => (0, a, true)
  | some (n, e) => (n, e, false)
def runN (L : List UInt8) : Nat → Int → Bool → List Int × Int × Bool
  | 0, a, bad => ([], a, bad)
  | k + 1, a, bad => ((nSt L a bad).1 :: (runN L k (nSt L a bad).2.1 (nSt L a bad).2.2).1, (runN L k (nSt L a bad).2.1 (nSt L a bad).2.2).2)
theorem runN_bad (L : List UInt8) : ∀ (k : Nat) (a : Int), (runN L k a true).2.2 = true := by
  intro k
  induction k with
  | zero => intro a; rfl
  | succ k ih =>
    intro a
    show (runN L k (nSt L a true).2.1 (nSt L a true).2.2).2.2 = true
    have e : nSt L a true = (0, a, true) := if_pos rfl
    rw [e]; exact ih a
theorem runN_good (L : List UInt8) : ∀ (k : Nat) (a : Int), ((runN L k a false).2.2 = false ∧ rdNs L k a = some ((runN L k a false).1, (runN L k a false).2.1)) ∨ ((runN L k a false).2.2 = true ∧ rdNs L k a = none) := by
  intro k
  induction k with
  | zero => intro a; exact .inl ⟨rfl, rfl⟩
  | succ k ih =>
    intro a
    cases hg : getB L a with
    | none =>
      have e : nSt L a false = (0, a, true) := by unfold nSt; rw [if_neg (by decide), hg]
      refine .inr ⟨?_, by rw [rdNs, hg]⟩
      show (runN L k (nSt L a false).2.1 (nSt L a false).2.2).2.2 = true
      rw [e]; exact runN_bad L k a
    | some p =>
      obtain ⟨n, e1⟩ := p
      have e : nSt L a false = (n, e1, false) := by unfold nSt; rw [if_neg (by decide), hg]
      rw [rdNs, hg]
      show ((runN L k (nSt L a false).2.1 (nSt L a false).2.2).2.2 = false ∧ (match rdNs L k e1 with | none => none | some (ns, e') => some (n :: ns, e')) = some ((nSt L a false).1 :: (runN L k (nSt L a false).2.1 (nSt L a false).2.2).1, (runN L k (nSt L a false).2.1 (nSt L a false).2.2).2.1)) ∨ ((runN L k (nSt L a false).2.1 (nSt L a false).2.2).2.2 = true ∧ (match rdNs L k e1 with | none => none | some (ns, e') => some (n :: ns, e')) = none)
      rw [e]
      rcases ih e1 with ⟨h1, h2⟩ | ⟨h1, h2⟩
      · exact .inl ⟨h1, by rw [h2]⟩
      · exact .inr ⟨h1, by rw [h2]⟩

set_option maxHeartbeats 2000000 in
set_option maxRecDepth 100000 in
theorem l13Num_any (rb : Nat) (ao : Option Addr) (cap : Nat) (L : List UInt8) (a : Int) (bad : Bool) (w : World) (h : Rdr w rb ao cap L a bad) (hN : L.length ≤ 1048600) :
    Calls Tryz.prog 29 #[.pointer (some ⟨rb, 0, none⟩)] w fun e w' => e = .returned (.int .i64 (nSt L a bad).1) ∧ Rdr w' rb ao cap L (nSt L a bad).2.1 (nSt L a bad).2.2 ∧ Turn rb w w' := by
  have HR : Hid (Rdr w rb ao cap L a bad) := h
  have c0 : w.cell? ⟨rb, 0, none⟩ = some (.slice ao L.length cap) := by rw [cell_blk h.blk]; rfl
  have c1 : w.cell? ⟨rb, 1, none⟩ = some (.int .i64 a) := by rw [cell_blk h.blk]; rfl
  have c2 : w.cell? ⟨rb, 2, none⟩ = some (.bool bad) := by rw [cell_blk h.blk]; rfl
  obtain ⟨x, y, z, hans⟩ : ∃ (x y : Int) (z : Bool), ansN (getB L a) = .tuple #[.int .i64 x, .int .i64 y, .bool z] := by
    cases getB L a with
    | none => exact ⟨0, 0, false, rfl⟩
    | some p => exact ⟨p.1, p.2, true, rfl⟩
  have HST : Hid (nSt L a bad = if bad = true ∨ z = false then (0, a, true) else (x, y, false)) := by
    show _ = _
    unfold nSt
    cases hb : bad with
    | true => simp
    | false =>
      rw [if_neg (by decide)]
      cases hg : getB L a with
      | none =>
        rw [hg] at hans
        have h1 : (.tuple #[.int .i64 0, .int .i64 0, .bool false] : Value) = .tuple #[.int .i64 x, .int .i64 y, .bool z] := hans
        simp at h1
        obtain ⟨rfl, rfl, rfl⟩ := h1
        simp
      | some p =>
        rw [hg] at hans
        have h1 : (.tuple #[.int .i64 p.1, .int .i64 p.2, .bool true] : Value) = .tuple #[.int .i64 x, .int .i64 y, .bool z] := hans
        simp at h1
        obtain ⟨rfl, rfl, rfl⟩ := h1
        simp
  have HA : Hid (ansN (getB L a) = .tuple #[.int .i64 x, .int .i64 y, .bool z]) := hans
  clear h hans
  go_enter Tryz.func29, Tryz.ntmps29
  go_wp2_with fail
  go_region_held3 (fun w' => w'.cell? ⟨rb, 0, none⟩ = some (.slice ao L.length cap) ∧ w'.cell? ⟨rb, 1, none⟩ = some (.int .i64 a) ∧ w'.cell? ⟨rb, 2, none⟩ = some (.bool bad)) (first | (refine ⟨?_, ?_, ?_⟩ <;> assumption) | go_keep)
    (first | (go_at_call 54; refine (specGet_any ao cap L a _ ?_ hN).mono ?_; (focus (first | exact HR.out.rdB | exact HR.out.drew.rdB)); rw [HA.out]; rintro e w1 ⟨rfl, hb1⟩; have hr1 : Rdr w1 rb ao cap L a bad := HR.out.drew.below hb1; have k0 : w1.cell? ⟨rb, 0, none⟩ = some (.slice ao L.length cap) := (cell_blk hr1.blk).trans rfl; have k1 : w1.cell? ⟨rb, 1, none⟩ = some (.int .i64 a) := (cell_blk hr1.blk).trans rfl; have k2 : w1.cell? ⟨rb, 2, none⟩ = some (.bool bad) := (cell_blk hr1.blk).trans rfl))
  all_goals
    have HR1 : Hid (Rdr w1 rb ao cap L a bad) := hr1
    have HT1 : Hid (Turn rb w w1) := ⟨hb1.os, hb1.tape, hb1.output, hb1.size, fun k hk _ => hb1.block k hk⟩
    have fz : ∀ o, w1.frozen? ⟨rb, o, none⟩ = false := fun o => free_blk hr1.blk
    clear hb1 hr1 c0 c1 c2
    cases bad with
    | true =>
      have HS2 : Hid (nSt L a true = (0, a, true)) := by show _ = _; rw [HST.out]; simp
      go_wp2_with fail
      go_ret
      exact ⟨by rw [HS2.out]; rfl, by rw [HS2.out]; exact HR1.out.set2 true, HT1.out.set _ _⟩
    | false =>
      cases z with
      | false =>
        have HS2 : Hid (nSt L a false = (0, a, true)) := by show _ = _; rw [HST.out]; simp
        go_wp2_with fail
        go_ret
        exact ⟨by rw [HS2.out]; rfl, by rw [HS2.out]; exact HR1.out.set2 true, HT1.out.set _ _⟩
      | true =>
        have HS2 : Hid (nSt L a false = (x, y, false)) := by show _ = _; rw [HST.out]; simp
        go_wp2_with fail
        go_ret
        exact ⟨by rw [HS2.out]; rfl, by rw [HS2.out]; exact HR1.out.set1 y, HT1.out.set _ _⟩

theorem rdNs_ne {L : List UInt8} {k : Nat} {a e : Int} {ns : List Int} (h : rdNs L (k + 1) a = some (ns, e)) : L.length ≠ 0 := by
  rw [rdNs] at h
  cases hg : getB L a with
  | none => rw [hg] at h; cases h
  | some p =>
    have := get_back (y := p.1) (e := p.2) hg
    omega
/-- What l13Ins has in hand: the result's box R, the instruction's box X. -/
structure Li (w wr : World) (rb : Nat) (ao : Option Addr) (cap : Nat) (L : List UInt8) (R X : Nat) (a : Int) (bad : Bool) (cs : Array Value) : Prop where
  rdr : Rdr wr rb ao cap L a bad
  turn : Turn rb w wr
  bR : wr.heap[R]? = some (.cells #[.int .i64 0, .int .i64 0, .int .i64 0, .int .i64 0, .int .i64 0, .string ⟨#[]⟩] 47 (0, 0))
  bX : wr.heap[X]? = some (.cells cs 47 (0, 0))
theorem Li.call {w wr w' : World} {rb : Nat} {ao : Option Addr} {cap : Nat} {L : List UInt8} {R X : Nat} {a a' : Int} {bad bad' : Bool} {cs : Array Value} (h : Li w wr rb ao cap L R X a bad cs) (hR : R ≠ rb) (hX : X ≠ rb) (hr : Rdr w' rb ao cap L a' bad') (ht : Turn rb wr w') : Li w w' rb ao cap L R X a' bad' cs :=
  ⟨hr, h.turn.trans ht, (ht.block R (Array.getElem?_eq_some_iff.1 h.bR).1 hR).trans h.bR, (ht.block X (Array.getElem?_eq_some_iff.1 h.bX).1 hX).trans h.bX⟩
theorem Li.put {w wr : World} {rb : Nat} {ao : Option Addr} {cap : Nat} {L : List UInt8} {R X : Nat} {a : Int} {bad : Bool} {cs : Array Value} (h : Li w wr rb ao cap L R X a bad cs) (hRX : R ≠ X) (hX : X ≠ rb) (hw : w.heap.size ≤ X) (hb : ∀ b o, ao = some ⟨b, o, none⟩ → b ≠ X) (i : Nat) (v : Value) : Li w (wr.setCell ⟨X, i, none⟩ v) rb ao cap L R X a bad (cs.setIfInBounds i v) := by
  have hbl : ∀ k, k ≠ X → (wr.setCell ⟨X, i, none⟩ v).heap[k]? = wr.heap[k]? := fun k hk => Below.heap_setCell wr ⟨X, i, none⟩ v k hk
  have t := h.turn
  refine ⟨⟨(hbl rb hX.symm).trans h.rdr.blk, fun h0 => ?_⟩, ⟨t.os, t.tape, t.output, by rw [World.size_setCell]; exact t.size, fun k hk hn => (hbl k (by omega)).trans (t.block k hk hn)⟩, (hbl R hRX).trans h.bR, setBlk h.bX v⟩
  obtain ⟨b, o, e, hn, hx⟩ := h.rdr.rd h0
  exact ⟨b, o, e, hn, fun j hj => by rw [World.cell?_of_block (w := wr) (hbl b (hb b o e))]; exact hx j hj⟩
theorem Li.drew {w wr : World} {rb : Nat} {ao : Option Addr} {cap : Nat} {L : List UInt8} {R X : Nat} {a : Int} {bad : Bool} {cs : Array Value} (h : Li w wr rb ao cap L R X a bad cs) : Li w wr.drew rb ao cap L R X a bad cs := ⟨h.rdr.drew, ⟨h.turn.os, h.turn.tape, h.turn.output, h.turn.size, h.turn.block⟩, h.bR, h.bX⟩
theorem Li.drewN {w wr : World} {rb : Nat} {ao : Option Addr} {cap : Nat} {L : List UInt8} {R X : Nat} {a : Int} {bad : Bool} {cs : Array Value} (h : Li w wr rb ao cap L R X a bad cs) (n : Nat) : Li w (wr.drewN n) rb ao cap L R X a bad cs := ⟨⟨h.rdr.blk, h.rdr.rd⟩, ⟨h.turn.os, h.turn.tape, h.turn.output, h.turn.size, h.turn.block⟩, h.bR, h.bX⟩
theorem Li.belowL {w wr w' : World} {rb : Nat} {ao : Option Addr} {cap : Nat} {L : List UInt8} {R X : Nat} {a : Int} {bad : Bool} {cs : Array Value} (h : Li w wr rb ao cap L R X a bad cs) (hb : Below wr.heap.size wr w') : Li w w' rb ao cap L R X a bad cs :=
  ⟨h.rdr.below hb, h.turn.trans (Turn.of_below hb), (hb.block R (Array.getElem?_eq_some_iff.1 h.bR).1).trans h.bR, (hb.block X (Array.getElem?_eq_some_iff.1 h.bX).1).trans h.bX⟩
theorem Li.bad {w wr : World} {rb : Nat} {ao : Option Addr} {cap : Nat} {L : List UInt8} {R X : Nat} {a : Int} {bad : Bool} {cs : Array Value} (h : Li w wr rb ao cap L R X a bad cs) (hR : R ≠ rb) (hX : X ≠ rb) (b' : Bool) : Li w (wr.setCell ⟨rb, 2, none⟩ (.bool b')) rb ao cap L R X a b' cs :=
  ⟨h.rdr.set2 b', h.turn.set 2 _, (Below.heap_setCell wr ⟨rb, 2, none⟩ _ R hR).trans h.bR, (Below.heap_setCell wr ⟨rb, 2, none⟩ _ X hX).trans h.bX⟩
theorem Li.mv {w wr : World} {rb : Nat} {ao : Option Addr} {cap : Nat} {L : List UInt8} {R X : Nat} {a : Int} {bad : Bool} {cs : Array Value} (h : Li w wr rb ao cap L R X a bad cs) (hR : R ≠ rb) (hX : X ≠ rb) (a' : Int) : Li w (wr.setCell ⟨rb, 1, none⟩ (.int .i64 a')) rb ao cap L R X a' bad cs :=
  ⟨h.rdr.set1 a', h.turn.set 1 _, (Below.heap_setCell wr ⟨rb, 1, none⟩ _ R hR).trans h.bR, (Below.heap_setCell wr ⟨rb, 1, none⟩ _ X hX).trans h.bX⟩
theorem turn_out {rb R : Nat} {w wr : World} (t : Turn rb w wr) (hw : w.heap.size ≤ R) (i : Nat) (v : Value) : Turn rb w (wr.setCell ⟨R, i, none⟩ v) :=
  ⟨t.os, t.tape, t.output, by rw [World.size_setCell]; exact t.size, fun k hk hn => (Below.heap_setCell wr ⟨R, i, none⟩ v k (by show k ≠ R; omega)).trans (t.block k hk hn)⟩
theorem rdr_out {wr : World} {rb R : Nat} {ao : Option Addr} {cap : Nat} {L : List UInt8} {a : Int} {bad : Bool} (h : Rdr wr rb ao cap L a bad) (hR : R ≠ rb) (hb : ∀ b o, ao = some ⟨b, o, none⟩ → b ≠ R) (i : Nat) (v : Value) : Rdr (wr.setCell ⟨R, i, none⟩ v) rb ao cap L a bad := by
  have hbl : ∀ k, k ≠ R → (wr.setCell ⟨R, i, none⟩ v).heap[k]? = wr.heap[k]? := fun k hk => Below.heap_setCell wr ⟨R, i, none⟩ v k hk
  refine ⟨(hbl rb hR.symm).trans h.blk, fun h0 => ?_⟩
  obtain ⟨b, o, e, hn, hx⟩ := h.rd h0
  exact ⟨b, o, e, hn, fun j hj => by rw [World.cell?_of_block (w := wr) (hbl b (hb b o e))]; exact hx j hj⟩
theorem Li.fin {w wr : World} {rb : Nat} {ao : Option Addr} {cap : Nat} {L : List UInt8} {R X : Nat} {a : Int} {bad : Bool} {cs : Array Value} (h : Li w wr rb ao cap L R X a bad cs) (hR : R ≠ rb) (hw : w.heap.size ≤ R) (hb : ∀ b o, ao = some ⟨b, o, none⟩ → b ≠ R) (x0 x1 x2 x3 x4 x5 : Value) :
    ((((((wr.setCell ⟨R, 0, none⟩ x0).setCell ⟨R, 1, none⟩ x1).setCell ⟨R, 2, none⟩ x2).setCell ⟨R, 3, none⟩ x3).setCell ⟨R, 4, none⟩ x4).setCell ⟨R, 5, none⟩ x5).heap[R]? = some (.cells #[x0, x1, x2, x3, x4, x5] 47 (0, 0)) ∧
    Rdr ((((((wr.setCell ⟨R, 0, none⟩ x0).setCell ⟨R, 1, none⟩ x1).setCell ⟨R, 2, none⟩ x2).setCell ⟨R, 3, none⟩ x3).setCell ⟨R, 4, none⟩ x4).setCell ⟨R, 5, none⟩ x5) rb ao cap L a bad ∧
    Turn rb w ((((((wr.setCell ⟨R, 0, none⟩ x0).setCell ⟨R, 1, none⟩ x1).setCell ⟨R, 2, none⟩ x2).setCell ⟨R, 3, none⟩ x3).setCell ⟨R, 4, none⟩ x4).setCell ⟨R, 5, none⟩ x5) := by
  exact ⟨six_blk h.bR _ _ _ _ _ _, rdr_out (rdr_out (rdr_out (rdr_out (rdr_out (rdr_out h.rdr hR hb _ _) hR hb _ _) hR hb _ _) hR hb _ _) hR hb _ _) hR hb _ _, turn_out (turn_out (turn_out (turn_out (turn_out (turn_out h.turn hw _ _) hw _ _) hw _ _) hw _ _) hw _ _) hw _ _⟩
theorem res_one {w : World} {R : Nat} {a b c d e g : Value} {tmps : Array Value} {fn : Func} (hf : fn.results = #[.cell 2 47]) (hp : tmps.getD 2 undef = .pointer (some ⟨R, 0, none⟩)) (h : w.heap[R]? = some (.cells #[a, b, c, d, e, g] 47 (0, 0))) :
    (results fn tmps).run Tryz.prog w = .ok (.agg #[a, b, c, d, e, g]) w :=
  results_cell_row hf tmps w R 47 #[a, b, c, d, e, g] (0, 0) _ hp h Tryz.underlying47 rfl (by kernel_rfl)
/-- What l13Ins answers. -/
def LiP (w : World) (rb : Nat) (ao : Option Addr) (cap : Nat) (L : List UInt8) (a : Int) (e : Ending) (w' : World) : Prop :=
  ∃ (x : I) (a' : Int) (bad : Bool), e = .returned (.agg #[.int .i64 x.op, .int .i64 x.a, .int .i64 x.b, .int .i64 x.c, .int .i64 x.n, .string x.s]) ∧ Rdr w' rb ao cap L a' bad ∧ Turn rb w w' ∧
    ((bad = false ∧ rdI L 12 a = some (x, a')) ∨ (bad = true ∧ rdI L 12 a = none))

set_option maxHeartbeats 4000000 in
set_option maxRecDepth 100000 in
theorem l13Ins_any (rb : Nat) (ao : Option Addr) (cap : Nat) (L : List UInt8) (a : Int) (w : World) (h : Rdr w rb ao cap L a false) (hN : L.length ≤ 1048600) (hcap : L.length ≤ cap) (hlow : ∀ b o, ao = some ⟨b, o, none⟩ → b < w.heap.size) :
    Calls Tryz.prog 30 #[.pointer (some ⟨rb, 0, none⟩)] w fun e w' => LiP w rb ao cap L a e w' := by
  have hlt := h.lt
  obtain ⟨n1, a1, b1, hq1⟩ : ∃ x y z, nSt L a false = (x, y, z) := ⟨(nSt L a false).1, (nSt L a false).2.1, (nSt L a false).2.2, rfl⟩
  obtain ⟨n2, a2, b2, hq2⟩ : ∃ x y z, nSt L a1 b1 = (x, y, z) := ⟨(nSt L a1 b1).1, (nSt L a1 b1).2.1, (nSt L a1 b1).2.2, rfl⟩
  obtain ⟨n3, a3, b3, hq3⟩ : ∃ x y z, nSt L a2 b2 = (x, y, z) := ⟨(nSt L a2 b2).1, (nSt L a2 b2).2.1, (nSt L a2 b2).2.2, rfl⟩
  obtain ⟨n4, a4, b4, hq4⟩ : ∃ x y z, nSt L a3 b3 = (x, y, z) := ⟨(nSt L a3 b3).1, (nSt L a3 b3).2.1, (nSt L a3 b3).2.2, rfl⟩
  obtain ⟨n5, a5, b5, hq5⟩ : ∃ x y z, nSt L a4 b4 = (x, y, z) := ⟨(nSt L a4 b4).1, (nSt L a4 b4).2.1, (nSt L a4 b4).2.2, rfl⟩
  obtain ⟨n6, a6, b6, hq6⟩ : ∃ x y z, nSt L a5 b5 = (x, y, z) := ⟨(nSt L a5 b5).1, (nSt L a5 b5).2.1, (nSt L a5 b5).2.2, rfl⟩
  have h6 := runN_good L 6 a
  have hrun : runN L 6 a false = ([n1, n2, n3, n4, n5, n6], a6, b6) := by simp [runN, hq1, hq2, hq3, hq4, hq5, hq6]
  rw [hrun] at h6
  simp only at h6
  clear hrun
  have HQ : Hid (nSt L a false = (n1, a1, b1) ∧ nSt L a1 b1 = (n2, a2, b2) ∧ nSt L a2 b2 = (n3, a3, b3) ∧ nSt L a3 b3 = (n4, a4, b4) ∧ nSt L a4 b4 = (n5, a5, b5) ∧ nSt L a5 b5 = (n6, a6, b6)) := ⟨hq1, hq2, hq3, hq4, hq5, hq6⟩
  have H6 : Hid (b6 = false ∧ rdNs L 6 a = some ([n1, n2, n3, n4, n5, n6], a6) ∨ b6 = true ∧ rdNs L 6 a = none) := h6
  have HLO : Hid (∀ b o, ao = some ⟨b, o, none⟩ → b < w.heap.size) := hlow
  have HRW : Hid (Rdr (w.alloc (.cells #[.int .i64 0, .int .i64 0, .int .i64 0, .int .i64 0, .int .i64 0, .string ⟨#[]⟩] 47)) rb ao cap L a false) := h.below ((Below.refl _ _).alloc (Nat.le_refl _) _)
  have HLT : Hid (rb < w.heap.size) := hlt
  clear h hlt hlow hq1 hq2 hq3 hq4 hq5 hq6 h6
  go_enter Tryz.func30, Tryz.ntmps30
  go_wp2_with fail
  refine (l13Num_any rb ao cap L a false _ HRW.out hN).mono ?_
  rw [HQ.out.1]
  rintro e w1 ⟨rfl, hr1, ht1⟩
  have hsz1 : w.heap.size < w1.heap.size := by have := ht1.size; rw [World.size_alloc] at this; omega
  have hL1 : Li w (w1.alloc (.cells #[.int .i64 n1, .int .i64 0, .int .i64 0, .int .i64 0, .int .i64 0, .string ⟨#[]⟩] 47)) rb ao cap L w.heap.size w1.heap.size a1 b1 #[.int .i64 n1, .int .i64 0, .int .i64 0, .int .i64 0, .int .i64 0, .string ⟨#[]⟩] := by
    have hb : Below w1.heap.size w1 (w1.alloc (.cells #[.int .i64 n1, .int .i64 0, .int .i64 0, .int .i64 0, .int .i64 0, .string ⟨#[]⟩] 47)) := (Below.refl _ _).alloc (Nat.le_refl _) _
    have hl := HLT.out
    refine ⟨hr1.below hb, (((Turn.refl rb w).alloc _).trans ht1).alloc _, ?_, heap_alloc_new w1 _⟩
    rw [hb.block w.heap.size hsz1, ht1.block w.heap.size (by rw [World.size_alloc]; omega) (by omega)]
    exact heap_alloc_new w _
  have HL1 : Hid (Li w (w1.alloc (.cells #[.int .i64 n1, .int .i64 0, .int .i64 0, .int .i64 0, .int .i64 0, .string ⟨#[]⟩] 47)) rb ao cap L w.heap.size w1.heap.size a1 b1 #[.int .i64 n1, .int .i64 0, .int .i64 0, .int .i64 0, .int .i64 0, .string ⟨#[]⟩]) := hL1
  have HXS : Hid (w.heap.size ≠ rb ∧ w1.heap.size ≠ rb ∧ w.heap.size ≠ w1.heap.size ∧ w.heap.size ≤ w1.heap.size ∧ ∀ b o, ao = some ⟨b, o, none⟩ → b ≠ w1.heap.size) := by
    have hl := HLT.out
    exact ⟨by omega, by omega, by omega, by omega, fun b o e => by have := HLO.out b o e; omega⟩
  clear hr1 ht1 hsz1 hL1 HRW
  go_wp2_with fail
  generalize hX : w1.heap.size = X at *
  have hl1 := HL1.out
  generalize (w1.alloc (.cells #[.int .i64 n1, .int .i64 0, .int .i64 0, .int .i64 0, .int .i64 0, .string ⟨#[]⟩] 47)) = v1 at *
  clear hX
  refine (l13Num_any rb ao cap L a1 b1 v1 hl1.rdr hN).mono ?_
  rw [HQ.out.2.1]
  rintro e u2 ⟨rfl, hr, ht⟩
  have hk2 := hl1.call HXS.out.1 HXS.out.2.1 hr ht
  clear hr ht
  have x2 : u2.cell? ⟨X, 1, none⟩ = some (.int .i64 0) := by rw [cell_blk hk2.bX]; rfl
  have fx2 : ∀ o, u2.frozen? ⟨X, o, none⟩ = false := fun o => free_blk hk2.bX
  have hl2 : Li w (u2.setCell ⟨X, 1, none⟩ (.int .i64 n2)) rb ao cap L w.heap.size X a2 b2 #[.int .i64 n1, .int .i64 n2, .int .i64 0, .int .i64 0, .int .i64 0, .string ⟨#[]⟩] := hk2.put HXS.out.2.2.1 HXS.out.2.1 HXS.out.2.2.2.1 HXS.out.2.2.2.2 1 (.int .i64 n2)
  have HL2 : Hid (Li w (u2.setCell ⟨X, 1, none⟩ (.int .i64 n2)) rb ao cap L w.heap.size X a2 b2 #[.int .i64 n1, .int .i64 n2, .int .i64 0, .int .i64 0, .int .i64 0, .string ⟨#[]⟩]) := hl2
  clear hl2 hk2
  go_wp2_with fail
  have hl2 := HL2.out
  generalize (u2.setCell ⟨X, 1, none⟩ (.int .i64 n2)) = v2 at *
  clear x2 fx2
  refine (l13Num_any rb ao cap L a2 b2 v2 hl2.rdr hN).mono ?_
  rw [HQ.out.2.2.1]
  rintro e u3 ⟨rfl, hr, ht⟩
  have hk3 := hl2.call HXS.out.1 HXS.out.2.1 hr ht
  clear hr ht
  have x3 : u3.cell? ⟨X, 2, none⟩ = some (.int .i64 0) := by rw [cell_blk hk3.bX]; rfl
  have fx3 : ∀ o, u3.frozen? ⟨X, o, none⟩ = false := fun o => free_blk hk3.bX
  have hl3 : Li w (u3.setCell ⟨X, 2, none⟩ (.int .i64 n3)) rb ao cap L w.heap.size X a3 b3 #[.int .i64 n1, .int .i64 n2, .int .i64 n3, .int .i64 0, .int .i64 0, .string ⟨#[]⟩] := hk3.put HXS.out.2.2.1 HXS.out.2.1 HXS.out.2.2.2.1 HXS.out.2.2.2.2 2 (.int .i64 n3)
  have HL3 : Hid (Li w (u3.setCell ⟨X, 2, none⟩ (.int .i64 n3)) rb ao cap L w.heap.size X a3 b3 #[.int .i64 n1, .int .i64 n2, .int .i64 n3, .int .i64 0, .int .i64 0, .string ⟨#[]⟩]) := hl3
  clear hl3 hk3
  go_wp2_with fail
  have hl3 := HL3.out
  generalize (u3.setCell ⟨X, 2, none⟩ (.int .i64 n3)) = v3 at *
  clear x3 fx3
  refine (l13Num_any rb ao cap L a3 b3 v3 hl3.rdr hN).mono ?_
  rw [HQ.out.2.2.2.1]
  rintro e u4 ⟨rfl, hr, ht⟩
  have hk4 := hl3.call HXS.out.1 HXS.out.2.1 hr ht
  clear hr ht
  have x4 : u4.cell? ⟨X, 3, none⟩ = some (.int .i64 0) := by rw [cell_blk hk4.bX]; rfl
  have fx4 : ∀ o, u4.frozen? ⟨X, o, none⟩ = false := fun o => free_blk hk4.bX
  have hl4 : Li w (u4.setCell ⟨X, 3, none⟩ (.int .i64 n4)) rb ao cap L w.heap.size X a4 b4 #[.int .i64 n1, .int .i64 n2, .int .i64 n3, .int .i64 n4, .int .i64 0, .string ⟨#[]⟩] := hk4.put HXS.out.2.2.1 HXS.out.2.1 HXS.out.2.2.2.1 HXS.out.2.2.2.2 3 (.int .i64 n4)
  have HL4 : Hid (Li w (u4.setCell ⟨X, 3, none⟩ (.int .i64 n4)) rb ao cap L w.heap.size X a4 b4 #[.int .i64 n1, .int .i64 n2, .int .i64 n3, .int .i64 n4, .int .i64 0, .string ⟨#[]⟩]) := hl4
  clear hl4 hk4
  go_wp2_with fail
  have hl4 := HL4.out
  generalize (u4.setCell ⟨X, 3, none⟩ (.int .i64 n4)) = v4 at *
  clear x4 fx4
  refine (l13Num_any rb ao cap L a4 b4 v4 hl4.rdr hN).mono ?_
  rw [HQ.out.2.2.2.2.1]
  rintro e u5 ⟨rfl, hr, ht⟩
  have hk5 := hl4.call HXS.out.1 HXS.out.2.1 hr ht
  clear hr ht
  have x5 : u5.cell? ⟨X, 4, none⟩ = some (.int .i64 0) := by rw [cell_blk hk5.bX]; rfl
  have fx5 : ∀ o, u5.frozen? ⟨X, o, none⟩ = false := fun o => free_blk hk5.bX
  have hl5 : Li w (u5.setCell ⟨X, 4, none⟩ (.int .i64 n5)) rb ao cap L w.heap.size X a5 b5 #[.int .i64 n1, .int .i64 n2, .int .i64 n3, .int .i64 n4, .int .i64 n5, .string ⟨#[]⟩] := hk5.put HXS.out.2.2.1 HXS.out.2.1 HXS.out.2.2.2.1 HXS.out.2.2.2.2 4 (.int .i64 n5)
  have HL5 : Hid (Li w (u5.setCell ⟨X, 4, none⟩ (.int .i64 n5)) rb ao cap L w.heap.size X a5 b5 #[.int .i64 n1, .int .i64 n2, .int .i64 n3, .int .i64 n4, .int .i64 n5, .string ⟨#[]⟩]) := hl5
  clear hl5 hk5
  go_wp2_with fail
  have hl5 := HL5.out
  generalize (u5.setCell ⟨X, 4, none⟩ (.int .i64 n5)) = v5 at *
  clear x5 fx5
  refine (l13Num_any rb ao cap L a5 b5 v5 hl5.rdr hN).mono ?_
  rw [HQ.out.2.2.2.2.2]
  rintro e u6 ⟨rfl, hr, ht⟩
  have hk6 := hl5.call HXS.out.1 HXS.out.2.1 hr ht
  clear hr ht
  have c0 : u6.cell? ⟨rb, 0, none⟩ = some (.slice ao L.length cap) := by rw [cell_blk hk6.rdr.blk]; rfl
  have c1 : u6.cell? ⟨rb, 1, none⟩ = some (.int .i64 a6) := by rw [cell_blk hk6.rdr.blk]; rfl
  have c2 : u6.cell? ⟨rb, 2, none⟩ = some (.bool b6) := by rw [cell_blk hk6.rdr.blk]; rfl
  have HK6 : Hid (Li w u6 rb ao cap L w.heap.size X a6 b6 #[.int .i64 n1, .int .i64 n2, .int .i64 n3, .int .i64 n4, .int .i64 n5, .string ⟨#[]⟩]) := hk6
  have frb : ∀ o, u6.frozen? ⟨rb, o, none⟩ = false := fun o => free_blk hk6.rdr.blk
  have frR : ∀ o, u6.frozen? ⟨w.heap.size, o, none⟩ = false := fun o => free_blk hk6.bR
  have frX : ∀ o, u6.frozen? ⟨X, o, none⟩ = false := fun o => free_blk hk6.bX
  clear hk6
  have HSR : Hid (∀ b o, ao = some ⟨b, o, none⟩ → b ≠ w.heap.size) := fun b o e => by have := HLO.out b o e; omega
  have HBAD : Hid (rdI L 12 a = none → ∀ wy, Li w wy rb ao cap L w.heap.size X a6 true #[.int .i64 n1, .int .i64 n2, .int .i64 n3, .int .i64 n4, .int .i64 n5, .string ⟨#[]⟩] → ∀ tmps : Array Value, tmps.getD 2 undef = .pointer (some ⟨w.heap.size, 0, none⟩) → (results Tryz.f30 tmps).run Tryz.prog (((((((wy.setCell ⟨w.heap.size, 0, none⟩ (.int .i64 n1)).setCell ⟨w.heap.size, 1, none⟩ (.int .i64 n2)).setCell ⟨w.heap.size, 2, none⟩ (.int .i64 n3)).setCell ⟨w.heap.size, 3, none⟩ (.int .i64 n4)).setCell ⟨w.heap.size, 4, none⟩ (.int .i64 n5)).setCell ⟨w.heap.size, 5, none⟩ (.string ⟨#[]⟩))) = .ok (.agg #[.int .i64 n1, .int .i64 n2, .int .i64 n3, .int .i64 n4, .int .i64 n5, .string ⟨#[]⟩]) (((((((wy.setCell ⟨w.heap.size, 0, none⟩ (.int .i64 n1)).setCell ⟨w.heap.size, 1, none⟩ (.int .i64 n2)).setCell ⟨w.heap.size, 2, none⟩ (.int .i64 n3)).setCell ⟨w.heap.size, 3, none⟩ (.int .i64 n4)).setCell ⟨w.heap.size, 4, none⟩ (.int .i64 n5)).setCell ⟨w.heap.size, 5, none⟩ (.string ⟨#[]⟩))) ∧ LiP w rb ao cap L a (.returned (.agg #[.int .i64 n1, .int .i64 n2, .int .i64 n3, .int .i64 n4, .int .i64 n5, .string ⟨#[]⟩])) (((((((wy.setCell ⟨w.heap.size, 0, none⟩ (.int .i64 n1)).setCell ⟨w.heap.size, 1, none⟩ (.int .i64 n2)).setCell ⟨w.heap.size, 2, none⟩ (.int .i64 n3)).setCell ⟨w.heap.size, 3, none⟩ (.int .i64 n4)).setCell ⟨w.heap.size, 4, none⟩ (.int .i64 n5)).setCell ⟨w.heap.size, 5, none⟩ (.string ⟨#[]⟩)))) := fun hno wy hy tmps htm => by
    obtain ⟨f1, f2, f3⟩ := hy.fin HXS.out.1 (Nat.le_refl _) HSR.out (.int .i64 n1) (.int .i64 n2) (.int .i64 n3) (.int .i64 n4) (.int .i64 n5) (.string ⟨#[]⟩)
    exact ⟨res_one Tryz.results30 htm f1, ⟨n1, n2, n3, n4, n5, ⟨#[]⟩⟩, a6, true, rfl, f2, f3, .inr ⟨rfl, hno⟩⟩
  rcases H6.out with ⟨rfl, hrd⟩ | ⟨rfl, hrd⟩
  rotate_left
  · have HNO : Hid (rdI L 12 a = none) := by show _ = _; unfold rdI; rw [hrd]
    clear hrd
    go_wp2_with fail
    go_quiet (fail)
    have hkd := HK6.out.drewN nq
    generalize u6.drewN nq = u7 at hkd ⊢
    have HKB : Hid (Li w (u7.setCell ⟨rb, 2, none⟩ (.bool true)) rb ao cap L w.heap.size X a6 true #[.int .i64 n1, .int .i64 n2, .int .i64 n3, .int .i64 n4, .int .i64 n5, .string ⟨#[]⟩]) := hkd.bad HXS.out.1 HXS.out.2.1 true
    have d2 : u7.cell? ⟨rb, 2, none⟩ = some (.bool true) := by rw [cell_blk hkd.rdr.blk]; rfl
    have frb7 : ∀ o, u7.frozen? ⟨rb, o, none⟩ = false := fun o => free_blk hkd.rdr.blk
    have y0 : (u7.setCell ⟨rb, 2, none⟩ (.bool true)).cell? ⟨X, 0, none⟩ = some (.int .i64 n1) := by rw [cell_blk HKB.out.bX]; rfl
    have y1 : (u7.setCell ⟨rb, 2, none⟩ (.bool true)).cell? ⟨X, 1, none⟩ = some (.int .i64 n2) := by rw [cell_blk HKB.out.bX]; rfl
    have y2 : (u7.setCell ⟨rb, 2, none⟩ (.bool true)).cell? ⟨X, 2, none⟩ = some (.int .i64 n3) := by rw [cell_blk HKB.out.bX]; rfl
    have y3 : (u7.setCell ⟨rb, 2, none⟩ (.bool true)).cell? ⟨X, 3, none⟩ = some (.int .i64 n4) := by rw [cell_blk HKB.out.bX]; rfl
    have y4 : (u7.setCell ⟨rb, 2, none⟩ (.bool true)).cell? ⟨X, 4, none⟩ = some (.int .i64 n5) := by rw [cell_blk HKB.out.bX]; rfl
    have y5 : (u7.setCell ⟨rb, 2, none⟩ (.bool true)).cell? ⟨X, 5, none⟩ = some (.string ⟨#[]⟩) := by rw [cell_blk HKB.out.bX]; rfl
    have z0 : (u7.setCell ⟨rb, 2, none⟩ (.bool true)).cell? ⟨w.heap.size, 0, none⟩ = some (.int .i64 0) := by rw [cell_blk HKB.out.bR]; rfl
    have z1 : (u7.setCell ⟨rb, 2, none⟩ (.bool true)).cell? ⟨w.heap.size, 1, none⟩ = some (.int .i64 0) := by rw [cell_blk HKB.out.bR]; rfl
    have z2 : (u7.setCell ⟨rb, 2, none⟩ (.bool true)).cell? ⟨w.heap.size, 2, none⟩ = some (.int .i64 0) := by rw [cell_blk HKB.out.bR]; rfl
    have z3 : (u7.setCell ⟨rb, 2, none⟩ (.bool true)).cell? ⟨w.heap.size, 3, none⟩ = some (.int .i64 0) := by rw [cell_blk HKB.out.bR]; rfl
    have z4 : (u7.setCell ⟨rb, 2, none⟩ (.bool true)).cell? ⟨w.heap.size, 4, none⟩ = some (.int .i64 0) := by rw [cell_blk HKB.out.bR]; rfl
    have z5 : (u7.setCell ⟨rb, 2, none⟩ (.bool true)).cell? ⟨w.heap.size, 5, none⟩ = some (.string ⟨#[]⟩) := by rw [cell_blk HKB.out.bR]; rfl
    have zf : ∀ o, (u7.setCell ⟨rb, 2, none⟩ (.bool true)).frozen? ⟨w.heap.size, o, none⟩ = false := fun o => free_blk HKB.out.bR
    clear hkd c0 c1 c2 frb frR frX
    go_wp2_with fail
    refine bodyPost_ret (HBAD.out HNO.out _ HKB.out _ rfl).1 rfl (HBAD.out HNO.out _ HKB.out #[undef, undef, .pointer (some ⟨w.heap.size, 0, none⟩)] rfl).2
  · have hat := rdNs_at hrd
    have HRDN : Hid (rdNs L 6 a = some ([n1, n2, n3, n4, n5, n6], a6)) := hrd
    clear hrd
    obtain ⟨p, rfl⟩ : ∃ k : Nat, a6 = k := ⟨a6.toNat, by omega⟩
    have hpl : p ≤ L.length := by omega
    clear hat
    cases hin : Atom.inB n6 0 12 with
    | false =>
      have HIN : Hid (Atom.inB n6 0 12 = false) := hin
      have HNO : Hid (rdI L 12 a = none) := by
        show _ = _
        unfold rdI
        rw [HRDN.out]
        simp only
        rw [if_neg (fun h => by unfold Atom.inB at hin; simp at hin; omega)]
      clear hin
      have KIN : Hid (∀ w', Calls Tryz.prog 48 #[.int .i64 n6, .int .i64 0, .int .i64 12] w' fun e w'' => e = .returned (.bool false) ∧ w'' = w') := fun w' => by have := Atom.in_any n6 0 12 w'; rw [HIN.out] at this; exact this
      have k0 := Inn.keep c0
      have k1 := Inn.keep c1
      have k2 := Inn.keep c2
      haveI := inn_ne u6
      go_wp2_with fail
      refine wp_region_inn ?_ ?_ ?_
      · kernel_rfl
      · kernel_rfl
      repeat (go_big_quiet_step (first | (go_at_call 48; exact calls_inn_same (KIN.out _))))
      refine wpQuiet_nil ?_
      rintro u7 ⟨y1, h1⟩
      have hb1 : Below u6.heap.size u6 u7 := by rw [h1]; exact y1.bel
      have hkd := HK6.out.belowL hb1
      clear h1 y1 k0 k1 k2 hb1 KIN
      have HKB : Hid (Li w (u7.setCell ⟨rb, 2, none⟩ (.bool true)) rb ao cap L w.heap.size X (p : Int) true #[.int .i64 n1, .int .i64 n2, .int .i64 n3, .int .i64 n4, .int .i64 n5, .string ⟨#[]⟩]) := hkd.bad HXS.out.1 HXS.out.2.1 true
      have d2 : u7.cell? ⟨rb, 2, none⟩ = some (.bool false) := by rw [cell_blk hkd.rdr.blk]; rfl
      have frb7 : ∀ o, u7.frozen? ⟨rb, o, none⟩ = false := fun o => free_blk hkd.rdr.blk
      have y0 : (u7.setCell ⟨rb, 2, none⟩ (.bool true)).cell? ⟨X, 0, none⟩ = some (.int .i64 n1) := by rw [cell_blk HKB.out.bX]; rfl
      have y1 : (u7.setCell ⟨rb, 2, none⟩ (.bool true)).cell? ⟨X, 1, none⟩ = some (.int .i64 n2) := by rw [cell_blk HKB.out.bX]; rfl
      have y2 : (u7.setCell ⟨rb, 2, none⟩ (.bool true)).cell? ⟨X, 2, none⟩ = some (.int .i64 n3) := by rw [cell_blk HKB.out.bX]; rfl
      have y3 : (u7.setCell ⟨rb, 2, none⟩ (.bool true)).cell? ⟨X, 3, none⟩ = some (.int .i64 n4) := by rw [cell_blk HKB.out.bX]; rfl
      have y4 : (u7.setCell ⟨rb, 2, none⟩ (.bool true)).cell? ⟨X, 4, none⟩ = some (.int .i64 n5) := by rw [cell_blk HKB.out.bX]; rfl
      have y5 : (u7.setCell ⟨rb, 2, none⟩ (.bool true)).cell? ⟨X, 5, none⟩ = some (.string ⟨#[]⟩) := by rw [cell_blk HKB.out.bX]; rfl
      have z0 : (u7.setCell ⟨rb, 2, none⟩ (.bool true)).cell? ⟨w.heap.size, 0, none⟩ = some (.int .i64 0) := by rw [cell_blk HKB.out.bR]; rfl
      have z1 : (u7.setCell ⟨rb, 2, none⟩ (.bool true)).cell? ⟨w.heap.size, 1, none⟩ = some (.int .i64 0) := by rw [cell_blk HKB.out.bR]; rfl
      have z2 : (u7.setCell ⟨rb, 2, none⟩ (.bool true)).cell? ⟨w.heap.size, 2, none⟩ = some (.int .i64 0) := by rw [cell_blk HKB.out.bR]; rfl
      have z3 : (u7.setCell ⟨rb, 2, none⟩ (.bool true)).cell? ⟨w.heap.size, 3, none⟩ = some (.int .i64 0) := by rw [cell_blk HKB.out.bR]; rfl
      have z4 : (u7.setCell ⟨rb, 2, none⟩ (.bool true)).cell? ⟨w.heap.size, 4, none⟩ = some (.int .i64 0) := by rw [cell_blk HKB.out.bR]; rfl
      have z5 : (u7.setCell ⟨rb, 2, none⟩ (.bool true)).cell? ⟨w.heap.size, 5, none⟩ = some (.string ⟨#[]⟩) := by rw [cell_blk HKB.out.bR]; rfl
      have zf : ∀ o, (u7.setCell ⟨rb, 2, none⟩ (.bool true)).frozen? ⟨w.heap.size, o, none⟩ = false := fun o => free_blk HKB.out.bR
      clear hkd c0 c1 c2 frb frR frX
      go_wp2_with fail
      refine bodyPost_ret (HBAD.out HNO.out _ HKB.out _ rfl).1 rfl (HBAD.out HNO.out _ HKB.out #[undef, undef, .pointer (some ⟨w.heap.size, 0, none⟩)] rfl).2
    | true =>
      have HIN : Hid (Atom.inB n6 0 12 = true) := hin
      have h12 : 0 ≤ n6 ∧ n6 ≤ 12 := by unfold Atom.inB at hin; simpa using hin
      obtain ⟨n, rfl⟩ : ∃ k : Nat, n6 = k := ⟨n6.toNat, by omega⟩
      have hn12 : n ≤ 12 := by omega
      clear hin h12
      by_cases hgt : (L.length : Int) - (p : Int) < (n : Int)
      · have HNO : Hid (rdI L 12 a = none) := by
          show _ = _
          unfold rdI
          rw [HRDN.out]
          simp only
          rw [if_neg (fun h => by omega)]
        have KIN : Hid (∀ w', Calls Tryz.prog 48 #[.int .i64 (n : Int), .int .i64 0, .int .i64 12] w' fun e w'' => e = .returned (.bool true) ∧ w'' = w') := fun w' => by have := Atom.in_any (n : Int) 0 12 w'; rw [HIN.out] at this; exact this
        have k0 := Inn.keep c0
        have k1 := Inn.keep c1
        have k2 := Inn.keep c2
        haveI := inn_ne u6
        go_wp2_with fail
        refine wp_region_inn ?_ ?_ ?_
        · kernel_rfl
        · kernel_rfl
        repeat (go_big_quiet_step (first | (go_at_call 48; exact calls_inn_same (KIN.out _))))
        refine wpQuiet_nil ?_
        rintro u7 ⟨y1, h1⟩
        have hb1 : Below u6.heap.size u6 u7 := by rw [h1]; exact y1.bel
        have hkd := HK6.out.belowL hb1
        clear h1 y1 k0 k1 k2 hb1 KIN
        have HKB : Hid (Li w (u7.setCell ⟨rb, 2, none⟩ (.bool true)) rb ao cap L w.heap.size X (p : Int) true #[.int .i64 n1, .int .i64 n2, .int .i64 n3, .int .i64 n4, .int .i64 n5, .string ⟨#[]⟩]) := hkd.bad HXS.out.1 HXS.out.2.1 true
        have d2 : u7.cell? ⟨rb, 2, none⟩ = some (.bool false) := by rw [cell_blk hkd.rdr.blk]; rfl
        have frb7 : ∀ o, u7.frozen? ⟨rb, o, none⟩ = false := fun o => free_blk hkd.rdr.blk
        have y0 : (u7.setCell ⟨rb, 2, none⟩ (.bool true)).cell? ⟨X, 0, none⟩ = some (.int .i64 n1) := by rw [cell_blk HKB.out.bX]; rfl
        have y1 : (u7.setCell ⟨rb, 2, none⟩ (.bool true)).cell? ⟨X, 1, none⟩ = some (.int .i64 n2) := by rw [cell_blk HKB.out.bX]; rfl
        have y2 : (u7.setCell ⟨rb, 2, none⟩ (.bool true)).cell? ⟨X, 2, none⟩ = some (.int .i64 n3) := by rw [cell_blk HKB.out.bX]; rfl
        have y3 : (u7.setCell ⟨rb, 2, none⟩ (.bool true)).cell? ⟨X, 3, none⟩ = some (.int .i64 n4) := by rw [cell_blk HKB.out.bX]; rfl
        have y4 : (u7.setCell ⟨rb, 2, none⟩ (.bool true)).cell? ⟨X, 4, none⟩ = some (.int .i64 n5) := by rw [cell_blk HKB.out.bX]; rfl
        have y5 : (u7.setCell ⟨rb, 2, none⟩ (.bool true)).cell? ⟨X, 5, none⟩ = some (.string ⟨#[]⟩) := by rw [cell_blk HKB.out.bX]; rfl
        have z0 : (u7.setCell ⟨rb, 2, none⟩ (.bool true)).cell? ⟨w.heap.size, 0, none⟩ = some (.int .i64 0) := by rw [cell_blk HKB.out.bR]; rfl
        have z1 : (u7.setCell ⟨rb, 2, none⟩ (.bool true)).cell? ⟨w.heap.size, 1, none⟩ = some (.int .i64 0) := by rw [cell_blk HKB.out.bR]; rfl
        have z2 : (u7.setCell ⟨rb, 2, none⟩ (.bool true)).cell? ⟨w.heap.size, 2, none⟩ = some (.int .i64 0) := by rw [cell_blk HKB.out.bR]; rfl
        have z3 : (u7.setCell ⟨rb, 2, none⟩ (.bool true)).cell? ⟨w.heap.size, 3, none⟩ = some (.int .i64 0) := by rw [cell_blk HKB.out.bR]; rfl
        have z4 : (u7.setCell ⟨rb, 2, none⟩ (.bool true)).cell? ⟨w.heap.size, 4, none⟩ = some (.int .i64 0) := by rw [cell_blk HKB.out.bR]; rfl
        have z5 : (u7.setCell ⟨rb, 2, none⟩ (.bool true)).cell? ⟨w.heap.size, 5, none⟩ = some (.string ⟨#[]⟩) := by rw [cell_blk HKB.out.bR]; rfl
        have zf : ∀ o, (u7.setCell ⟨rb, 2, none⟩ (.bool true)).frozen? ⟨w.heap.size, o, none⟩ = false := fun o => free_blk HKB.out.bR
        clear hkd c0 c1 c2 frb frR frX
        go_wp2_with fail
        refine bodyPost_ret (HBAD.out HNO.out _ HKB.out _ rfl).1 rfl (HBAD.out HNO.out _ HKB.out #[undef, undef, .pointer (some ⟨w.heap.size, 0, none⟩)] rfl).2
      · have HYES : Hid (rdI L 12 a = some (⟨n1, n2, n3, n4, n5, cutS L p n⟩, (p : Int) + (n : Int))) := by
          show _ = _
          unfold rdI
          rw [HRDN.out]
          simp only
          rw [if_pos ⟨by omega, by omega, by omega⟩]
          simp
        have hL0 : L.length ≠ 0 := rdNs_ne HRDN.out
        have hpn : p + n ≤ L.length := by omega
        have KIN : Hid (∀ w', Calls Tryz.prog 48 #[.int .i64 (n : Int), .int .i64 0, .int .i64 12] w' fun e w'' => e = .returned (.bool true) ∧ w'' = w') := fun w' => by have := Atom.in_any (n : Int) 0 12 w'; rw [HIN.out] at this; exact this
        have k0 := Inn.keep c0
        have k1 := Inn.keep c1
        have k2 := Inn.keep c2
        haveI := inn_ne u6
        go_wp2_with fail
        refine wp_region_inn ?_ ?_ ?_
        · kernel_rfl
        · kernel_rfl
        repeat (go_big_quiet_step (first | (go_at_call 48; exact calls_inn_same (KIN.out _))))
        refine wpQuiet_nil ?_
        rintro u7 ⟨y1, h1⟩
        have hb1 : Below u6.heap.size u6 u7 := by rw [h1]; exact y1.bel
        have hkd := HK6.out.belowL hb1
        clear h1 y1 k0 k1 k2 hb1 KIN c0 c1 c2 frb frR frX
        obtain ⟨bb, oo, rfl, hnb, hB⟩ := hkd.rdr.rd hL0
        have hsl := run_cutB bb oo L.length cap p n (by omega)
        obtain ⟨of, hof⟩ : ∃ of, (if cap = p then oo else oo + p) = of := ⟨_, rfl⟩
        obtain ⟨S, hS⟩ : ∃ S : ByteArray, ⟨((L.drop p).take n).toArray⟩ = S := ⟨_, rfl⟩
        have hBt : ∀ W : World, (∀ j (h : j < L.length), W.cell? ⟨bb, oo + j, none⟩ = some (.int .u8 ((L[j].toNat : Nat) : Int))) → (convert 22 9 (.slice (some ⟨bb, of, none⟩) n (cap - p))).run Tryz.prog W = .ok (.string S) W := fun W hW => by
          rw [← hof, ← hS]
          refine conv_part W bb _ n (cap - p) ((L.drop p).take n) (by simp; omega) ?_
          split
          · have : n = 0 := by omega
            subst this
            intro j hj; simp at hj
          · exact bat_part hW p n
        have hcv1 := hBt u7 hB
        have hcv2 := hBt u7.drew hB
        rw [hof] at hsl
        have HSS : Hid (cutS L p n = S) := hS
        have HK8 : Hid (Li w (u7.setCell ⟨X, 5, none⟩ (.string S)).drew rb (some ⟨bb, oo, none⟩) cap L w.heap.size X (p : Int) false #[.int .i64 n1, .int .i64 n2, .int .i64 n3, .int .i64 n4, .int .i64 n5, .string S]) := (hkd.put HXS.out.2.2.1 HXS.out.2.1 HXS.out.2.2.2.1 HXS.out.2.2.2.2 5 (.string S)).drew
        have c0 : u7.cell? ⟨rb, 0, none⟩ = some (.slice (some ⟨bb, oo, none⟩) L.length cap) := by rw [cell_blk hkd.rdr.blk]; rfl
        have c1 : u7.cell? ⟨rb, 1, none⟩ = some (.int .i64 (p : Int)) := by rw [cell_blk hkd.rdr.blk]; rfl
        have x5 : u7.cell? ⟨X, 5, none⟩ = some (.string ⟨#[]⟩) := by rw [cell_blk hkd.bX]; rfl
        have fX : ∀ o, u7.frozen? ⟨X, o, none⟩ = false := fun o => free_blk hkd.bX
        clear hkd hB hof hS hBt hgt
        go_wp2_with fail
        go_region
        all_goals
          have hk8 := HK8.out
          generalize (u7.setCell ⟨X, 5, none⟩ (.string S)).drew = v8 at hk8 ⊢
          have HK9 : Hid (Li w (v8.setCell ⟨rb, 1, none⟩ (.int .i64 ((p : Int) + (n : Int)))) rb (some ⟨bb, oo, none⟩) cap L w.heap.size X ((p : Int) + (n : Int)) false #[.int .i64 n1, .int .i64 n2, .int .i64 n3, .int .i64 n4, .int .i64 n5, .string S]) := hk8.mv HXS.out.1 HXS.out.2.1 _
          have d1 : v8.cell? ⟨rb, 1, none⟩ = some (.int .i64 (p : Int)) := by rw [cell_blk hk8.rdr.blk]; rfl
          have frb8 : ∀ o, v8.frozen? ⟨rb, o, none⟩ = false := fun o => free_blk hk8.rdr.blk
          clear hk8 HK8 c0 c1 x5 fX hsl hcv1 hcv2
          have hk9 := HK9.out
          obtain ⟨v9, hv9⟩ : ∃ v9, v9 = v8.setCell ⟨rb, 1, none⟩ (.int .i64 ((p : Int) + (n : Int))) := ⟨_, rfl⟩
          rw [← hv9] at hk9
          have y0 : (v8.setCell ⟨rb, 1, none⟩ (.int .i64 ((p : Int) + (n : Int)))).cell? ⟨X, 0, none⟩ = some (.int .i64 n1) := by rw [cell_blk HK9.out.bX]; rfl
          have y1 : (v8.setCell ⟨rb, 1, none⟩ (.int .i64 ((p : Int) + (n : Int)))).cell? ⟨X, 1, none⟩ = some (.int .i64 n2) := by rw [cell_blk HK9.out.bX]; rfl
          have y2 : (v8.setCell ⟨rb, 1, none⟩ (.int .i64 ((p : Int) + (n : Int)))).cell? ⟨X, 2, none⟩ = some (.int .i64 n3) := by rw [cell_blk HK9.out.bX]; rfl
          have y3 : (v8.setCell ⟨rb, 1, none⟩ (.int .i64 ((p : Int) + (n : Int)))).cell? ⟨X, 3, none⟩ = some (.int .i64 n4) := by rw [cell_blk HK9.out.bX]; rfl
          have y4 : (v8.setCell ⟨rb, 1, none⟩ (.int .i64 ((p : Int) + (n : Int)))).cell? ⟨X, 4, none⟩ = some (.int .i64 n5) := by rw [cell_blk HK9.out.bX]; rfl
          have y5 : (v8.setCell ⟨rb, 1, none⟩ (.int .i64 ((p : Int) + (n : Int)))).cell? ⟨X, 5, none⟩ = some (.string S) := by rw [cell_blk HK9.out.bX]; rfl
          have z0 : (v8.setCell ⟨rb, 1, none⟩ (.int .i64 ((p : Int) + (n : Int)))).cell? ⟨w.heap.size, 0, none⟩ = some (.int .i64 0) := by rw [cell_blk HK9.out.bR]; rfl
          have z1 : (v8.setCell ⟨rb, 1, none⟩ (.int .i64 ((p : Int) + (n : Int)))).cell? ⟨w.heap.size, 1, none⟩ = some (.int .i64 0) := by rw [cell_blk HK9.out.bR]; rfl
          have z2 : (v8.setCell ⟨rb, 1, none⟩ (.int .i64 ((p : Int) + (n : Int)))).cell? ⟨w.heap.size, 2, none⟩ = some (.int .i64 0) := by rw [cell_blk HK9.out.bR]; rfl
          have z3 : (v8.setCell ⟨rb, 1, none⟩ (.int .i64 ((p : Int) + (n : Int)))).cell? ⟨w.heap.size, 3, none⟩ = some (.int .i64 0) := by rw [cell_blk HK9.out.bR]; rfl
          have z4 : (v8.setCell ⟨rb, 1, none⟩ (.int .i64 ((p : Int) + (n : Int)))).cell? ⟨w.heap.size, 4, none⟩ = some (.int .i64 0) := by rw [cell_blk HK9.out.bR]; rfl
          have z5 : (v8.setCell ⟨rb, 1, none⟩ (.int .i64 ((p : Int) + (n : Int)))).cell? ⟨w.heap.size, 5, none⟩ = some (.string ⟨#[]⟩) := by rw [cell_blk HK9.out.bR]; rfl
          have zf : ∀ o, (v8.setCell ⟨rb, 1, none⟩ (.int .i64 ((p : Int) + (n : Int)))).frozen? ⟨w.heap.size, o, none⟩ = false := fun o => free_blk HK9.out.bR
          clear hk9 hv9
          have HFN : Hid (_ ∧ _ ∧ _) := HK9.out.fin HXS.out.1 (Nat.le_refl _) HSR.out (.int .i64 n1) (.int .i64 n2) (.int .i64 n3) (.int .i64 n4) (.int .i64 n5) (.string S)
          go_wp2_with fail
          refine bodyPost_ret (res_one Tryz.results30 rfl HFN.out.1) rfl ⟨⟨n1, n2, n3, n4, n5, S⟩, (p : Int) + (n : Int), false, rfl, HFN.out.2.1, HFN.out.2.2, .inl ⟨rfl, by rw [HYES.out, HSS.out]⟩⟩
end Go.Proofs.YtgdlkekjbdkjjaaGreatDoor.Cb
