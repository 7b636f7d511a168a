/-
  ActorOk: the specification's and the program's answer acB.
  (Ahead of it, in this text: A new arena, the specification's and the program's: both are one free block. Lists of numbers that are read only: comparison, measure, copy. Actors: lists of terms that are right, links that are right: the specification's and the program's. Links that are right: the specification's and the program's. Actors in memory; the laws' own functions on them: measure, copy, comparison. Actors compared. What an actor has of either kind, and whether it is right in its code: the program.)
-/
import Derived.Test.YtfjaphhijefdlaaGreatDoorArA
import Derived.Deep.OwnRows
import Derived.Deep.RegionLaw
import Derived.Test.YtfjaphhijefdlaaGreatDoorC1
import Derived.Test.YtfjaphhijefdlaaGreatDoorInn
import Derived.Test.YtfjaphhijefdlaaGreatDoorCkB
import Derived.Test.YtfjaphhijefdlaaGreatDoorCkC
import Derived.RegionTactic
namespace Go.Proofs.YtfjaphhijefdlaaGreatDoor
open Go.RowKit
set_option linter.unusedVariables false

theorem infoInt : (Tryz.prog.info? 3).map (fun i => (i.zero, i.size, i.bytes)) = some (some (.int .i64 0), 1, 8) := by kernel_rfl
theorem undInts : Tryz.prog.underlying 29 = some (.slice 3) := by kernel_rfl
theorem run_ints (n : Nat) (hn : n ≤ 1048576) (w : World) :
    (Instr.makeSlice 29 (.int .i64 (n : Int)) (.int .i64 (n : Int))).run Tryz.prog w = .ok (.slice (some ⟨w.heap.size, 0, none⟩) n n) (w.alloc (.cells (madeCells #[.int .i64 0] n) 3)) :=
  run_make_row' (P := Tryz.prog) 29 3 (.int .i64 0) 8 undInts infoInt rfl .i64 .i64 n (by omega) (by omega) w
theorem ints_made (w : World) (n : Nat) : Ints (w.alloc (.cells (madeCells #[.int .i64 0] n) 3)) w.heap.size 0 n (fun _ => 0) := by
  have h := World.rowIs_made w (.int .i64 0) n 3
  refine ⟨fun j hj => ?_, fun x => h.frozen x⟩
  rw [Nat.zero_add]
  exact h.cell hj

theorem three_first (w : World) (a : Array Value) (ta : TypeId) (B C : Obj) (o : Nat) :
    (((w.alloc (.cells a ta)).alloc B).alloc C).cell? ⟨w.heap.size, o, none⟩ = a[o]? ∧ (((w.alloc (.cells a ta)).alloc B).alloc C).frozen? ⟨w.heap.size, o, none⟩ = false := by
  have hb : Below (w.alloc (.cells a ta)).heap.size (w.alloc (.cells a ta)) (((w.alloc (.cells a ta)).alloc B).alloc C) := ((Below.refl _ _).alloc (Nat.le_refl _) B).alloc (by simp) C
  refine ⟨?_, ?_⟩
  · rw [hb.cell (p := ⟨w.heap.size, o, none⟩) (by simp)]; exact World.cell?_alloc_new w a ta o
  · rw [hb.frozen (p := ⟨w.heap.size, o, none⟩) (by simp)]; exact World.frozen?_alloc_new w a ta o

/-- What a new arena of n words holds. -/
def freshF (n : Nat) : Nat → Int := layF (fun _ => 0) 0 (n - 3) false

end Go.Proofs.YtfjaphhijefdlaaGreatDoor
namespace Go.Proofs.YtfjaphhijefdlaaGreatDoor
open Go.RowKit
set_option linter.unusedVariables false

/-- N numbers that are read only. -/
def RdI (w : World) (ao : Option Addr) (N : Nat) (f : Nat → Int) : Prop :=
  N ≠ 0 → ∃ b o, ao = some ⟨b, o, none⟩ ∧ ∀ j, j < N → w.cell? ⟨b, o + j, none⟩ = some (.int .i64 (f j))
theorem Ints.rdI {w : World} {b o N : Nat} {f : Nat → Int} (h : Ints w b o N f) : RdI w (some ⟨b, o, none⟩) N f := fun _ => ⟨b, o, rfl, h.cell⟩
theorem RdI.nil (w : World) (f : Nat → Int) (ao : Option Addr) : RdI w ao 0 f := fun h => absurd rfl h
theorem RdI.below {w w' : World} {ao : Option Addr} {N : Nat} {f : Nat → Int} (h : RdI w ao N f) (hb : Below w.heap.size w w') : RdI w' ao N f := fun hn => by
  obtain ⟨b, o, e, hc⟩ := h hn
  exact ⟨b, o, e, fun j hj => by rw [hb.cell (p := ⟨b, o + j, none⟩) (World.block_lt_of_cell? w _ (hc j hj))]; exact hc j hj⟩

/-- What is left of the purse: below 0, there is too much. -/
def szI (N : Nat) (left : Int) : Int := if left - N < 0 then -1 else left - N
theorem szI_ge (N : Nat) (left : Int) : -1 ≤ szI N left := by unfold szI; split <;> omega
end Go.Proofs.YtfjaphhijefdlaaGreatDoor
namespace Go.Proofs.YtfjaphhijefdlaaGreatDoor
open Go.RowKit Atom
set_option linter.unusedVariables false

def okT (t : Tm) : Bool := (look t 6 100).isSome
def allOk (l : List Tm) : Bool := l.all okT
theorem allOk_take {l : List Tm} {k : Nat} (h : k < l.length) (ha : allOk (l.take k) = true) : allOk (l.take (k + 1)) = okT l[k] := by
  unfold allOk at *
  rw [List.take_succ_eq_append_getElem h, List.all_append, ha]; simp
theorem allOk_no {l : List Tm} {k : Nat} (h : k < l.length) (ha : okT l[k] = false) : allOk l = false := by
  unfold allOk
  rw [List.all_eq_false]
  exact ⟨l[k], List.getElem_mem h, by rw [ha]; simp⟩

set_option maxHeartbeats 1000000 in
theorem termsOk_any (l : List Tm) (ao : Option Addr) (cap : Nat) (w : World) (hr : RepL 0 w l ao) (hl : l.length ≤ cap) (hc : cap ≤ maxLen) :
    Calls Tryz.prog 27 #[.slice ao l.length cap] w fun e w' => e = .returned (.bool (allOk l)) ∧ Below w.heap.size w w' := by
  have HR : Hid (RepL 0 w l ao) := hr
  clear hr
  unfold maxLen at hc
  go_enter Tryz.func27, Tryz.ntmps27
  go_wp2_with fail
  go_loopw [7] (fun i wr => ∃ k : Nat, k ≤ l.length ∧ i = .int .i64 k ∧ Below w.heap.size w wr ∧ allOk (l.take k) = true) (fun i _ => l.length - (intOf i).toNat)
  case atStart => exact ⟨0, Nat.zero_le _, rfl, Below.refl _ _, rfl⟩
  case round =>
    obtain ⟨k, hk, rfl, hb, ha⟩ := hrel
    have HB : Hid (Below w.heap.size w wr) := hb
    have HA : Hid (allOk (l.take k) = true) := ha
    clear hb ha
    by_cases hlt : k < l.length
    · obtain ⟨b, off, rfl, hB, ht⟩ := RepL.at l ao ((Keeps.below HB.out 0).repL _ _ HR.out) k hlt
      obtain ⟨tk, tn, ts, tao, tlen, tcap, c0, c1, c2, c3, hv⟩ := ht.cells
      have HV : Hid (RepV 0 wr l[k] (.agg #[.int .i64 tk, .int .i64 tn, .string ts, .slice tao tlen tcap])) := hv
      have HT : Hid (allOk (l.take (k + 1)) = okT l[k]) := allOk_take hlt HA.out
      have HNO : Hid (okT l[k] = false → allOk l = false) := fun h => allOk_no hlt h
      clear hv ht
      have HC : Hid (∀ w', Below wr.heap.size wr w' → Calls Tryz.prog 16 #[.agg #[.int .i64 tk, .int .i64 tn, .string ts, .slice tao tlen tcap]] w' fun e w'' => e = .returned (.bool (okT l[k])) ∧ Below wr.heap.size wr w'') := fun w' h =>
        (implOk_any l[k] 0 w' _ ((Keeps.below h 0).repV HV.out)).mono fun e w'' ⟨h1, h2⟩ => ⟨h1, h.trans (h2.mono h.size)⟩
      generalize okT l[k] = q at HT HNO HC
      cases q
      · go_wp2_with (go_at_call 16; refine (HC.out _ ((Below.refl _ _).alloc (Nat.le_refl _) _)).mono ?_; rintro e w3 ⟨rfl, hb3⟩; have HB3 : Hid (Below w.heap.size w w3) := HB.out.trans (hb3.mono HB.out.size); clear hb3)
        go_ret
        exact ⟨ret_bool (HNO.out (by trivial)).symm, HB3.out⟩
      · go_wp2_with (go_at_call 16; refine (HC.out _ ((Below.refl _ _).alloc (Nat.le_refl _) _)).mono ?_; rintro e w3 ⟨rfl, hb3⟩; have HB3 : Hid (Below w.heap.size w w3) := HB.out.trans (hb3.mono HB.out.size); clear hb3)
        go_roundw
        case rel => exact ⟨k + 1, by omega, by go_num, HB3.out, HT.out⟩
        case measure => simp [intOf]; omega
    · have HF : Hid (allOk l = true) := by
        have := HA.out
        rw [List.take_of_length_le (by omega)] at this; exact this
      go_wp2_with fail
      go_ret
      exact ⟨ret_bool HF.out.symm, HB.out⟩
end Go.Proofs.YtfjaphhijefdlaaGreatDoor
namespace Go.Proofs.YtfjaphhijefdlaaGreatDoor
open Go.RowKit Atom
set_option linter.unusedVariables false

theorem in_bel (x a b : Int) (w : World) : Calls Tryz.prog 21 #[.int .i64 x, .int .i64 a, .int .i64 b] w fun e w' => e = .returned (.bool (Atom.inB x a b)) ∧ Below w.heap.size w w' :=
  (Atom.in_any x a b w).mono fun e w' ⟨h1, h2⟩ => ⟨h1, by rw [h2]; exact Below.refl _ _⟩
def pidB (x : Int) : Bool := decide (1 ≤ x ∧ x ≤ 99999)
def lnkOne (f : Nat → Int) (pid : Int) (j : Nat) : Bool := decide (1 ≤ f j ∧ f j ≤ 99999 ∧ f j ≠ pid ∧ (0 < j → f (j - 1) < f j))
def lnkB (f : Nat → Int) (pid : Int) (k : Nat) : Bool := (List.range k).all (lnkOne f pid)
theorem lnkB_succ (f : Nat → Int) (pid : Int) (k : Nat) : lnkB f pid (k + 1) = (lnkB f pid k && lnkOne f pid k) := by
  unfold lnkB
  rw [List.range_succ, List.all_append]; simp
theorem lnkB_no {f : Nat → Int} {pid : Int} {k N : Nat} (h : k < N) (hn : lnkOne f pid k = false) : lnkB f pid N = false := by
  unfold lnkB
  rw [List.all_eq_false]
  exact ⟨k, by simp; exact h, by rw [hn]; simp⟩

theorem isPid_any (x : Int) (w : World) : Calls Tryz.prog 15 #[.int .i64 x] w fun e w' => e = .returned (.bool (pidB x)) ∧ w' = w := by
  by_cases h1 : 1 ≤ x
  · by_cases h2 : x ≤ 99999
    · have q : pidB x = true := decide_eq_true ⟨h1, h2⟩
      have HQ : Hid (pidB x = true) := q
      clear q
      go_enter Tryz.func15, Tryz.ntmps15
      go_wp2
      go_ret
      exact ⟨ret_bool HQ.out.symm, rfl⟩
    · have HQ : Hid (pidB x = false) := decide_eq_false (by omega)
      go_enter Tryz.func15, Tryz.ntmps15
      go_wp2
      go_ret
      exact ⟨ret_bool HQ.out.symm, rfl⟩
  · have HQ : Hid (pidB x = false) := decide_eq_false (by omega)
    go_enter Tryz.func15, Tryz.ntmps15
    go_wp2
    go_ret
    exact ⟨ret_bool HQ.out.symm, rfl⟩

set_option maxHeartbeats 1000000 in
set_option maxRecDepth 100000 in
theorem linksOk_any (ao : Option Addr) (N cap : Nat) (f : Nat → Int) (pid : Int) (w : World) (hr : RdI w ao N f) (hN : N ≤ 1048576) :
    Calls Tryz.prog 39 #[.slice ao N cap, .int .i64 pid] w fun e w' => e = .returned (.bool (lnkB f pid N && decide (N ≤ 50))) ∧ Below w.heap.size w w' := by
  have HR : Hid (RdI w ao N f) := hr
  clear hr
  by_cases hbig : 50 < (N : Int)
  · have HF : Hid ((lnkB f pid N && decide (N ≤ 50)) = false) := by show _ = _; rw [decide_eq_false (by omega)]; simp
    go_enter Tryz.func39, Tryz.ntmps39
    go_wp2_with fail
    go_ret
    exact ⟨ret_bool HF.out.symm, Below.refl _ _⟩
  · go_enter Tryz.func39, Tryz.ntmps39
    go_wp2_with fail
    go_loopw [5, 13] (fun v i wr => ∃ (k : Nat) (y : Int), k ≤ N ∧ i = .int .i64 k ∧ v = .int .i64 y ∧ Below w.heap.size w wr ∧ lnkB f pid k = true ∧ (k = 0 → y = 0) ∧ (0 < k → y = f (k - 1))) (fun _ i _ => N - (intOf i).toNat)
    case atStart => exact ⟨0, 0, Nat.zero_le _, rfl, rfl, Below.refl _ _, rfl, fun _ => rfl, fun h => absurd h (by omega)⟩
    case round =>
      obtain ⟨k, y, hk, rfl, rfl, hb, ha, hy0, hy1⟩ := hrel
      have HB : Hid (Below w.heap.size w wr) := hb
      have HA : Hid (lnkB f pid k = true) := ha
      clear ha
      by_cases hlt : k < N
      · obtain ⟨b, o, rfl, hc⟩ := HR.out.below hb (by omega)
        have ck := hc k hlt
        have HS : Hid (lnkB f pid (k + 1) = lnkOne f pid k) := by
          show _ = _
          rw [lnkB_succ, HA.out]; rfl
        have HNO : Hid (lnkOne f pid k = false → (lnkB f pid N && decide (N ≤ 50)) = false) := fun h => by rw [lnkB_no hlt h]; rfl
        have HL : Hid (lnkOne f pid k = decide (y < f k ∧ 1 ≤ f k ∧ f k ≤ 99999 ∧ f k ≠ pid)) := by
          show _ = _
          unfold lnkOne
          apply decide_eq_decide.2
          constructor
          · rintro ⟨a, b, c, d⟩
            refine ⟨?_, a, b, c⟩
            by_cases h0 : k = 0
            · have := hy0 h0; omega
            · have := hy1 (by omega); have := d (by omega); omega
          · rintro ⟨d, a, b, c⟩; exact ⟨a, b, c, fun h => by have := hy1 h; omega⟩
        have HLAST : Hid (f k = f (k + 1 - 1)) := rfl
        generalize f k = x at ck HL HLAST
        clear hc hb hy0 hy1
        by_cases h1 : y < x
        · by_cases h2 : 1 ≤ x ∧ x ≤ 99999
          · have hp : pidB x = true := decide_eq_true h2
            by_cases h3 : x = pid
            · have q1 : (x == pid) = true := by simp [h3]
              have HF : Hid ((lnkB f pid N && decide (N ≤ 50)) = false) := HNO.out (by rw [HL.out]; exact decide_eq_false (by omega))
              clear h3 h2
              go_wp2_with (go_at_call 15; refine (isPid_any _ _).mono ?_; rintro e w' ⟨rfl, rfl⟩)
              go_ret
              exact ⟨ret_bool HF.out.symm, HB.out⟩
            · have q1 : (x == pid) = false := by simp [h3]
              have HF : Hid (lnkB f pid (k + 1) = true) := by show _ = _; rw [HS.out, HL.out]; exact decide_eq_true ⟨h1, h2.1, h2.2, h3⟩
              clear h3 h2
              go_wp2_with (go_at_call 15; refine (isPid_any _ _).mono ?_; rintro e w' ⟨rfl, hw'⟩; obtain rfl := hw'.symm)
              go_roundw
              case rel => exact ⟨k + 1, x, by omega, by go_num, rfl, HB.out, HF.out, fun h => absurd h (by omega), fun _ => HLAST.out⟩
              case measure => simp [intOf]; omega
          · have hp : pidB x = false := decide_eq_false h2
            have HF : Hid ((lnkB f pid N && decide (N ≤ 50)) = false) := HNO.out (by rw [HL.out]; exact decide_eq_false (by omega))
            clear h2
            go_wp2_with (go_at_call 15; refine (isPid_any _ _).mono ?_; rintro e w' ⟨rfl, rfl⟩)
            go_ret
            exact ⟨ret_bool HF.out.symm, HB.out⟩
        · have HF : Hid ((lnkB f pid N && decide (N ≤ 50)) = false) := HNO.out (by rw [HL.out]; exact decide_eq_false (by omega))
          go_wp2_with fail
          go_ret
          exact ⟨ret_bool HF.out.symm, HB.out⟩
      · have HF : Hid ((lnkB f pid N && decide (N ≤ 50)) = true) := by
          show _ = _
          have e : k = N := by omega
          rw [← e, HA.out]; exact decide_eq_true (by omega)
        clear hb hy0 hy1
        go_wp2_with fail
        go_ret
        exact ⟨ret_bool HF.out.symm, HB.out⟩
end Go.Proofs.YtfjaphhijefdlaaGreatDoor
namespace Go.Proofs.YtfjaphhijefdlaaGreatDoor
open Go.RowKit Atom
set_option linter.unusedVariables false

structure Ac where
  pid : Int
  pc : Int
  regs : List Tm
  box : List Tm
  N : Nat
  f : Nat → Int
/-- Where the three lists of an actor stand. -/
structure Wh where
  ra : Option Addr
  rc : Nat
  ba : Option Addr
  bc : Nat
  la : Option Addr
  lc : Nat
structure AcR (w : World) (a : Ac) (h : Wh) : Prop where
  regs : RepL 0 w a.regs h.ra
  box : RepL 0 w a.box h.ba
  links : RdI w h.la a.N a.f
  r1 : a.regs.length ≤ h.rc
  r2 : h.rc ≤ maxLen
  b1 : a.box.length ≤ h.bc
  b2 : h.bc ≤ maxLen
  l1 : a.N ≤ h.lc
  l2 : h.lc ≤ maxLen
abbrev acV (a : Ac) (h : Wh) : Value := .agg #[.int .i64 a.pid, .int .i64 a.pc, .slice h.ra a.regs.length h.rc, .slice h.ba a.box.length h.bc, .slice h.la a.N h.lc]
theorem AcR.below {w w' : World} {a : Ac} {h : Wh} (x : AcR w a h) (hb : Below w.heap.size w w') : AcR w' a h :=
  ⟨(Keeps.below hb 0).repL _ _ x.regs, (Keeps.below hb 0).repL _ _ x.box, x.links.below hb, x.r1, x.r2, x.b1, x.b2, x.l1, x.l2⟩

theorem keepA {w w' : World} (h : Below w.heap.size w w') {b o : Nat} {v : Value} (hc : w.cell? ⟨b, o, none⟩ = some v) : w'.cell? ⟨b, o, none⟩ = some v := by
  rw [h.cell (p := ⟨b, o, none⟩) (World.block_lt_of_cell? w _ hc)]; exact hc
def zL (l : List Tm) (left : Int) : Int := if left - l.length < 0 then -1 else szGo l (left - l.length)
theorem zL_le (l : List Tm) (a : Int) (h : 0 ≤ a) : -1 ≤ zL l a ∧ zL l a ≤ a := by
  unfold zL
  split
  · omega
  · have := szGo_le l (a - l.length) (by omega); omega
theorem szGo_small : ∀ (l : List Tm) (a : Int), 0 ≤ a → a ≤ 1048576 → 0 ≤ szGo l a → ∀ t ∈ l, SmallT t
  | [], _, _, _, _, t, ht => by cases ht
  | x :: r, a, h0, h1, h2, t, ht => by
    rw [szGo] at h2
    have hx := szT_le x a h0
    split at h2
    · omega
    · rcases List.mem_cons.1 ht with rfl | ht
      · exact sz_small t a h0 h1 (by omega)
      · exact szGo_small r (szT x a) (by omega) (by omega) h2 t ht
def SmL (l : List Tm) : Prop := l.length ≤ 1048576 ∧ ∀ t ∈ l, SmallT t
theorem zL_small {l : List Tm} {a : Int} (h0 : 0 ≤ a) (h1 : a ≤ 1048576) (h2 : 0 ≤ zL l a) : SmL l := by
  unfold zL at h2
  split at h2
  · omega
  · exact ⟨by omega, szGo_small l (a - l.length) (by omega) (by omega) h2⟩
/-- What is within limits. -/
def AcS (a : Ac) : Prop := SmL a.regs ∧ SmL a.box ∧ a.N ≤ 1048576

end Go.Proofs.YtfjaphhijefdlaaGreatDoor
namespace Go.Proofs.YtfjaphhijefdlaaGreatDoor
open Go.RowKit Atom
set_option linter.unusedVariables false

end Go.Proofs.YtfjaphhijefdlaaGreatDoor
namespace Go.Proofs.YtfjaphhijefdlaaGreatDoor
open Go.RowKit Atom
open Go.Proofs.YtfjaphhijefdlaaGreatDoor.Code
set_option linter.unusedVariables false

theorem keepS {w w' : World} (h : Below w.heap.size w w') {b o : Nat} {v : Value} (hc : w.cell? ⟨b, o, none⟩ = some v) : w'.cell? ⟨b, o, none⟩ = some v := by
  rw [h.cell (p := ⟨b, o, none⟩) (World.block_lt_of_cell? w _ hc)]; exact hc
def stB (l : List I) (pid pc : Int) (nR nB : Nat) (f : Nat → Int) (N : Nat) : Bool := codeB l && (pidB pid && (decide (0 ≤ pc ∧ pc < l.length) && (decide (nR = 8) && (decide (nB ≤ 30) && (lnkB f pid N && decide (N ≤ 50))))))
theorem stB_no1 {l : List I} {pid pc : Int} {nR nB : Nat} {f : Nat → Int} {N : Nat} (h : codeB l = false) : stB l pid pc nR nB f N = false := by unfold stB; rw [h]; rfl
theorem stB_no2 {l : List I} {pid pc : Int} {nR nB : Nat} {f : Nat → Int} {N : Nat} (h : ¬ (1 ≤ pid ∧ pid ≤ 99999)) : stB l pid pc nR nB f N = false := by unfold stB pidB; rw [decide_eq_false h]; simp
theorem stB_no3 {l : List I} {pid pc : Int} {nR nB : Nat} {f : Nat → Int} {N : Nat} (h : ¬ (0 ≤ pc ∧ pc < l.length)) : stB l pid pc nR nB f N = false := by unfold stB; rw [decide_eq_false h]; simp
theorem stB_no4 {l : List I} {pid pc : Int} {nR nB : Nat} {f : Nat → Int} {N : Nat} (h : ¬ nR = 8) : stB l pid pc nR nB f N = false := by unfold stB; rw [decide_eq_false h]; simp
theorem stB_no5 {l : List I} {pid pc : Int} {nR nB : Nat} {f : Nat → Int} {N : Nat} (h : ¬ nB ≤ 30) : stB l pid pc nR nB f N = false := by unfold stB; rw [decide_eq_false h]; simp
theorem stB_is {l : List I} {pid pc : Int} {nR nB : Nat} {f : Nat → Int} {N : Nat} (h1 : codeB l = true) (h2 : 1 ≤ pid ∧ pid ≤ 99999) (h3 : 0 ≤ pc ∧ pc < l.length) (h4 : nR = 8) (h5 : nB ≤ 30) : stB l pid pc nR nB f N = (lnkB f pid N && decide (N ≤ 50)) := by
  unfold stB pidB; rw [h1, decide_eq_true h2, decide_eq_true h3, decide_eq_true h4, decide_eq_true h5]; simp
theorem codeB_lenS {l : List I} (h : codeB l = true) : 1 ≤ l.length ∧ l.length ≤ 200 := by
  by_cases hn : 1 ≤ l.length ∧ l.length ≤ 200
  · exact hn
  · rw [codeB_no hn] at h; cases h
set_option maxHeartbeats 4000000 in
set_option maxRecDepth 100000 in
theorem standsIn_any (l : List I) (lo : Option Addr) (lc2 : Nat) (pid pc : Int) (la : Option Addr) (N lc : Nat) (f : Nat → Int) (nR nB : Nat) (w : World) (hl : RowI w lo l) (hsm : SmI maxLen l) (hln : l.length ≤ 1048576) (hr : RdI w la N f) (hN : N ≤ 1048576) (hnR : nR ≤ maxLen) (hnB : nB ≤ maxLen) (hS : Shp w) (hP : Pow w) (hE : Es.Ety w) :
    Calls Tryz.prog 26 #[.agg #[.int .i64 pid, .int .i64 pc, .slice la N lc], .slice lo l.length lc2, .int .i64 nR, .int .i64 nB] w fun e w' => e = .returned (.bool (stB l pid pc nR nB f N)) ∧ Below w.heap.size w w' := by
  have HR : Hid (RdI w la N f) := hr
  have HL : Hid (RowI w lo l) := hl
  have HSM : Hid (SmI maxLen l) := hsm
  have HLN : Hid (l.length ≤ 9223372036854775807) := by show _ ≤ _; omega
  have HN : Hid (N ≤ 1048576) := hN
  have HTAB : Hid (Shp w ∧ Pow w ∧ Es.Ety w) := ⟨hS, hP, hE⟩
  clear hS hP hE
  have hrm : (nR : Int) ≤ 9223372036854775807 := by unfold maxLen at hnR; omega
  have hbm : (nB : Int) ≤ 9223372036854775807 := by unfold maxLen at hnB; omega
  obtain ⟨w0, hw0⟩ : ∃ w0, w0 = w.alloc (.cells #[.int .i64 pid, .int .i64 pc, .slice la N lc] 51) := ⟨_, rfl⟩
  have HB0 : Hid (Below w.heap.size w w0) := by rw [hw0]; exact (Below.refl _ _).alloc (Nat.le_refl _) _
  have hq : ∀ j (v : Value), (#[.int .i64 pid, .int .i64 pc, .slice la N lc] : Array Value)[j]? = some v → w0.cell? ⟨w.heap.size, j, none⟩ = some v := fun j v hv => by
    rw [hw0, World.cell?_alloc_new]; exact hv
  have HC : Hid (∀ w1, Below w0.heap.size w0 w1 → w1.cell? ⟨w.heap.size, 0, none⟩ = some (.int .i64 pid) ∧ w1.cell? ⟨w.heap.size, 1, none⟩ = some (.int .i64 pc) ∧ w1.cell? ⟨w.heap.size, 2, none⟩ = some (.slice la N lc)) := fun w1 hb =>
    ⟨keepS hb (hq 0 _ rfl), keepS hb (hq 1 _ rfl), keepS hb (hq 2 _ rfl)⟩
  have HW : Hid (∀ w1, Below w0.heap.size w0 w1 → Below w.heap.size w w1) := fun w1 h => HB0.out.trans (h.mono HB0.out.size)
  have KCODE : Hid (∀ w1, Below w0.heap.size w0 w1 → Calls Tryz.prog 38 #[.slice lo l.length lc2] w1 fun e w2 => e = .returned (.bool (codeB l)) ∧ Below w0.heap.size w0 w2) := fun w1 hb => by
    have h := HW.out w1 hb
    exact (implCode_any l lo lc2 w1 (HL.out.below h) HSM.out HLN.out (HTAB.out.1.below h) (HTAB.out.2.1.below h) (HTAB.out.2.2.below h)).mono fun e w2 ⟨h1, h2⟩ => ⟨h1, hb.trans (h2.mono hb.size)⟩
  have KLNK : Hid (∀ w1, Below w0.heap.size w0 w1 → Calls Tryz.prog 39 #[.slice la N lc, .int .i64 pid] w1 fun e w2 => e = .returned (.bool (lnkB f pid N && decide (N ≤ 50))) ∧ Below w0.heap.size w0 w2) := fun w1 hb =>
    (linksOk_any la N lc f pid w1 (HR.out.below (HW.out w1 hb)) HN.out).mono fun e w2 ⟨h1, h2⟩ => ⟨h1, hb.trans (h2.mono hb.size)⟩
  clear hq hl hsm hr hN hnR hnB
  go_enter Tryz.func26, Tryz.ntmps26
  go_wp2_with fail
  rw [← hw0]
  clear hw0
  refine (KCODE.out w0 (Below.refl _ _)).mono ?_
  rintro e w1 ⟨he, hb1⟩
  have HB1 : Hid (Below w0.heap.size w0 w1) := hb1
  obtain ⟨d0, d1, d2⟩ := HC.out w1 hb1
  clear hb1
  cases hc : codeB l
  · rw [hc] at he; subst he
    have HF : Hid (stB l pid pc nR nB f N = false) := stB_no1 hc
    clear hc
    go_wp2_with (first | (go_at_call 15; refine (isPid_any _ _).mono ?_; rintro e w' ⟨rfl, hw'⟩; obtain rfl := hw'.symm))
    go_ret
    exact ⟨ret_bool HF.out.symm, HW.out _ HB1.out⟩
  rw [hc] at he; subst he
  have hlen := codeB_lenS hc
  have HC1 : Hid (codeB l = true) := hc
  clear hc
  by_cases h2 : 1 ≤ pid ∧ pid ≤ 99999
  rotate_left
  · have q2 : pidB pid = false := decide_eq_false h2
    have HF : Hid (stB l pid pc nR nB f N = false) := stB_no2 h2
    clear h2
    go_wp2_with (first | (go_at_call 15; refine (isPid_any _ _).mono ?_; rintro e w' ⟨rfl, hw'⟩; obtain rfl := hw'.symm))
    go_ret
    exact ⟨ret_bool HF.out.symm, HW.out _ HB1.out⟩
  have q2 : pidB pid = true := decide_eq_true h2
  have H2 : Hid (1 ≤ pid ∧ pid ≤ 99999) := h2
  clear h2
  by_cases h3 : 0 ≤ pc ∧ pc < l.length
  rotate_left
  · have HF : Hid (stB l pid pc nR nB f N = false) := stB_no3 h3
    by_cases h3a : 0 ≤ pc
    · have h3b : ¬ pc < (l.length : Int) := by omega
      clear h3
      go_wp2_with (first | (go_at_call 15; refine (isPid_any _ _).mono ?_; rintro e w' ⟨rfl, hw'⟩; obtain rfl := hw'.symm))
      go_ret
      exact ⟨ret_bool HF.out.symm, HW.out _ HB1.out⟩
    · clear h3
      go_wp2_with (first | (go_at_call 15; refine (isPid_any _ _).mono ?_; rintro e w' ⟨rfl, hw'⟩; obtain rfl := hw'.symm))
      go_ret
      exact ⟨ret_bool HF.out.symm, HW.out _ HB1.out⟩
  have h3a := h3.1
  have h3b := h3.2
  have H3 : Hid (0 ≤ pc ∧ pc < l.length) := h3
  clear h3
  by_cases h4 : nR = 8
  rotate_left
  · have q4 : ((nR : Int) == 8) = false := by simp; omega
    have HF : Hid (stB l pid pc nR nB f N = false) := stB_no4 h4
    clear h4
    go_wp2_with (first | (go_at_call 15; refine (isPid_any _ _).mono ?_; rintro e w' ⟨rfl, hw'⟩; obtain rfl := hw'.symm))
    go_ret
    exact ⟨ret_bool HF.out.symm, HW.out _ HB1.out⟩
  have q4 : ((nR : Int) == 8) = true := by simp; omega
  have H4 : Hid (nR = 8) := h4
  clear h4
  by_cases h5 : nB ≤ 30
  rotate_left
  · have q5 : ¬ (nB : Int) ≤ 30 := by omega
    have HF : Hid (stB l pid pc nR nB f N = false) := stB_no5 h5
    clear h5
    go_wp2_with (first | (go_at_call 15; refine (isPid_any _ _).mono ?_; rintro e w' ⟨rfl, hw'⟩; obtain rfl := hw'.symm))
    go_ret
    exact ⟨ret_bool HF.out.symm, HW.out _ HB1.out⟩
  have q5 : (nB : Int) ≤ 30 := by omega
  have H5 : Hid (nB ≤ 30) := h5
  clear h5
  have HF : Hid (stB l pid pc nR nB f N = (lnkB f pid N && decide (N ≤ 50))) := stB_is HC1.out H2.out H3.out H4.out H5.out
  go_wp2_with (first | (go_at_call 15; refine (isPid_any _ _).mono ?_; rintro e w' ⟨rfl, hw'⟩; obtain rfl := hw'.symm) | (go_at_call 39; fail))
  refine (KLNK.out w1 HB1.out).mono ?_
  rintro e w4 ⟨rfl, hb4⟩
  have HB4 : Hid (Below w0.heap.size w0 w4) := hb4
  clear hb4 d0 d1 d2
  generalize (lnkB f pid N && decide (N ≤ 50)) = q at HF
  go_wp2_with fail
  go_ret
  exact ⟨ret_bool HF.out.symm, HW.out _ HB4.out⟩

theorem bodyOf_any (pid pc : Int) (ra : Option Addr) (nR rc : Nat) (ba : Option Addr) (nB bc : Nat) (la : Option Addr) (N lc : Nat) (w : World) :
    Calls Tryz.prog 25 #[.agg #[.int .i64 pid, .int .i64 pc, .slice ra nR rc, .slice ba nB bc, .slice la N lc]] w fun e w' => e = .returned (.agg #[.int .i64 pid, .int .i64 pc, .slice la N lc]) ∧ Below w.heap.size w w' := by
  go_enter Tryz.func25, Tryz.ntmps25
  go_wp2
  refine bodyPost_ret (v := .agg #[.int .i64 pid, .int .i64 pc, .slice la N lc]) (by simp [results, Tryz.results25, go_sem]) rfl ⟨rfl, ?_⟩
  exact ((Below.refl _ _).alloc (Nat.le_refl _) _).alloc (by simp) _
end Go.Proofs.YtfjaphhijefdlaaGreatDoor
namespace Go.Proofs.YtfjaphhijefdlaaGreatDoor
open Go.RowKit Atom
open Go.Proofs.YtfjaphhijefdlaaGreatDoor.Code
set_option linter.unusedVariables false

/-- An actor is right. -/
def acB (l : List I) (a : Ac) : Bool := codeB l && (pidB a.pid && (decide (0 ≤ a.pc ∧ a.pc < l.length) && (decide (a.regs.length = 8) && (allOk a.regs && (decide (a.box.length ≤ 30) && (allOk a.box && (lnkB a.f a.pid a.N && decide (a.N ≤ 50))))))))
theorem acB_no1 {l : List I} {a : Ac} (h : codeB l = false) : acB l a = false := by unfold acB; rw [h]; rfl
theorem acB_no2 {l : List I} {a : Ac} (h : ¬ (1 ≤ a.pid ∧ a.pid ≤ 99999)) : acB l a = false := by unfold acB pidB; rw [decide_eq_false h]; simp
theorem acB_no3 {l : List I} {a : Ac} (h : ¬ (0 ≤ a.pc ∧ a.pc < l.length)) : acB l a = false := by unfold acB; rw [decide_eq_false h]; simp
theorem acB_no4 {l : List I} {a : Ac} (h : ¬ a.regs.length = 8) : acB l a = false := by unfold acB; rw [decide_eq_false h]; simp
theorem acB_no5 {l : List I} {a : Ac} (h : ¬ a.box.length ≤ 30) : acB l a = false := by unfold acB; rw [decide_eq_false h]; simp
theorem acB_no6 {l : List I} {a : Ac} (h : allOk a.regs = false) : acB l a = false := by unfold acB; rw [h]; simp
theorem acB_no7 {l : List I} {a : Ac} (h : allOk a.box = false) : acB l a = false := by unfold acB; rw [h]; simp
theorem acB_is {l : List I} {a : Ac} (h1 : codeB l = true) (h2 : 1 ≤ a.pid ∧ a.pid ≤ 99999) (h3 : 0 ≤ a.pc ∧ a.pc < l.length) (h4 : a.regs.length = 8) (h5 : a.box.length ≤ 30) (h6 : allOk a.regs = true) (h7 : allOk a.box = true) :
    acB l a = (lnkB a.f a.pid a.N && decide (a.N ≤ 50)) := by
  unfold acB pidB
  rw [h1, decide_eq_true h2, decide_eq_true h3, decide_eq_true h4, decide_eq_true h5, h6, h7]; simp
theorem codeB_len {l : List I} (h : codeB l = true) : 1 ≤ l.length ∧ l.length ≤ 200 := by
  by_cases hn : 1 ≤ l.length ∧ l.length ≤ 200
  · exact hn
  · rw [codeB_no hn] at h; cases h

theorem acB_eq (l : List I) (a : Ac) : acB l a = (stB l a.pid a.pc a.regs.length a.box.length a.f a.N && (allOk a.regs && allOk a.box)) := by
  unfold acB stB
  generalize codeB l = b1
  generalize pidB a.pid = b2
  generalize decide (0 ≤ a.pc ∧ a.pc < l.length) = b3
  generalize decide (a.regs.length = 8) = b4
  generalize allOk a.regs = b5
  generalize decide (a.box.length ≤ 30) = b6
  generalize allOk a.box = b7
  generalize (lnkB a.f a.pid a.N && decide (a.N ≤ 50)) = b8
  revert b1 b2 b3 b4 b5 b6 b7 b8
  decide
set_option maxHeartbeats 4000000 in
set_option maxRecDepth 100000 in
theorem implActorOk_any (l : List I) (lo : Option Addr) (lc2 : Nat) (a : Ac) (h : Wh) (w : World) (hl : RowI w lo l) (hsm : SmI maxLen l) (hln : l.length ≤ 1048576) (hr : AcR w a h) (hN : a.N ≤ 1048576) (hS : Shp w) (hP : Pow w) (hE : Es.Ety w) :
    Calls Tryz.prog 9 #[.slice lo l.length lc2, acV a h] w fun e w' => e = .returned (.bool (acB l a)) ∧ Below w.heap.size w w' := by
  rw [acB_eq]
  obtain ⟨pid, pc, regs, box, N, f⟩ := a
  obtain ⟨ra, rc, ba, bc, la, lc⟩ := h
  have HR : Hid (AcR w ⟨pid, pc, regs, box, N, f⟩ ⟨ra, rc, ba, bc, la, lc⟩) := hr
  obtain ⟨w0, hw0⟩ : ∃ w0, w0 = w.alloc (.cells #[.int .i64 pid, .int .i64 pc, .slice ra regs.length rc, .slice ba box.length bc, .slice la N lc] 31) := ⟨_, rfl⟩
  have HB0 : Hid (Below w.heap.size w w0) := by rw [hw0]; exact (Below.refl _ _).alloc (Nat.le_refl _) _
  have q0 : ∀ o, w0.cell? ⟨w.heap.size, o, none⟩ = (#[.int .i64 pid, .int .i64 pc, .slice ra regs.length rc, .slice ba box.length bc, .slice la N lc] : Array Value)[o]? := fun o => by rw [hw0]; exact World.cell?_alloc_new w _ _ o
  have hlt : w.heap.size < w0.heap.size := by rw [hw0, World.size_alloc]; omega
  have HQ : Hid (∀ w1, Below w0.heap.size w0 w1 → ∀ o, w1.cell? ⟨w.heap.size, o, none⟩ = (#[.int .i64 pid, .int .i64 pc, .slice ra regs.length rc, .slice ba box.length bc, .slice la N lc] : Array Value)[o]?) := fun w1 hb o => by rw [hb.cell (p := ⟨w.heap.size, o, none⟩) hlt]; exact q0 o
  have HW : Hid (∀ w1, Below w0.heap.size w0 w1 → Below w.heap.size w w1) := fun w1 h => HB0.out.trans (h.mono HB0.out.size)
  have KBO : Hid (∀ y : Inn w0, Calls Tryz.prog 25 #[.agg #[.int .i64 pid, .int .i64 pc, .slice ra regs.length rc, .slice ba box.length bc, .slice la N lc]] y.val fun e w2 => e = .returned (.agg #[.int .i64 pid, .int .i64 pc, .slice la N lc]) ∧ Below y.val.heap.size y.val w2) := fun y => bodyOf_any pid pc ra regs.length rc ba box.length bc la N lc y.val
  have KST : Hid (∀ y : Inn w0, Calls Tryz.prog 26 #[.agg #[.int .i64 pid, .int .i64 pc, .slice la N lc], .slice lo l.length lc2, .int .i64 regs.length, .int .i64 box.length] y.val fun e w2 => e = .returned (.bool (stB l pid pc regs.length box.length f N)) ∧ Below y.val.heap.size y.val w2) := fun y => by
    have h := HW.out y.val y.bel
    exact standsIn_any l lo lc2 pid pc la N lc f regs.length box.length y.val (hl.below h) hsm hln (hr.below h).links hN (Nat.le_trans hr.r1 hr.r2) (Nat.le_trans hr.b1 hr.b2) (hS.below h) (hP.below h) (hE.below h)
  have KREG : Hid (∀ y : Inn w0, Calls Tryz.prog 27 #[.slice ra regs.length rc] y.val fun e w2 => e = .returned (.bool (allOk regs)) ∧ Below y.val.heap.size y.val w2) := fun y =>
    termsOk_any regs ra rc y.val (HR.out.below (HW.out y.val y.bel)).regs HR.out.r1 HR.out.r2
  have KBOX : Hid (∀ y : Inn w0, Calls Tryz.prog 27 #[.slice ba box.length bc] y.val fun e w2 => e = .returned (.bool (allOk box)) ∧ Below y.val.heap.size y.val w2) := fun y =>
    termsOk_any box ba bc y.val (HR.out.below (HW.out y.val y.bel)).box HR.out.b1 HR.out.b2
  dsimp only
  clear hl hsm hln hr hN hS hP hE hlt
  obtain ⟨st, hst⟩ : ∃ st, stB l pid pc regs.length box.length f N = st := ⟨_, rfl⟩
  obtain ⟨a1, ha1⟩ : ∃ a1, allOk regs = a1 := ⟨_, rfl⟩
  obtain ⟨a2, ha2⟩ : ∃ a2, allOk box = a2 := ⟨_, rfl⟩
  rw [hst, ha1, ha2]
  rw [hst] at KST
  rw [ha1] at KREG
  rw [ha2] at KBOX
  clear hst ha1 ha2
  have d0 : w0.cell? ⟨w.heap.size, 0, none⟩ = some (.int .i64 pid) := q0 0
  have d1 : w0.cell? ⟨w.heap.size, 1, none⟩ = some (.int .i64 pc) := q0 1
  have d2 : w0.cell? ⟨w.heap.size, 2, none⟩ = some (.slice ra regs.length rc) := q0 2
  have d3 : w0.cell? ⟨w.heap.size, 3, none⟩ = some (.slice ba box.length bc) := q0 3
  have d4 : w0.cell? ⟨w.heap.size, 4, none⟩ = some (.slice la N lc) := q0 4
  have k0 := Inn.keep d0
  have k1 := Inn.keep d1
  have k2 := Inn.keep d2
  have k3 := Inn.keep d3
  have k4 := Inn.keep d4
  haveI := inn_ne w0
  go_enter Tryz.func9, Tryz.ntmps9
  go_wp2_with fail
  rw [← hw0]
  clear hw0
  cases st with
  | false =>
    refine wp_region_inn ?_ ?_ ?_
    · kernel_rfl
    · kernel_rfl
    repeat (go_big_quiet_step (first
      | (go_at_call 25; exact calls_inn (KBO.out _))
      | (go_at_call 26; exact calls_inn (KST.out _))
      | (go_at_call 27; first | with_reducible exact calls_inn (KREG.out _) | with_reducible exact calls_inn (KBOX.out _))))
    refine wpQuiet_nil ?_
    rintro w1 ⟨y1, h1⟩
    have hb1 : Below w0.heap.size w0 w1 := by rw [h1]; exact y1.bel
    have HF : Hid (Below w.heap.size w w1) := HW.out w1 hb1
    clear h1 hb1 y1 k0 k1 k2 k3 k4 d0 d1 d2 d3 d4 q0
    go_wp2_with fail
    go_ret
    exact ⟨rfl, HF.out⟩
  | true =>
    cases a1 with
    | false =>
      refine wp_region_inn ?_ ?_ ?_
      · kernel_rfl
      · kernel_rfl
      repeat (go_big_quiet_step (first
        | (go_at_call 25; exact calls_inn (KBO.out _))
        | (go_at_call 26; exact calls_inn (KST.out _))
        | (go_at_call 27; first | with_reducible exact calls_inn (KREG.out _) | with_reducible exact calls_inn (KBOX.out _))))
      refine wpQuiet_nil ?_
      rintro w1 ⟨y1, h1⟩
      have hb1 : Below w0.heap.size w0 w1 := by rw [h1]; exact y1.bel
      have HF : Hid (Below w.heap.size w w1) := HW.out w1 hb1
      clear h1 hb1 y1 k0 k1 k2 k3 k4 d0 d1 d2 d3 d4 q0
      go_wp2_with fail
      go_ret
      exact ⟨rfl, HF.out⟩
    | true =>
      cases a2 with
      | false =>
        refine wp_region_inn ?_ ?_ ?_
        · kernel_rfl
        · kernel_rfl
        repeat (go_big_quiet_step (first
          | (go_at_call 25; exact calls_inn (KBO.out _))
          | (go_at_call 26; exact calls_inn (KST.out _))
          | (go_at_call 27; first | with_reducible exact calls_inn (KREG.out _) | with_reducible exact calls_inn (KBOX.out _))))
        refine wpQuiet_nil ?_
        rintro w1 ⟨y1, h1⟩
        have hb1 : Below w0.heap.size w0 w1 := by rw [h1]; exact y1.bel
        have HF : Hid (Below w.heap.size w w1) := HW.out w1 hb1
        clear h1 hb1 y1 k0 k1 k2 k3 k4 d0 d1 d2 d3 d4 q0
        go_wp2_with fail
        go_ret
        exact ⟨rfl, HF.out⟩
      | true =>
        refine wp_region_inn ?_ ?_ ?_
        · kernel_rfl
        · kernel_rfl
        repeat (go_big_quiet_step (first
          | (go_at_call 25; exact calls_inn (KBO.out _))
          | (go_at_call 26; exact calls_inn (KST.out _))
          | (go_at_call 27; first | with_reducible exact calls_inn (KREG.out _) | with_reducible exact calls_inn (KBOX.out _))))
        refine wpQuiet_nil ?_
        rintro w1 ⟨y1, h1⟩
        have hb1 : Below w0.heap.size w0 w1 := by rw [h1]; exact y1.bel
        have HF : Hid (Below w.heap.size w w1) := HW.out w1 hb1
        clear h1 hb1 y1 k0 k1 k2 k3 k4 d0 d1 d2 d3 d4 q0
        go_wp2_with fail
        go_ret
        exact ⟨rfl, HF.out⟩
end Go.Proofs.YtfjaphhijefdlaaGreatDoor
