/-
  The draw of FnIns: the specification's DrawInsOk.
-/
import Derived.Test.YtllogpekbdlfiaaDoorDcC
namespace Go.Proofs.YtllogpekbdlfiaaDoor.Code
open Go.RowKit
open Go.Proofs.YtllogpekbdlfiaaDoor.Atom
set_option linter.unusedVariables false

theorem res_insV {w : World} {R : Nat} {a b c d e g : Value} {tmps : Array Value} {fn : Func} {q : Int} (hf : fn.results = #[.cell 2 25, .tmp 3]) (h : w.heap[R]? = some (.cells #[a, b, c, d, e, g] 25 (0, 0)))
    (h4 : tmps.getD 2 undef = .pointer (some ⟨R, 0, none⟩)) (h5 : tmps.getD 3 undef = .int .i64 q) : (results fn tmps).run Tryd.prog w = .ok (.tuple #[.agg #[a, b, c, d, e, g], .int .i64 q]) w := by
  rw [results_cell_tmp hf, h4, h5]
  simp [asAddr, Result.andThen, run_loadVar_row w R 25 25 #[a, b, c, d, e, g] (0, 0) _ h Tryd.underlying25 rfl (by kernel_rfl)]

/-- What DrawInsOk has in hand. -/
structure Dz (cb : Nat) (ao : Option Addr) (len cap : Nat) (zs : List Int) (w : World) (R : Nat) (wr : World) : Prop where
  cur : Cur cb ao len cap zs wr
  bel : Below w.heap.size w wr
  res : wr.heap[R]? = some (.cells (insV zeroI) 25 (0, 0))
theorem Dz.call {cb : Nat} {ao : Option Addr} {len cap : Nat} {zs : List Int} {w wr w' : World} {R : Nat} (h : Dz cb ao len cap zs w R wr) (hR : R ≠ cb) (hc : w.heap.size ≤ cb) (d : Drawn cb ao len cap zs wr w') : Dz cb ao len cap zs w R w' :=
  ⟨d.1, Turn.below h.bel h.bel.size d.2 hc, (d.2.block _ (blk_lt h.res) hR).trans h.res⟩
theorem Dz.below {cb : Nat} {ao : Option Addr} {len cap : Nat} {zs : List Int} {w wr w' : World} {R : Nat} (h : Dz cb ao len cap zs w R wr) (hb : Below wr.heap.size wr w') : Dz cb ao len cap zs w R w' :=
  ⟨h.cur.below hb, h.bel.trans (hb.mono h.bel.size), (hb.block _ (blk_lt h.res)).trans h.res⟩

set_option maxHeartbeats 4000000 in
theorem drawIns_any (ao : Option Addr) (len cap : Nat) (zs : List Int) (w : World) (hr : IsRow w ao len cap zs) (hsm : len ≤ 1048576) :
    Calls Tryd.prog 9 #[.slice ao len cap] w fun e w' => (∃ (op a b c n : Int) (s : ByteArray) (N : Int), e = .returned (.tuple #[.agg #[.int .i64 op, .int .i64 a, .int .i64 b, .int .i64 c, .int .i64 n, .string s], .int .i64 N]) ∧ Wee ⟨op, a, b, c, n, s⟩ ∧ N ∈ [(1 : Int), 8, 200, 201, 0]) ∧ Below w.heap.size w w' := by
  have hbA := (Below.refl w.heap.size w).alloc (Nat.le_refl _) (.cells #[.int .i64 0, .int .i64 0, .int .i64 0, .int .i64 0, .int .i64 0, .string ⟨#[]⟩] 25)
  have HA : Hid (IsRow (w.alloc (.cells #[.int .i64 0, .int .i64 0, .int .i64 0, .int .i64 0, .int .i64 0, .string ⟨#[]⟩] 25)) ao len cap zs ∧ Below w.heap.size w (w.alloc (.cells #[.int .i64 0, .int .i64 0, .int .i64 0, .int .i64 0, .int .i64 0, .string ⟨#[]⟩] 25)) ∧ (w.alloc (.cells #[.int .i64 0, .int .i64 0, .int .i64 0, .int .i64 0, .int .i64 0, .string ⟨#[]⟩] 25)).heap[w.heap.size]? = some (.cells (insV zeroI) 25 (0, 0))) :=
    ⟨hr.below hbA, hbA, by show (w.heap.push _)[w.heap.size]? = _; simp; rfl⟩
  clear hbA hr
  go_enter Tryd.func9, Tryd.ntmps9
  go_wp2_with (go_at_call 23; fail)
  generalize (w.alloc (.cells #[.int .i64 0, .int .i64 0, .int .i64 0, .int .i64 0, .int .i64 0, .string ⟨#[]⟩] 25)) = wA at HA ⊢
  obtain ⟨R, hR⟩ : ∃ R, R = w.heap.size := ⟨_, rfl⟩
  rw [← hR]
  have HA2 : Hid (wA.heap[R]? = some (.cells (insV zeroI) 25 (0, 0)) ∧ w.heap.size ≤ R) := by have := HA.out.2.2; show _ ∧ _; rw [hR]; exact ⟨this, Nat.le_refl _⟩
  clear hR
  refine (new_any wA ao len cap zs HA.out.1 hsm).mono ?_
  rintro e w1 ⟨rfl, hcur, hb1, hsz⟩
  clear hsz
  have HZ1 : Hid (Dz wA.heap.size ao len cap zs w R w1) := ⟨hcur, HA.out.2.1.trans (hb1.mono HA.out.2.1.size), (hb1.block _ (blk_lt HA2.out.1)).trans HA2.out.1⟩
  have HNE : Hid (R ≠ wA.heap.size ∧ w.heap.size ≤ wA.heap.size ∧ w.heap.size ≤ R) := ⟨Nat.ne_of_lt (blk_lt HA2.out.1), HA.out.2.1.size, HA2.out.2⟩
  clear hcur hb1 HA HA2
  generalize wA.heap.size = cb at HZ1 HNE ⊢
  go_wp2_with (go_at_call 24; fail)
  refine (int_any cb ao len cap zs (w1.alloc (.cells #[.int .i64 1, .int .i64 8, .int .i64 200, .int .i64 201, .int .i64 0] 3)) (HZ1.out.cur.alloc _) w1.heap.size [1, 8, 200, 201, 0] (by have := cur_lt HZ1.out.cur; omega) (by simp) (by simp) ?_).mono ?_
  · intro j hj
    rw [World.cell?_alloc_new]
    rcases (show j = 0 ∨ j = 1 ∨ j = 2 ∨ j = 3 ∨ j = 4 by simp at hj; omega) with rfl | rfl | rfl | rfl | rfl <;> rfl
  rintro e w2 ⟨N, rfl, hN, hd2⟩
  have HN : Hid (N ∈ [(1 : Int), 8, 200, 201, 0]) := hN
  have HZ2 : Hid (Dz cb ao len cap zs w R w2) := (HZ1.out.below ((Below.refl _ w1).alloc (Nat.le_refl _) _)).call HNE.out.1 HNE.out.2.1 hd2
  clear hN hd2 HZ1
  go_wp2_with (go_at_call 25; fail)
  refine (any_any cb ao len cap zs _ HZ2.out.cur).mono ?_
  rintro e w3 ⟨g, n, vc, rfl, hW, hd3⟩
  have HZ3 : Hid (Dz cb ao len cap zs w R w3) := HZ2.out.call HNE.out.1 HNE.out.2.1 hd3
  have HW3 : Hid (RowW w3 w2.heap.size g n vc) := hW
  have HCB : Hid (cb < w2.heap.size) := cur_lt HZ2.out.cur
  have HNC : Hid (n ≤ vc ∧ vc ≤ maxLen ∧ n ≤ 20) := ⟨hW.hcap, hW.hmax, hW.hn⟩
  clear hW hd3 HZ2
  by_cases hn : n = 0
  · subst hn
    have r0 := blk_at HZ3.out.res 0
    have r1 := blk_at HZ3.out.res 1
    have r2 := blk_at HZ3.out.res 2
    have r3 := blk_at HZ3.out.res 3
    have r4 := blk_at HZ3.out.res 4
    have r5 := blk_at HZ3.out.res 5
    have rf := fun i => blk_free HZ3.out.res i
    simp only [insV, zeroI, List.getElem?_toArray, List.getElem?_cons_zero, List.getElem?_cons_succ] at r0 r1 r2 r3 r4 r5
    have HWF : Hid (∀ (a b c d e g : Value), ((((((w3.setCell ⟨R, 0, none⟩ a).setCell ⟨R, 1, none⟩ b).setCell ⟨R, 2, none⟩ c).setCell ⟨R, 3, none⟩ d).setCell ⟨R, 4, none⟩ e).setCell ⟨R, 5, none⟩ g).heap[R]? = some (.cells #[a, b, c, d, e, g] 25 (0, 0))) := fun a b c d e g => set_blk6 HZ3.out.res a b c d e g
    go_wp2_with fail
    refine bodyPost_ret (res_insV Tryd.results9 (HWF.out _ _ _ _ _ _) rfl rfl) rfl ⟨⟨_, _, _, _, _, _, N, rfl, ?_, HN.out⟩, ?_⟩
    · exact ⟨⟨show (-2000000 : Int) ≤ 0 by decide, show (0 : Int) ≤ 2000000 by decide⟩, ⟨show (-2000000 : Int) ≤ 0 by decide, show (0 : Int) ≤ 2000000 by decide⟩, ⟨show (-2000000 : Int) ≤ 0 by decide, show (0 : Int) ≤ 2000000 by decide⟩, ⟨show (-2000000 : Int) ≤ 0 by decide, show (0 : Int) ≤ 2000000 by decide⟩, ⟨show (-2000000 : Int) ≤ 0 by decide, show (0 : Int) ≤ 2000000 by decide⟩, show (⟨#[]⟩ : ByteArray).size ≤ 1000 by decide⟩
    · have c2 := HNE.out.2.2
      exact ((((((HZ3.out.bel.setCell c2 _).setCell c2 _).setCell c2 _).setCell c2 _).setCell c2 _).setCell c2 _)
  · have hn0 : ((n : Int) == 0) = false := beq_eq_false_iff_ne.2 (by omega)
    have hn1 := HNC.out.2.2
    go_wp2_with (go_at_call 26; fail)
    refine (below_any cb ao len cap zs _ HZ3.out.cur (n : Int) (by omega) (by omega)).mono ?_
    rintro e w4 ⟨y, rfl, hy0, hy1, hd4⟩
    obtain ⟨k, hk, rfl⟩ : ∃ k : Nat, k < n ∧ y = (k : Int) := ⟨y.toNat, by omega, by omega⟩
    have HZ4 : Hid (Dz cb ao len cap zs w R w4) := HZ3.out.call HNE.out.1 HNE.out.2.1 hd4
    have HW4 : Hid (RowW w4 w2.heap.size g n vc) := HW3.out.drawn hd4 HCB.out
    clear hd4 HW3 HZ3 hn0 hy0
    obtain ⟨⟨op, a, b, c, xn, s⟩, hx, hbx⟩ := HW4.out.rows k hk
    have HWX : Hid (Wee ⟨op, a, b, c, xn, s⟩) := hx
    have x0 := hbx.c0
    have x1 := hbx.c1
    have x2 := hbx.c2
    have x3 := hbx.c3
    have x4 := hbx.c4
    have x5 := hbx.c5
    clear hbx hx
    have r0 := blk_at HZ4.out.res 0
    have r1 := blk_at HZ4.out.res 1
    have r2 := blk_at HZ4.out.res 2
    have r3 := blk_at HZ4.out.res 3
    have r4 := blk_at HZ4.out.res 4
    have r5 := blk_at HZ4.out.res 5
    have rf := fun i => blk_free HZ4.out.res i
    simp only [insV, zeroI, List.getElem?_toArray, List.getElem?_cons_zero, List.getElem?_cons_succ] at r0 r1 r2 r3 r4 r5
    have HWF : Hid (∀ (a b c d e g : Value), ((((((w4.setCell ⟨R, 0, none⟩ a).setCell ⟨R, 1, none⟩ b).setCell ⟨R, 2, none⟩ c).setCell ⟨R, 3, none⟩ d).setCell ⟨R, 4, none⟩ e).setCell ⟨R, 5, none⟩ g).heap[R]? = some (.cells #[a, b, c, d, e, g] 25 (0, 0))) := fun a b c d e g => set_blk6 HZ4.out.res a b c d e g
    have hki : (k : Int) < (n : Int) := by omega
    go_wp2_with fail
    refine bodyPost_ret (res_insV Tryd.results9 (HWF.out _ _ _ _ _ _) rfl rfl) rfl ⟨⟨_, _, _, _, _, _, N, rfl, HWX.out, HN.out⟩, ?_⟩
    have c2 := HNE.out.2.2
    exact ((((((HZ4.out.bel.setCell c2 _).setCell c2 _).setCell c2 _).setCell c2 _).setCell c2 _).setCell c2 _)
end Go.Proofs.YtllogpekbdlfiaaDoor.Code
