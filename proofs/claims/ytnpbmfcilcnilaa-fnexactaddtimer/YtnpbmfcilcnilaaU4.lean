/-
  At every list of timers and every timer that memory can hold, right or not, the program's AddTimer answers as the specification's, and its answer owns its memory; nothing is written into the arguments: the law FnExactAddTimer returns true and its arguments read as before. No condition.
  (Ahead of it, in this text: A timer's own marks; what the law of AddTimer has in hand while it is walked. The law FnExactAddTimer, walked. Whatever term the law is handed lies in memory as a tree. Timers that came in, opened.)
-/
import Derived.Test.YtnpbmfcilcnilaaU2
import Derived.Test.YtnpbmfcilcnilaaU3
import Derived.Deep.CutRange
import Derived.Deep.RegionHeld3
import Derived.Test.YtnpbmfcilcnilaaTmA
import Derived.Test.YtnpbmfcilcnilaaRows
import Derived.ProofKit
import Derived.Deep.Slices
import Derived.Test.YtnpbmfcilcnilaaTrA
import Derived.OpenShut
import Derived.ShutString
import Derived.ChangeOld
namespace Go.Proofs.Ytnpbmfcilcnilaa.Tr
open Go.RowKit Atom
set_option linter.unusedVariables false

set_option maxHeartbeats 1000000 in
theorem markTermT_any (k0 n0 : Int) (s0 : ByteArray) (l : List Tm) (ao : Option Addr) (cap : Nat) (bs : List Nat) (K : Nat) (w : World) (h : OsL w l bs ao) (hnd : bs.Nodup) (hlc : l.length ≤ cap) (hcm : cap ≤ maxLen) (hK1 : 1 ≤ K) (hc : K + cL l ≤ 8999990) :
    Calls Try.prog 29 #[.agg #[.int .i64 k0, .int .i64 n0, .string s0, .slice ao l.length cap], .int .i64 (K : Int)] w fun e w' => e = .returned (.int .i64 ((K + cL l : Nat) : Int)) ∧ OutB bs w w' := by
  obtain ⟨W, hW⟩ : ∃ W, W = w.alloc (.cells #[.int .i64 k0, .int .i64 n0, .string s0, .slice ao l.length cap] 36) := ⟨_, rfl⟩
  have hb : Below w.heap.size w W := by rw [hW]; exact (Below.refl _ _).alloc (Nat.le_refl _) _
  have HC : Hid (Calls Try.prog 28 #[.slice ao l.length cap, .int .i64 (K : Int)] W fun e w' => e = .returned (.int .i64 ((K + cL l : Nat) : Int)) ∧ OsL w' (mrL l K) bs ao ∧ OutB bs W w') := mkB_all l W bs ao cap K (OsL.below hb h) hnd hlc hcm hK1 hc
  have HB : Hid (Below w.heap.size w W) := hb
  clear h hnd hlc hcm hc hb hK1
  generalize (K : Int) = KI at *
  go_enter Try.func29, Try.ntmps29
  go_wp2_with (go_at_call 28; fail)
  rw [← hW]
  clear hW
  refine HC.out.mono ?_
  rintro e w1 ⟨rfl, h1, h2⟩
  have H1 : Hid (OutB bs W w1) := h2
  clear h1 h2
  generalize hK : ((K + cL l : Nat) : Int) = K'
  have HK : Hid (((K + cL l : Nat) : Int) = K') := hK
  clear hK
  go_wp2_with fail
  go_ret
  exact ⟨ret_int HK.out.symm, (OutB.below HB.out).trans H1.out⟩
set_option maxHeartbeats 1000000 in
theorem markTimer_any (a p k0 n0 : Int) (s0 : ByteArray) (l : List Tm) (ao : Option Addr) (cap : Nat) (bs : List Nat) (K : Nat) (w : World) (h : OsL w l bs ao) (hnd : bs.Nodup) (hlc : l.length ≤ cap) (hcm : cap ≤ maxLen) (hK1 : 1 ≤ K) (hc : K + cL l ≤ 8999990) :
    Calls Try.prog 13 #[sdV a p k0 n0 s0 ao l.length cap, .int .i64 (K : Int)] w fun e w' => e = .returned (.int .i64 ((K + cL l : Nat) : Int)) ∧ OutB bs w w' := by
  obtain ⟨W, hW⟩ : ∃ W, W = w.alloc (.cells #[.int .i64 a, .int .i64 p, .int .i64 k0, .int .i64 n0, .string s0, .slice ao l.length cap] 38) := ⟨_, rfl⟩
  have hb : Below w.heap.size w W := by rw [hW]; exact (Below.refl _ _).alloc (Nat.le_refl _) _
  have HC : Hid (Calls Try.prog 29 #[.agg #[.int .i64 k0, .int .i64 n0, .string s0, .slice ao l.length cap], .int .i64 (K : Int)] W fun e w' => e = .returned (.int .i64 ((K + cL l : Nat) : Int)) ∧ OutB bs W w') := markTermT_any k0 n0 s0 l ao cap bs K W (OsL.below hb h) hnd hlc hcm hK1 hc
  have HB : Hid (Below w.heap.size w W) := hb
  clear h hnd hlc hcm hc hb hK1
  generalize (K : Int) = KI at *
  go_enter Try.func13, Try.ntmps13
  go_wp2_with (go_at_call 29; fail)
  rw [← hW]
  clear hW
  refine HC.out.mono ?_
  rintro e w1 ⟨rfl, h2⟩
  have H1 : Hid (OutB bs W w1) := h2
  clear h2
  generalize hK : ((K + cL l : Nat) : Int) = K'
  have HK : Hid (((K + cL l : Nat) : Int) = K') := hK
  clear hK
  go_wp2_with fail
  go_ret
  exact ⟨ret_int HK.out.symm, (OutB.below HB.out).trans H1.out⟩
theorem ntXs_put (l : List Sd) (i : Nat) (x : Sd) : ntXs (putAt l i x) = ntXs l + ntX x := by
  unfold ntXs putAt
  rw [List.map_append, List.sum_append, List.map_cons, List.sum_cons]
  have h : ((l.take i).map ntX).sum + ((l.drop i).map ntX).sum = (l.map ntX).sum := by rw [← List.sum_append, ← List.map_append, List.take_append_drop]
  omega
theorem ntXs_addT (l : List Sd) (x : Sd) : ntXs (addT l x) ≤ ntXs l + ntX x := by
  unfold addT
  split
  · unfold insT; rw [ntXs_put]; exact Nat.le_refl _
  · omega
theorem addT_le (l : List Sd) (x : Sd) : (addT l x).length ≤ l.length + 1 := by
  unfold addT
  split
  · rw [insT_length]; exact Nat.le_refl _
  · omega
theorem Ax.out {w2 wr w' : World} {lx : List Sd} {xo : Option Addr} {bx : List Nat} {n0 n1 : List Sd} {g0 g1 : Option Addr} {b0 b1 bs : List Nat} (h : Ax w2 wr lx xo bx n0 n1 g0 g1 b0 b1) (ho : OutB bs wr w') (hl : ∀ b ∈ bs, w2.heap.size ≤ b) (hd : ∀ b ∈ bx ++ (b0 ++ b1), b ∉ bs) : Ax w2 w' lx xo bx n0 n1 g0 g1 b0 b1 :=
  ⟨out_below h.below rfl ho hl, h.x.keep (fun x hx hq => ho.block x hq (hd x (by simp [hx]))), h.im0.keep (fun x hx hq => ho.block x hq (hd x (by simp [hx]))), h.im1.keep (fun x hx hq => ho.block x hq (hd x (by simp [hx]))), h.lo, h.nd⟩
/-- The second argument's copy: in its variable, its term's list in blocks of its own. -/
structure Tx (wr : World) (V : Nat) (a p k n : Int) (s : ByteArray) (tl : List Tm) (ta : Option Addr) (tc : Nat) (bt : List Nat) : Prop where
  q : ∀ o, wr.cell? ⟨V, o, none⟩ = (#[.int .i64 a, .int .i64 p, .int .i64 k, .int .i64 n, .string s, .slice ta tl.length tc] : Array Value)[o]?
  lt : V < wr.heap.size
  x : OsV wr bt (.mk k n s tl) (.agg #[.int .i64 k, .int .i64 n, .string s, .slice ta tl.length tc])
theorem Tx.call {wr w' : World} {V : Nat} {a p k n : Int} {s : ByteArray} {tl : List Tm} {ta : Option Addr} {tc : Nat} {bt : List Nat} (h : Tx wr V a p k n s tl ta tc bt) (hb : Below wr.heap.size wr w') : Tx w' V a p k n s tl ta tc bt :=
  ⟨fun o => by rw [hb.cell (p := ⟨V, o, none⟩) h.lt]; exact h.q o, Nat.lt_of_lt_of_le h.lt hb.size, osV_keep h.x (fun b _ hl => hb.block b hl)⟩
theorem Tx.out {wr w' : World} {V : Nat} {a p k n : Int} {s : ByteArray} {tl : List Tm} {ta : Option Addr} {tc : Nat} {bt bs : List Nat} (h : Tx wr V a p k n s tl ta tc bt) (ho : OutB bs wr w') (hV : V ∉ bs) (hd : ∀ b ∈ bt, b ∉ bs) : Tx w' V a p k n s tl ta tc bt :=
  ⟨fun o => (World.cell?_of_block (w := wr) (ho.block V h.lt hV)).trans (h.q o), Nat.lt_of_lt_of_le h.lt ho.size, osV_keep h.x (fun b hb hl => ho.block b hl (hd b hb))⟩
theorem Tx.list {wr : World} {V : Nat} {a p k n : Int} {s : ByteArray} {tl : List Tm} {ta : Option Addr} {tc : Nat} {bt : List Nat} (h : Tx wr V a p k n s tl ta tc bt) : OsL wr tl bt ta ∧ tl.length ≤ tc ∧ tc ≤ maxLen := by
  obtain ⟨ao', cap', e, b1, b2, b3, b4⟩ := h.x
  simp only [Value.agg.injEq, Array.mk.injEq, List.cons.injEq, and_true, Value.slice.injEq, true_and] at e
  obtain ⟨rfl, rfl⟩ := e
  exact ⟨b4, b2, b3⟩
theorem belNx {w0 w1 w2 : World} (h1 : Below w0.heap.size w0 w1) (h2 : Below w1.heap.size w1 w2) : Below w0.heap.size w0 w2 := h1.trans (h2.mono h1.size)
end Go.Proofs.Ytnpbmfcilcnilaa.Tr
namespace Go.Proofs.Ytnpbmfcilcnilaa.Tr
open Go.RowKit Atom
set_option linter.unusedVariables false

set_option maxHeartbeats 8000000 in
set_option maxRecDepth 100000 in
theorem walkAdd (l : List Sd) (ao : Option Addr) (cap : Nat) (a p k n : Int) (s : ByteArray) (tl : List Tm) (xo : Option Addr) (xcap : Nat) (w : World) (hr : RowS w ao l) (hl : l.length ≤ maxLen)
    (hv : RepV 0 w (.mk k n s tl) (.agg #[.int .i64 k, .int .i64 n, .string s, .slice xo tl.length xcap])) :
    Calls Try.prog 3 #[.slice ao l.length cap, sdV a p k n s xo tl.length xcap] w fun e w' => e = .returned (.bool true) ∧ Below w.heap.size w w' := by
  obtain ⟨wb, hwb⟩ : ∃ wb, wb = w.alloc (.cells #[.int .i64 a, .int .i64 p, .int .i64 k, .int .i64 n, .string s, .slice xo tl.length xcap] 27) := ⟨_, rfl⟩
  have hbb : Below w.heap.size w wb := by rw [hwb]; exact (Below.refl _ _).alloc (Nat.le_refl _) _
  have cx : ∀ j v, #[Value.int .i64 a, .int .i64 p, .int .i64 k, .int .i64 n, .string s, .slice xo tl.length xcap][j]? = some v → wb.cell? ⟨w.heap.size, j, none⟩ = some v := fun j v hj => by
    rw [hwb, World.cell?_alloc_new]; exact hj
  have HBB : Hid (Below w.heap.size w wb) := hbb
  have HR : Hid (RowS wb ao l) := hr.below hbb
  have HL : Hid (l.length ≤ maxLen) := hl
  have HV : Hid (RepV 0 wb (.mk k n s tl) (.agg #[.int .i64 k, .int .i64 n, .string s, .slice xo tl.length xcap])) := Below.repV hbb hv
  have HQB : Hid (∀ wc, Below wb.heap.size wb wc → wc.cell? ⟨w.heap.size, 0, none⟩ = some (.int .i64 a) ∧ wc.cell? ⟨w.heap.size, 1, none⟩ = some (.int .i64 p) ∧ wc.cell? ⟨w.heap.size, 2, none⟩ = some (.int .i64 k) ∧ wc.cell? ⟨w.heap.size, 3, none⟩ = some (.int .i64 n) ∧ wc.cell? ⟨w.heap.size, 4, none⟩ = some (.string s) ∧ wc.cell? ⟨w.heap.size, 5, none⟩ = some (.slice xo tl.length xcap)) := fun wc hb =>
    ⟨keepOt hb (cx 0 _ rfl), keepOt hb (cx 1 _ rfl), keepOt hb (cx 2 _ rfl), keepOt hb (cx 3 _ rfl), keepOt hb (cx 4 _ rfl), keepOt hb (cx 5 _ rfl)⟩
  have KSZ : Hid (Calls Try.prog 4 #[.slice ao l.length cap, .int .i64 1048576] wb fun e w' => (∃ r : Int, e = .returned (.int .i64 r) ∧ r ≤ 1048576 ∧ (0 ≤ r → l.length ≤ 1048576 ∧ (∀ a ∈ l, StS a.t) ∧ r + (ntXs l : Int) ≤ 1048576)) ∧ Below wb.heap.size wb w') := szTimerS_any l ao cap 1048576 wb HR.out hl (by omega) (by omega)
  obtain ⟨m0, hm0⟩ : ∃ m0, m0 = addT l ⟨a, p, .mk k n s tl⟩ := ⟨_, rfl⟩
  obtain ⟨ok, hok⟩ : ∃ ok, ok = addB l ⟨a, p, .mk k n s tl⟩ := ⟨_, rfl⟩
  have HML : Hid (m0.length ≤ l.length + 1 ∧ ntXs m0 ≤ ntXs l + ntX ⟨a, p, .mk k n s tl⟩) := by
    rw [hm0]; exact ⟨addT_le _ _, ntXs_addT _ _⟩
  have HM0 : Hid (m0 = addT l ⟨a, p, .mk k n s tl⟩ ∧ ok = addB l ⟨a, p, .mk k n s tl⟩) := ⟨hm0, hok⟩
  have hkk : (ok != ok) = false := by cases ok <;> rfl
  clear hr hl hm0 hok hv hbb cx
  go_enter Try.func3, Try.ntmps3
  go_wp2_with (go_at_call 4; fail)
  rw [← hwb]
  clear hwb
  refine KSZ.out.mono ?_
  rintro e w1 ⟨⟨r, rfl, hr0, hr1⟩, hb1⟩
  have HB1 : Hid (Below wb.heap.size wb w1) := hb1
  have HR1 : Hid (0 ≤ r → l.length ≤ 1048576 ∧ (∀ a ∈ l, StS a.t) ∧ r + (ntXs l : Int) ≤ 1048576) := hr1
  clear hb1 hr1
  by_cases hneg : r < 0
  · go_wp2_with fail
    go_ret
    exact ⟨rfl, belNx HBB.out HB1.out⟩
  obtain ⟨d0, d1, d2, d3, d4, d5⟩ := HQB.out w1 HB1.out
  have KSX : Hid (Calls Try.prog 5 #[sdV a p k n s xo tl.length xcap, .int .i64 r] w1 fun e w' => (∃ r2 : Int, e = .returned (.int .i64 r2) ∧ -1 ≤ r2 ∧ r2 ≤ r ∧ (0 ≤ r2 → StS (.mk k n s tl) ∧ r2 + (ntL tl : Int) ≤ r)) ∧ Below w1.heap.size w1 w') := szTimer_any a p k n s tl xo xcap r w1 (Below.repV HB1.out HV.out) (by omega) hr0
  go_wp2_with (go_at_call 5; fail)
  refine KSX.out.mono ?_
  rintro e w1b ⟨⟨r2, rfl, hq1, hq2, hq3⟩, hb1b⟩
  have HB1b : Hid (Below wb.heap.size wb w1b) := belNx HB1.out hb1b
  have HR2 : Hid (0 ≤ r2 → StS (.mk k n s tl) ∧ r2 + (ntL tl : Int) ≤ r) := hq3
  clear hb1b hq3 d0 d1 d2 d3 d4 d5 HB1 KSX hq1
  have HRR : Hid (0 ≤ r ∧ r2 ≤ r) := ⟨by omega, hq2⟩
  clear hneg hr0 hq2
  by_cases hneg2 : r2 < 0
  · go_wp2_with fail
    go_ret
    exact ⟨rfl, belNx HBB.out HB1b.out⟩
  have HS : Hid (l.length ≤ 1048576 ∧ (∀ a ∈ l, StS a.t) ∧ StS (.mk k n s tl) ∧ ntXs l + ntX ⟨a, p, .mk k n s tl⟩ ≤ 1048577 ∧ ntX ⟨a, p, .mk k n s tl⟩ = 1 + ntL tl) := by
    have q0 := HRR.out
    have q1 := HR1.out q0.1
    have q2 := HR2.out (by omega)
    have q3 : ntX ⟨a, p, .mk k n s tl⟩ = 1 + ntL tl := by
      show ntL [.mk k n s tl] = _
      rw [ntL, ntL]; omega
    exact ⟨q1.1, q1.2.1, q2.1, by omega, q3⟩
  have HK : Hid (1 + cG cS l + cL tl ≤ 8999990 ∧ 1 + cG cS m0 ≤ 8999990) := by
    have q1 := cG_nt l
    have q2 := cG_nt m0
    have q3 := HS.out.2.2.2
    have q4 := HML.out.2
    have q5 := cL_ntm tl
    exact ⟨by omega, by omega⟩
  have HLM : Hid (m0.length ≤ maxLen) := by
    have h1 := HML.out.1
    have h2 := HS.out.1
    show _ ≤ _
    unfold maxLen; omega
  have HSP : Hid (∀ wc ac cc ta tc, RowS wc ac l → RepV 0 wc (.mk k n s tl) (.agg #[.int .i64 k, .int .i64 n, .string s, .slice ta tl.length tc]) → Calls Try.prog 6 #[.slice ac l.length cc, sdV a p k n s ta tl.length tc] wc fun e w' => (∃ a1 c1, e = .returned (.tuple #[.slice a1 m0.length c1, .bool ok]) ∧ RowS w' a1 m0) ∧ Below wc.heap.size wc w') := fun wc ac cc ta tc h h2 => by
    rw [HM0.out.1, HM0.out.2]
    exact (specAdd_any l ac cc a p (.mk k n s tl) k n s ta tl.length tc wc h HS.out.1 HS.out.2.1 h2 HS.out.2.2.1).mono fun e w' ⟨⟨a1, c1, e1, q1, q2, _, _⟩, q3⟩ => ⟨⟨a1, c1, q1, GL.rowSk q2⟩, q3⟩
  have HIM : Hid (∀ wc ac cc bc ta tc bt, GL eltS wc l bc ac → bc.Nodup → OsV wc bt (.mk k n s tl) (.agg #[.int .i64 k, .int .i64 n, .string s, .slice ta tl.length tc]) → bt.Nodup → Calls Try.prog 9 #[.slice ac l.length cc, sdV a p k n s ta tl.length tc] wc fun e w' => (∃ a1 c1 e1, e = .returned (.tuple #[.slice a1 m0.length c1, .bool ok]) ∧ GL eltS w' m0 e1 a1 ∧ e1.Nodup ∧ ∀ b ∈ e1, wc.heap.size ≤ b) ∧ Below wc.heap.size wc w') := fun wc ac cc bc ta tc bt h hn h2 hn2 => by
    rw [HM0.out.1, HM0.out.2]
    have q3 := HS.out.2.2.2
    exact implAdd_any l bc bt ac cc a p k n s tl ta tc wc h hn HS.out.1 (fun x hx => by have h1 := nt_mem hx; unfold ntX at h1; omega) h2 hn2 (by have h9 := q3.2; unfold ntX at h9; have h8 := q3.1; unfold ntX at h8; dsimp only at h8 h9; omega)
  have HTO : Hid (∀ wc, Below wb.heap.size wb wc → Calls Try.prog 7 #[.slice ao l.length cap] wc fun e w' => (∃ (g : Nat) (bs : List Nat), e = .returned (.slice (some ⟨g, 0, none⟩) l.length l.length) ∧ GL eltS w' l bs (some ⟨g, 0, none⟩) ∧ bs.Nodup ∧ ∀ b ∈ bs, wc.heap.size ≤ b) ∧ Below wc.heap.size wc w') := fun wc hb => toTimerS_any l ao cap wc (HR.out.below hb) HS.out.1 HS.out.2.1
  have HTX : Hid (∀ wc, Below wb.heap.size wb wc → Calls Try.prog 8 #[sdV a p k n s xo tl.length xcap] wc fun e w' => ∃ ta tc bs, e = .returned (sdV a p k n s ta tl.length tc) ∧ OsV w' bs (.mk k n s tl) (.agg #[.int .i64 k, .int .i64 n, .string s, .slice ta tl.length tc]) ∧ bs.Nodup ∧ (∀ b ∈ bs, wc.heap.size ≤ b) ∧ Below wc.heap.size wc w') := fun wc hb => toTimer_any a p k n s tl xo xcap wc (Below.repV hb HV.out) HS.out.2.2.1
  clear HR1 HR2 HRR
  go_wp2_with fail
  clear hneg2
  go_cut [6, 7] from 27 to 34 (fun v6 v7 wx => ∃ s0 e0, v6 = .slice s0 m0.length e0 ∧ v7 = .bool ok ∧ RowS wx s0 m0 ∧ Below wb.heap.size wb wx)
  case first =>
    have S0 := HQB.out w1b.drew HB1b.out.drew
    go_region_held3 (fun wc => (wc.cell? ⟨w.heap.size, 0, none⟩ = some (.int .i64 a) ∧ wc.cell? ⟨w.heap.size, 1, none⟩ = some (.int .i64 p) ∧ wc.cell? ⟨w.heap.size, 2, none⟩ = some (.int .i64 k) ∧ wc.cell? ⟨w.heap.size, 3, none⟩ = some (.int .i64 n) ∧ wc.cell? ⟨w.heap.size, 4, none⟩ = some (.string s) ∧ wc.cell? ⟨w.heap.size, 5, none⟩ = some (.slice xo tl.length xcap))) (first | (refine HQB.out _ ?_; (first | with_reducible exact HkS.out | with_reducible exact HkT.out | with_reducible exact HkX.out | with_reducible exact HB1b.out.drew))) (first
      | (go_at_call 7; refine (HTO.out w1b.drew HB1b.out.drew).mono ?_; rintro e wx ⟨⟨gx, bsx, rfl, hgx, _, _⟩, hbx⟩; have HkX : Hid (Below wb.heap.size wb wx) := belNx HB1b.out.drew hbx; have HRX : Hid (RowS wx (some ⟨gx, 0, none⟩) l) := GL.rowS hgx; clear hgx hbx)
      | (go_at_call 8; refine (HTX.out wx HkX.out).mono ?_; rintro e wy ⟨ty, cy, by_, rfl, hoy, _, _, hby⟩; have HkT : Hid (Below wb.heap.size wb wy) := belNx HkX.out hby; have HRT : Hid (RowS wy (some ⟨gx, 0, none⟩) l ∧ RepV 0 wy (.mk k n s tl) (.agg #[.int .i64 k, .int .i64 n, .string s, .slice ty tl.length cy])) := ⟨HRX.out.below hby, OsV.rep hoy⟩; clear hoy hby)
      | (go_at_call 6; refine (HSP.out wy _ _ _ _ HRT.out.1 HRT.out.2).mono ?_; rintro e ws ⟨⟨s0, e0, rfl, hs0⟩, hbs⟩; have HkS : Hid (Below wb.heap.size wb ws) := belNx HkT.out hbs; have HSS : Hid (RowS ws s0 m0) := hs0; clear hs0 hbs))
    all_goals
      go_wp2_with fail
      go_meet
      case rel => exact ⟨_, _, rfl, rfl, HSS.out, HkS.out⟩
  case rest =>
  obtain ⟨s0, e0, rfl, rfl, hs2, hb2⟩ := hcut
  obtain ⟨w2, hw2⟩ : ∃ w2, w2 = wc := ⟨_, rfl⟩
  obtain rfl := hw2
  have HB2 : Hid (Below wb.heap.size wb w2) := hb2
  have HS2 : Hid (RowS w2 s0 m0) := hs2
  clear hb2 hs2 HB1b
  go_wp2_with (go_at_call 7; fail)
  refine (HTO.out w2 HB2.out).mono ?_
  rintro e w3 ⟨⟨g3, bs3, rfl, hg3, hn3, hl3⟩, hb3⟩
  have H3 : Hid (GL eltS w3 l bs3 (some ⟨g3, 0, none⟩) ∧ bs3.Nodup ∧ (∀ b ∈ bs3, w2.heap.size ≤ b) ∧ Below w2.heap.size w2 w3) := ⟨hg3, hn3, hl3, hb3⟩
  have HB3 : Hid (Below wb.heap.size wb w3) := belNx HB2.out hb3
  clear hg3 hn3 hl3 hb3
  obtain ⟨d0, d1, d2, d3, d4, d5⟩ := HQB.out w3 HB3.out
  go_wp2_with (go_at_call 8; fail)
  refine (HTX.out w3 HB3.out).mono ?_
  rintro e w4 ⟨ta, tc, bt, rfl, ho4, hn4, hl4, hb4⟩
  obtain ⟨w5, hw5⟩ : ∃ w5, w5 = w4.alloc (.cells #[.int .i64 a, .int .i64 p, .int .i64 k, .int .i64 n, .string s, .slice ta tl.length tc] 38) := ⟨_, rfl⟩
  obtain ⟨V5, hV5⟩ : ∃ V5, V5 = w4.heap.size := ⟨_, rfl⟩
  have hb5 : Below w4.heap.size w4 w5 := by rw [hw5]; exact (Below.refl _ _).alloc (Nat.le_refl _) _
  have HT5 : Hid (Tx w5 V5 a p k n s tl ta tc bt) := ⟨fun o => by rw [hw5, hV5, World.cell?_alloc_new], by rw [hw5, hV5, World.size_alloc]; omega, osV_keep ho4 (fun b _ h => hb5.block b h)⟩
  have H5 : Hid (Below w2.heap.size w2 w5 ∧ GL eltS w5 l bs3 (some ⟨g3, 0, none⟩) ∧ bt.Nodup ∧ (∀ b ∈ bt, w3.heap.size ≤ b ∧ b < V5) ∧ w3.heap.size ≤ V5 ∧ V5 < w5.heap.size) := by
    have hb45 := belNx hb4 hb5
    refine ⟨belNx H3.out.2.2.2 hb45, H3.out.1.below hb45, hn4, fun b hb => ⟨hl4 b hb, by rw [hV5]; exact osV_lt ho4 b hb⟩, by rw [hV5]; exact hb4.size, HT5.out.lt⟩
  have HW5 : Hid (w5 = w4.alloc (.cells #[.int .i64 a, .int .i64 p, .int .i64 k, .int .i64 n, .string s, .slice ta tl.length tc] 38)) := hw5
  have q5 := HT5.out.q
  clear ho4 hn4 hl4 hb4 hb5 d0 d1 d2 d3 d4 d5 hw5
  go_wp2_with (go_at_call 9; fail)
  rw [← HW5.out, ← hV5]
  clear q5 hV5 HW5
  refine (HIM.out w5 _ _ bs3 _ _ bt H5.out.2.1 H3.out.2.1 HT5.out.x H5.out.2.2.1).mono ?_
  rintro e w6 ⟨⟨g0, c0, b0, rfl, hi0, hin, hil⟩, hb6⟩
  have HDJ : Hid ((∀ b ∈ bt, w2.heap.size ≤ b) ∧ (∀ b ∈ bs3 ++ (b0 ++ []), b ∉ bt) ∧ V5 ∉ bs3 ∧ (∀ b ∈ bt, b ∉ bs3) ∧ bt.Nodup) := by
    have z1 := H3.out.2.2.2.size
    have z2 := H5.out.2.2.2
    have z3 := H3.out.1.lt
    refine ⟨fun b hb => ?_, fun b hb hm => ?_, fun hm => ?_, fun b hb hm => ?_, H5.out.2.2.1⟩
    · have := (z2.1 b hb).1; omega
    · have h1 := z2.1 b hm
      rcases List.mem_append.1 hb with hb | hb
      · have := z3 b hb; omega
      · rw [List.append_nil] at hb; have := hil b hb; omega
    · have := z3 V5 hm; omega
    · have := z3 b hm; have := (z2.1 b hb).1; omega
  have HA6 : Hid (Ax w2 w6 l (some ⟨g3, 0, none⟩) bs3 m0 [] g0 none b0 []) := by
    refine ⟨belNx H5.out.1 hb6, H5.out.2.1.below hb6, hi0, GL.nil _ _, fun b hb => ?_, List.nodup_append.2 ⟨H3.out.2.1, by rw [List.append_nil]; exact hin, fun x hx y hy q => ?_⟩⟩
    · have z0 := H5.out.1.size
      rcases List.mem_append.1 hb with hb | hb
      · exact H3.out.2.2.1 b hb
      · rw [List.append_nil] at hb; have := hil b hb; omega
    · rw [List.append_nil] at hy
      have k1 := H5.out.2.1.lt x hx
      have k2 := hil y hy
      omega
  have HT6 : Hid (Tx w6 V5 a p k n s tl ta tc bt) := HT5.out.call hb6
  clear hi0 hin hil hb6 H3 H5 HT5 HB3
  have HEQ : Hid (∀ wr lx ga ca, Ax w2 wr lx (some ⟨g3, 0, none⟩) bs3 m0 [] g0 none b0 [] → ga = g0 → Calls Try.prog 10 #[.slice ga m0.length ca, .slice s0 m0.length e0] wr fun e w' => e = .returned (.bool true) ∧ Below wr.heap.size wr w') := fun wr lx ga ca h e => by
    subst e
    exact eqTimerS_same m0 _ _ _ _ wr (GL.rowS h.im0) (RowS.below HS2.out h.below) HLM.out
  go_wp2_with (go_at_call 10; fail)
  refine (HEQ.out w6 _ _ _ HA6.out rfl).mono ?_
  rintro e w7 ⟨rfl, hbq⟩
  have HA7 : Hid (Ax w2 w7 l (some ⟨g3, 0, none⟩) bs3 m0 [] g0 none b0 []) := HA6.out.call hbq
  have HT7 : Hid (Tx w7 V5 a p k n s tl ta tc bt) := HT6.out.call hbq
  clear hbq HA6 HT6
  go_wp2_with (go_at_call 7; fail)
  refine (HTO.out w7 (belNx HB2.out HA7.out.below)).mono ?_
  rintro e w8 ⟨⟨g8, bs8, rfl, hg8, _, _⟩, hb8⟩
  have HA8 : Hid (Ax w2 w8 l (some ⟨g3, 0, none⟩) bs3 m0 [] g0 none b0 []) := HA7.out.call hb8
  have HT8 : Hid (Tx w8 V5 a p k n s tl ta tc bt) := HT7.out.call hb8
  have HG8 : Hid (RowS w8 (some ⟨g8, 0, none⟩) l) := GL.rowS hg8
  clear hb8 hg8 HA7 HT7
  go_wp2_with (go_at_call 10; fail)
  refine (eqTimerS_same l _ _ _ _ w8 (GL.rowS HA8.out.x) HG8.out HL.out).mono ?_
  rintro e w9 ⟨rfl, hb9⟩
  have HA9 : Hid (Ax w2 w9 l (some ⟨g3, 0, none⟩) bs3 m0 [] g0 none b0 []) := HA8.out.call hb9
  have HT9 : Hid (Tx w9 V5 a p k n s tl ta tc bt) := HT8.out.call hb9
  clear hb9 HA8 HG8 HT8
  have HQ9 : Hid (∀ wc, Below w9.heap.size w9 wc → (wc.cell? ⟨w.heap.size, 0, none⟩ = some (.int .i64 a) ∧ wc.cell? ⟨w.heap.size, 1, none⟩ = some (.int .i64 p) ∧ wc.cell? ⟨w.heap.size, 2, none⟩ = some (.int .i64 k) ∧ wc.cell? ⟨w.heap.size, 3, none⟩ = some (.int .i64 n) ∧ wc.cell? ⟨w.heap.size, 4, none⟩ = some (.string s) ∧ wc.cell? ⟨w.heap.size, 5, none⟩ = some (.slice xo tl.length xcap)) ∧ (wc.cell? ⟨V5, 0, none⟩ = some (.int .i64 a) ∧ wc.cell? ⟨V5, 1, none⟩ = some (.int .i64 p) ∧ wc.cell? ⟨V5, 2, none⟩ = some (.int .i64 k) ∧ wc.cell? ⟨V5, 3, none⟩ = some (.int .i64 n) ∧ wc.cell? ⟨V5, 4, none⟩ = some (.string s) ∧ wc.cell? ⟨V5, 5, none⟩ = some (.slice ta tl.length tc))) := fun wc hb => by
    have h := (HT9.out.call hb).q
    exact ⟨HQB.out wc (belNx (belNx HB2.out HA9.out.below) hb), h 0, h 1, h 2, h 3, h 4, h 5⟩
  go_wp2_with fail
  go_cut [63] from 59 to 62 (fun v wx => v = .bool false ∧ Below w9.heap.size w9 wx)
  case first =>
    have S0 := HQ9.out w9.drew (Below.refl _ _).drew
    go_region_held3 (fun wc => (wc.cell? ⟨w.heap.size, 0, none⟩ = some (.int .i64 a) ∧ wc.cell? ⟨w.heap.size, 1, none⟩ = some (.int .i64 p) ∧ wc.cell? ⟨w.heap.size, 2, none⟩ = some (.int .i64 k) ∧ wc.cell? ⟨w.heap.size, 3, none⟩ = some (.int .i64 n) ∧ wc.cell? ⟨w.heap.size, 4, none⟩ = some (.string s) ∧ wc.cell? ⟨w.heap.size, 5, none⟩ = some (.slice xo tl.length xcap)) ∧ (wc.cell? ⟨V5, 0, none⟩ = some (.int .i64 a) ∧ wc.cell? ⟨V5, 1, none⟩ = some (.int .i64 p) ∧ wc.cell? ⟨V5, 2, none⟩ = some (.int .i64 k) ∧ wc.cell? ⟨V5, 3, none⟩ = some (.int .i64 n) ∧ wc.cell? ⟨V5, 4, none⟩ = some (.string s) ∧ wc.cell? ⟨V5, 5, none⟩ = some (.slice ta tl.length tc))) (first | (refine HQ9.out _ ?_; (first | with_reducible exact HkU.out | with_reducible exact HkT.out | with_reducible exact (Below.refl _ _).drew))) (first
      | (go_at_call 8; refine (HTX.out w9.drew (belNx HB2.out HA9.out.below).drew).mono ?_; rintro e wT ⟨xt, ct, bq, rfl, hvt, _, _, hbt⟩; have HkT : Hid (Below w9.heap.size w9 wT) := belNx (Below.refl _ _).drew hbt; have HVT : Hid (RepV 0 wT (.mk k n s tl) (.agg #[.int .i64 k, .int .i64 n, .string s, .slice xt tl.length ct])) := hvt.rep; clear hbt hvt)
      | (go_at_call 11; refine (eqTimer_same a p (.mk k n s tl) k n s _ _ _ _ _ _ k n s wT (HT9.out.call HkT.out).x.rep HVT.out).mono ?_; rintro e wU ⟨rfl, hbu⟩; have HkU : Hid (Below w9.heap.size w9 wU) := belNx HkT.out hbu; clear hbu))
    all_goals
      go_wp2_with fail
      go_meet
      case rel => exact ⟨rfl, HkU.out⟩
  case rest =>
  obtain ⟨rfl, hb10⟩ := hcut
  obtain ⟨w10, hw10⟩ : ∃ w10, w10 = wc := ⟨_, rfl⟩
  obtain rfl := hw10
  have HA10 : Hid (Ax w2 w10 l (some ⟨g3, 0, none⟩) bs3 m0 [] g0 none b0 []) := HA9.out.call hb10
  have HT10 : Hid (Tx w10 V5 a p k n s tl ta tc bt) := HT9.out.call hb10
  clear hb10 HA9 HT9 HQ9
  go_wp2_with (go_at_call 12; fail)
  refine (markTimerS_any l bs3 _ _ 1 w10 HA10.out.x (List.nodup_append.1 HA10.out.nd).1 HL.out (Nat.le_refl _) (by have := HK.out.1; omega)).mono ?_
  rintro e w11 ⟨rfl, hg11, ho11⟩
  have HA11 : Hid (Ax w2 w11 (mrG mrS cS l 1) (some ⟨g3, 0, none⟩) bs3 m0 [] g0 none b0 []) := HA10.out.markX hg11 ho11
  have HT11 : Hid (Tx w11 V5 a p k n s tl ta tc bt) := HT10.out.out ho11 HDJ.out.2.2.1 HDJ.out.2.2.2.1
  clear hg11 ho11 HA10 HT10
  obtain ⟨KX, hKX⟩ : ∃ KX : Nat, KX = 1 + cG cS l := ⟨_, rfl⟩
  have HKX : Hid (KX = 1 + cG cS l) := hKX
  rw [← hKX]
  clear hKX
  have q11 := HT11.out.q
  have HMT : Hid (Calls Try.prog 13 #[sdV a p k n s ta tl.length tc, .int .i64 (KX : Int)] w11 fun e w' => e = .returned (.int .i64 ((KX + cL tl : Nat) : Int)) ∧ OutB bt w11 w') := by
    have h := HT11.out.list
    exact markTimer_any a p k n s tl ta tc bt KX w11 h.1 HDJ.out.2.2.2.2 h.2.1 h.2.2 (by rw [HKX.out]; omega) (by rw [HKX.out]; exact HK.out.1)
  go_wp2_with (go_at_call 13; fail)
  refine HMT.out.mono ?_
  rintro e w12 ⟨rfl, ho12⟩
  have HA12 : Hid (Ax w2 w12 (mrG mrS cS l 1) (some ⟨g3, 0, none⟩) bs3 m0 [] g0 none b0 []) := HA11.out.out ho12 HDJ.out.1 HDJ.out.2.1
  clear ho12 HA11 HT11 q11 HMT
  obtain ⟨KY, hKY⟩ : ∃ KY : Nat, KY = KX + cL tl := ⟨_, rfl⟩
  rw [← hKY]
  clear hKY
  go_wp2_with (go_at_call 10; fail)
  refine (HEQ.out w12 _ _ _ HA12.out rfl).mono ?_
  rintro e w13 ⟨rfl, hbq⟩
  have HA13 : Hid (Ax w2 w13 (mrG mrS cS l 1) (some ⟨g3, 0, none⟩) bs3 m0 [] g0 none b0 []) := HA12.out.call hbq
  clear hbq HA12
  have HND0 : Hid (b0.Nodup) := by
    have h := List.nodup_append.1 (List.nodup_append.1 HA13.out.nd).2.1
    exact h.1
  obtain ⟨K0, hK0⟩ : ∃ K0 : Nat, K0 = 1 + cG cS m0 := ⟨_, rfl⟩
  have HK0 : Hid (K0 = 1 + cG cS m0) := hK0
  go_wp2_with (go_at_call 12; fail)
  refine (markTimerS_any m0 b0 _ _ 1 w13 HA13.out.im0 HND0.out HLM.out (Nat.le_refl _) HK.out.2).mono ?_
  rintro e w14 ⟨rfl, hg14, ho14⟩
  have HA14 : Hid (Ax w2 w14 (mrG mrS cS l 1) (some ⟨g3, 0, none⟩) bs3 (mrG mrS cS m0 1) [] g0 none b0 []) := HA13.out.mark0 hg14 ho14
  clear hg14 ho14 HA13
  rw [← hK0]
  clear hK0
  have HHE : Hid (∀ wr ca, Ax w2 wr (mrG mrS cS l 1) (some ⟨g3, 0, none⟩) bs3 (mrG mrS cS m0 1) [] g0 none b0 [] → Calls Try.prog 14 #[.slice g0 m0.length ca, .int .i64 ((1 : Nat) : Int)] wr fun e w' => e = .returned (.int .i64 (K0 : Int)) ∧ Below wr.heap.size wr w') := fun wr ca h => by
    rw [HK0.out]; exact heldTimerS_any m0 _ _ 1 wr (GL.rowS h.im0) HLM.out (Nat.le_refl _) HK.out.2
  go_wp2_with (go_at_call 14; fail)
  refine (HHE.out w14 _ HA14.out).mono ?_
  rintro e w15 ⟨rfl, hbq⟩
  have HA15 : Hid (Ax w2 w15 (mrG mrS cS l 1) (some ⟨g3, 0, none⟩) bs3 (mrG mrS cS m0 1) [] g0 none b0 []) := HA14.out.call hbq
  have HB15 : Hid (Below wb.heap.size wb w15) := belNx HB2.out HA15.out.below
  clear hbq HA14
  have HQC : Hid (∀ wc, Below w15.heap.size w15 wc → (wc.cell? ⟨w.heap.size, 0, none⟩ = some (.int .i64 a) ∧ wc.cell? ⟨w.heap.size, 1, none⟩ = some (.int .i64 p) ∧ wc.cell? ⟨w.heap.size, 2, none⟩ = some (.int .i64 k) ∧ wc.cell? ⟨w.heap.size, 3, none⟩ = some (.int .i64 n) ∧ wc.cell? ⟨w.heap.size, 4, none⟩ = some (.string s) ∧ wc.cell? ⟨w.heap.size, 5, none⟩ = some (.slice xo tl.length xcap))) := fun wc hb => HQB.out wc (belNx HB15.out hb)
  go_wp2_with fail
  go_cut [15, 16] from 94 to 101 (fun v6 v7 wx => ∃ p0 q0, v6 = .slice p0 m0.length q0 ∧ v7 = .bool ok ∧ RowS wx p0 m0 ∧ Below w15.heap.size w15 wx)
  case first =>
    have S0 := HQC.out w15.drew (Below.refl _ _).drew
    go_region_held3 (fun wc => (wc.cell? ⟨w.heap.size, 0, none⟩ = some (.int .i64 a) ∧ wc.cell? ⟨w.heap.size, 1, none⟩ = some (.int .i64 p) ∧ wc.cell? ⟨w.heap.size, 2, none⟩ = some (.int .i64 k) ∧ wc.cell? ⟨w.heap.size, 3, none⟩ = some (.int .i64 n) ∧ wc.cell? ⟨w.heap.size, 4, none⟩ = some (.string s) ∧ wc.cell? ⟨w.heap.size, 5, none⟩ = some (.slice xo tl.length xcap))) (first | (refine HQC.out _ ?_; (first | with_reducible exact HkS.out | with_reducible exact HkT.out | with_reducible exact HkX.out | with_reducible exact (Below.refl _ _).drew))) (first
      | (go_at_call 7; refine (HTO.out w15.drew HB15.out.drew).mono ?_; rintro e wx ⟨⟨gx, bsx, rfl, hgx, hgn, _⟩, hbx⟩; have HkX : Hid (Below w15.heap.size w15 wx) := belNx (Below.refl _ _).drew hbx; have HRX : Hid (GL eltS wx l bsx (some ⟨gx, 0, none⟩) ∧ bsx.Nodup) := ⟨hgx, hgn⟩; clear hgx hgn hbx)
      | (go_at_call 8; refine (HTX.out wx (belNx HB15.out HkX.out)).mono ?_; rintro e wy ⟨ty, cy, by_, rfl, hoy, hny, _, hby⟩; have HkT : Hid (Below w15.heap.size w15 wy) := belNx HkX.out hby; have HRT : Hid (GL eltS wy l bsx (some ⟨gx, 0, none⟩) ∧ OsV wy by_ (.mk k n s tl) (.agg #[.int .i64 k, .int .i64 n, .string s, .slice ty tl.length cy]) ∧ by_.Nodup) := ⟨HRX.out.1.below hby, hoy, hny⟩; clear hoy hby hny)
      | (go_at_call 9; refine (HIM.out wy _ _ bsx _ _ by_ HRT.out.1 HRX.out.2 HRT.out.2.1 HRT.out.2.2).mono ?_; rintro e ws ⟨⟨p0, q0, pe0, rfl, hs0, _, _⟩, hbs⟩; have HkS : Hid (Below w15.heap.size w15 ws) := belNx HkT.out hbs; have HSS : Hid (RowS ws p0 m0) := GL.rowS hs0; clear hs0 hbs))
    all_goals
      go_wp2_with fail
      go_meet
      case rel => exact ⟨_, _, rfl, rfl, HSS.out, HkS.out⟩
  case rest =>
  obtain ⟨p0, q0, rfl, rfl, hs16, hb16⟩ := hcut
  obtain ⟨w16, hw16⟩ : ∃ w16, w16 = wc := ⟨_, rfl⟩
  obtain rfl := hw16
  have HA16 : Hid (Ax w2 w16 (mrG mrS cS l 1) (some ⟨g3, 0, none⟩) bs3 (mrG mrS cS m0 1) [] g0 none b0 [] ∧ RowS w16 p0 m0) := ⟨HA15.out.call hb16, hs16⟩
  clear hs16 hb16 HA15 HQC HB15
  go_wp2_with (go_at_call 10; fail)
  refine (eqTimerS_same m0 _ _ _ _ w16 HA16.out.2 (RowS.below HS2.out HA16.out.1.below) HLM.out).mono ?_
  rintro e w17 ⟨rfl, hbq⟩
  have HA17 : Hid (Ax w2 w17 (mrG mrS cS l 1) (some ⟨g3, 0, none⟩) bs3 (mrG mrS cS m0 1) [] g0 none b0 []) := HA16.out.1.call hbq
  clear hbq HA16
  go_wp2_with (go_at_call 14; fail)
  refine (HHE.out w17 _ HA17.out).mono ?_
  rintro e w18 ⟨rfl, hbq⟩
  have HA18 : Hid (Ax w2 w18 (mrG mrS cS l 1) (some ⟨g3, 0, none⟩) bs3 (mrG mrS cS m0 1) [] g0 none b0 []) := HA17.out.call hbq
  clear hbq HA17
  go_wp2_with fail
  go_ret
  exact ⟨rfl, belNx HBB.out (belNx HB2.out HA18.out.below)⟩
end Go.Proofs.Ytnpbmfcilcnilaa.Tr
namespace Go.Proofs.Ytnpbmfcilcnilaa
open Go.RowKit Go.ChangeShapes Go.WideShapes Go.Deep

theorem cellsTm : Try.prog.cellsOf 25 = 4 := by kernel_rfl
theorem cellsTms : Try.prog.cellsOf 23 = 1 := by kernel_rfl
theorem cellsStr : Try.prog.cellsOf 9 = 1 := by kernel_rfl
theorem cellsInt : Try.prog.cellsOf 3 = 1 := by kernel_rfl

/-- Four cells that are a term, the term told. -/
theorem repT_of {w : World} {t : Tm} {b off : Nat} {k n : Int} {s : ByteArray} {ao : Option Addr} {len cap : Nat}
    (h0 : w.cell? ⟨b, off, none⟩ = some (.int .i64 k)) (h1 : w.cell? ⟨b, off + 1, none⟩ = some (.int .i64 n)) (h2 : w.cell? ⟨b, off + 2, none⟩ = some (.string s)) (h3 : w.cell? ⟨b, off + 3, none⟩ = some (.slice ao len cap))
    (hv : RepV 0 w t (.agg #[.int .i64 k, .int .i64 n, .string s, .slice ao len cap])) : RepT 0 w t b off := by
  obtain ⟨k', n', s', l'⟩ := t
  obtain ⟨ao', cap', e, hs, hl, hc, hr⟩ := hv
  simp only [Value.agg.injEq, Array.mk.injEq, List.cons.injEq, and_true, Value.int.injEq, Value.string.injEq, Value.slice.injEq, true_and] at e
  obtain ⟨rfl, rfl, rfl, rfl, rfl, rfl⟩ := e
  rw [RepT]
  exact ⟨h0, h1, h2, hs, ao, cap, h3, hl, hc, hr⟩

section
variable {H : Type} {enc : TypeId × Value → H} {w : World} {base : Nat} {spare : Nat → Bool} {held : Bool}

set_option maxRecDepth 100000 in
theorem rep_of_trod (fuel : Nat) : ∀ (cs : List Value) (x : DataW H × List MemPlace), DataW.trod enc Try.prog w base spare held fuel 25 cs = some x →
    ∃ (t : Tm) (k n : Int) (s : ByteArray) (ao : Option Addr) (len cap : Nat), cs = [.int .i64 k, .int .i64 n, .string s, .slice ao len cap] ∧ RepV 0 w t (.agg #[.int .i64 k, .int .i64 n, .string s, .slice ao len cap]) := by
  induction fuel using Nat.strongRecOn with
  | ind fuel ih =>
    intro cs x h
    obtain ⟨xs, m, hfu, _, hl, hlen, hf⟩ := DataW.trod_struct Try.underlying25 h
    rw [cellsTm] at hl
    match cs, hl, xs, hlen with
    | [v0, v1, v2, v3], _, [y0, y1, y2, y3], _ =>
      have h0 : DataW.trod enc Try.prog w base spare held m 3 (([v0, v1, v2, v3].drop 0).take (Try.prog.cellsOf 3)) = some y0 := hf 0 _ rfl
      rw [cellsInt] at h0
      have g0 : DataW.trod enc Try.prog w base spare held m 3 [v0] = some y0 := h0
      have h1 : DataW.trod enc Try.prog w base spare held m 3 (([v0, v1, v2, v3].drop 1).take (Try.prog.cellsOf 3)) = some y1 := hf 1 _ rfl
      rw [cellsInt] at h1
      have g1 : DataW.trod enc Try.prog w base spare held m 3 [v1] = some y1 := h1
      have h2 : DataW.trod enc Try.prog w base spare held m 9 (([v0, v1, v2, v3].drop 2).take (Try.prog.cellsOf 9)) = some y2 := hf 2 _ rfl
      rw [cellsStr] at h2
      have g2 : DataW.trod enc Try.prog w base spare held m 9 [v2] = some y2 := h2
      have h3 : DataW.trod enc Try.prog w base spare held m 23 (([v0, v1, v2, v3].drop 3).take (Try.prog.cellsOf 23)) = some y3 := hf 3 _ rfl
      rw [cellsTms] at h3
      have g3 : DataW.trod enc Try.prog w base spare held m 23 [v3] = some y3 := h3
      obtain ⟨k, e0, _, _⟩ := DataW.trod_int Try.underlying3 g0
      obtain ⟨n, e1, _, _⟩ := DataW.trod_int Try.underlying3 g1
      obtain ⟨s, e2, _, hs⟩ := DataW.trod_string Try.underlying9 g2
      simp only [List.cons.injEq, and_true] at e0 e1 e2
      subst e0 e1 e2
      rcases DataW.trod_slice Try.underlying23 g3 with ⟨e3, _⟩ | ⟨a, len, cap, elems, rest, m', hm', e3, _, hb, hlc, hcm, hel, hat, _, _⟩
      · simp only [List.cons.injEq, and_true] at e3
        subst e3
        exact ⟨.mk k n s [], k, n, s, none, 0, 0, rfl, none, 0, rfl, hs, Nat.le_refl _, Nat.zero_le _, by rw [RepL]; trivial⟩
      · simp only [List.cons.injEq, and_true] at e3
        subst e3
        rw [cellsTm] at hat
        have one : ∀ i, i < len → ∃ (t : Tm), ∃ (k n : Int) (s : ByteArray) (ao : Option Addr) (ln cp : Nat), w.cells? base (a.add (i * 4)) 4 = some [.int .i64 k, .int .i64 n, .string s, .slice ao ln cp] ∧
            RepV 0 w t (.agg #[.int .i64 k, .int .i64 n, .string s, .slice ao ln cp]) := by
          intro i hi
          have ha := hat i hi
          rw [List.getElem?_eq_getElem (by omega)] at ha
          obtain ⟨cs', h1, h2⟩ := Option.bind_eq_some_iff.1 ha
          obtain ⟨t, k', n', s', ao', ln, cp, rfl, hv⟩ := ih m' (by omega) cs' _ h2
          exact ⟨t, k', n', s', ao', ln, cp, h1, hv⟩
        have hin : Inhabited Tm := ⟨.mk 0 0 ByteArray.empty []⟩
        obtain ⟨T, hT⟩ := choose_lt one
        have hll : ((List.range len).map T).length = len := by simp
        refine ⟨.mk k n s ((List.range len).map T), k, n, s, some a, len, cap, rfl, some a, cap, by rw [hll], hs, by rw [hll]; exact hlc, hcm, ?_⟩
        by_cases h0 : len = 0
        · subst h0
          show RepL 0 w [] _
          rw [RepL]; trivial
        · obtain ⟨bk, off, spot⟩ := a
          have hsp : spot = none := by
            obtain ⟨k', n', s', ao', ln, cp, hc, _⟩ := hT 0 (by omega)
            obtain ⟨_, _, hcell⟩ := World.cells?_some hc
            have := hcell 0 (by omega)
            have h' := World.cell?_spot this
            simpa [Addr.add] using h'
          subst hsp
          refine RepL.mk (Nat.zero_le _) _ off (fun i hi => ?_)
          have hi' : i < len := by simpa using hi
          obtain ⟨k', n', s', ao', ln, cp, hc, hv⟩ := hT i hi'
          obtain ⟨_, _, hcell⟩ := World.cells?_some hc
          have ad : ∀ j, ((⟨bk, off, none⟩ : Addr).add (i * 4)).add j = ⟨bk, off + i * 4 + j, none⟩ := by
            intro j
            unfold Addr.add
            by_cases h1 : i * 4 = 0 <;> by_cases h2 : j = 0 <;> simp [h1, h2]
          have c0 := hcell 0 (by omega)
          have c1 := hcell 1 (by omega)
          have c2 := hcell 2 (by omega)
          have c3 := hcell 3 (by omega)
          rw [ad] at c0 c1 c2 c3
          have e : ((List.range len).map T)[i] = T i := by simp
          rw [e]
          exact repT_of (by simpa using c0) (by simpa using c1) (by simpa using c2) (by simpa using c3) hv

set_option maxRecDepth 100000 in
theorem terms_open (fuel : Nat) (v : Value) (x : DataW H × List MemPlace) (h : DataW.trod enc Try.prog w base spare held fuel 23 [v] = some x) :
    ∃ (l : List Tm) (ao : Option Addr) (cap : Nat), v = .slice ao l.length cap ∧ RepL 0 w l ao ∧ l.length ≤ cap ∧ cap ≤ maxLen := by
  rcases DataW.trod_slice Try.underlying23 h with ⟨e3, _⟩ | ⟨a, len, cap, elems, rest, m', hm', e3, _, hb, hlc, hcm, hel, hat, _, _⟩
  · simp only [List.cons.injEq, and_true] at e3
    subst e3
    exact ⟨[], none, 0, rfl, by rw [RepL]; trivial, Nat.le_refl _, Nat.zero_le _⟩
  · simp only [List.cons.injEq, and_true] at e3
    subst e3
    rw [cellsTm] at hat
    have one : ∀ i, i < len → ∃ (t : Tm), ∃ (k n : Int) (s : ByteArray) (ao : Option Addr) (ln cp : Nat), w.cells? base (a.add (i * 4)) 4 = some [.int .i64 k, .int .i64 n, .string s, .slice ao ln cp] ∧
        RepV 0 w t (.agg #[.int .i64 k, .int .i64 n, .string s, .slice ao ln cp]) := by
      intro i hi
      have ha := hat i hi
      rw [List.getElem?_eq_getElem (by omega)] at ha
      obtain ⟨cs', h1, h2⟩ := Option.bind_eq_some_iff.1 ha
      obtain ⟨t, k', n', s', ao', ln, cp, rfl, hv⟩ := rep_of_trod m' cs' _ h2
      exact ⟨t, k', n', s', ao', ln, cp, h1, hv⟩
    have hin : Inhabited Tm := ⟨.mk 0 0 ByteArray.empty []⟩
    obtain ⟨T, hT⟩ := choose_lt one
    have hll : ((List.range len).map T).length = len := by simp
    refine ⟨(List.range len).map T, some a, cap, by rw [hll], ?_, by rw [hll]; exact hlc, hcm⟩
    by_cases h0 : len = 0
    · subst h0
      show RepL 0 w [] _
      rw [RepL]; trivial
    · obtain ⟨bk, off, spot⟩ := a
      have hsp : spot = none := by
        obtain ⟨k', n', s', ao', ln, cp, hc, _⟩ := hT 0 (by omega)
        obtain ⟨_, _, hcell⟩ := World.cells?_some hc
        have := hcell 0 (by omega)
        have h' := World.cell?_spot this
        simpa [Addr.add] using h'
      subst hsp
      refine RepL.mk (Nat.zero_le _) _ off (fun i hi => ?_)
      have hi' : i < len := by simpa using hi
      obtain ⟨k', n', s', ao', ln, cp, hc, hv⟩ := hT i hi'
      obtain ⟨_, _, hcell⟩ := World.cells?_some hc
      have ad : ∀ j, ((⟨bk, off, none⟩ : Addr).add (i * 4)).add j = ⟨bk, off + i * 4 + j, none⟩ := by
        intro j
        unfold Addr.add
        by_cases h1 : i * 4 = 0 <;> by_cases h2 : j = 0 <;> simp [h1, h2]
      have c0 := hcell 0 (by omega)
      have c1 := hcell 1 (by omega)
      have c2 := hcell 2 (by omega)
      have c3 := hcell 3 (by omega)
      rw [ad] at c0 c1 c2 c3
      have e : ((List.range len).map T)[i] = T i := by simp
      rw [e]
      exact repT_of (by simpa using c0) (by simpa using c1) (by simpa using c2) (by simpa using c3) hv
end
end Go.Proofs.Ytnpbmfcilcnilaa
namespace Go.Proofs.Ytnpbmfcilcnilaa.Tr
open Go.ChangeShapes Go.WideShapes Go.ChangeAt Go.RowKit
set_option linter.unusedVariables false

theorem cellsTimer11 : Try.prog.cellsOf 27 = 6 := by kernel_rfl
theorem choose_below {α : Type} [Inhabited α] {n : Nat} {p : Nat → α → Prop} (h : ∀ i, i < n → ∃ a, p i a) : ∃ f : Nat → α, ∀ i, i < n → p i (f i) := by
  classical
  exact ⟨fun i => if hi : i < n then (h i hi).choose else default, fun i hi => by simp only [dif_pos hi]; exact (h i hi).choose_spec⟩
section
variable {H : Type} {enc : TypeId × Value → H} {w : World} {base : Nat} {sp : Nat → Bool} {held : Bool}
set_option maxRecDepth 100000 in
theorem timer_of_trod {fuel : Nat} {l : List Value} {x : DataW H × List MemPlace} (h : DataW.trod enc Try.prog w base sp held fuel 27 l = some x) :
    ∃ (y : Sd) (k n : Int) (s : ByteArray) (ao : Option Addr) (len cap : Nat), l = [.int .i64 y.kind, .int .i64 y.pid, .int .i64 k, .int .i64 n, .string s, .slice ao len cap] ∧ RepV 0 w y.t (.agg #[.int .i64 k, .int .i64 n, .string s, .slice ao len cap]) := by
  obtain ⟨xs, n, _, _, hl, hlen, hf⟩ := DataW.trod_struct Try.underlying27 h
  rw [cellsTimer11] at hl
  match l, hl, xs, hlen with
  | [v0, v1, v2, v3, v4, v5], _, [y0, y1, y2], _ =>
    have k0 : DataW.trod enc Try.prog w base sp held n 3 ((([v0, v1, v2, v3, v4, v5] : List Value).drop 0).take (Try.prog.cellsOf 3)) = some y0 := hf 0 _ rfl
    have k1 : DataW.trod enc Try.prog w base sp held n 3 ((([v0, v1, v2, v3, v4, v5] : List Value).drop 1).take (Try.prog.cellsOf 3)) = some y1 := hf 1 _ rfl
    have k2 : DataW.trod enc Try.prog w base sp held n 25 ((([v0, v1, v2, v3, v4, v5] : List Value).drop 2).take (Try.prog.cellsOf 25)) = some y2 := hf 2 _ rfl
    rw [cellsInt] at k0 k1
    rw [cellsTm] at k2
    have g0 : DataW.trod enc Try.prog w base sp held n 3 [v0] = some y0 := k0
    have g1 : DataW.trod enc Try.prog w base sp held n 3 [v1] = some y1 := k1
    have g2 : DataW.trod enc Try.prog w base sp held n 25 [v2, v3, v4, v5] = some y2 := k2
    obtain ⟨kind, e0, _, _⟩ := DataW.trod_int Try.underlying3 g0
    obtain ⟨pid, e1, _, _⟩ := DataW.trod_int Try.underlying3 g1
    obtain ⟨t, tk, tn, ts, tao, tlen, tcap, e2, hv⟩ := rep_of_trod n _ _ g2
    simp only [List.cons.injEq, and_true] at e0 e1 e2
    obtain ⟨rfl, rfl, rfl, rfl⟩ := e2
    subst e0 e1
    exact ⟨⟨kind, pid, t⟩, tk, tn, ts, tao, tlen, tcap, rfl, hv⟩
theorem ad_at (bk off i : Nat) (s j : Nat) : ((⟨bk, off, none⟩ : Addr).add (i * s)).add j = ⟨bk, off + i * s + j, none⟩ := by
  unfold Addr.add
  by_cases h1 : i * s = 0 <;> by_cases h2 : j = 0 <;> simp [h1, h2]
set_option maxRecDepth 100000 in
theorem open_timerS (fuel : Nat) (v : Value) (x : DataW H × List MemPlace) (h : DataW.trod enc Try.prog w base sp held fuel 22 [v] = some x) :
    ∃ (l : List Sd) (ao : Option Addr) (cap : Nat), v = .slice ao l.length cap ∧ RowS w ao l ∧ l.length ≤ maxLen := by
  rcases DataW.trod_slice Try.underlying22 h with ⟨e3, _⟩ | ⟨a, len, cap, elems, rest, m', hm', e3, _, hb, hlc, hcm, hel, hat, _, _⟩
  · simp only [List.cons.injEq, and_true] at e3
    subst e3
    exact ⟨[], none, 0, rfl, .inl rfl, Nat.zero_le _⟩
  · simp only [List.cons.injEq, and_true] at e3
    subst e3
    rw [cellsTimer11] at hat
    have one : ∀ i, i < len → ∃ y : Sd, ∃ (k n : Int) (s : ByteArray) (ao : Option Addr) (ln cp : Nat), w.cells? base (a.add (i * 6)) 6 = some [.int .i64 y.kind, .int .i64 y.pid, .int .i64 k, .int .i64 n, .string s, .slice ao ln cp] ∧ RepV 0 w y.t (.agg #[.int .i64 k, .int .i64 n, .string s, .slice ao ln cp]) := by
      intro i hi
      have ha := hat i hi
      rw [List.getElem?_eq_getElem (by omega)] at ha
      obtain ⟨cs', h1, h2⟩ := Option.bind_eq_some_iff.1 ha
      obtain ⟨y, k, n, s, ao, ln, cp, rfl, hr⟩ := timer_of_trod h2
      exact ⟨y, k, n, s, ao, ln, cp, h1, hr⟩
    haveI : Inhabited Sd := ⟨⟨0, 0, .mk 0 0 ByteArray.empty []⟩⟩
    obtain ⟨T, hT⟩ := choose_below one
    have hll : ((List.range len).map T).length = len := by simp
    have hget : ∀ j (hj : j < ((List.range len).map T).length), ((List.range len).map T)[j] = T j := fun j hj => by simp
    refine ⟨(List.range len).map T, some a, cap, by rw [hll], ?_, by rw [hll]; omega⟩
    by_cases h0 : len = 0
    · subst h0; exact .inl rfl
    · obtain ⟨bk, off, spot⟩ := a
      have hsp : spot = none := by
        obtain ⟨k, n, s, ao, ln, cp, hc, _⟩ := hT 0 (by omega)
        obtain ⟨_, _, hcell⟩ := World.cells?_some hc
        have h' := World.cell?_spot (hcell 0 (by omega))
        simpa [Addr.add] using h'
      subst hsp
      refine .inr ⟨bk, off, rfl, fun j hj => ?_⟩
      rw [hget j hj]
      obtain ⟨k, n, s, ao, ln, cp, hc, hr⟩ := hT j (by rw [hll] at hj; exact hj)
      obtain ⟨_, _, hcell⟩ := World.cells?_some hc
      have k0 := hcell 0 (by omega)
      have k1 := hcell 1 (by omega)
      have k2 := hcell 2 (by omega)
      have k3 := hcell 3 (by omega)
      have k4 := hcell 4 (by omega)
      have k5 := hcell 5 (by omega)
      rw [ad_at] at k0 k1 k2 k3 k4 k5
      exact ⟨by simpa using k0, by simpa using k1, repT_of (by simpa using k2) (by simpa using k3) (by simpa using k4) (by simpa using k5) hr⟩
end
end Go.Proofs.Ytnpbmfcilcnilaa.Tr
namespace Go.Proofs.Ytnpbmfcilcnilaa.fnExactAddTimer
open Go.RowKit Go.ChangeShapes Go.WideShapes Go.ChangeAt
set_option linter.unusedVariables false

theorem own : ownKnob Try.prog.godebug = none := by kernel_rfl
theorem laidOut : laidOutB Try.prog = true := by kernel_rfl

set_option maxRecDepth 100000 in
theorem lifted (os : Os) (started : os.Started) (H : Type) (enc : TypeId × Value → H) :
    ReturnsInHanded {} Try.checked os 3 .any (Rows.fnExactAddTimerSpec.pre6 enc Try.prog Try.f3 Rows.fnExactAddTimerRow.domain false) (Rows.fnExactAddTimerSpec.post enc Try.prog Try.f3 false true false false) := by
  refine returnsInHanded_of_change (C := Try.checked) own started (by kernel_rfl) Try.func3
    (ChangeSpec.witness6 (enc := enc) (C := Try.checked) false ⟨#[], #[.slice none 0 0, .agg #[.int .i64 0, .int .i64 0, .int .i64 0, .int .i64 0, .string ByteArray.empty, .slice none 0 0]], []⟩ 8 (by kernel_rfl) (by kernel_rfl) (by kernel_rfl) (by kernel_rfl)) ?_
  intro W base args ds gs before hval0 hW hcnd _
  have hval : ∀ (j : Nat) t v, Try.f3.params[j]? = some t → args[j]? = some v → Value.okWide Try.prog W .any base t v := hval0
  have hW' := hW
  obtain ⟨p, q, hA0, hV, rfl, hfz, hnd⟩ := hW
  have hA : DataW.TrodAll enc Try.prog W 0 (fun _ => true) true Try.f3.params.toList args.toList ds p := hA0
  rw [Try.params3] at hA hval
  obtain ⟨v0, vs0, d0, ds0, p0, q0, hargs, rfl, rfl, h0, r0⟩ := trodAll_cons hA
  obtain ⟨v1, vs1, d1, ds1, p1, q1, rfl, rfl, rfl, h1, r1⟩ := trodAll_cons r0
  obtain ⟨rfl, rfl, rfl⟩ := trodAll_nil r1
  obtain rfl : args = #[v0, v1] := by cases args; simp_all
  obtain ⟨rfl, rfl⟩ := trodVars_none hV
  obtain ⟨ao, len, cap, rfl⟩ := okWide_slice Try.underlying22 (hval 0 22 v0 rfl rfl)
  obtain ⟨cs, rfl, hsz⟩ := okWide_struct Try.underlying27 (hval 1 27 v1 rfl rfl)
  have k1 := h1
  have lt1 : ∀ x ∈ p1, x.block < W.heap.size := by obtain ⟨m, hm⟩ := k1; exact DataW.trod_lt m _ _ _ hm
  have k0 := h0
  have lt0 : ∀ x ∈ p0, x.block < W.heap.size := by obtain ⟨m, hm⟩ := k0; exact DataW.trod_lt m _ _ _ hm
  obtain ⟨l, hL, hr, hm⟩ : ∃ l : List Tr.Sd, len = l.length ∧ Tr.RowS W ao l ∧ l.length ≤ maxLen := by
    obtain ⟨fuel, hf⟩ := h0
    obtain ⟨l, ao', cap', e, hr, hm⟩ := Tr.open_timerS fuel _ _ hf
    cases e
    exact ⟨l, rfl, hr, hm⟩
  subst hL
  obtain ⟨a, p, k, n, s, tl, xo, xcap, rfl, hv⟩ : ∃ (a p k n : Int) (s : ByteArray) (tl : List Tm) (xo : Option Addr) (xcap : Nat), cs = #[.int .i64 a, .int .i64 p, .int .i64 k, .int .i64 n, .string s, .slice xo tl.length xcap] ∧ RepV 0 W (.mk k n s tl) (.agg #[.int .i64 k, .int .i64 n, .string s, .slice xo tl.length xcap]) := by
    obtain ⟨fuel, hf⟩ := h1
    obtain ⟨y, k, n, s, xo, len, xcap, e, hv⟩ := Tr.timer_of_trod hf
    have e' : cs = #[.int .i64 y.kind, .int .i64 y.pid, .int .i64 k, .int .i64 n, .string s, .slice xo len xcap] := by
      obtain ⟨l⟩ := cs
      simpa [Value.cells] using e
    obtain ⟨kind, pid, t⟩ := y
    obtain ⟨tk, tn, ts, tl⟩ := t
    obtain ⟨ao', cap', e3, h4⟩ := hv
    simp only [Value.agg.injEq, Array.mk.injEq, List.cons.injEq, and_true, Value.slice.injEq, Value.int.injEq, Value.string.injEq, true_and] at e3
    obtain ⟨rfl, rfl, rfl, rfl, rfl, rfl⟩ := e3
    exact ⟨kind, pid, _, _, _, tl, _, _, e', _, _, rfl, h4⟩
  clear hA0 hval0
  simp only [List.append_nil] at hW'
  refine (Tr.walkAdd l ao cap a p k n s tl xo xcap W hr hm hv).mono fun e W' ⟨he, bel⟩ => ?_
  subst he
  exact ⟨_, rfl, _, _, _, [], _, [], hW', trodAll_mk1 (shut_bool Try.underlying4 _), (trodAll_cons_mk (Below.trod laidOut (by kernel_rfl) (of_decide_eq_true (by kernel_rfl)) k0 bel lt0) (trodAll_cons_mk (Below.trod laidOut (by kernel_rfl) (of_decide_eq_true (by kernel_rfl)) k1 bel lt1) trodAll_mk0)), rfl, bel.frame _, fun h => by cases h⟩

theorem over : Rows.fnExactAddTimerRow.holds Try.pinned (OpenSpec.ofChange Rows.fnExactAddTimerSpec) :=
  OpenClaim.holds_of_wide 3 Try.f3 rfl rfl rfl rfl rfl rfl rfl ⟨rfl, rfl, rfl, rfl, rfl⟩ rfl rfl rfl rfl rfl (by kernel_rfl) Try.func3 (by kernel_rfl)
    (of_decide_eq_true (by kernel_rfl)) (by unfold Func.isWrapper; first | (rw [if_pos (by decide +kernel)]; kernel_rfl) | (rw [if_neg (by decide +kernel)]; exact ⟨rfl, rfl⟩))
    (fun os started H enc _ => lifted os started H enc)
end Go.Proofs.Ytnpbmfcilcnilaa.fnExactAddTimer
namespace Go.Proofs.Ytnpbmfcilcnilaa
theorem fnExactAddTimer_holds : Rows.FnExactAddTimerSaid := fnExactAddTimer.over
#print axioms fnExactAddTimer_holds
end Go.Proofs.Ytnpbmfcilcnilaa
