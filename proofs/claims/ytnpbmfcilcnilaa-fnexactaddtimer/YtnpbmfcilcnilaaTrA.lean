/-
  Timers in memory: as they are read, as they are owned; the laws' copies of them.
-/
import Derived.Test.YtnpbmfcilcnilaaRwB
import Derived.Test.YtnpbmfcilcnilaaOtA
import Derived.Test.YtnpbmfcilcnilaaTmK
namespace Go.Proofs.Ytnpbmfcilcnilaa.Tr
open Go.RowKit Atom
set_option linter.unusedVariables false

structure Sd where
  kind : Int
  pid : Int
  t : Tm
structure BxS (w : World) (b o : Nat) (x : Sd) : Prop where
  c0 : w.cell? ⟨b, o, none⟩ = some (.int .i64 x.kind)
  c1 : w.cell? ⟨b, o + 1, none⟩ = some (.int .i64 x.pid)
  t : RepT 0 w x.t b (o + 2)
theorem repT_below {w w' : World} {t : Tm} {b o : Nat} (h : RepT 0 w t b o) (hb : Below w.heap.size w w') : RepT 0 w' t b o := by
  obtain ⟨k, n, s, l⟩ := t
  rw [RepT] at h ⊢
  obtain ⟨h0, h1, h2, hs, ao, cap, h3, hl, hc, hr⟩ := h
  exact ⟨keepOt hb h0, keepOt hb h1, keepOt hb h2, hs, ao, cap, keepOt hb h3, hl, hc, (Keeps.below hb 0).repL _ _ hr⟩
theorem BxS.below {w w' : World} {b o : Nat} {x : Sd} (h : BxS w b o x) (hb : Below w.heap.size w w') : BxS w' b o x :=
  ⟨keepOt hb h.c0, keepOt hb h.c1, repT_below h.t hb⟩
/-- What was said stands one behind the other from ao on. -/
def RowS (w : World) (ao : Option Addr) (l : List Sd) : Prop := l = [] ∨ ∃ b o, ao = some ⟨b, o, none⟩ ∧ ∀ j (hj : j < l.length), BxS w b (o + j * 6) l[j]
theorem RowS.below {w w' : World} {ao : Option Addr} {l : List Sd} (h : RowS w ao l) (hb : Below w.heap.size w w') : RowS w' ao l := by
  rcases h with h | ⟨b, o, h1, h2⟩
  · exact .inl h
  · exact .inr ⟨b, o, h1, fun j hj => (h2 j hj).below hb⟩
def eltS : Elt Sd where
  s := 6
  E := fun w x bs b off => w.cell? ⟨b, off, none⟩ = some (.int .i64 x.kind) ∧ w.cell? ⟨b, off + 1, none⟩ = some (.int .i64 x.pid) ∧ OsT w x.t bs b (off + 2)
  pos := by omega
  keep := fun hk hc ⟨h0, h1, h2⟩ => ⟨hc 0 _ (by omega) h0, hc 1 _ (by omega) h1, OsT.keep _ _ _ _ hk (fun j v hj hv => by rw [Nat.add_assoc] at hv ⊢; exact hc (2 + j) v (by omega) hv) h2⟩
  lt := fun ⟨h0, h1, h2⟩ => OsT.lt _ _ _ _ h2
  head := fun ⟨h0, h1, h2⟩ => ⟨_, h0⟩
theorem GL.rowS {w : World} {l : List Sd} {bs : List Nat} {ao : Option Addr} (h : GL eltS w l bs ao) : RowS w ao l := by
  rcases h with h | ⟨hl, g, o, b, _, e2, _, hr⟩
  · exact .inl h.1
  · refine .inr ⟨g, o, e2, fun j hj => ?_⟩
    obtain ⟨bt, _, x, y, z⟩ := hr.at j hj
    exact ⟨x, y, OsT.rep _ _ _ _ z⟩
theorem infoTimer : (Try.prog.info? 38).map (fun i => (i.zero, i.size, i.bytes)) = some (some (.agg #[.int .i64 0, .int .i64 0, .int .i64 0, .int .i64 0, .string ⟨#[]⟩, .slice none 0 0]), 6, 72) := by kernel_rfl
theorem undTimerS : Try.prog.underlying 30 = some (.slice 38) := by kernel_rfl
def zerosS (n : Nat) : Array Value := madeCells #[.int .i64 0, .int .i64 0, .int .i64 0, .int .i64 0, .string ⟨#[]⟩, .slice none 0 0] (n * 6)
theorem run_zerosS (n : Nat) (hn : n ≤ 1048576) (w : World) :
    (Instr.makeSlice 30 (.int .i64 (n : Int)) (.int .i64 (n : Int))).run Try.prog w = .ok (.slice (some ⟨w.heap.size, 0, none⟩) n n) (w.alloc (.cells (zerosS n) 38)) := by
  obtain ⟨i, hi, hzz⟩ := Option.map_eq_some_iff.1 infoTimer
  simp only [Prod.mk.injEq] at hzz
  obtain ⟨hz, hs, hb⟩ := hzz
  have hr := run_make (P := Try.prog) w 30 38 i _ undTimerS hi hz .i64 .i64 n n (by omega) (Int.le_refl _) (by rw [hb]; omega) (by omega)
  rw [hs] at hr
  simp only [Int.toNat_natCast] at hr
  exact hr
abbrev sdV (kind pid k n : Int) (s : ByteArray) (ao : Option Addr) (len cap : Nat) : Value := .agg #[.int .i64 kind, .int .i64 pid, .int .i64 k, .int .i64 n, .string s, .slice ao len cap]
set_option maxHeartbeats 1000000 in
set_option maxRecDepth 100000 in
theorem toTimer_any (kind pid k n : Int) (s : ByteArray) (l : List Tm) (ao : Option Addr) (cap : Nat) (w : World) (hv : RepV 0 w (.mk k n s l) (.agg #[.int .i64 k, .int .i64 n, .string s, .slice ao l.length cap])) (hst : StS (.mk k n s l)) :
    Calls Try.prog 8 #[sdV kind pid k n s ao l.length cap] w fun e w' => ∃ ao' cap' bs, e = .returned (sdV kind pid k n s ao' l.length cap') ∧ OsV w' bs (.mk k n s l) (.agg #[.int .i64 k, .int .i64 n, .string s, .slice ao' l.length cap']) ∧ bs.Nodup ∧ (∀ b ∈ bs, w.heap.size ≤ b) ∧ Below w.heap.size w w' := by
  have HV : Hid (RepV 0 w (.mk k n s l) (.agg #[.int .i64 k, .int .i64 n, .string s, .slice ao l.length cap])) := hv
  have HT : Hid (ToOT (.mk k n s l)) := toOT_all _ hst
  clear hv hst
  go_enter Try.func8, Try.ntmps8
  go_wp2_with fail
  refine (HT.out 0 _ _ ((Keeps.below ?_ 0).repV HV.out)).mono ?_
  · exact (((Below.refl _ _).alloc (Nat.le_refl _) _).alloc (by simp) _).alloc (by simp; omega) _
  rintro e w1 ⟨v', bs, rfl, hb1, hr1, hnd, hlo⟩
  obtain ⟨hz, q2, q3, f2, f3⟩ := three_new hb1
  have HB1 : Hid (Below w.heap.size w w1) := ((((Below.refl _ _).alloc (Nat.le_refl _) _).alloc (by simp) _).alloc (by simp; omega) _).trans (hb1.mono (by simp; omega))
  obtain ⟨ao', cap', rfl, hs1, hl1, hc1, ho1⟩ := hr1
  have HR1 : Hid (OsL w1 l bs ao' ∧ bs.Nodup ∧ (∀ b ∈ bs, w.heap.size + 3 ≤ b) ∧ s.size ≤ 1048576 ∧ l.length ≤ cap' ∧ cap' ≤ maxLen) := ⟨ho1, hnd, fun b hb => by have := hlo b hb; simp at this; omega, hs1, hl1, hc1⟩
  clear hb1 ho1 hnd hlo hs1 hl1 hc1
  go_wp2_with fail
  refine bodyPost_ret (v := sdV kind pid k n s ao' l.length cap') (by simp [results, Try.results8, go_sem, q2]) rfl ⟨ao', cap', bs, rfl, ⟨ao', cap', rfl, HR1.out.2.2.2.1, HR1.out.2.2.2.2.1, HR1.out.2.2.2.2.2, OsL.keep _ _ _ (fun x hx _ => ?_) HR1.out.1⟩, HR1.out.2.1, fun b hb => by have := HR1.out.2.2.1 b hb; omega, ?_⟩
  · have hx3 := HR1.out.2.2.1 x hx
    have n1 : x ≠ w.heap.size + 1 := by omega
    have n2 : x ≠ w.heap.size + 1 + 1 := by omega
    rw [Below.heap_setCell _ ⟨w.heap.size + 1, 5, none⟩ _ x n1, Below.heap_setCell _ ⟨w.heap.size + 1, 4, none⟩ _ x n1, Below.heap_setCell _ ⟨w.heap.size + 1, 3, none⟩ _ x n1, Below.heap_setCell _ ⟨w.heap.size + 1, 2, none⟩ _ x n1, Below.heap_setCell _ ⟨w.heap.size + 1, 1, none⟩ _ x n1, Below.heap_setCell _ ⟨w.heap.size + 1, 0, none⟩ _ x n1,
      Below.heap_setCell _ ⟨w.heap.size + 1 + 1, 5, none⟩ _ x n2, Below.heap_setCell _ ⟨w.heap.size + 1 + 1, 4, none⟩ _ x n2, Below.heap_setCell _ ⟨w.heap.size + 1 + 1, 3, none⟩ _ x n2, Below.heap_setCell _ ⟨w.heap.size + 1 + 1, 2, none⟩ _ x n2]
  · have n1 : w.heap.size ≤ w.heap.size + 1 := by omega
    have n2 : w.heap.size ≤ w.heap.size + 1 + 1 := by omega
    exact (((((((((HB1.out.setCell (p := ⟨w.heap.size + 1 + 1, 2, none⟩) n2 _).setCell (p := ⟨w.heap.size + 1 + 1, 3, none⟩) n2 _).setCell (p := ⟨w.heap.size + 1 + 1, 4, none⟩) n2 _).setCell (p := ⟨w.heap.size + 1 + 1, 5, none⟩) n2 _).setCell (p := ⟨w.heap.size + 1, 0, none⟩) n1 _).setCell (p := ⟨w.heap.size + 1, 1, none⟩) n1 _).setCell (p := ⟨w.heap.size + 1, 2, none⟩) n1 _).setCell (p := ⟨w.heap.size + 1, 3, none⟩) n1 _).setCell (p := ⟨w.heap.size + 1, 4, none⟩) n1 _).setCell (p := ⟨w.heap.size + 1, 5, none⟩) n1 _
set_option maxHeartbeats 1000000 in
set_option maxRecDepth 100000 in
theorem toTimerS_any (l : List Sd) (ao : Option Addr) (cap : Nat) (w : World) (hr : RowS w ao l) (hl : l.length ≤ 1048576) (hs : ∀ x ∈ l, StS x.t) :
    Calls Try.prog 7 #[.slice ao l.length cap] w fun e w' => (∃ (g : Nat) (bs : List Nat), e = .returned (.slice (some ⟨g, 0, none⟩) l.length l.length) ∧ GL eltS w' l bs (some ⟨g, 0, none⟩) ∧ bs.Nodup ∧ ∀ b ∈ bs, w.heap.size ≤ b) ∧ Below w.heap.size w w' := by
  have HRW : Hid (RowS w ao l) := hr
  have HS : Hid (∀ x ∈ l, StS x.t) := hs
  clear hr hs
  have hmk := run_zerosS l.length hl
  go_enter Try.func7, Try.ntmps7
  go_wp2_with fail
  clear hmk
  go_loopw [4] (fun i w' => ∃ (k : Nat) (bs : List Nat), k ≤ l.length ∧ i = .int .i64 k ∧ MadeG eltS w w' w.heap.size l k bs) (fun i _ => l.length - (intOf i).toNat)
  case atStart => exact ⟨0, [], Nat.zero_le _, rfl, madeG_start w l _ (by unfold zerosS; rw [size_madeCells]; rfl) _⟩
  case round =>
    obtain ⟨k, bs, hk, rfl, hm⟩ := hrel
    have HM : Hid (MadeG eltS w wr w.heap.size l k bs) := hm
    clear hm
    by_cases hlt : k < l.length
    · rcases HRW.out.below HM.out.below with h | ⟨b, o, rfl, hrow⟩
      · rw [h] at hlt; simp at hlt
      have hbx := hrow k hlt
      have hT := HS.out _ (List.getElem_mem hlt)
      have HST : Hid (∀ w1 bt tk tn ts tl tao tcap, l[k].t = .mk tk tn ts tl → MadeG eltS w w1 w.heap.size l k bs → OsV w1 bt (.mk tk tn ts tl) (.agg #[.int .i64 tk, .int .i64 tn, .string ts, .slice tao tl.length tcap]) → bt.Nodup → (∀ x ∈ bt, wr.heap.size ≤ x) → (∀ x ∈ bs, x < wr.heap.size) → MadeG eltS w (w1.setCells w.heap.size (k * 6) [.int .i64 l[k].kind, .int .i64 l[k].pid, .int .i64 tk, .int .i64 tn, .string ts, .slice tao tl.length tcap]) w.heap.size l (k + 1) (bs ++ (bt ++ []))) := fun w1 bt tk tn ts tl tao tcap et h1 h2 h3 h4 h5 => by
        refine h1.store (e := eltS) (B := wr.heap.size) (Nat.le_refl _) hlt _ rfl (fun w' hc hb => ⟨hc 0 (by show 0 < 6; omega), hc 1 (by show 1 < 6; omega), ?_⟩) h3 h4 h5 HM.out.lt
        obtain ⟨ao', cap', e, b1, b2, b3, b4⟩ := h2
        simp only [Value.agg.injEq, Array.mk.injEq, List.cons.injEq, and_true, Value.slice.injEq, true_and] at e
        obtain ⟨rfl, rfl⟩ := e
        rw [et, OsT]
        exact ⟨hc 2 (by show 2 < 6; omega), hc 3 (by show 3 < 6; omega), hc 4 (by show 4 < 6; omega), b1, tao, tcap, hc 5 (by show 5 < 6; omega), b2, b3, OsL.keep _ _ _ hb b4⟩
      generalize l[k] = x at hbx HST hT
      obtain ⟨kind, pid, t⟩ := x
      obtain ⟨tk, tn, ts, tl⟩ := t
      have d0 := hbx.c0
      have d1 := hbx.c1
      have hRT := hbx.t
      rw [RepT] at hRT
      obtain ⟨d2, d3, d4, hs4, tao, tcap, d5, hl5, hc5, hr5⟩ := hRT
      have HC : Hid (Calls Try.prog 8 #[sdV kind pid tk tn ts tao tl.length tcap] wr fun e w' => ∃ ao' cap' bt, e = .returned (sdV kind pid tk tn ts ao' tl.length cap') ∧ OsV w' bt (.mk tk tn ts tl) (.agg #[.int .i64 tk, .int .i64 tn, .string ts, .slice ao' tl.length cap']) ∧ bt.Nodup ∧ (∀ b ∈ bt, wr.heap.size ≤ b) ∧ Below wr.heap.size wr w') :=
        toTimer_any kind pid tk tn ts tl tao tcap wr ⟨tao, tcap, rfl, hs4, hl5, hc5, hr5⟩ hT
      clear hbx hrow hT hr5 hs4 hl5 hc5
      go_wp2_with fail
      refine HC.out.mono ?_
      rintro e w1 ⟨ao', cap', bt, rfl, hq, hnd, hlo, hb1⟩
      have HM1 : Hid (MadeG eltS w w1 w.heap.size l k bs) := HM.out.call hb1
      have HOLD : Hid (∀ x ∈ bs, x < wr.heap.size) := HM.out.row.lt
      have HQ : Hid (OsV w1 bt (.mk tk tn ts tl) (.agg #[.int .i64 tk, .int .i64 tn, .string ts, .slice ao' tl.length cap']) ∧ bt.Nodup ∧ ∀ b ∈ bt, wr.heap.size ≤ b) := ⟨hq, hnd, hlo⟩
      have hf := HM1.out.free
      obtain ⟨x0, hs0⟩ := Option.isSome_iff_exists.1 (HM1.out.some (k * 6) (by show k * 6 < l.length * 6; omega))
      obtain ⟨x1, hs1⟩ := Option.isSome_iff_exists.1 (HM1.out.some (k * 6 + 1) (by show k * 6 + 1 < l.length * 6; omega))
      obtain ⟨x2, hs2⟩ := Option.isSome_iff_exists.1 (HM1.out.some (k * 6 + 2) (by show k * 6 + 2 < l.length * 6; omega))
      obtain ⟨x3, hs3⟩ := Option.isSome_iff_exists.1 (HM1.out.some (k * 6 + 3) (by show k * 6 + 3 < l.length * 6; omega))
      obtain ⟨x4, hs4⟩ := Option.isSome_iff_exists.1 (HM1.out.some (k * 6 + 4) (by show k * 6 + 4 < l.length * 6; omega))
      obtain ⟨x5, hs5⟩ := Option.isSome_iff_exists.1 (HM1.out.some (k * 6 + 5) (by show k * 6 + 5 < l.length * 6; omega))
      clear hb1 hq hnd hlo d0 d1 d2 d3 d4 d5
      have HM2 : Hid (MadeG eltS w (w1.setCells w.heap.size (k * 6) [.int .i64 kind, .int .i64 pid, .int .i64 tk, .int .i64 tn, .string ts, .slice ao' tl.length cap']) w.heap.size l (k + 1) (bs ++ (bt ++ []))) := HST.out w1 bt tk tn ts tl ao' cap' rfl HM1.out HQ.out.1 HQ.out.2.1 HQ.out.2.2 HOLD.out
      go_wp2_with fail
      go_roundw
      case rel => exact ⟨k + 1, _, by omega, by go_num, HM2.out⟩
      case measure => simp [intOf]; omega
    · go_wp2_with fail
      go_ret
      have hkl : k = l.length := by omega
      subst hkl
      obtain ⟨bs', h1, h2, h3⟩ := HM.out.done (Nat.le_refl _)
      exact ⟨⟨w.heap.size, bs', rfl, h1, h2, h3⟩, HM.out.below⟩
end Go.Proofs.Ytnpbmfcilcnilaa.Tr
