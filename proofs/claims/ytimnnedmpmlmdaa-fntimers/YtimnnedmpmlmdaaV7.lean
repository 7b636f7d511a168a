/-
  A timer put into a row that has no room: the program's slices.Insert.
  (Ahead of it, in this text: Where a timer comes to stand: the program's search. A timer put into a row: the program's slices.Insert where the row has no room.)
-/
import Derived.Test.YtimnnedmpmlmdaaTrF
import Derived.Test.YtimnnedmpmlmdaaTrK
import Derived.Laws.CopyOwn
import Derived.Lib.AppendZerosOnto
import Derived.Deep.RegionLaw
namespace Go.Proofs.Ytimnnedmpmlmdaa.Tr
open Go.RowKit Atom
set_option linter.unusedVariables false

set_option maxHeartbeats 1000000 in
set_option maxRecDepth 100000 in
theorem later1_any (l : List Sd) (ao : Option Addr) (cap i : Nat) (hi : i < l.length) (hl : l.length ≤ 1048576) (a p k n : Int) (s : ByteArray) (xo : Option Addr) (len xcap qb xb : Nat) (w : World) (hr : RowS w ao l) (hq : w.cell? ⟨qb, 0, none⟩ = some (.slice ao l.length cap))
    (x0 : w.cell? ⟨xb, 0, none⟩ = some (.int .i64 a)) (x1 : w.cell? ⟨xb, 1, none⟩ = some (.int .i64 p)) (x2 : w.cell? ⟨xb, 2, none⟩ = some (.int .i64 k)) (x3 : w.cell? ⟨xb, 3, none⟩ = some (.int .i64 n)) (x4 : w.cell? ⟨xb, 4, none⟩ = some (.string s)) (x5 : w.cell? ⟨xb, 5, none⟩ = some (.slice xo len xcap)) :
    Calls Try.prog 49 #[.int .i64 i, .pointer (some ⟨qb, 0, none⟩), .pointer (some ⟨xb, 0, none⟩)] w fun e w' => e = .returned (.bool (decide (a < l[i].kind))) ∧ Below w.heap.size w w' := by
  have q1 := meth_time
  rcases hr with h0 | ⟨b, o, rfl, hrow⟩
  · rw [h0] at hi; simp at hi
  have hbx := hrow i hi
  obtain ⟨tk, tn, ts, tao, tlen, tcap, e0, e1, e2, e3, _⟩ := hbx.t.cells
  have y := Inn.keep hq
  have c0 := Inn.keep hbx.c0
  have c1 := Inn.keep hbx.c1
  have c2 := Inn.keep e0
  have c3 := Inn.keep e1
  have c4 := Inn.keep e2
  have c5 := Inn.keep e3
  have d0 := Inn.keep x0
  have d1 := Inn.keep x1
  have d2 := Inn.keep x2
  have d3 := Inn.keep x3
  have d4 := Inn.keep x4
  have d5 := Inn.keep x5
  clear hrow hbx e0 e1 e2 e3 x0 x1 x2 x3 x4 x5 hq
  generalize (l[i]).pid = pp at *
  generalize l[i].kind = kk at *
  haveI := inn_ne w
  go_enter Try.func49, Try.ntmps49
  go_wp2_with fail
  refine wp_region_inn ?_ ?_ ?_
  · kernel_rfl
  · kernel_rfl
  repeat (go_big_quiet_step (first
    | (go_at_call 94; exact calls_inn (time_any _ _ _ _ _ _ _ _ _))))
  refine wpQuiet_nil ?_
  intro w7 h7
  have HB7 : Hid (Below w.heap.size w w7) := by
    obtain ⟨x7, h7⟩ := h7
    rw [h7]; exact x7.bel
  clear h7 c0 c1 c2 c3 c4 c5 d0 d1 d2 d3 d4 d5 y
  go_wp2_with fail
  go_ret
  exact ⟨rfl, HB7.out⟩

set_option maxHeartbeats 1000000 in
set_option maxRecDepth 100000 in
theorem search_any (n : Nat) (hn : n ≤ 1048576) (v1 v2 : Value) (p : Nat → Bool) (w : World)
    (hf : ∀ wc (i : Nat), Below w.heap.size w wc → i < n → Calls Try.prog 49 #[.int .i64 i, v1, v2] wc fun e w' => e = .returned (.bool (p i)) ∧ Below wc.heap.size wc w')
    (hm : ∀ a b, a ≤ b → b < n → p a = true → p b = true) :
    Calls Try.prog 48 #[.int .i64 n, .func (.func 49) #[] #[v1, v2]] w fun e w' => (∃ k : Nat, e = .returned (.int .i64 k) ∧ k ≤ n ∧ (∀ t, t < k → p t = false) ∧ (∀ t, k ≤ t → t < n → p t = true)) ∧ Below w.heap.size w w' := by
  have HF : Hid (∀ wc (i : Nat), Below w.heap.size w wc → i < n → Calls Try.prog 49 #[.int .i64 i, v1, v2] wc fun e w' => e = .returned (.bool (p i)) ∧ Below wc.heap.size wc w') := hf
  have HM : Hid (∀ a b, a ≤ b → b < n → p a = true → p b = true) := hm
  clear hf hm
  go_enter Try.func48, Try.ntmps48
  go_wp2_with fail
  go_loopw [5, 6] (fun s5 s6 wr => ∃ lo hi : Nat, s5 = .int .i64 lo ∧ s6 = .int .i64 hi ∧ lo ≤ hi ∧ hi ≤ n ∧ (∀ t, t < lo → p t = false) ∧ (∀ t, hi ≤ t → t < n → p t = true) ∧ Below w.heap.size w wr) (fun s5 s6 _ => (intOf s6).toNat - (intOf s5).toNat)
  case atStart => exact ⟨0, n, rfl, rfl, Nat.zero_le _, Nat.le_refl _, fun t ht => absurd ht (Nat.not_lt_zero _), (fun t h1 h2 => by omega), Below.refl _ _⟩
  case round =>
    obtain ⟨lo, hi, rfl, rfl, hlh, hin, hl0, hl1, hbe⟩ := hrel
    have HL : Hid ((∀ t, t < lo → p t = false) ∧ (∀ t, hi ≤ t → t < n → p t = true)) := ⟨hl0, hl1⟩
    have HBE : Hid (Below w.heap.size w wr) := hbe
    clear hl0 hl1 hbe
    by_cases hlt : lo < hi
    · have HC := hid (HF.out wr ((lo + hi) / 2) HBE.out (by omega))
      rw [show (((lo + hi) / 2 : Nat) : Int) = ((lo : Int) + (hi : Int)) / 2 by omega] at HC
      cases hp : p ((lo + hi) / 2) <;> rw [hp] at HC
      · have HP : Hid (p ((lo + hi) / 2) = false) := hp
        clear hp
        go_wp2_with (go_at_call 49; refine HC.out.mono ?_; rintro e w1 ⟨rfl, hb1⟩; have HB1 : Hid (Below w.heap.size w w1) := HBE.out.trans (hb1.mono HBE.out.size); clear hb1)
        go_roundw
        case rel => exact ⟨(lo + hi) / 2 + 1, hi, congrArg (Value.int .i64) (by omega), rfl, by omega, hin, fun t ht => (by
          cases h : p t with
          | false => rfl
          | true => have := HM.out t ((lo + hi) / 2) (by omega) (by omega) h; rw [HP.out] at this; cases this), HL.out.2, HB1.out⟩
        case measure => simp [intOf]; omega
      · have HP : Hid (p ((lo + hi) / 2) = true) := hp
        clear hp
        go_wp2_with (go_at_call 49; refine HC.out.mono ?_; rintro e w1 ⟨rfl, hb1⟩; have HB1 : Hid (Below w.heap.size w w1) := HBE.out.trans (hb1.mono HBE.out.size); clear hb1)
        go_roundw
        case rel => exact ⟨lo, (lo + hi) / 2, rfl, congrArg (Value.int .i64) (by omega), by omega, by omega, HL.out.1, fun t ht htn => HM.out ((lo + hi) / 2) t ht htn HP.out, HB1.out⟩
        case measure => simp [intOf]; omega
    · obtain rfl : hi = lo := by omega
      go_wp2_with fail
      go_ret
      exact ⟨⟨hi, rfl, hin, HL.out.1, HL.out.2⟩, HBE.out⟩
end Go.Proofs.Ytimnnedmpmlmdaa.Tr
namespace Go.Proofs.Ytimnnedmpmlmdaa.Tr
open Go.RowKit Atom
set_option linter.unusedVariables false

theorem run_copy_rowK {P : Program} (w : World) (dT sT ty elem : TypeId) (g o dLen dCap : Nat) (a : Addr) (sLen sCap : Nat) (cur : Array Value) (t : TypeId) (cs : List Value) (s m : Nat)
    (hu : P.underlying dT = some (.slice elem)) (hs : (P.info? elem).map (·.size) = some s)
    (hg : w.heap[g]? = some (.cells cur t (0, 0))) (hm : Nat.min sLen dLen = m) (hn : cs.length = m * s)
    (hsrc : ∀ j v, cs[j]? = some v → w.cell? (a.add j) = some v) (hfit : o + cs.length ≤ cur.size) (h1 : ∀ v ∈ cs, v.oneCell' = true) :
    (Builtin.copy_ #[dT, sT] ty #[.slice (some ⟨g, o, none⟩) dLen dCap, .slice (some a) sLen sCap]).run P w =
      .ok (goInt m) (w.setRow g (cur.toList.take o ++ cs ++ cur.toList.drop (o + cs.length)).toArray) := by
  have hl := run_loadCells_list (P := P) w a cs hsrc
  have hst := run_storeCells_at P g o t cs 0 cur w hg (by simpa using hfit) h1
  cases hq : P.info? elem with
  | none => simp [hq] at hs
  | some i =>
    have hi : i.size = s := by simpa [hq] using hs
    simp [Builtin.copy_, run_underlying hu, Builtin.lenOf, Builtin.firstCells, sizeOf, typeInfo, hq, hi, hm, ← hn, hl, hst]
theorem wpList_copy_rowK {P : Program} {w : World} {ops : Array Oper} {rest : List Oper} {o : Oper} {a : Act} {Q : Exit → Act → World → Prop} (hgd : o.guard = none) (d s : Operand) (dT sT : TypeId)
    (ho : o.op = .call { callee := .builtin .copy, args := #[d, s], argTypes := #[dT, sT] }) (elem : TypeId) (z m : Nat) (hu : P.underlying dT = some (.slice elem)) (hsz : (P.info? elem).map (·.size) = some z)
    (g off dLen dCap : Nat) (ad : Addr) (sLen sCap : Nat) (hd : a.eval d = .slice (some ⟨g, off, none⟩) dLen dCap) (hs : a.eval s = .slice (some ad) sLen sCap)
    (cur : List Value) (t : TypeId) (hg : w.heap[g]? = some (.cells cur.toArray t (0, 0))) (cs : List Value) (hm : Nat.min sLen dLen = m) (hn : cs.length = m * z)
    (hsrc : ∀ j v, cs[j]? = some v → w.cell? (ad.add j) = some v) (hfit : off + cs.length ≤ cur.length) (h1 : ∀ v ∈ cs, v.oneCell' = true) (B : Nat) (w0 : World) (hb : Below B w0 w) (hBg : B ≤ g)
    (h : ∀ w', Hid (w'.heap[g]? = some (.cells (splice cur off cs).toArray t (0, 0))) → Below B w0 w' → wpList P ops Q rest (a.put o.dst (goInt m)) w') : wpList P ops Q (o :: rest) a w := by
  refine wpList_plain hgd fun K hK => ?_
  have hrun := run_copy_rowK (P := P) w dT sT o.type elem g off dLen dCap ad sLen sCap cur.toArray t cs z m hu hsz hg hm hn hsrc (by simpa using hfit) h1
  unfold Oper.wp
  simp [execOp, ho, resolve, invoke, builtin, hd, hs, hrun, Result.andThen]
  exact hK _ _ (h _ (show _ = _ by simpa [splice] using setRow_heap w g _ _ t _ hg) (below_setRow hb hBg _))
theorem step_copy_rowK {P : Program} {ops : Array Oper} {o : Oper} {a : Act} {w : World} {K : Act → World → Prop} {Q : Exit → Act → World → Prop} {E : Prop} (hgd : o.guard = none) (d s : Operand) (dT sT : TypeId)
    (ho : o.op = .call { callee := .builtin .copy, args := #[d, s], argTypes := #[dT, sT] }) (elem : TypeId) (z m : Nat) (hu : P.underlying dT = some (.slice elem)) (hsz : (P.info? elem).map (·.size) = some z)
    (g off dLen dCap : Nat) (ad : Addr) (sLen sCap : Nat) (hd : a.eval d = .slice (some ⟨g, off, none⟩) dLen dCap) (hs : a.eval s = .slice (some ad) sLen sCap)
    (cur : List Value) (t : TypeId) (hg : w.heap[g]? = some (.cells cur.toArray t (0, 0))) (cs : List Value) (hm : Nat.min sLen dLen = m) (hn : cs.length = m * z)
    (hsrc : ∀ j v, cs[j]? = some v → w.cell? (ad.add j) = some v) (hfit : off + cs.length ≤ cur.length) (h1 : ∀ v ∈ cs, v.oneCell' = true) (B : Nat) (w0 : World) (hb : Below B w0 w) (hBg : B ≤ g)
    (h : ∀ w', Hid (w'.heap[g]? = some (.cells (splice cur off cs).toArray t (0, 0))) → Below B w0 w' → K (a.put o.dst (goInt m)) w') :
    if Region.wanted o (yielded ops a.tmps) = true then Oper.wp P o a w K Q else E := by
  have hw : Region.wanted o (yielded ops a.tmps) = true := by simp [Region.wanted, hgd]
  rw [if_pos hw]
  have hrun := run_copy_rowK (P := P) w dT sT o.type elem g off dLen dCap ad sLen sCap cur.toArray t cs z m hu hsz hg hm hn hsrc (by simpa using hfit) h1
  unfold Oper.wp
  simp [execOp, ho, resolve, invoke, builtin, hd, hs, hrun, Result.andThen]
  exact h _ (show _ = _ by simpa [splice] using setRow_heap w g _ _ t _ hg) (below_setRow hb hBg _)
theorem keepOt' {w w' : World} (h : Below w.heap.size w w') {b o : Nat} {v : Value} (hb : b < w.heap.size) (hc : w.cell? ⟨b, o, none⟩ = some v) : w'.cell? ⟨b, o, none⟩ = some v :=
  (World.cell?_of_block (w := w) (h.block b hb)).trans hc
theorem splice_len {L cs : List Value} {off : Nat} (h : off + cs.length ≤ L.length) : (splice L off cs).length = L.length := by
  unfold splice
  rw [List.length_append, List.length_append, List.length_take, List.length_drop]; omega
/-- What the two copies leave in the new row. -/
theorem splice_two (cs vs zs : List Value) (i n m : Nat) (hcl : cs.length = n * 6) (hvl : vs.length = 6) (hi : i < n) (hz : zs.length = m) (hzm : (n + 1 - i) * 6 ≤ m) :
    (splice (splice (cs.take (i * 6) ++ zs) (i * 6) vs) ((i + 1) * 6) (cs.drop (i * 6))).take ((n + 1) * 6) = cs.take (i * 6) ++ (vs ++ cs.drop (i * 6)) := by
  have h1 : (cs.take (i * 6)).length = i * 6 := by rw [List.length_take]; omega
  have e1 : splice (cs.take (i * 6) ++ zs) (i * 6) vs = (cs.take (i * 6) ++ vs) ++ zs.drop 6 := by
    unfold splice
    rw [List.take_append_of_le_length (by omega), List.take_of_length_le (by omega), List.drop_append, List.drop_of_length_le (by omega), List.nil_append, h1, hvl, show i * 6 + 6 - i * 6 = 6 by omega, List.append_assoc]
  rw [e1, ← List.append_assoc (cs.take (i * 6)) vs (cs.drop (i * 6))]
  have h2 : (cs.take (i * 6) ++ vs).length = (i + 1) * 6 := by rw [List.length_append, h1, hvl]; omega
  have h3 : (cs.drop (i * 6)).length = (n - i) * 6 := by rw [List.length_drop, hcl]; omega
  generalize cs.take (i * 6) ++ vs = X at h2 ⊢
  generalize cs.drop (i * 6) = D at h3 ⊢
  generalize zs.drop 6 = Z
  unfold splice
  rw [List.take_append_of_le_length (show (i + 1) * 6 ≤ X.length by omega), List.take_of_length_le (show X.length ≤ (i + 1) * 6 by omega), ← List.append_assoc, List.take_append_of_le_length (by rw [List.length_append]; omega), List.take_of_length_le (by rw [List.length_append]; omega)]
end Go.Proofs.Ytimnnedmpmlmdaa.Tr
namespace Go.Proofs.Ytimnnedmpmlmdaa.Tr
open Go.RowKit Atom
set_option linter.unusedVariables false

set_option maxHeartbeats 4000000 in
set_option maxRecDepth 100000 in
theorem insertGrow_any (cs vs : List Value) (n i b vb : Nat) (w : World) (hi : i < n) (hn : n ≤ 1048576) (hcl : cs.length = n * 6) (hvl : vs.length = 6)
    (hcs : ∀ j v, cs[j]? = some v → w.cell? ⟨b, j, none⟩ = some v) (hvs : ∀ j v, vs[j]? = some v → w.cell? ⟨vb, j, none⟩ = some v) (h1c : ∀ v ∈ cs, v.oneCell' = true) (h1v : ∀ v ∈ vs, v.oneCell' = true) :
    Calls Try.prog 50 #[.slice (some ⟨b, 0, none⟩) n n, .int .i64 i, .slice (some ⟨vb, 0, none⟩) 1 1] w fun e w' =>
      (∃ c cur, e = .returned (.slice (some ⟨w.heap.size, 0, none⟩) (n + 1) c) ∧ w'.heap[w.heap.size]? = some (.cells cur 32 (0, 0)) ∧ n + 1 ≤ c ∧ c ≤ maxLen ∧ cur.size = c * 6 ∧ cur.toList.take ((n + 1) * 6) = cs.take (i * 6) ++ (vs ++ cs.drop (i * 6))) ∧ Below w.heap.size w w' := by
  obtain ⟨i0, hi0, hzz⟩ := Option.map_eq_some_iff.1 infoTimer
  simp only [Prod.mk.injEq] at hzz
  obtain ⟨hz0, hzs, hzb⟩ := hzz
  have hsz : (Try.prog.info? 32).map (·.size) = some 6 := by rw [hi0]; simp [hzs]
  have hint : Try.prog.underlying 3 = some (.int .i64) := Try.underlying3
  have hbw : b < w.heap.size := World.block_lt_of_cell? w ⟨b, 0, none⟩ (hcs 0 _ (List.getElem?_eq_getElem (by omega)))
  have hvw : vb < w.heap.size := World.block_lt_of_cell? w ⟨vb, 0, none⟩ (hvs 0 _ (List.getElem?_eq_getElem (by omega)))
  have hkk : (n : Int) + 1 - (i : Int) = ((n + 1 - i : Nat) : Int) := by omega
  have hik : i + (n + 1 - i) = n + 1 := by omega
  have ad0 : ∀ (x y j : Nat), (⟨x, y, none⟩ : Addr).add j = ⟨x, y + j, none⟩ := fun x y j => by rw [Addr.add_lit]
  have hold : (Builtin.firstCells i0.size i (.slice (some ⟨b, 0, none⟩) i n)).run Try.prog w.drew = .ok (cs.take (i * 6)).toArray w.drew := by
    rw [hzs]
    exact run_firstCells_some (w := w.drew) 6 i ⟨b, 0, none⟩ i n (cs.take (i * 6)) (by rw [List.length_take]; omega) (fun j v hj => by
      rw [ad0, Nat.zero_add]
      rw [List.getElem?_take] at hj
      split at hj
      · exact hcs j v hj
      · cases hj)
  obtain ⟨G, hG⟩ : ∃ G, G = grownCap w (n + 1) n 32 := ⟨_, rfl⟩
  obtain ⟨zs, hzs2⟩ : ∃ zs : List Value, zs = (Builtin.zeroCells (Value.agg #[.int .i64 0, .int .i64 0, .int .i64 0, .int .i64 0, .string ⟨#[]⟩, .slice none 0 0]).cells (n + 1 - i) ++ Builtin.zeroCells (Value.agg #[.int .i64 0, .int .i64 0, .int .i64 0, .int .i64 0, .string ⟨#[]⟩, .slice none 0 0]).cells (G - (n + 1))).toList := ⟨_, rfl⟩
  have hGn : n + 1 ≤ G := by rw [hG]; exact grownCap_ge w _ _ _
  have hGm : G ≤ maxLen := by rw [hG]; exact grownCap_le_maxLen w _ _ _ (by unfold maxLen; omega)
  have hzl : zs.length = (G - i) * 6 := by
    rw [hzs2]
    simp [size_zeroCells, Value.cells]
    omega
  have hrz : ∀ ty, (Builtin.append_ #[44, 3] ty #[.slice (some ⟨b, 0, none⟩) i n, .int .i64 ((n : Int) + 1 - (i : Int))]).run Try.prog w =
      .ok (.slice (some ⟨w.heap.size, 0, none⟩) (n + 1) G) (w.drew.alloc (.cells (cs.take (i * 6) ++ zs).toArray 32)) := fun ty => by
    have h := Lib.run_append_grow_zeros w 44 3 ty 32 i0 _ .i64 .i64 undQ hint hi0 hz0 (some ⟨b, 0, none⟩) i n (cs.take (i * 6)) hold (n + 1 - i) (by omega) (by omega) (by omega) (by omega) (by rw [hzb]; omega) (by rw [hzb, hik]; exact growslice_fits (by omega) (by omega))
    rw [hik, ← hG] at h
    have harr : (cs.take (i * 6) ++ zs).toArray = (cs.take (i * 6)).toArray ++ Builtin.zeroCells (Value.agg #[.int .i64 0, .int .i64 0, .int .i64 0, .int .i64 0, .string ⟨#[]⟩, .slice none 0 0]).cells (n + 1 - i) ++ Builtin.zeroCells (Value.agg #[.int .i64 0, .int .i64 0, .int .i64 0, .int .i64 0, .string ⟨#[]⟩, .slice none 0 0]).cells (G - (n + 1)) := by
      rw [hzs2]
      apply Array.ext'
      simp only [Array.toList_append, List.append_assoc]
    rw [hkk, harr]
    exact h
  clear hold hkk
  obtain ⟨W1, hW1⟩ : ∃ W1, W1 = w.drew.alloc (.cells (cs.take (i * 6) ++ zs).toArray 32) := ⟨_, rfl⟩
  have HB1 : Hid (Below w.heap.size w W1 ∧ W1.heap[w.heap.size]? = some (.cells (cs.take (i * 6) ++ zs).toArray 32 (0, 0))) := by
    rw [hW1]
    exact ⟨((Below.refl w.heap.size w).drew).alloc (Nat.le_refl _) _, heap_alloc_new w.drew _⟩
  rw [← hW1] at hrz
  clear hW1
  have HCS : Hid (∀ j v, cs[j]? = some v → w.cell? ⟨b, j, none⟩ = some v) := hcs
  have HVS : Hid (∀ j v, vs[j]? = some v → w.cell? ⟨vb, j, none⟩ = some v) := hvs
  have HLN : Hid ((cs.take (i * 6) ++ zs).length = G * 6) := by
    show _ = _
    rw [List.length_append, List.length_take, hzl, hcl]; omega
  have HL2 : Hid ((splice (cs.take (i * 6) ++ zs) (i * 6) vs).length = G * 6) := by
    have h := HLN.out
    show _ = _
    rw [splice_len (by omega), h]
  have HL3 : Hid ((splice (splice (cs.take (i * 6) ++ zs) (i * 6) vs) ((i + 1) * 6) (cs.drop (i * 6))).length = G * 6) := by
    have h := HL2.out
    show _ = _
    rw [splice_len (by rw [h, List.length_drop]; omega), h]
  have HTK := hid (splice_two cs vs zs i n ((G - i) * 6) hcl hvl hi hzl (by omega))
  have hGi : ¬ (G = i) := by omega
  have hGim : ¬ (G = i + 1) := by omega
  have hci : ¬ (n = i) := by omega
  have hcz : ¬ ((i : Int) = (n : Int)) := by omega
  have H1C : Hid (∀ v ∈ cs.drop (i * 6), v.oneCell' = true) := fun v hv => h1c v (List.mem_of_mem_drop hv)
  have H1V : Hid (∀ v ∈ vs, v.oneCell' = true) := h1v
  unfold maxLen at hGm
  have HM1 : Hid (Nat.min 1 (n + 1 - i) = 1) := by show _ = _; simp only [Nat.min_def]; split <;> omega
  have HM2 : Hid (Nat.min (n - i) (n + 1 - (i + 1)) = n - i) := by show _ = _; simp only [Nat.min_def]; split <;> omega
  have hcpA : ∀ ty, (Builtin.copy_ #[44, 24] ty #[.slice (some ⟨w.heap.size, i * 6, none⟩) (n + 1 - i) (G - i), .slice (some ⟨vb, 0, none⟩) 1 1]).run Try.prog W1 = .ok (goInt 1) (W1.setRow w.heap.size ((cs.take (i * 6) ++ zs).toArray.toList.take (i * 6) ++ vs ++ (cs.take (i * 6) ++ zs).toArray.toList.drop (i * 6 + vs.length)).toArray) := fun ty =>
    run_copy_rowK W1 _ _ ty 32 w.heap.size (i * 6) (n + 1 - i) (G - i) ⟨vb, 0, none⟩ 1 1 (cs.take (i * 6) ++ zs).toArray 32 vs 6 1 undQ hsz HB1.out.2 HM1.out (by omega) (fun j v hj => by rw [ad0, Nat.zero_add]; exact keepOt' HB1.out.1 hvw (HVS.out j v hj)) (by have := HLN.out; rw [List.size_toArray]; omega) H1V.out
  obtain ⟨W2, hW2⟩ : ∃ W2, W2 = W1.setRow w.heap.size ((cs.take (i * 6) ++ zs).toArray.toList.take (i * 6) ++ vs ++ (cs.take (i * 6) ++ zs).toArray.toList.drop (i * 6 + vs.length)).toArray := ⟨_, rfl⟩
  have HB2 : Hid (Below w.heap.size w W2 ∧ W2.heap[w.heap.size]? = some (.cells (splice (cs.take (i * 6) ++ zs) (i * 6) vs).toArray 32 (0, 0))) := by
    rw [hW2]
    exact ⟨below_setRow HB1.out.1 (Nat.le_refl _) _, by simpa [splice] using setRow_heap W1 w.heap.size _ _ 32 _ HB1.out.2⟩
  rw [← hW2] at hcpA
  have HB2d : Hid (Below w.heap.size w W2.drew ∧ W2.drew.heap[w.heap.size]? = some (.cells (splice (cs.take (i * 6) ++ zs) (i * 6) vs).toArray 32 (0, 0))) := ⟨HB2.out.1.drew, HB2.out.2⟩
  have HDL : Hid ((cs.drop (i * 6)).length = (n - i) * 6) := by show _ = _; rw [List.length_drop, hcl]; omega
  have HSC : Hid (∀ j v, (cs.drop (i * 6))[j]? = some v → W2.drew.cell? ((⟨b, i * 6, none⟩ : Addr).add j) = some v) := fun j v hj => by
    rw [ad0]
    rw [List.getElem?_drop] at hj
    exact keepOt' HB2d.out.1 hbw (HCS.out _ v hj)
  have HFT : Hid ((i + 1) * 6 + (cs.drop (i * 6)).length ≤ (splice (cs.take (i * 6) ++ zs) (i * 6) vs).length) := by
    have h1 := HL2.out
    have h2 := HDL.out
    show _ ≤ _
    omega
  clear hcs hvs h1c h1v hzs2 hG hi0 hz0 hzb hW2
  go_enter Try.func50, Try.ntmps50
  go_wp2_with (at_builtin; refine Lib.wpList_append_run _ rfl _ _ _ _ rfl _ _ rfl rfl _ _ (hrz _) ?_)
  have hw1 : IntKind.i64.wrap ((i : Int) + 1) = (i : Int) + 1 := by rw [IntKind.wrap_i64]; omega
  have hb1 : (0 : Int) ≤ (i : Int) + 1 := by omega
  have hin : i ≤ n := by omega
  have htn : ((i : Int) + 1).toNat = i + 1 := by omega
  have hb3 : (i : Int) ≤ (n : Int) := by omega
  have hb4 : (i : Int) + 1 ≤ (n : Int) + 1 := by omega
  have hb5 : i + 1 ≤ n + 1 := by omega
  go_region_law (refine step_copy_rowK rfl _ _ 44 44 rfl 32 6 (n - i) undQ hsz w.heap.size ((i + 1) * 6) (n + 1 - (i + 1)) (G - (i + 1)) ⟨b, i * 6, none⟩ (n - i) (n - i) (by simp [Act.eval, Act.put]) (by simp [Act.eval, Act.put]) (splice (cs.take (i * 6) ++ zs) (i * 6) vs) 32 HB2d.out.2 (cs.drop (i * 6)) HM2.out HDL.out HSC.out HFT.out H1C.out w.heap.size w HB2d.out.1 (Nat.le_refl _) ?_; intro W3 hg3 hb3; have HB3 : Hid (Below w.heap.size w W3 ∧ W3.heap[w.heap.size]? = some (.cells (splice (splice (cs.take (i * 6) ++ zs) (i * 6) vs) ((i + 1) * 6) (cs.drop (i * 6))).toArray 32 (0, 0))) := ⟨hb3, hg3.out⟩; clear hg3 hb3)
  go_wp2_with fail
  go_ret
  exact ⟨⟨G, _, rfl, HB3.out.2, hGn, hGm, by rw [List.size_toArray]; exact HL3.out, HTK.out⟩, HB3.out.1⟩
end Go.Proofs.Ytimnnedmpmlmdaa.Tr
