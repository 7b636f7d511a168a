/-
  A timer put among others: the program's AddTimer.
  (Ahead of it, in this text: Where a timer comes to stand: the program's search. A timer put into a row: the program's slices.Insert where the row has no room. A timer put into a row that has no room: the program's slices.Insert. A timer put at the end of a row that has no room: the program's slices.Insert. Rows of timers as the cells that they take, and one more among them. A timer put among others: where it comes to stand, and the program's add. TimersOk, the specification's and the program's.)
-/
import Derived.Test.YtnpbmfcilcnilaaTrF
import Derived.Test.YtnpbmfcilcnilaaTrK
import Derived.Laws.CopyOwn
import Derived.Lib.AppendZerosOnto
import Derived.Deep.RegionLaw
namespace Go.Proofs.Ytnpbmfcilcnilaa.Tr
open Go.RowKit Atom
set_option linter.unusedVariables false

set_option maxHeartbeats 1000000 in
set_option maxRecDepth 100000 in
theorem later1_any (l : List Sd) (ao : Option Addr) (cap i : Nat) (hi : i < l.length) (hl : l.length ≤ 1048576) (a p k n : Int) (s : ByteArray) (xo : Option Addr) (len xcap qb xb : Nat) (w : World) (hr : RowS w ao l) (hq : w.cell? ⟨qb, 0, none⟩ = some (.slice ao l.length cap))
    (x0 : w.cell? ⟨xb, 0, none⟩ = some (.int .i64 a)) (x1 : w.cell? ⟨xb, 1, none⟩ = some (.int .i64 p)) (x2 : w.cell? ⟨xb, 2, none⟩ = some (.int .i64 k)) (x3 : w.cell? ⟨xb, 3, none⟩ = some (.int .i64 n)) (x4 : w.cell? ⟨xb, 4, none⟩ = some (.string s)) (x5 : w.cell? ⟨xb, 5, none⟩ = some (.slice xo len xcap)) :
    Calls Try.prog 39 #[.int .i64 i, .pointer (some ⟨qb, 0, none⟩), .pointer (some ⟨xb, 0, none⟩)] w fun e w' => e = .returned (.bool (decide (a < l[i].kind))) ∧ Below w.heap.size w w' := by
  have q1 := meth_time
  rcases hr with h0 | ⟨b, o, rfl, hrow⟩
  · rw [h0] at hi; simp at hi
  have hbx := hrow i hi
  obtain ⟨tk, tn, ts, tao, tlen, tcap, e0, e1, e2, e3, _⟩ := hbx.t.cells
  have y := Inn.keep hq
  have c0 := Inn.keep hbx.c0
  have c1 := Inn.keep hbx.c1
  have c2 := Inn.keep e0
  have c3 := Inn.keep e1
  have c4 := Inn.keep e2
  have c5 := Inn.keep e3
  have d0 := Inn.keep x0
  have d1 := Inn.keep x1
  have d2 := Inn.keep x2
  have d3 := Inn.keep x3
  have d4 := Inn.keep x4
  have d5 := Inn.keep x5
  clear hrow hbx e0 e1 e2 e3 x0 x1 x2 x3 x4 x5 hq
  generalize (l[i]).pid = pp at *
  generalize l[i].kind = kk at *
  haveI := inn_ne w
  go_enter Try.func39, Try.ntmps39
  go_wp2_with fail
  refine wp_region_inn ?_ ?_ ?_
  · kernel_rfl
  · kernel_rfl
  repeat (go_big_quiet_step (first
    | (go_at_call 79; exact calls_inn (time_any _ _ _ _ _ _ _ _ _))))
  refine wpQuiet_nil ?_
  intro w7 h7
  have HB7 : Hid (Below w.heap.size w w7) := by
    obtain ⟨x7, h7⟩ := h7
    rw [h7]; exact x7.bel
  clear h7 c0 c1 c2 c3 c4 c5 d0 d1 d2 d3 d4 d5 y
  go_wp2_with fail
  go_ret
  exact ⟨rfl, HB7.out⟩

set_option maxHeartbeats 1000000 in
set_option maxRecDepth 100000 in
theorem search_any (n : Nat) (hn : n ≤ 1048576) (v1 v2 : Value) (p : Nat → Bool) (w : World)
    (hf : ∀ wc (i : Nat), Below w.heap.size w wc → i < n → Calls Try.prog 39 #[.int .i64 i, v1, v2] wc fun e w' => e = .returned (.bool (p i)) ∧ Below wc.heap.size wc w')
    (hm : ∀ a b, a ≤ b → b < n → p a = true → p b = true) :
    Calls Try.prog 38 #[.int .i64 n, .func (.func 39) #[] #[v1, v2]] w fun e w' => (∃ k : Nat, e = .returned (.int .i64 k) ∧ k ≤ n ∧ (∀ t, t < k → p t = false) ∧ (∀ t, k ≤ t → t < n → p t = true)) ∧ Below w.heap.size w w' := by
  have HF : Hid (∀ wc (i : Nat), Below w.heap.size w wc → i < n → Calls Try.prog 39 #[.int .i64 i, v1, v2] wc fun e w' => e = .returned (.bool (p i)) ∧ Below wc.heap.size wc w') := hf
  have HM : Hid (∀ a b, a ≤ b → b < n → p a = true → p b = true) := hm
  clear hf hm
  go_enter Try.func38, Try.ntmps38
  go_wp2_with fail
  go_loopw [5, 6] (fun s5 s6 wr => ∃ lo hi : Nat, s5 = .int .i64 lo ∧ s6 = .int .i64 hi ∧ lo ≤ hi ∧ hi ≤ n ∧ (∀ t, t < lo → p t = false) ∧ (∀ t, hi ≤ t → t < n → p t = true) ∧ Below w.heap.size w wr) (fun s5 s6 _ => (intOf s6).toNat - (intOf s5).toNat)
  case atStart => exact ⟨0, n, rfl, rfl, Nat.zero_le _, Nat.le_refl _, fun t ht => absurd ht (Nat.not_lt_zero _), (fun t h1 h2 => by omega), Below.refl _ _⟩
  case round =>
    obtain ⟨lo, hi, rfl, rfl, hlh, hin, hl0, hl1, hbe⟩ := hrel
    have HL : Hid ((∀ t, t < lo → p t = false) ∧ (∀ t, hi ≤ t → t < n → p t = true)) := ⟨hl0, hl1⟩
    have HBE : Hid (Below w.heap.size w wr) := hbe
    clear hl0 hl1 hbe
    by_cases hlt : lo < hi
    · have HC := hid (HF.out wr ((lo + hi) / 2) HBE.out (by omega))
      rw [show (((lo + hi) / 2 : Nat) : Int) = ((lo : Int) + (hi : Int)) / 2 by omega] at HC
      cases hp : p ((lo + hi) / 2) <;> rw [hp] at HC
      · have HP : Hid (p ((lo + hi) / 2) = false) := hp
        clear hp
        go_wp2_with (go_at_call 39; refine HC.out.mono ?_; rintro e w1 ⟨rfl, hb1⟩; have HB1 : Hid (Below w.heap.size w w1) := HBE.out.trans (hb1.mono HBE.out.size); clear hb1)
        go_roundw
        case rel => exact ⟨(lo + hi) / 2 + 1, hi, congrArg (Value.int .i64) (by omega), rfl, by omega, hin, fun t ht => (by
          cases h : p t with
          | false => rfl
          | true => have := HM.out t ((lo + hi) / 2) (by omega) (by omega) h; rw [HP.out] at this; cases this), HL.out.2, HB1.out⟩
        case measure => simp [intOf]; omega
      · have HP : Hid (p ((lo + hi) / 2) = true) := hp
        clear hp
        go_wp2_with (go_at_call 39; refine HC.out.mono ?_; rintro e w1 ⟨rfl, hb1⟩; have HB1 : Hid (Below w.heap.size w w1) := HBE.out.trans (hb1.mono HBE.out.size); clear hb1)
        go_roundw
        case rel => exact ⟨lo, (lo + hi) / 2, rfl, congrArg (Value.int .i64) (by omega), by omega, by omega, HL.out.1, fun t ht htn => HM.out ((lo + hi) / 2) t ht htn HP.out, HB1.out⟩
        case measure => simp [intOf]; omega
    · obtain rfl : hi = lo := by omega
      go_wp2_with fail
      go_ret
      exact ⟨⟨hi, rfl, hin, HL.out.1, HL.out.2⟩, HBE.out⟩
end Go.Proofs.Ytnpbmfcilcnilaa.Tr
namespace Go.Proofs.Ytnpbmfcilcnilaa.Tr
open Go.RowKit Atom
set_option linter.unusedVariables false

theorem run_copy_rowK {P : Program} (w : World) (dT sT ty elem : TypeId) (g o dLen dCap : Nat) (a : Addr) (sLen sCap : Nat) (cur : Array Value) (t : TypeId) (cs : List Value) (s m : Nat)
    (hu : P.underlying dT = some (.slice elem)) (hs : (P.info? elem).map (·.size) = some s)
    (hg : w.heap[g]? = some (.cells cur t (0, 0))) (hm : Nat.min sLen dLen = m) (hn : cs.length = m * s)
    (hsrc : ∀ j v, cs[j]? = some v → w.cell? (a.add j) = some v) (hfit : o + cs.length ≤ cur.size) (h1 : ∀ v ∈ cs, v.oneCell' = true) :
    (Builtin.copy_ #[dT, sT] ty #[.slice (some ⟨g, o, none⟩) dLen dCap, .slice (some a) sLen sCap]).run P w =
      .ok (goInt m) (w.setRow g (cur.toList.take o ++ cs ++ cur.toList.drop (o + cs.length)).toArray) := by
  have hl := run_loadCells_list (P := P) w a cs hsrc
  have hst := run_storeCells_at P g o t cs 0 cur w hg (by simpa using hfit) h1
  cases hq : P.info? elem with
  | none => simp [hq] at hs
  | some i =>
    have hi : i.size = s := by simpa [hq] using hs
    simp [Builtin.copy_, run_underlying hu, Builtin.lenOf, Builtin.firstCells, sizeOf, typeInfo, hq, hi, hm, ← hn, hl, hst]
theorem wpList_copy_rowK {P : Program} {w : World} {ops : Array Oper} {rest : List Oper} {o : Oper} {a : Act} {Q : Exit → Act → World → Prop} (hgd : o.guard = none) (d s : Operand) (dT sT : TypeId)
    (ho : o.op = .call { callee := .builtin .copy, args := #[d, s], argTypes := #[dT, sT] }) (elem : TypeId) (z m : Nat) (hu : P.underlying dT = some (.slice elem)) (hsz : (P.info? elem).map (·.size) = some z)
    (g off dLen dCap : Nat) (ad : Addr) (sLen sCap : Nat) (hd : a.eval d = .slice (some ⟨g, off, none⟩) dLen dCap) (hs : a.eval s = .slice (some ad) sLen sCap)
    (cur : List Value) (t : TypeId) (hg : w.heap[g]? = some (.cells cur.toArray t (0, 0))) (cs : List Value) (hm : Nat.min sLen dLen = m) (hn : cs.length = m * z)
    (hsrc : ∀ j v, cs[j]? = some v → w.cell? (ad.add j) = some v) (hfit : off + cs.length ≤ cur.length) (h1 : ∀ v ∈ cs, v.oneCell' = true) (B : Nat) (w0 : World) (hb : Below B w0 w) (hBg : B ≤ g)
    (h : ∀ w', Hid (w'.heap[g]? = some (.cells (splice cur off cs).toArray t (0, 0))) → Below B w0 w' → wpList P ops Q rest (a.put o.dst (goInt m)) w') : wpList P ops Q (o :: rest) a w := by
  refine wpList_plain hgd fun K hK => ?_
  have hrun := run_copy_rowK (P := P) w dT sT o.type elem g off dLen dCap ad sLen sCap cur.toArray t cs z m hu hsz hg hm hn hsrc (by simpa using hfit) h1
  unfold Oper.wp
  simp [execOp, ho, resolve, invoke, builtin, hd, hs, hrun, Result.andThen]
  exact hK _ _ (h _ (show _ = _ by simpa [splice] using setRow_heap w g _ _ t _ hg) (below_setRow hb hBg _))
theorem step_copy_rowK {P : Program} {ops : Array Oper} {o : Oper} {a : Act} {w : World} {K : Act → World → Prop} {Q : Exit → Act → World → Prop} {E : Prop} (hgd : o.guard = none) (d s : Operand) (dT sT : TypeId)
    (ho : o.op = .call { callee := .builtin .copy, args := #[d, s], argTypes := #[dT, sT] }) (elem : TypeId) (z m : Nat) (hu : P.underlying dT = some (.slice elem)) (hsz : (P.info? elem).map (·.size) = some z)
    (g off dLen dCap : Nat) (ad : Addr) (sLen sCap : Nat) (hd : a.eval d = .slice (some ⟨g, off, none⟩) dLen dCap) (hs : a.eval s = .slice (some ad) sLen sCap)
    (cur : List Value) (t : TypeId) (hg : w.heap[g]? = some (.cells cur.toArray t (0, 0))) (cs : List Value) (hm : Nat.min sLen dLen = m) (hn : cs.length = m * z)
    (hsrc : ∀ j v, cs[j]? = some v → w.cell? (ad.add j) = some v) (hfit : off + cs.length ≤ cur.length) (h1 : ∀ v ∈ cs, v.oneCell' = true) (B : Nat) (w0 : World) (hb : Below B w0 w) (hBg : B ≤ g)
    (h : ∀ w', Hid (w'.heap[g]? = some (.cells (splice cur off cs).toArray t (0, 0))) → Below B w0 w' → K (a.put o.dst (goInt m)) w') :
    if Region.wanted o (yielded ops a.tmps) = true then Oper.wp P o a w K Q else E := by
  have hw : Region.wanted o (yielded ops a.tmps) = true := by simp [Region.wanted, hgd]
  rw [if_pos hw]
  have hrun := run_copy_rowK (P := P) w dT sT o.type elem g off dLen dCap ad sLen sCap cur.toArray t cs z m hu hsz hg hm hn hsrc (by simpa using hfit) h1
  unfold Oper.wp
  simp [execOp, ho, resolve, invoke, builtin, hd, hs, hrun, Result.andThen]
  exact h _ (show _ = _ by simpa [splice] using setRow_heap w g _ _ t _ hg) (below_setRow hb hBg _)
theorem keepOt' {w w' : World} (h : Below w.heap.size w w') {b o : Nat} {v : Value} (hb : b < w.heap.size) (hc : w.cell? ⟨b, o, none⟩ = some v) : w'.cell? ⟨b, o, none⟩ = some v :=
  (World.cell?_of_block (w := w) (h.block b hb)).trans hc
theorem splice_len {L cs : List Value} {off : Nat} (h : off + cs.length ≤ L.length) : (splice L off cs).length = L.length := by
  unfold splice
  rw [List.length_append, List.length_append, List.length_take, List.length_drop]; omega
/-- What the two copies leave in the new row. -/
theorem splice_two (cs vs zs : List Value) (i n m : Nat) (hcl : cs.length = n * 6) (hvl : vs.length = 6) (hi : i < n) (hz : zs.length = m) (hzm : (n + 1 - i) * 6 ≤ m) :
    (splice (splice (cs.take (i * 6) ++ zs) (i * 6) vs) ((i + 1) * 6) (cs.drop (i * 6))).take ((n + 1) * 6) = cs.take (i * 6) ++ (vs ++ cs.drop (i * 6)) := by
  have h1 : (cs.take (i * 6)).length = i * 6 := by rw [List.length_take]; omega
  have e1 : splice (cs.take (i * 6) ++ zs) (i * 6) vs = (cs.take (i * 6) ++ vs) ++ zs.drop 6 := by
    unfold splice
    rw [List.take_append_of_le_length (by omega), List.take_of_length_le (by omega), List.drop_append, List.drop_of_length_le (by omega), List.nil_append, h1, hvl, show i * 6 + 6 - i * 6 = 6 by omega, List.append_assoc]
  rw [e1, ← List.append_assoc (cs.take (i * 6)) vs (cs.drop (i * 6))]
  have h2 : (cs.take (i * 6) ++ vs).length = (i + 1) * 6 := by rw [List.length_append, h1, hvl]; omega
  have h3 : (cs.drop (i * 6)).length = (n - i) * 6 := by rw [List.length_drop, hcl]; omega
  generalize cs.take (i * 6) ++ vs = X at h2 ⊢
  generalize cs.drop (i * 6) = D at h3 ⊢
  generalize zs.drop 6 = Z
  unfold splice
  rw [List.take_append_of_le_length (show (i + 1) * 6 ≤ X.length by omega), List.take_of_length_le (show X.length ≤ (i + 1) * 6 by omega), ← List.append_assoc, List.take_append_of_le_length (by rw [List.length_append]; omega), List.take_of_length_le (by rw [List.length_append]; omega)]
end Go.Proofs.Ytnpbmfcilcnilaa.Tr
namespace Go.Proofs.Ytnpbmfcilcnilaa.Tr
open Go.RowKit Atom
set_option linter.unusedVariables false

set_option maxHeartbeats 4000000 in
set_option maxRecDepth 100000 in
theorem insertGrow_any (cs vs : List Value) (n i b vb : Nat) (w : World) (hi : i < n) (hn : n ≤ 1048576) (hcl : cs.length = n * 6) (hvl : vs.length = 6)
    (hcs : ∀ j v, cs[j]? = some v → w.cell? ⟨b, j, none⟩ = some v) (hvs : ∀ j v, vs[j]? = some v → w.cell? ⟨vb, j, none⟩ = some v) (h1c : ∀ v ∈ cs, v.oneCell' = true) (h1v : ∀ v ∈ vs, v.oneCell' = true) :
    Calls Try.prog 40 #[.slice (some ⟨b, 0, none⟩) n n, .int .i64 i, .slice (some ⟨vb, 0, none⟩) 1 1] w fun e w' =>
      (∃ c cur, e = .returned (.slice (some ⟨w.heap.size, 0, none⟩) (n + 1) c) ∧ w'.heap[w.heap.size]? = some (.cells cur 38 (0, 0)) ∧ n + 1 ≤ c ∧ c ≤ maxLen ∧ cur.size = c * 6 ∧ cur.toList.take ((n + 1) * 6) = cs.take (i * 6) ++ (vs ++ cs.drop (i * 6))) ∧ Below w.heap.size w w' := by
  obtain ⟨i0, hi0, hzz⟩ := Option.map_eq_some_iff.1 infoTimer
  simp only [Prod.mk.injEq] at hzz
  obtain ⟨hz0, hzs, hzb⟩ := hzz
  have hsz : (Try.prog.info? 38).map (·.size) = some 6 := by rw [hi0]; simp [hzs]
  have hint : Try.prog.underlying 3 = some (.int .i64) := Try.underlying3
  have hbw : b < w.heap.size := World.block_lt_of_cell? w ⟨b, 0, none⟩ (hcs 0 _ (List.getElem?_eq_getElem (by omega)))
  have hvw : vb < w.heap.size := World.block_lt_of_cell? w ⟨vb, 0, none⟩ (hvs 0 _ (List.getElem?_eq_getElem (by omega)))
  have hkk : (n : Int) + 1 - (i : Int) = ((n + 1 - i : Nat) : Int) := by omega
  have hik : i + (n + 1 - i) = n + 1 := by omega
  have ad0 : ∀ (x y j : Nat), (⟨x, y, none⟩ : Addr).add j = ⟨x, y + j, none⟩ := fun x y j => by rw [Addr.add_lit]
  have hold : (Builtin.firstCells i0.size i (.slice (some ⟨b, 0, none⟩) i n)).run Try.prog w.drew = .ok (cs.take (i * 6)).toArray w.drew := by
    rw [hzs]
    exact run_firstCells_some (w := w.drew) 6 i ⟨b, 0, none⟩ i n (cs.take (i * 6)) (by rw [List.length_take]; omega) (fun j v hj => by
      rw [ad0, Nat.zero_add]
      rw [List.getElem?_take] at hj
      split at hj
      · exact hcs j v hj
      · cases hj)
  obtain ⟨G, hG⟩ : ∃ G, G = grownCap w (n + 1) n 38 := ⟨_, rfl⟩
  obtain ⟨zs, hzs2⟩ : ∃ zs : List Value, zs = (Builtin.zeroCells (Value.agg #[.int .i64 0, .int .i64 0, .int .i64 0, .int .i64 0, .string ⟨#[]⟩, .slice none 0 0]).cells (n + 1 - i) ++ Builtin.zeroCells (Value.agg #[.int .i64 0, .int .i64 0, .int .i64 0, .int .i64 0, .string ⟨#[]⟩, .slice none 0 0]).cells (G - (n + 1))).toList := ⟨_, rfl⟩
  have hGn : n + 1 ≤ G := by rw [hG]; exact grownCap_ge w _ _ _
  have hGm : G ≤ maxLen := by rw [hG]; exact grownCap_le_maxLen w _ _ _ (by unfold maxLen; omega)
  have hzl : zs.length = (G - i) * 6 := by
    rw [hzs2]
    simp [size_zeroCells, Value.cells]
    omega
  have hrz : ∀ ty, (Builtin.append_ #[51, 3] ty #[.slice (some ⟨b, 0, none⟩) i n, .int .i64 ((n : Int) + 1 - (i : Int))]).run Try.prog w =
      .ok (.slice (some ⟨w.heap.size, 0, none⟩) (n + 1) G) (w.drew.alloc (.cells (cs.take (i * 6) ++ zs).toArray 38)) := fun ty => by
    have h := Lib.run_append_grow_zeros w 51 3 ty 38 i0 _ .i64 .i64 undQ hint hi0 hz0 (some ⟨b, 0, none⟩) i n (cs.take (i * 6)) hold (n + 1 - i) (by omega) (by omega) (by omega) (by omega) (by rw [hzb]; omega) (by rw [hzb, hik]; exact growslice_fits (by omega) (by omega))
    rw [hik, ← hG] at h
    have harr : (cs.take (i * 6) ++ zs).toArray = (cs.take (i * 6)).toArray ++ Builtin.zeroCells (Value.agg #[.int .i64 0, .int .i64 0, .int .i64 0, .int .i64 0, .string ⟨#[]⟩, .slice none 0 0]).cells (n + 1 - i) ++ Builtin.zeroCells (Value.agg #[.int .i64 0, .int .i64 0, .int .i64 0, .int .i64 0, .string ⟨#[]⟩, .slice none 0 0]).cells (G - (n + 1)) := by
      rw [hzs2]
      apply Array.ext'
      simp only [Array.toList_append, List.append_assoc]
    rw [hkk, harr]
    exact h
  clear hold hkk
  obtain ⟨W1, hW1⟩ : ∃ W1, W1 = w.drew.alloc (.cells (cs.take (i * 6) ++ zs).toArray 38) := ⟨_, rfl⟩
  have HB1 : Hid (Below w.heap.size w W1 ∧ W1.heap[w.heap.size]? = some (.cells (cs.take (i * 6) ++ zs).toArray 38 (0, 0))) := by
    rw [hW1]
    exact ⟨((Below.refl w.heap.size w).drew).alloc (Nat.le_refl _) _, heap_alloc_new w.drew _⟩
  rw [← hW1] at hrz
  clear hW1
  have HCS : Hid (∀ j v, cs[j]? = some v → w.cell? ⟨b, j, none⟩ = some v) := hcs
  have HVS : Hid (∀ j v, vs[j]? = some v → w.cell? ⟨vb, j, none⟩ = some v) := hvs
  have HLN : Hid ((cs.take (i * 6) ++ zs).length = G * 6) := by
    show _ = _
    rw [List.length_append, List.length_take, hzl, hcl]; omega
  have HL2 : Hid ((splice (cs.take (i * 6) ++ zs) (i * 6) vs).length = G * 6) := by
    have h := HLN.out
    show _ = _
    rw [splice_len (by omega), h]
  have HL3 : Hid ((splice (splice (cs.take (i * 6) ++ zs) (i * 6) vs) ((i + 1) * 6) (cs.drop (i * 6))).length = G * 6) := by
    have h := HL2.out
    show _ = _
    rw [splice_len (by rw [h, List.length_drop]; omega), h]
  have HTK := hid (splice_two cs vs zs i n ((G - i) * 6) hcl hvl hi hzl (by omega))
  have hGi : ¬ (G = i) := by omega
  have hGim : ¬ (G = i + 1) := by omega
  have hci : ¬ (n = i) := by omega
  have hcz : ¬ ((i : Int) = (n : Int)) := by omega
  have H1C : Hid (∀ v ∈ cs.drop (i * 6), v.oneCell' = true) := fun v hv => h1c v (List.mem_of_mem_drop hv)
  have H1V : Hid (∀ v ∈ vs, v.oneCell' = true) := h1v
  unfold maxLen at hGm
  have HM1 : Hid (Nat.min 1 (n + 1 - i) = 1) := by show _ = _; simp only [Nat.min_def]; split <;> omega
  have HM2 : Hid (Nat.min (n - i) (n + 1 - (i + 1)) = n - i) := by show _ = _; simp only [Nat.min_def]; split <;> omega
  have hcpA : ∀ ty, (Builtin.copy_ #[51, 30] ty #[.slice (some ⟨w.heap.size, i * 6, none⟩) (n + 1 - i) (G - i), .slice (some ⟨vb, 0, none⟩) 1 1]).run Try.prog W1 = .ok (goInt 1) (W1.setRow w.heap.size ((cs.take (i * 6) ++ zs).toArray.toList.take (i * 6) ++ vs ++ (cs.take (i * 6) ++ zs).toArray.toList.drop (i * 6 + vs.length)).toArray) := fun ty =>
    run_copy_rowK W1 _ _ ty 38 w.heap.size (i * 6) (n + 1 - i) (G - i) ⟨vb, 0, none⟩ 1 1 (cs.take (i * 6) ++ zs).toArray 38 vs 6 1 undQ hsz HB1.out.2 HM1.out (by omega) (fun j v hj => by rw [ad0, Nat.zero_add]; exact keepOt' HB1.out.1 hvw (HVS.out j v hj)) (by have := HLN.out; rw [List.size_toArray]; omega) H1V.out
  obtain ⟨W2, hW2⟩ : ∃ W2, W2 = W1.setRow w.heap.size ((cs.take (i * 6) ++ zs).toArray.toList.take (i * 6) ++ vs ++ (cs.take (i * 6) ++ zs).toArray.toList.drop (i * 6 + vs.length)).toArray := ⟨_, rfl⟩
  have HB2 : Hid (Below w.heap.size w W2 ∧ W2.heap[w.heap.size]? = some (.cells (splice (cs.take (i * 6) ++ zs) (i * 6) vs).toArray 38 (0, 0))) := by
    rw [hW2]
    exact ⟨below_setRow HB1.out.1 (Nat.le_refl _) _, by simpa [splice] using setRow_heap W1 w.heap.size _ _ 38 _ HB1.out.2⟩
  rw [← hW2] at hcpA
  have HB2d : Hid (Below w.heap.size w W2.drew ∧ W2.drew.heap[w.heap.size]? = some (.cells (splice (cs.take (i * 6) ++ zs) (i * 6) vs).toArray 38 (0, 0))) := ⟨HB2.out.1.drew, HB2.out.2⟩
  have HDL : Hid ((cs.drop (i * 6)).length = (n - i) * 6) := by show _ = _; rw [List.length_drop, hcl]; omega
  have HSC : Hid (∀ j v, (cs.drop (i * 6))[j]? = some v → W2.drew.cell? ((⟨b, i * 6, none⟩ : Addr).add j) = some v) := fun j v hj => by
    rw [ad0]
    rw [List.getElem?_drop] at hj
    exact keepOt' HB2d.out.1 hbw (HCS.out _ v hj)
  have HFT : Hid ((i + 1) * 6 + (cs.drop (i * 6)).length ≤ (splice (cs.take (i * 6) ++ zs) (i * 6) vs).length) := by
    have h1 := HL2.out
    have h2 := HDL.out
    show _ ≤ _
    omega
  clear hcs hvs h1c h1v hzs2 hG hi0 hz0 hzb hW2
  go_enter Try.func40, Try.ntmps40
  go_wp2_with (at_builtin; refine Lib.wpList_append_run _ rfl _ _ _ _ rfl _ _ rfl rfl _ _ (hrz _) ?_)
  have hw1 : IntKind.i64.wrap ((i : Int) + 1) = (i : Int) + 1 := by rw [IntKind.wrap_i64]; omega
  have hb1 : (0 : Int) ≤ (i : Int) + 1 := by omega
  have hin : i ≤ n := by omega
  have htn : ((i : Int) + 1).toNat = i + 1 := by omega
  have hb3 : (i : Int) ≤ (n : Int) := by omega
  have hb4 : (i : Int) + 1 ≤ (n : Int) + 1 := by omega
  have hb5 : i + 1 ≤ n + 1 := by omega
  go_region_law (refine step_copy_rowK rfl _ _ 51 51 rfl 38 6 (n - i) undQ hsz w.heap.size ((i + 1) * 6) (n + 1 - (i + 1)) (G - (i + 1)) ⟨b, i * 6, none⟩ (n - i) (n - i) (by simp [Act.eval, Act.put]) (by simp [Act.eval, Act.put]) (splice (cs.take (i * 6) ++ zs) (i * 6) vs) 38 HB2d.out.2 (cs.drop (i * 6)) HM2.out HDL.out HSC.out HFT.out H1C.out w.heap.size w HB2d.out.1 (Nat.le_refl _) ?_; intro W3 hg3 hb3; have HB3 : Hid (Below w.heap.size w W3 ∧ W3.heap[w.heap.size]? = some (.cells (splice (splice (cs.take (i * 6) ++ zs) (i * 6) vs) ((i + 1) * 6) (cs.drop (i * 6))).toArray 38 (0, 0))) := ⟨hb3, hg3.out⟩; clear hg3 hb3)
  go_wp2_with fail
  go_ret
  exact ⟨⟨G, _, rfl, HB3.out.2, hGn, hGm, by rw [List.size_toArray]; exact HL3.out, HTK.out⟩, HB3.out.1⟩
end Go.Proofs.Ytnpbmfcilcnilaa.Tr
namespace Go.Proofs.Ytnpbmfcilcnilaa.Tr
open Go.RowKit Atom
set_option linter.unusedVariables false

theorem run_append_grow2 {P : Program} {w : World} (t u ty e e2 : TypeId) (i : TypeInfo) (z : Value) (ht : P.underlying t = some (.slice e)) (hu : P.underlying u = some (.slice e2)) (hi : P.info? e = some i) (hz : i.zero = some z)
    (b : Addr) (sLen sCap : Nat) (olds : List Value) (hlo : olds.length = sLen * i.size) (holds : ∀ j v, olds[j]? = some v → w.cell? (b.add j) = some v)
    (a : Addr) (n c : Nat) (news : List Value) (hl : news.length = n * i.size) (hnews : ∀ j v, news[j]? = some v → w.cell? (a.add j) = some v)
    (hg : sCap < sLen + n) (h63 : ((sLen + n : Nat) : Int) ≤ 9223372036854775807) (hfit : Builtin.nextslicecap (sLen + n) sCap * i.bytes ≤ 281474976710656) :
    (Builtin.append_ #[t, u] ty #[.slice (some b) sLen sCap, .slice (some a) n c]).run P w =
      .ok (.slice (some ⟨w.heap.size, 0, none⟩) (sLen + n) (grownCap w (sLen + n) sCap e))
        (w.drew.alloc (.cells (olds.toArray ++ news.toArray ++ Builtin.zeroCells z.cells (grownCap w (sLen + n) sCap e - (sLen + n))) e)) := by
  have hsame : (Builtin.append_ #[t, u] ty #[.slice (some b) sLen sCap, .slice (some a) n c]).run P w = (Builtin.append_ #[t, t] ty #[.slice (some b) sLen sCap, .slice (some a) n c]).run P w := by
    simp [Builtin.append_, run_underlying ht, run_underlying hu]
  rw [hsame]
  exact run_append_grow w t ty e i z ht hi hz b sLen sCap olds hlo holds a n c news hl hnews hg h63 hfit

set_option maxHeartbeats 4000000 in
set_option maxRecDepth 100000 in
theorem insertEnd_any (cs vs : List Value) (n b vb : Nat) (w : World) (hn : n ≤ 1048576) (hcl : cs.length = n * 6) (hvl : vs.length = 6)
    (hcs : ∀ j v, cs[j]? = some v → w.cell? ⟨b, j, none⟩ = some v) (hvs : ∀ j v, vs[j]? = some v → w.cell? ⟨vb, j, none⟩ = some v) :
    Calls Try.prog 40 #[.slice (some ⟨b, 0, none⟩) n n, .int .i64 n, .slice (some ⟨vb, 0, none⟩) 1 1] w fun e w' =>
      (∃ c cur, e = .returned (.slice (some ⟨w.heap.size, 0, none⟩) (n + 1) c) ∧ w'.heap[w.heap.size]? = some (.cells cur 38 (0, 0)) ∧ n + 1 ≤ c ∧ c ≤ maxLen ∧ cur.size = c * 6 ∧ cur.toList.take ((n + 1) * 6) = cs ++ vs) ∧ Below w.heap.size w w' := by
  obtain ⟨i0, hi0, hzz⟩ := Option.map_eq_some_iff.1 infoTimer
  simp only [Prod.mk.injEq] at hzz
  obtain ⟨hz0, hzs, hzb⟩ := hzz
  have ad0 : ∀ (x y j : Nat), (⟨x, y, none⟩ : Addr).add j = ⟨x, y + j, none⟩ := fun x y j => by rw [Addr.add_lit]
  obtain ⟨G, hG⟩ : ∃ G, G = grownCap w (n + 1) n 38 := ⟨_, rfl⟩
  have hGn : n + 1 ≤ G := by rw [hG]; exact grownCap_ge w _ _ _
  have hGm : G ≤ maxLen := by rw [hG]; exact grownCap_le_maxLen w _ _ _ (by unfold maxLen; omega)
  obtain ⟨R, hR⟩ : ∃ R : Array Value, R = cs.toArray ++ vs.toArray ++ Builtin.zeroCells (Value.agg #[.int .i64 0, .int .i64 0, .int .i64 0, .int .i64 0, .string ⟨#[]⟩, .slice none 0 0]).cells (G - (n + 1)) := ⟨_, rfl⟩
  have hRs : R.size = G * 6 := by
    rw [hR]
    simp [size_zeroCells, Value.cells]
    omega
  have hRt : R.toList.take ((n + 1) * 6) = cs ++ vs := by
    rw [hR, Array.toList_append, Array.toList_append]
    rw [List.take_append_of_le_length (by simp; omega), List.take_of_length_le (by simp; omega)]
  have hra : ∀ ty, (Builtin.append_ #[51, 30] ty #[.slice (some ⟨b, 0, none⟩) n n, .slice (some ⟨vb, 0, none⟩) 1 1]).run Try.prog w = .ok (.slice (some ⟨w.heap.size, 0, none⟩) (n + 1) G) (w.drew.alloc (.cells R 38)) := fun ty => by
    rw [hR, hG]
    exact run_append_grow2 _ _ ty 38 38 i0 _ undQ undTimerS hi0 hz0 ⟨b, 0, none⟩ n n cs (by rw [hzs]; exact hcl) (fun j v hj => by rw [ad0, Nat.zero_add]; exact hcs j v hj) ⟨vb, 0, none⟩ 1 1 vs (by rw [hzs]; omega) (fun j v hj => by rw [ad0, Nat.zero_add]; exact hvs j v hj) (by omega) (by omega) (by rw [hzb]; exact growslice_fits (by omega) (by omega))
  have HB1 : Hid (Below w.heap.size w (w.drew.alloc (.cells R 38)) ∧ (w.drew.alloc (.cells R 38)).heap[w.heap.size]? = some (.cells R 38 (0, 0))) :=
    ⟨((Below.refl w.heap.size w).drew).alloc (Nat.le_refl _) _, heap_alloc_new w.drew _⟩
  obtain ⟨W1, hW1⟩ : ∃ W1, W1 = w.drew.alloc (.cells R 38) := ⟨_, rfl⟩
  rw [← hW1] at hra HB1
  clear hW1 hR hG hi0 hz0 hcs hvs
  go_enter Try.func40, Try.ntmps40
  go_wp2_with (at_builtin; refine Lib.wpList_append_run _ rfl _ _ _ _ rfl _ _ rfl rfl _ _ (hra _) ?_)
  go_ret
  exact ⟨⟨G, R, rfl, HB1.out.2, hGn, hGm, hRs, hRt⟩, HB1.out.1⟩
end Go.Proofs.Ytnpbmfcilcnilaa.Tr
namespace Go.Proofs.Ytnpbmfcilcnilaa.Tr
open Go.RowKit Atom
set_option linter.unusedVariables false

/-- A row as its cells. -/
theorem gr_cells {w : World} {g : Nat} : ∀ (l : List Sd) (bs : List Nat) (off : Nat), GR eltS w l bs g off → ∃ cs, VL eltS w l cs bs ∧ cs.length = l.length * 6 ∧ (∀ j v, cs[j]? = some v → w.cell? ⟨g, off + j, none⟩ = some v) ∧ ∀ v ∈ cs, v.oneCell' = true
  | [], bs, off, h => by
    rw [GR] at h
    exact ⟨[], ⟨rfl, h⟩, rfl, (fun j v hj => by simp at hj), fun v hv => by cases hv⟩
  | x :: r, bs, off, h => by
    rw [GR] at h
    obtain ⟨b1, b2, eb, hE, hr⟩ := h
    obtain ⟨cs, hv, hl, hc, h1⟩ := gr_cells r b2 (off + eltS.s) hr
    obtain ⟨ta, tp, t⟩ := x
    obtain ⟨tk, tn, ts, tl⟩ := t
    obtain ⟨d0, d1, hOT⟩ := hE
    dsimp only at d0 d1 hOT
    rw [OsT] at hOT
    obtain ⟨d2, d3, d4, hs4, tao, tcap, d5, hl5, hc5, hr5⟩ := hOT
    refine ⟨[.int .i64 ta, .int .i64 tp, .int .i64 tk, .int .i64 tn, .string ts, .slice tao tl.length tcap] ++ cs, ⟨_, cs, b1, b2, rfl, eb, ve_timer (x := ⟨ta, tp, .mk tk tn ts tl⟩) ⟨tao, tcap, rfl, hs4, hl5, hc5, hr5⟩, hv⟩, ?_, fun j v hj => ?_, fun v hv' => ?_⟩
    · rw [List.length_append, hl, List.length_cons]
      show 6 + r.length * 6 = (r.length + 1) * 6
      omega
    · rcases Nat.lt_or_ge j 6 with h6 | h6
      · rw [List.getElem?_append_left (by show j < 6; exact h6)] at hj
        match j, h6 with
        | 0, _ => exact d0.trans hj
        | 1, _ => exact d1.trans hj
        | 2, _ => exact d2.trans hj
        | 3, _ => exact d3.trans hj
        | 4, _ => exact d4.trans hj
        | 5, _ => exact d5.trans hj
      · rw [List.getElem?_append_right (by show 6 ≤ j; exact h6)] at hj
        have := hc (j - 6) v hj
        rw [show off + eltS.s + (j - 6) = off + j by show off + 6 + (j - 6) = _; omega] at this
        exact this
    · rcases List.mem_append.1 hv' with q | q
      · exact sixOne v q
      · exact h1 v q
/-- One more at the place i. -/
def putAt (l : List Sd) (i : Nat) (x : Sd) : List Sd := l.take i ++ x :: l.drop i
theorem VL.insert {w : World} {x : Sd} {vs : List Value} {bx : List Nat} (hx : VE eltS w x vs bx) : ∀ (i : Nat) (l : List Sd) (cs : List Value) (bs : List Nat), VL eltS w l cs bs → i ≤ l.length → ∃ bs', VL eltS w (putAt l i x) (cs.take (i * 6) ++ (vs ++ cs.drop (i * 6))) bs' ∧ bs'.Perm (bx ++ bs)
  | 0, l, cs, bs, h, _ => ⟨bx ++ bs, ⟨vs, cs, bx, bs, by simp, rfl, hx, by simpa using h⟩, List.Perm.refl _⟩
  | i + 1, [], cs, bs, h, hi => by simp at hi
  | i + 1, a :: r, cs, bs, h, hi => by
    obtain ⟨va, ys, b1, b2, e1, e2, ha, hr⟩ := h
    obtain ⟨bs', hv, hp⟩ := VL.insert hx i r ys b2 hr (by simpa using hi)
    have h6 : va.length = 6 := ha.1
    refine ⟨b1 ++ bs', ⟨va, ys.take (i * 6) ++ (vs ++ ys.drop (i * 6)), b1, bs', ?_, rfl, ha, hv⟩, ?_⟩
    · have t1 : (va ++ ys).take ((i + 1) * 6) = va ++ ys.take (i * 6) := by
        rw [List.take_append, List.take_of_length_le (by omega), h6, show (i + 1) * 6 - 6 = i * 6 by omega]
      have t2 : (va ++ ys).drop ((i + 1) * 6) = ys.drop (i * 6) := by
        rw [List.drop_append, List.drop_of_length_le (by omega), h6, show (i + 1) * 6 - 6 = i * 6 by omega, List.nil_append]
      rw [e1, t1, t2, List.append_assoc]
    · rw [e2]
      exact (List.Perm.append_left b1 hp).trans (List.perm_append_comm_assoc _ _ _)
end Go.Proofs.Ytnpbmfcilcnilaa.Tr
namespace Go.Proofs.Ytnpbmfcilcnilaa.Tr
open Go.RowKit Atom
set_option linter.unusedVariables false

/-- All ahead of k are not later, all from k on are later. -/
structure Place (l : List Sd) (a : Int) (k : Nat) : Prop where
  le : k ≤ l.length
  lo : ∀ t, t < k → (h2 : t < l.length) → l[t].kind ≤ a
  hi : ∀ t, k ≤ t → (h2 : t < l.length) → a < l[t].kind
def plc (l : List Sd) (a : Int) : Nat := (l.takeWhile (fun y => decide (y.kind ≤ a))).length
theorem Place.eq : ∀ {l : List Sd} {a : Int} {k : Nat}, Place l a k → k = plc l a
  | [], a, k, h => by have := h.le; simp at this; unfold plc; simpa using this
  | y :: r, a, 0, h => by
    have h0 : a < y.kind := h.hi 0 (Nat.le_refl _) (by simp)
    unfold plc
    rw [List.takeWhile_cons_of_neg (by simpa using h0)]; rfl
  | y :: r, a, k + 1, h => by
    have h0 : y.kind ≤ a := h.lo 0 (by omega) (by simp)
    have ih := Place.eq (l := r) (a := a) (k := k) ⟨by have := h.le; simpa using this, fun t ht h2 => h.lo (t + 1) (by omega) (by simpa using h2), fun t ht h2 => h.hi (t + 1) (by omega) (by simpa using h2)⟩
    unfold plc at ih ⊢
    rw [List.takeWhile_cons_of_pos (by simpa using h0), List.length_cons, ← ih]
def insT (l : List Sd) (x : Sd) : List Sd := putAt l (plc l x.kind) x
theorem insT_length (l : List Sd) (x : Sd) : (insT l x).length = l.length + 1 := by
  have h1 : plc l x.kind ≤ l.length := (List.takeWhile_sublist _).length_le
  unfold insT putAt
  simp; omega
theorem ord_le {l : List Sd} (h : ordB l = true) (i : Nat) : ∀ (d : Nat) (hid : i + d < l.length), (l[i]'(by omega)).kind ≤ l[i + d].kind
  | 0, hid => Int.le_refl _
  | d + 1, hid => by
    have h1 := ord_le h i d (by omega)
    have h2 : (l[i + d]'(by omega)).kind ≤ l[i + (d + 1)].kind := (of_decide_eq_true h) (i + (d + 1)) hid
    exact Int.le_trans h1 h2
theorem gl_cells {w : World} {l : List Sd} {bs : List Nat} {g : Nat} (h : GL eltS w l bs (some ⟨g, 0, none⟩)) : ∃ cs b0, VL eltS w l cs b0 ∧ cs.length = l.length * 6 ∧ (∀ j v, cs[j]? = some v → w.cell? ⟨g, j, none⟩ = some v) ∧ (∀ v ∈ cs, v.oneCell' = true) ∧ (∀ b ∈ b0, b ∈ bs) ∧ (bs.Nodup → b0.Nodup) := by
  rcases h with ⟨rfl, rfl⟩ | ⟨hl, g', o, b, rfl, e2, hf, hr⟩
  · exact ⟨[], [], ⟨rfl, rfl⟩, rfl, (fun j v hj => by simp at hj), (fun v hv => by cases hv), (fun b hb => hb), fun h => h⟩
  · injection e2 with e2
    injection e2 with e3 e4
    subst e3 e4
    obtain ⟨cs, hv, hlen, hc, h1⟩ := gr_cells l b 0 hr
    exact ⟨cs, b, hv, hlen, fun j v hj => by have := hc j v hj; rwa [Nat.zero_add] at this, h1, fun x hx => List.mem_cons_of_mem _ hx, fun hn => (List.nodup_cons.1 hn).2⟩
theorem insert_any (cs vs : List Value) (n i b vb : Nat) (w : World) (hi : i ≤ n) (hn : n ≤ 1048576) (hcl : cs.length = n * 6) (hvl : vs.length = 6)
    (hcs : ∀ j v, cs[j]? = some v → w.cell? ⟨b, j, none⟩ = some v) (hvs : ∀ j v, vs[j]? = some v → w.cell? ⟨vb, j, none⟩ = some v) (h1c : ∀ v ∈ cs, v.oneCell' = true) (h1v : ∀ v ∈ vs, v.oneCell' = true) :
    Calls Try.prog 40 #[.slice (some ⟨b, 0, none⟩) n n, .int .i64 i, .slice (some ⟨vb, 0, none⟩) 1 1] w fun e w' =>
      (∃ c cur, e = .returned (.slice (some ⟨w.heap.size, 0, none⟩) (n + 1) c) ∧ w'.heap[w.heap.size]? = some (.cells cur 38 (0, 0)) ∧ n + 1 ≤ c ∧ c ≤ maxLen ∧ cur.size = c * 6 ∧ cur.toList.take ((n + 1) * 6) = cs.take (i * 6) ++ (vs ++ cs.drop (i * 6))) ∧ Below w.heap.size w w' := by
  rcases Nat.lt_or_ge i n with h | h
  · exact insertGrow_any cs vs n i b vb w h hn hcl hvl hcs hvs h1c h1v
  · obtain rfl : i = n := by omega
    refine (insertEnd_any cs vs i b vb w hn hcl hvl hcs hvs).mono ?_
    rintro e w' ⟨⟨c, cur, h1, h2, h3, h4, h5, h6⟩, hb⟩
    refine ⟨⟨c, cur, h1, h2, h3, h4, h5, ?_⟩, hb⟩
    rw [h6, List.take_of_length_le (by omega), List.drop_of_length_le (by omega), List.append_nil]

set_option maxHeartbeats 2000000 in
set_option maxRecDepth 100000 in
theorem add_any (l : List Sd) (bs bx : List Nat) (g : Nat) (a p k n : Int) (s : ByteArray) (tl : List Tm) (xo : Option Addr) (xcap : Nat) (w : World)
    (hg : GL eltS w l bs (some ⟨g, 0, none⟩)) (hx : OsV w bx (.mk k n s tl) (.agg #[.int .i64 k, .int .i64 n, .string s, .slice xo tl.length xcap])) (hnd : (bx ++ bs).Nodup) (ho : ordB l = true) (hl : l.length ≤ 1048576) :
    Calls Try.prog 24 #[.slice (some ⟨g, 0, none⟩) l.length l.length, sdV a p k n s xo tl.length xcap] w fun e w' => (∃ ao c b', e = .returned (.slice ao (insT l ⟨a, p, .mk k n s tl⟩).length c) ∧ GL eltS w' (insT l ⟨a, p, .mk k n s tl⟩) b' ao ∧ b'.Nodup ∧ ∀ b ∈ b', b ∈ bs ∨ b ∈ bx ∨ w.heap.size ≤ b) ∧ Below w.heap.size w w' := by
  obtain ⟨wa, hwa⟩ : ∃ wa, wa = (w.alloc (.cells #[.slice (some ⟨g, 0, none⟩) l.length l.length] 51)).alloc (.cells #[.int .i64 a, .int .i64 p, .int .i64 k, .int .i64 n, .string s, .slice xo tl.length xcap] 38) := ⟨_, rfl⟩
  have hz1 : (w.alloc (.cells #[.slice (some ⟨g, 0, none⟩) l.length l.length] 51)).heap.size = w.heap.size + 1 := World.size_alloc _ _
  have hb1 : Below w.heap.size w (w.alloc (.cells #[.slice (some ⟨g, 0, none⟩) l.length l.length] 51)) := (Below.refl _ _).alloc (Nat.le_refl _) _
  have hba : Below w.heap.size w wa := by rw [hwa]; exact hb1.alloc (by omega) _
  have cq : wa.cell? ⟨w.heap.size, 0, none⟩ = some (.slice (some ⟨g, 0, none⟩) l.length l.length) := by
    rw [hwa]; refine keepOt ((Below.refl _ _).alloc (Nat.le_refl _) _) ?_; rw [World.cell?_alloc_new]; rfl
  have cx : ∀ j v, #[Value.int .i64 a, .int .i64 p, .int .i64 k, .int .i64 n, .string s, .slice xo tl.length xcap][j]? = some v → wa.cell? ⟨w.heap.size + 1, j, none⟩ = some v := fun j v hj => by
    rw [hwa, ← hz1, World.cell?_alloc_new]; exact hj
  have HBA : Hid (Below w.heap.size w wa) := hba
  have HQX : Hid (∀ wc, Below wa.heap.size wa wc → wc.cell? ⟨w.heap.size, 0, none⟩ = some (.slice (some ⟨g, 0, none⟩) l.length l.length) ∧ wc.cell? ⟨w.heap.size + 1, 0, none⟩ = some (.int .i64 a) ∧ wc.cell? ⟨w.heap.size + 1, 1, none⟩ = some (.int .i64 p) ∧ wc.cell? ⟨w.heap.size + 1, 2, none⟩ = some (.int .i64 k) ∧ wc.cell? ⟨w.heap.size + 1, 3, none⟩ = some (.int .i64 n) ∧ wc.cell? ⟨w.heap.size + 1, 4, none⟩ = some (.string s) ∧ wc.cell? ⟨w.heap.size + 1, 5, none⟩ = some (.slice xo tl.length xcap)) := fun wc hb =>
    ⟨keepOt hb cq, keepOt hb (cx 0 _ rfl), keepOt hb (cx 1 _ rfl), keepOt hb (cx 2 _ rfl), keepOt hb (cx 3 _ rfl), keepOt hb (cx 4 _ rfl), keepOt hb (cx 5 _ rfl)⟩
  have HSE : Hid (Calls Try.prog 38 #[.int .i64 l.length, .func (.func 39) #[] #[.pointer (some ⟨w.heap.size, 0, none⟩), .pointer (some ⟨w.heap.size + 1, 0, none⟩)]] wa fun e w' => (∃ k0 : Nat, e = .returned (.int .i64 k0) ∧ Place l a k0) ∧ Below wa.heap.size wa w') := by
    have h0 := search_any l.length hl (.pointer (some ⟨w.heap.size, 0, none⟩)) (.pointer (some ⟨w.heap.size + 1, 0, none⟩)) (fun i => if h : i < l.length then decide (a < l[i].kind) else false) wa (fun wc i hb hi => by
      obtain ⟨d0, d1, d2, d3, d4, d5, d6⟩ := HQX.out wc hb
      rw [dif_pos hi]
      exact later1_any l _ _ i hi hl a p k n s xo tl.length xcap _ _ wc (GL.rowS ((hg.below hba).below hb)) d0 d1 d2 d3 d4 d5 d6) (fun i j hij hj h => by
      rw [dif_pos (by omega)] at h
      rw [dif_pos hj]
      have h1 := of_decide_eq_true h
      have h2 := ord_le ho i (j - i) (by omega)
      simp only [show i + (j - i) = j by omega] at h2
      exact decide_eq_true (by omega))
    refine h0.mono ?_
    rintro e w' ⟨⟨k0, rfl, q1, q2, q3⟩, hb⟩
    refine ⟨⟨k0, rfl, q1, fun t ht h2 => ?_, fun t ht h2 => ?_⟩, hb⟩
    · have := q2 t ht; rw [dif_pos h2] at this; have := of_decide_eq_false this; omega
    · have := q3 t ht h2; rw [dif_pos h2] at this; exact of_decide_eq_true this
  have HGX : Hid (GL eltS w l bs (some ⟨g, 0, none⟩) ∧ OsV w bx (.mk k n s tl) (.agg #[.int .i64 k, .int .i64 n, .string s, .slice xo tl.length xcap]) ∧ (bx ++ bs).Nodup ∧ l.length ≤ 1048576) := ⟨hg, hx, hnd, hl⟩
  clear hg hx hnd ho hl hb1 hz1 cq cx hba
  go_enter Try.func24, Try.ntmps24
  go_wp2_with (go_at_call 38; fail)
  rw [← hwa]
  clear hwa
  refine HSE.out.mono ?_
  rintro e w1 ⟨⟨k0, rfl, hk0⟩, hb1⟩
  obtain ⟨d0, d1, d2, d3, d4, d5, d6⟩ := HQX.out w1 hb1
  have HB1 : Hid (Below w.heap.size w w1 ∧ Place l a k0) := ⟨HBA.out.trans (hb1.mono HBA.out.size), hk0⟩
  clear hb1 hk0 HQX HSE
  go_wp2_with (go_at_call 40; fail)
  obtain ⟨w2, hw2⟩ : ∃ w2, w2 = w1.alloc (.cells #[.int .i64 a, .int .i64 p, .int .i64 k, .int .i64 n, .string s, .slice xo tl.length xcap] 38) := ⟨_, rfl⟩
  rw [← hw2]
  obtain ⟨hb0, hpl⟩ := HB1.out
  obtain ⟨hg, hx, hnd, hl⟩ := HGX.out
  have hb2 : Below w.heap.size w w2 := by rw [hw2]; exact hb0.alloc hb0.size _
  obtain ⟨cs, b0, hvl, hcl, hcs, h1c, hin, hnb⟩ := gl_cells (hg.below hb2)
  have hvs : ∀ j v, [Value.int .i64 a, .int .i64 p, .int .i64 k, .int .i64 n, .string s, .slice xo tl.length xcap][j]? = some v → w2.cell? ⟨w1.heap.size, j, none⟩ = some v := fun j v hj => by
    rw [hw2, World.cell?_alloc_new]; simpa using hj
  refine (insert_any cs [.int .i64 a, .int .i64 p, .int .i64 k, .int .i64 n, .string s, .slice xo tl.length xcap] l.length k0 g w1.heap.size w2 hpl.le hl hcl rfl hcs hvs h1c (sixOne)).mono ?_
  rintro e w3 ⟨⟨c, cur, rfl, hcur, hc1, hc2, hc3, hct⟩, hb3⟩
  have hpl' := hpl.eq
  subst hpl'
  have hxV : VE eltS w2 ⟨a, p, .mk k n s tl⟩ [.int .i64 a, .int .i64 p, .int .i64 k, .int .i64 n, .string s, .slice xo tl.length xcap] bx := ve_timer (x := ⟨a, p, .mk k n s tl⟩) (osV_keep hx (fun b hb h => hb2.block b h))
  obtain ⟨b', hvl', hperm⟩ := VL.insert hxV (plc l a) l cs b0 hvl hpl.le
  have HLN : Hid ((insT l ⟨a, p, .mk k n s tl⟩).length = l.length + 1) := insT_length l _
  have HF : Hid (GL eltS w3 (insT l ⟨a, p, .mk k n s tl⟩) (w2.heap.size :: b') (some ⟨w2.heap.size, 0, none⟩) ∧ (w2.heap.size :: b').Nodup ∧ (∀ b ∈ w2.heap.size :: b', b ∈ bs ∨ b ∈ bx ∨ w.heap.size ≤ b) ∧ Below w.heap.size w w3) := by
    obtain ⟨n1, n2, n3⟩ := List.nodup_append.1 hnd
    have hlt : ∀ b ∈ b', b < w2.heap.size := VL.lt hvl'
    refine ⟨.inr ⟨?_, _, 0, b', rfl, rfl, fun x => by simp [World.frozen?, hcur], VL.row 0 (VL.keep hb3.size hvl' (fun x hx => hb3.block x (hlt x hx))) (fun j v hj => ?_)⟩, ?_, fun b hb => ?_, hb2.trans (hb3.mono hb2.size)⟩
    · intro h0; rw [h0] at HLN; have := HLN.out; simp at this
    · rw [← hct, List.getElem?_take] at hj
      rw [Nat.zero_add]
      split at hj
      · simpa [World.cell?, hcur] using hj
      · cases hj
    · refine List.nodup_cons.2 ⟨fun h => by have := hlt _ h; omega, ?_⟩
      refine hperm.nodup_iff.2 (List.nodup_append.2 ⟨n1, hnb n2, fun x hx y hy => n3 x hx y (hin y hy)⟩)
    · rcases List.mem_cons.1 hb with rfl | hb
      · exact .inr (.inr hb2.size)
      · rcases List.mem_append.1 (hperm.mem_iff.1 hb) with q | q
        · exact .inr (.inl q)
        · exact .inl (hin b q)
  clear hw2 hg hx hnd hl hpl hb0 hb2 hvl hcl hcs h1c hin hnb hvs hxV hvl' hperm hcur hc1 hc2 hc3 hct hb3 d0 d1 d2 d3 d4 d5 d6
  go_wp2_with fail
  go_ret
  exact ⟨⟨some ⟨w2.heap.size, 0, none⟩, c, w2.heap.size :: b', by rw [HLN.out]; rfl, HF.out.1, HF.out.2.1, HF.out.2.2.1⟩, HF.out.2.2.2⟩
end Go.Proofs.Ytnpbmfcilcnilaa.Tr
namespace Go.Proofs.Ytnpbmfcilcnilaa.Tr
open Go.RowKit Atom
set_option linter.unusedVariables false

set_option maxHeartbeats 1000000 in
set_option maxRecDepth 100000 in
theorem implTimersOk_any (l : List Sd) (ao : Option Addr) (cap : Nat) (w : World) (hr : RowS w ao l) (hl : l.length ≤ maxLen) :
    Calls Try.prog 22 #[.slice ao l.length cap] w fun e w' => e = .returned (.bool (tmsB l)) ∧ Below w.heap.size w w' := by
  have HR : Hid (RowS w ao l) := hr
  have HO : Hid (Calls Try.prog 35 #[.slice ao l.length cap] w fun e w' => e = .returned (.bool (ordB l)) ∧ Below w.heap.size w w') := inOrder_any l ao cap w hr hl
  clear hr
  unfold maxLen at hl
  by_cases h50 : l.length ≤ 50
  rotate_left
  · have HF : Hid (tmsB l = false) := tmsB_no1 h50
    go_enter Try.func22, Try.ntmps22
    go_wp2_with fail
    go_ret
    exact ⟨ret_bool HF.out.symm, Below.refl _ _⟩
  generalize ho : ordB l = o at HO
  have HOO : Hid (ordB l = o) := ho
  clear ho
  cases o
  · have HF : Hid (tmsB l = false) := tmsB_no2 HOO.out
    go_enter Try.func22, Try.ntmps22
    go_wp2_with (go_at_call 35; refine HO.out.mono ?_; rintro e w1 ⟨rfl, hb1⟩; have HB1 : Hid (Below w.heap.size w w1) := hb1; clear hb1)
    go_ret
    exact ⟨ret_bool HF.out.symm, HB1.out⟩
  have HIS : Hid (tmsB l = allB l) := by
    show _ = _
    unfold tmsB
    rw [HOO.out, decide_eq_true h50]; rfl
  go_enter Try.func22, Try.ntmps22
  go_wp2_with (go_at_call 35; refine HO.out.mono ?_; rintro e w1 ⟨rfl, hb1⟩; have HB1 : Hid (Below w.heap.size w w1) := hb1; clear hb1)
  go_loopw [15] (fun i wr => ∃ k : Nat, k ≤ l.length ∧ i = .int .i64 k ∧ Below w.heap.size w wr ∧ ∀ j (hj : j < l.length), j < k → tmB l[j] = true) (fun i _ => l.length - (intOf i).toNat)
  case atStart => exact ⟨0, Nat.zero_le _, rfl, HB1.out, fun j _ hj => absurd hj (Nat.not_lt_zero _)⟩
  case round =>
    obtain ⟨k, hk, rfl, hb, hn⟩ := hrel
    have HB : Hid (Below w.heap.size w wr) := hb
    have HN : Hid (∀ j (hj : j < l.length), j < k → tmB l[j] = true) := hn
    clear hn hb
    by_cases hlt : k < l.length
    · rcases HR.out.below HB.out with h0 | ⟨b, o, rfl, hrow⟩
      · rw [h0] at hlt; simp at hlt
      have hbx := hrow k hlt
      have HS : Hid (tmB l[k] = true → ∀ j (hj : j < l.length), j < k + 1 → tmB l[j] = true) := fun hq j hj hjk => by
        rcases Nat.lt_or_ge j k with h | h
        · exact HN.out j hj h
        · have : j = k := by omega
          subst this; exact hq
      have HNO : Hid (tmB l[k] = false → tmsB l = false) := fun h => tmsB_no3 (allB_no hlt h)
      obtain ⟨tk, tn, ts, tao, tlen, tcap, e0, e1, e2, e3, hv⟩ := hbx.t.cells
      have d0 := hbx.c0
      have d1 := hbx.c1
      have HC : Hid (∀ wc, Below wr.heap.size wr wc → Calls Try.prog 23 #[sdV l[k].kind l[k].pid tk tn ts tao tlen tcap] wc fun e w' => e = .returned (.bool (tmB l[k])) ∧ Below wc.heap.size wc w') := fun wc hb => isRight_any l[k] _ _ _ _ _ _ wc (Below.repV hb hv)
      generalize tmB l[k] = q at HC HS HNO
      generalize l[k].kind = kk at d0 HC
      generalize l[k].pid = pp at d1 HC
      clear hrow hbx hv
      have HBX : Hid (Below wr.heap.size wr (wr.alloc (.cells #[.int .i64 kk, .int .i64 pp, .int .i64 tk, .int .i64 tn, .string ts, .slice tao tlen tcap] 38)) ∧ Below w.heap.size w (wr.alloc (.cells #[.int .i64 kk, .int .i64 pp, .int .i64 tk, .int .i64 tn, .string ts, .slice tao tlen tcap] 38))) := ⟨(Below.refl _ _).alloc (Nat.le_refl _) _, HB.out.alloc HB.out.size _⟩
      cases q
      · have HF : Hid (tmsB l = false) := HNO.out rfl
        go_wp2_with (go_at_call 23; refine (HC.out _ HBX.out.1).mono ?_; rintro e w3 ⟨rfl, hb3⟩; have HB3 : Hid (Below w.heap.size w w3) := HBX.out.2.trans (hb3.mono HBX.out.2.size); clear hb3)
        go_ret
        exact ⟨ret_bool HF.out.symm, HB3.out⟩
      · have HF : Hid (∀ j (hj : j < l.length), j < k + 1 → tmB l[j] = true) := HS.out rfl
        go_wp2_with (go_at_call 23; refine (HC.out _ HBX.out.1).mono ?_; rintro e w3 ⟨rfl, hb3⟩; have HB3 : Hid (Below w.heap.size w w3) := HBX.out.2.trans (hb3.mono HBX.out.2.size); clear hb3)
        go_roundw
        case rel => exact ⟨k + 1, by omega, by go_num, HB3.out, HF.out⟩
        case measure => simp [intOf]; omega
    · have HF : Hid (tmsB l = true) := by
        show _ = _
        rw [HIS.out]
        exact allB_yes fun j hj => HN.out j hj (by omega)
      go_wp2_with fail
      go_ret
      exact ⟨ret_bool HF.out.symm, HB.out⟩

set_option maxHeartbeats 1000000 in
set_option maxRecDepth 100000 in
theorem specTimersOk_any (l : List Sd) (ao : Option Addr) (cap : Nat) (w : World) (hr : RowS w ao l) (hl : l.length ≤ maxLen) :
    Calls Try.prog 17 #[.slice ao l.length cap] w fun e w' => e = .returned (.bool (tmsB l)) ∧ Below w.heap.size w w' := by
  have HR : Hid (RowS w ao l) := hr
  clear hr
  unfold maxLen at hl
  go_enter Try.func17, Try.ntmps17
  go_wp2_with fail
  go_loopw [3] (fun i wr => ∃ k : Nat, k ≤ l.length ∧ i = .int .i64 k ∧ Below w.heap.size w wr ∧ ∀ j (hj : j < l.length), j < k → tmB l[j] = true ∧ (l[j - 1]'(Nat.lt_of_le_of_lt (Nat.sub_le _ _) hj)).kind ≤ l[j].kind) (fun i _ => l.length - (intOf i).toNat)
  case atStart => exact ⟨0, Nat.zero_le _, rfl, Below.refl _ _, fun j _ hj => absurd hj (Nat.not_lt_zero _)⟩
  case round =>
    obtain ⟨k, hk, rfl, hb, hn⟩ := hrel
    have HB : Hid (Below w.heap.size w wr) := hb
    have HN : Hid (∀ j (hj : j < l.length), j < k → tmB l[j] = true ∧ (l[j - 1]'(Nat.lt_of_le_of_lt (Nat.sub_le _ _) hj)).kind ≤ l[j].kind) := hn
    clear hn hb
    by_cases hlt : k < l.length
    · rcases HR.out.below HB.out with h0 | ⟨b, o, rfl, hrow⟩
      · rw [h0] at hlt; simp at hlt
      have hbx := hrow k hlt
      have HS : Hid (tmB l[k] = true → (l[k - 1]'(Nat.lt_of_le_of_lt (Nat.sub_le _ _) hlt)).kind ≤ l[k].kind → ∀ j (hj : j < l.length), j < k + 1 → tmB l[j] = true ∧ (l[j - 1]'(Nat.lt_of_le_of_lt (Nat.sub_le _ _) hj)).kind ≤ l[j].kind) := fun hq hq2 j hj hjk => by
        rcases Nat.lt_or_ge j k with h | h
        · exact HN.out j hj h
        · have : j = k := by omega
          subst this; exact ⟨hq, hq2⟩
      have HNO : Hid (tmB l[k] = false → tmsB l = false) := fun h => tmsB_no3 (allB_no hlt h)
      have HNP : Hid (l[k].kind < (l[k - 1]'(Nat.lt_of_le_of_lt (Nat.sub_le _ _) hlt)).kind → tmsB l = false) := fun h => tmsB_no2 (ordB_no hlt h)
      obtain ⟨tk, tn, ts, tao, tlen, tcap, e0, e1, e2, e3, hv⟩ := hbx.t.cells
      have c0 := Inn.keep hbx.c0
      have c1 := Inn.keep hbx.c1
      have c2 := Inn.keep e0
      have c3 := Inn.keep e1
      have c4 := Inn.keep e2
      have c5 := Inn.keep e3
      have HC : Hid (∀ x : Inn wr, Calls Try.prog 18 #[sdV l[k].kind l[k].pid tk tn ts tao tlen tcap] x.val fun e w' => e = .returned (.bool (tmB l[k])) ∧ Below x.val.heap.size x.val w') := fun x => l14Timer_any l[k] _ _ _ _ _ _ x.val (Below.repV x.bel hv)
      have HBI : Hid (∀ w7, (∃ x : Inn wr, w7 = x.val) → Below w.heap.size w w7) := fun w7 ⟨x7, h7⟩ => by
        have : Below wr.heap.size wr w7 := by rw [h7]; exact x7.bel
        exact HB.out.trans (this.mono HB.out.size)
      haveI := inn_ne wr
      generalize tmB l[k] = q at HC HS HNO
      rcases Nat.eq_zero_or_pos k with hk0 | hk0
      · have HSZ : Hid (q = true → ∀ j (hj : j < l.length), j < k + 1 → tmB l[j] = true ∧ (l[j - 1]'(Nat.lt_of_le_of_lt (Nat.sub_le _ _) hj)).kind ≤ l[j].kind) := fun h => HS.out h (by
          subst hk0; exact Int.le_refl _)
        clear HS HNP
        have e9 : decide ((k : Int) > 0) = false := decide_eq_false (by omega)
        have e9' : decide ((0 : Int) < (k : Int)) = false := decide_eq_false (by omega)
        have e9'' : decide (0 < k) = false := decide_eq_false (by omega)
        clear hk0
        generalize l[k].kind = kk at *
        generalize l[k].pid = pp at *
        clear hrow hbx hv e0 e1 e2 e3
        cases q
        · have HF : Hid (tmsB l = false) := HNO.out rfl
          go_wp2_with fail
          refine wp_region_inn ?_ ?_ ?_
          · kernel_rfl
          · kernel_rfl
          repeat (go_big_quiet_step (first
            | (go_at_call 18; exact calls_inn (HC.out _))))
          refine wpQuiet_nil ?_
          intro w7 h7
          have HB7 : Hid (Below w.heap.size w w7) := HBI.out w7 h7
          clear h7 c0 c1 c2 c3 c4 c5
          go_wp2_with fail
          go_ret
          exact ⟨ret_bool HF.out.symm, HB7.out⟩
        · have HF : Hid (∀ j (hj : j < l.length), j < k + 1 → tmB l[j] = true ∧ (l[j - 1]'(Nat.lt_of_le_of_lt (Nat.sub_le _ _) hj)).kind ≤ l[j].kind) := HSZ.out rfl
          go_wp2_with fail
          refine wp_region_inn ?_ ?_ ?_
          · kernel_rfl
          · kernel_rfl
          repeat (go_big_quiet_step (first
            | (go_at_call 18; exact calls_inn (HC.out _))))
          refine wpQuiet_nil ?_
          intro w7 h7
          have HB7 : Hid (Below w.heap.size w w7) := HBI.out w7 h7
          clear h7 c0 c1 c2 c3 c4 c5
          go_wp2_with fail
          go_roundw
          case rel => exact ⟨k + 1, by omega, by go_num, HB7.out, HF.out⟩
          case measure => simp [intOf]; omega
      · obtain ⟨m, rfl⟩ : ∃ m, k = m + 1 := ⟨k - 1, by omega⟩
        have d0 := Inn.keep (hrow m (by omega)).c0
        have em : IntKind.i64.wrap (((m + 1 : Nat) : Int) - 1) = (m : Int) := by rw [IntKind.wrap_i64]; omega
        have HS' : Hid (q = true → l[m].kind ≤ l[m + 1].kind → ∀ j (hj : j < l.length), j < m + 1 + 1 → tmB l[j] = true ∧ (l[j - 1]'(Nat.lt_of_le_of_lt (Nat.sub_le _ _) hj)).kind ≤ l[j].kind) := HS.out
        have HNP' : Hid (l[m + 1].kind < l[m].kind → tmsB l = false) := HNP.out
        clear HS HNP hk0
        generalize l[m + 1].kind = kk at *
        generalize l[m + 1].pid = pp at *
        generalize l[m].kind = yy at *
        clear hrow hbx hv e0 e1 e2 e3
        cases q
        · have HF : Hid (tmsB l = false) := HNO.out rfl
          go_wp2_with fail
          refine wp_region_inn ?_ ?_ ?_
          · kernel_rfl
          · kernel_rfl
          repeat (go_big_quiet_step (first
            | (go_at_call 18; exact calls_inn (HC.out _))))
          refine wpQuiet_nil ?_
          intro w7 h7
          have HB7 : Hid (Below w.heap.size w w7) := HBI.out w7 h7
          clear h7 c0 c1 c2 c3 c4 c5 d0
          go_wp2_with fail
          go_ret
          exact ⟨ret_bool HF.out.symm, HB7.out⟩
        · by_cases hxy : kk < yy
          · have HF : Hid (tmsB l = false) := HNP'.out hxy
            go_wp2_with fail
            refine wp_region_inn ?_ ?_ ?_
            · kernel_rfl
            · kernel_rfl
            repeat (go_big_quiet_step (first
              | (go_at_call 18; exact calls_inn (HC.out _))))
            refine wpQuiet_nil ?_
            intro w7 h7
            have HB7 : Hid (Below w.heap.size w w7) := HBI.out w7 h7
            clear h7 c0 c1 c2 c3 c4 c5 d0
            go_wp2_with fail
            go_ret
            exact ⟨ret_bool HF.out.symm, HB7.out⟩
          · have HF : Hid (∀ j (hj : j < l.length), j < m + 1 + 1 → tmB l[j] = true ∧ (l[j - 1]'(Nat.lt_of_le_of_lt (Nat.sub_le _ _) hj)).kind ≤ l[j].kind) := HS'.out rfl (by omega)
            go_wp2_with fail
            refine wp_region_inn ?_ ?_ ?_
            · kernel_rfl
            · kernel_rfl
            repeat (go_big_quiet_step (first
              | (go_at_call 18; exact calls_inn (HC.out _))))
            refine wpQuiet_nil ?_
            intro w7 h7
            have HB7 : Hid (Below w.heap.size w w7) := HBI.out w7 h7
            clear h7 c0 c1 c2 c3 c4 c5 d0
            go_wp2_with fail
            go_roundw
            case rel => exact ⟨m + 1 + 1, by omega, by go_num, HB7.out, HF.out⟩
            case measure => simp [intOf]; omega
    · have HF : Hid (tmsB l = decide ((l.length : Int) ≤ 50)) := by
        show _ = _
        unfold tmsB
        rw [ordB_yes fun j hj => (HN.out j hj (by omega)).2, allB_yes fun j hj => (HN.out j hj (by omega)).1, Bool.and_true, Bool.and_true]
        exact decide_eq_decide.2 (by omega)
      go_wp2_with fail
      go_ret
      exact ⟨ret_bool HF.out.symm, HB.out⟩
end Go.Proofs.Ytnpbmfcilcnilaa.Tr
namespace Go.Proofs.Ytnpbmfcilcnilaa.Tr
open Go.RowKit Atom
set_option linter.unusedVariables false

/-- Whether a timer is taken. -/
def addB (l : List Sd) (x : Sd) : Bool := tmsB l && (tmB x && decide (l.length < 50))
/-- The timers behind it. -/
def addT (l : List Sd) (x : Sd) : List Sd := if addB l x = true then insT l x else l
theorem addB_le {l : List Sd} {x : Sd} (h : tmsB l = true) : l.length ≤ 50 := by
  unfold tmsB at h
  exact of_decide_eq_true (Bool.and_eq_true_iff.1 h).1
theorem addB_ord {l : List Sd} (h : tmsB l = true) : ordB l = true := by
  unfold tmsB at h
  exact (Bool.and_eq_true_iff.1 (Bool.and_eq_true_iff.1 h).2).1
theorem addT_no {l : List Sd} {x : Sd} (h : addB l x = false) : addT l x = l := by unfold addT; rw [h]; rfl
theorem addT_yes {l : List Sd} {x : Sd} (h : addB l x = true) : addT l x = insT l x := by unfold addT; rw [h]; rfl

set_option maxHeartbeats 2000000 in
set_option maxRecDepth 100000 in
theorem implAdd_any (l : List Sd) (bs0 bx : List Nat) (ao : Option Addr) (cap : Nat) (a p k n : Int) (s : ByteArray) (tl : List Tm) (xo : Option Addr) (xcap : Nat) (w : World)
    (hr : GL eltS w l bs0 ao) (hnd0 : bs0.Nodup) (hl : l.length ≤ 1048576) (hn : ∀ x ∈ l, ntL [x.t] ≤ 4194304)
    (hx : OsV w bx (.mk k n s tl) (.agg #[.int .i64 k, .int .i64 n, .string s, .slice xo tl.length xcap])) (hndx : bx.Nodup) (hnx : ntL [.mk k n s tl] ≤ 4194304) :
    Calls Try.prog 9 #[.slice ao l.length cap, sdV a p k n s xo tl.length xcap] w fun e w' => (∃ a1 c1 e1, e = .returned (.tuple #[.slice a1 (addT l ⟨a, p, .mk k n s tl⟩).length c1, .bool (addB l ⟨a, p, .mk k n s tl⟩)]) ∧ GL eltS w' (addT l ⟨a, p, .mk k n s tl⟩) e1 a1 ∧ e1.Nodup ∧ ∀ b ∈ e1, w.heap.size ≤ b) ∧ Below w.heap.size w w' := by
  obtain ⟨wa, hwa⟩ : ∃ wa, wa = w.alloc (.cells #[.int .i64 a, .int .i64 p, .int .i64 k, .int .i64 n, .string s, .slice xo tl.length xcap] 38) := ⟨_, rfl⟩
  have hba : Below w.heap.size w wa := by rw [hwa]; exact (Below.refl _ _).alloc (Nat.le_refl _) _
  have cx : ∀ j v, #[Value.int .i64 a, .int .i64 p, .int .i64 k, .int .i64 n, .string s, .slice xo tl.length xcap][j]? = some v → wa.cell? ⟨w.heap.size, j, none⟩ = some v := fun j v hj => by
    rw [hwa, World.cell?_alloc_new]; exact hj
  have HBA : Hid (Below w.heap.size w wa) := hba
  have HQX : Hid (∀ wc, Below wa.heap.size wa wc → wc.cell? ⟨w.heap.size, 0, none⟩ = some (.int .i64 a) ∧ wc.cell? ⟨w.heap.size, 1, none⟩ = some (.int .i64 p) ∧ wc.cell? ⟨w.heap.size, 2, none⟩ = some (.int .i64 k) ∧ wc.cell? ⟨w.heap.size, 3, none⟩ = some (.int .i64 n) ∧ wc.cell? ⟨w.heap.size, 4, none⟩ = some (.string s) ∧ wc.cell? ⟨w.heap.size, 5, none⟩ = some (.slice xo tl.length xcap)) := fun wc hb =>
    ⟨keepOt hb (cx 0 _ rfl), keepOt hb (cx 1 _ rfl), keepOt hb (cx 2 _ rfl), keepOt hb (cx 3 _ rfl), keepOt hb (cx 4 _ rfl), keepOt hb (cx 5 _ rfl)⟩
  have HC : Hid (Calls Try.prog 21 #[.slice ao l.length cap] wa fun e w' => (∃ (g : Nat) (bs : List Nat), e = .returned (.slice (some ⟨g, 0, none⟩) l.length l.length) ∧ GL eltS w' l bs (some ⟨g, 0, none⟩) ∧ bs.Nodup ∧ ∀ b ∈ bs, wa.heap.size ≤ b) ∧ Below wa.heap.size wa w') := ownTimers_any l bs0 ao cap wa (hr.below hba) hnd0 hl hn
  have HOK : Hid (∀ wc, Below wa.heap.size wa wc → Calls Try.prog 22 #[.slice ao l.length cap] wc fun e w' => e = .returned (.bool (tmsB l)) ∧ Below wc.heap.size wc w') := fun wc hb => implTimersOk_any l ao cap wc (GL.rowS ((hr.below hba).below hb)) (Nat.le_trans hl (by unfold maxLen; omega))
  have HOX : Hid (∀ wc, Below wa.heap.size wa wc → OsV wc bx (.mk k n s tl) (.agg #[.int .i64 k, .int .i64 n, .string s, .slice xo tl.length xcap])) := fun wc hb => osV_keep (osV_keep hx (fun b _ h => hba.block b h)) (fun b _ h => hb.block b h)
  have HIR : Hid (∀ wc, Below wa.heap.size wa wc → Calls Try.prog 23 #[sdV a p k n s xo tl.length xcap] wc fun e w' => e = .returned (.bool (tmB ⟨a, p, .mk k n s tl⟩)) ∧ Below wc.heap.size wc w') := fun wc hb => isRight_any ⟨a, p, .mk k n s tl⟩ k n s xo tl.length xcap wc (OsV.rep (HOX.out wc hb))
  have HOT : Hid (∀ wc, Below wa.heap.size wa wc → Calls Try.prog 25 #[sdV a p k n s xo tl.length xcap] wc fun e w' => ∃ ao' cap' bs', e = .returned (sdV a p k n s ao' tl.length cap') ∧ OsV w' bs' (.mk k n s tl) (.agg #[.int .i64 k, .int .i64 n, .string s, .slice ao' tl.length cap']) ∧ bs'.Nodup ∧ (∀ b ∈ bs', wc.heap.size ≤ b) ∧ Below wc.heap.size wc w') := fun wc hb => ownTimer_any a p k n s tl xo xcap bx wc (HOX.out wc hb) hndx hnx
  obtain ⟨X, hX⟩ : ∃ X : Sd, X = ⟨a, p, .mk k n s tl⟩ := ⟨_, rfl⟩
  rw [← hX] at HIR ⊢
  have HX : Hid (X = ⟨a, p, .mk k n s tl⟩) := hX
  have HLL : Hid (l.length ≤ 1048576) := hl
  clear hr hnd0 hn hba cx hx hndx hnx hX hl
  go_enter Try.func9, Try.ntmps9
  go_wp2_with (go_at_call 21; fail)
  rw [← hwa]
  clear hwa
  refine HC.out.mono ?_
  rintro e w1 ⟨⟨g, bs, rfl, hg, hnd, hlo⟩, hb1⟩
  have H1 : Hid (GL eltS w1 l bs (some ⟨g, 0, none⟩) ∧ bs.Nodup ∧ (∀ b ∈ bs, wa.heap.size ≤ b) ∧ Below wa.heap.size wa w1) := ⟨hg, hnd, hlo, hb1⟩
  clear hg hnd hlo hb1 HC
  go_wp2_with (go_at_call 22; fail)
  have HOK' := (HOK.out w1 H1.out.2.2.2)
  clear HOK
  cases hA : tmsB l with
  | false =>
    rw [hA] at HOK'
    refine HOK'.mono ?_
    rintro e w2 ⟨rfl, hb2⟩
    have hno : addB l X = false := by unfold addB; rw [hA]; rfl
    have HF : Hid (GL eltS w2 (addT l X) bs (some ⟨g, 0, none⟩) ∧ bs.Nodup ∧ (∀ b ∈ bs, w.heap.size ≤ b) ∧ Below w.heap.size w w2 ∧ addB l X = false ∧ (addT l X).length = l.length) := ⟨by rw [addT_no hno]; exact H1.out.1.below hb2, H1.out.2.1, fun b hb => Nat.le_trans HBA.out.size (H1.out.2.2.1 b hb), HBA.out.trans ((H1.out.2.2.2.trans (hb2.mono H1.out.2.2.2.size)).mono HBA.out.size), hno, by rw [addT_no hno]⟩
    clear hb2 hno hA
    go_wp2_with fail
    rw [HF.out.2.2.2.2.1]
    exact bodyPost_ret (v := .tuple #[.slice (some ⟨g, 0, none⟩) l.length l.length, .bool false]) (by simp [results, Try.results9, go_sem]) rfl ⟨⟨_, l.length, bs, by rw [HF.out.2.2.2.2.2], HF.out.1, HF.out.2.1, HF.out.2.2.1⟩, HF.out.2.2.2.1⟩
  | true =>
    rw [hA] at HOK'
    refine HOK'.mono ?_
    rintro e w2 ⟨rfl, hb2⟩
    have H2 : Hid (GL eltS w2 l bs (some ⟨g, 0, none⟩) ∧ Below wa.heap.size wa w2 ∧ w1.heap.size ≤ w2.heap.size) := ⟨H1.out.1.below hb2, H1.out.2.2.2.trans (hb2.mono H1.out.2.2.2.size), hb2.size⟩
    have HA : Hid (tmsB l = true) := hA
    obtain ⟨d0, d1, d2, d3, d4, d5⟩ := HQX.out w2 H2.out.2.1
    clear hb2 hA
    go_wp2_with (go_at_call 23; fail)
    have HIR' := HIR.out w2 H2.out.2.1
    clear HIR d0 d1 d2 d3 d4 d5
    cases hT : tmB X with
    | false =>
      rw [hT] at HIR'
      refine HIR'.mono ?_
      rintro e w3 ⟨rfl, hb3⟩
      have hno : addB l X = false := by unfold addB; rw [hT]; simp
      have HF : Hid (GL eltS w3 (addT l X) bs (some ⟨g, 0, none⟩) ∧ bs.Nodup ∧ (∀ b ∈ bs, w.heap.size ≤ b) ∧ Below w.heap.size w w3 ∧ addB l X = false ∧ (addT l X).length = l.length) := ⟨by rw [addT_no hno]; exact H2.out.1.below hb3, H1.out.2.1, fun b hb => Nat.le_trans HBA.out.size (H1.out.2.2.1 b hb), HBA.out.trans ((H2.out.2.1.trans (hb3.mono H2.out.2.1.size)).mono HBA.out.size), hno, by rw [addT_no hno]⟩
      clear hb3 hno hT
      go_wp2_with fail
      rw [HF.out.2.2.2.2.1]
      exact bodyPost_ret (v := .tuple #[.slice (some ⟨g, 0, none⟩) l.length l.length, .bool false]) (by simp [results, Try.results9, go_sem]) rfl ⟨⟨_, l.length, bs, by rw [HF.out.2.2.2.2.2], HF.out.1, HF.out.2.1, HF.out.2.2.1⟩, HF.out.2.2.2.1⟩
    | true =>
      rw [hT] at HIR'
      refine HIR'.mono ?_
      rintro e w3 ⟨rfl, hb3⟩
      have H3 : Hid (GL eltS w3 l bs (some ⟨g, 0, none⟩) ∧ Below wa.heap.size wa w3 ∧ w1.heap.size ≤ w3.heap.size) := ⟨H2.out.1.below hb3, H2.out.2.1.trans (hb3.mono H2.out.2.1.size), Nat.le_trans H2.out.2.2 hb3.size⟩
      have HT : Hid (tmB X = true) := hT
      clear hb3 hT
      by_cases h50 : (50 : Int) ≤ (l.length : Int)
      · have hno : addB l X = false := by unfold addB; rw [decide_eq_false (by omega)]; simp
        have HF : Hid (GL eltS w3 (addT l X) bs (some ⟨g, 0, none⟩) ∧ bs.Nodup ∧ (∀ b ∈ bs, w.heap.size ≤ b) ∧ Below w.heap.size w w3 ∧ addB l X = false ∧ (addT l X).length = l.length) := ⟨by rw [addT_no hno]; exact H3.out.1, H1.out.2.1, fun b hb => Nat.le_trans HBA.out.size (H1.out.2.2.1 b hb), HBA.out.trans (H3.out.2.1.mono HBA.out.size), hno, by rw [addT_no hno]⟩
        clear hno
        go_wp2_with fail
        rw [HF.out.2.2.2.2.1]
        exact bodyPost_ret (v := .tuple #[.slice (some ⟨g, 0, none⟩) l.length l.length, .bool false]) (by simp [results, Try.results9, go_sem]) rfl ⟨⟨_, l.length, bs, by rw [HF.out.2.2.2.2.2], HF.out.1, HF.out.2.1, HF.out.2.2.1⟩, HF.out.2.2.2.1⟩
      · have hyes : addB l X = true := by unfold addB; rw [HA.out, HT.out, decide_eq_true (by omega)]; rfl
        have HY : Hid (addB l X = true) := hyes
        clear hyes
        obtain ⟨d0, d1, d2, d3, d4, d5⟩ := HQX.out w3 H3.out.2.1
        go_wp2_with (go_at_call 25; fail)
        refine (HOT.out w3 H3.out.2.1).mono ?_
        rintro e w4 ⟨xo', xc', bx', rfl, hx4, hn4, hl4, hb4⟩
        have HAD : Hid (Calls Try.prog 24 #[.slice (some ⟨g, 0, none⟩) l.length l.length, sdV a p k n s xo' tl.length xc'] w4 fun e w' => (∃ ao c b', e = .returned (.slice ao (insT l ⟨a, p, .mk k n s tl⟩).length c) ∧ GL eltS w' (insT l ⟨a, p, .mk k n s tl⟩) b' ao ∧ b'.Nodup ∧ ∀ b ∈ b', b ∈ bs ∨ b ∈ bx' ∨ w4.heap.size ≤ b) ∧ Below w4.heap.size w4 w') :=
          add_any l bs bx' g a p k n s tl xo' xc' w4 (H3.out.1.below hb4) hx4 (List.nodup_append.2 ⟨hn4, H1.out.2.1, fun x hx y hy q => by
            have q1 := hl4 x hx
            have q2 := H1.out.1.lt y hy
            have q3 := H3.out.2.2
            omega⟩) (addB_ord HA.out) HLL.out
        have H4 : Hid (Below w.heap.size w w4 ∧ ∀ b, (b ∈ bs ∨ b ∈ bx' ∨ w4.heap.size ≤ b) → w.heap.size ≤ b) := by
          have h := HBA.out.trans ((H3.out.2.1.trans (hb4.mono H3.out.2.1.size)).mono HBA.out.size)
          have q0 := HBA.out.size
          have q1 := H3.out.2.1.size
          refine ⟨h, fun b hb => ?_⟩
          rcases hb with hb | hb | hb
          · exact Nat.le_trans q0 (H1.out.2.2.1 b hb)
          · have := hl4 b hb; omega
          · have := h.size; omega
        clear hx4 hn4 hl4 hb4 d0 d1 d2 d3 d4 d5
        go_wp2_with (go_at_call 24; fail)
        refine HAD.out.mono ?_
        rintro e w5 ⟨⟨ao5, c5, b5, rfl, hg5, hn5, hl5⟩, hb5⟩
        rw [← HX.out, ← addT_yes HY.out] at hg5
        rw [← HX.out, ← addT_yes HY.out]
        have HF : Hid (GL eltS w5 (addT l X) b5 ao5 ∧ b5.Nodup ∧ (∀ b ∈ b5, w.heap.size ≤ b) ∧ Below w.heap.size w w5) := ⟨hg5, hn5, fun b hb => H4.out.2 b (hl5 b hb), H4.out.1.trans (hb5.mono H4.out.1.size)⟩
        clear hg5 hn5 hl5 hb5
        go_wp2_with fail
        rw [HY.out]
        exact bodyPost_ret (v := .tuple #[.slice ao5 (addT l X).length c5, .bool true]) (by simp [results, Try.results9, go_sem]) rfl ⟨⟨_, _, _, rfl, HF.out.1, HF.out.2.1, HF.out.2.2.1⟩, HF.out.2.2.2⟩
end Go.Proofs.Ytnpbmfcilcnilaa.Tr
