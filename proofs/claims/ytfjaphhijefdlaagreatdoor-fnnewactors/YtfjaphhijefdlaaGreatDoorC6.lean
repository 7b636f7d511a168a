/-
  A timer put among others by the specification: the answer stands in blocks of its own.
  (Ahead of it, in this text: Where a timer comes to stand: the program's search. A timer put into a row: the program's slices.Insert where the row has no room. A timer put into a row that has no room: the program's slices.Insert. A timer put at the end of a row that has no room: the program's slices.Insert. Rows of timers as the cells that they take, and one more among them. A timer put among others: where it comes to stand, and the program's add. TimersOk, the specification's and the program's. A timer put among others: the program's AddTimer.)
-/
import Derived.Test.YtfjaphhijefdlaaGreatDoorC5
import Derived.Laws.CopyOwn
import Derived.Lib.AppendZerosOnto
import Derived.Deep.RegionLaw
namespace Go.Proofs.YtfjaphhijefdlaaGreatDoor.Tr
open Go.RowKit Atom
set_option linter.unusedVariables false

end Go.Proofs.YtfjaphhijefdlaaGreatDoor.Tr
namespace Go.Proofs.YtfjaphhijefdlaaGreatDoor.Tr
open Go.RowKit Atom
set_option linter.unusedVariables false

theorem run_copy_rowK {P : Program} (w : World) (dT sT ty elem : TypeId) (g o dLen dCap : Nat) (a : Addr) (sLen sCap : Nat) (cur : Array Value) (t : TypeId) (cs : List Value) (s m : Nat)
    (hu : P.underlying dT = some (.slice elem)) (hs : (P.info? elem).map (·.size) = some s)
    (hg : w.heap[g]? = some (.cells cur t (0, 0))) (hm : Nat.min sLen dLen = m) (hn : cs.length = m * s)
    (hsrc : ∀ j v, cs[j]? = some v → w.cell? (a.add j) = some v) (hfit : o + cs.length ≤ cur.size) (h1 : ∀ v ∈ cs, v.oneCell' = true) :
    (Builtin.copy_ #[dT, sT] ty #[.slice (some ⟨g, o, none⟩) dLen dCap, .slice (some a) sLen sCap]).run P w =
      .ok (goInt m) (w.setRow g (cur.toList.take o ++ cs ++ cur.toList.drop (o + cs.length)).toArray) := by
  have hl := run_loadCells_list (P := P) w a cs hsrc
  have hst := run_storeCells_at P g o t cs 0 cur w hg (by simpa using hfit) h1
  cases hq : P.info? elem with
  | none => simp [hq] at hs
  | some i =>
    have hi : i.size = s := by simpa [hq] using hs
    simp [Builtin.copy_, run_underlying hu, Builtin.lenOf, Builtin.firstCells, sizeOf, typeInfo, hq, hi, hm, ← hn, hl, hst]
theorem wpList_copy_rowK {P : Program} {w : World} {ops : Array Oper} {rest : List Oper} {o : Oper} {a : Act} {Q : Exit → Act → World → Prop} (hgd : o.guard = none) (d s : Operand) (dT sT : TypeId)
    (ho : o.op = .call { callee := .builtin .copy, args := #[d, s], argTypes := #[dT, sT] }) (elem : TypeId) (z m : Nat) (hu : P.underlying dT = some (.slice elem)) (hsz : (P.info? elem).map (·.size) = some z)
    (g off dLen dCap : Nat) (ad : Addr) (sLen sCap : Nat) (hd : a.eval d = .slice (some ⟨g, off, none⟩) dLen dCap) (hs : a.eval s = .slice (some ad) sLen sCap)
    (cur : List Value) (t : TypeId) (hg : w.heap[g]? = some (.cells cur.toArray t (0, 0))) (cs : List Value) (hm : Nat.min sLen dLen = m) (hn : cs.length = m * z)
    (hsrc : ∀ j v, cs[j]? = some v → w.cell? (ad.add j) = some v) (hfit : off + cs.length ≤ cur.length) (h1 : ∀ v ∈ cs, v.oneCell' = true) (B : Nat) (w0 : World) (hb : Below B w0 w) (hBg : B ≤ g)
    (h : ∀ w', Hid (w'.heap[g]? = some (.cells (splice cur off cs).toArray t (0, 0))) → Below B w0 w' → wpList P ops Q rest (a.put o.dst (goInt m)) w') : wpList P ops Q (o :: rest) a w := by
  refine wpList_plain hgd fun K hK => ?_
  have hrun := run_copy_rowK (P := P) w dT sT o.type elem g off dLen dCap ad sLen sCap cur.toArray t cs z m hu hsz hg hm hn hsrc (by simpa using hfit) h1
  unfold Oper.wp
  simp [execOp, ho, resolve, invoke, builtin, hd, hs, hrun, Result.andThen]
  exact hK _ _ (h _ (show _ = _ by simpa [splice] using setRow_heap w g _ _ t _ hg) (below_setRow hb hBg _))
theorem step_copy_rowK {P : Program} {ops : Array Oper} {o : Oper} {a : Act} {w : World} {K : Act → World → Prop} {Q : Exit → Act → World → Prop} {E : Prop} (hgd : o.guard = none) (d s : Operand) (dT sT : TypeId)
    (ho : o.op = .call { callee := .builtin .copy, args := #[d, s], argTypes := #[dT, sT] }) (elem : TypeId) (z m : Nat) (hu : P.underlying dT = some (.slice elem)) (hsz : (P.info? elem).map (·.size) = some z)
    (g off dLen dCap : Nat) (ad : Addr) (sLen sCap : Nat) (hd : a.eval d = .slice (some ⟨g, off, none⟩) dLen dCap) (hs : a.eval s = .slice (some ad) sLen sCap)
    (cur : List Value) (t : TypeId) (hg : w.heap[g]? = some (.cells cur.toArray t (0, 0))) (cs : List Value) (hm : Nat.min sLen dLen = m) (hn : cs.length = m * z)
    (hsrc : ∀ j v, cs[j]? = some v → w.cell? (ad.add j) = some v) (hfit : off + cs.length ≤ cur.length) (h1 : ∀ v ∈ cs, v.oneCell' = true) (B : Nat) (w0 : World) (hb : Below B w0 w) (hBg : B ≤ g)
    (h : ∀ w', Hid (w'.heap[g]? = some (.cells (splice cur off cs).toArray t (0, 0))) → Below B w0 w' → K (a.put o.dst (goInt m)) w') :
    if Region.wanted o (yielded ops a.tmps) = true then Oper.wp P o a w K Q else E := by
  have hw : Region.wanted o (yielded ops a.tmps) = true := by simp [Region.wanted, hgd]
  rw [if_pos hw]
  have hrun := run_copy_rowK (P := P) w dT sT o.type elem g off dLen dCap ad sLen sCap cur.toArray t cs z m hu hsz hg hm hn hsrc (by simpa using hfit) h1
  unfold Oper.wp
  simp [execOp, ho, resolve, invoke, builtin, hd, hs, hrun, Result.andThen]
  exact h _ (show _ = _ by simpa [splice] using setRow_heap w g _ _ t _ hg) (below_setRow hb hBg _)
theorem keepOt' {w w' : World} (h : Below w.heap.size w w') {b o : Nat} {v : Value} (hb : b < w.heap.size) (hc : w.cell? ⟨b, o, none⟩ = some v) : w'.cell? ⟨b, o, none⟩ = some v :=
  (World.cell?_of_block (w := w) (h.block b hb)).trans hc
theorem splice_len {L cs : List Value} {off : Nat} (h : off + cs.length ≤ L.length) : (splice L off cs).length = L.length := by
  unfold splice
  rw [List.length_append, List.length_append, List.length_take, List.length_drop]; omega
/-- What the two copies leave in the new row. -/
theorem splice_two (cs vs zs : List Value) (i n m : Nat) (hcl : cs.length = n * 6) (hvl : vs.length = 6) (hi : i < n) (hz : zs.length = m) (hzm : (n + 1 - i) * 6 ≤ m) :
    (splice (splice (cs.take (i * 6) ++ zs) (i * 6) vs) ((i + 1) * 6) (cs.drop (i * 6))).take ((n + 1) * 6) = cs.take (i * 6) ++ (vs ++ cs.drop (i * 6)) := by
  have h1 : (cs.take (i * 6)).length = i * 6 := by rw [List.length_take]; omega
  have e1 : splice (cs.take (i * 6) ++ zs) (i * 6) vs = (cs.take (i * 6) ++ vs) ++ zs.drop 6 := by
    unfold splice
    rw [List.take_append_of_le_length (by omega), List.take_of_length_le (by omega), List.drop_append, List.drop_of_length_le (by omega), List.nil_append, h1, hvl, show i * 6 + 6 - i * 6 = 6 by omega, List.append_assoc]
  rw [e1, ← List.append_assoc (cs.take (i * 6)) vs (cs.drop (i * 6))]
  have h2 : (cs.take (i * 6) ++ vs).length = (i + 1) * 6 := by rw [List.length_append, h1, hvl]; omega
  have h3 : (cs.drop (i * 6)).length = (n - i) * 6 := by rw [List.length_drop, hcl]; omega
  generalize cs.take (i * 6) ++ vs = X at h2 ⊢
  generalize cs.drop (i * 6) = D at h3 ⊢
  generalize zs.drop 6 = Z
  unfold splice
  rw [List.take_append_of_le_length (show (i + 1) * 6 ≤ X.length by omega), List.take_of_length_le (show X.length ≤ (i + 1) * 6 by omega), ← List.append_assoc, List.take_append_of_le_length (by rw [List.length_append]; omega), List.take_of_length_le (by rw [List.length_append]; omega)]
end Go.Proofs.YtfjaphhijefdlaaGreatDoor.Tr
namespace Go.Proofs.YtfjaphhijefdlaaGreatDoor.Tr
open Go.RowKit Atom
set_option linter.unusedVariables false

end Go.Proofs.YtfjaphhijefdlaaGreatDoor.Tr
namespace Go.Proofs.YtfjaphhijefdlaaGreatDoor.Tr
open Go.RowKit Atom
set_option linter.unusedVariables false

theorem run_append_grow2 {P : Program} {w : World} (t u ty e e2 : TypeId) (i : TypeInfo) (z : Value) (ht : P.underlying t = some (.slice e)) (hu : P.underlying u = some (.slice e2)) (hi : P.info? e = some i) (hz : i.zero = some z)
    (b : Addr) (sLen sCap : Nat) (olds : List Value) (hlo : olds.length = sLen * i.size) (holds : ∀ j v, olds[j]? = some v → w.cell? (b.add j) = some v)
    (a : Addr) (n c : Nat) (news : List Value) (hl : news.length = n * i.size) (hnews : ∀ j v, news[j]? = some v → w.cell? (a.add j) = some v)
    (hg : sCap < sLen + n) (h63 : ((sLen + n : Nat) : Int) ≤ 9223372036854775807) (hfit : Builtin.nextslicecap (sLen + n) sCap * i.bytes ≤ 281474976710656) :
    (Builtin.append_ #[t, u] ty #[.slice (some b) sLen sCap, .slice (some a) n c]).run P w =
      .ok (.slice (some ⟨w.heap.size, 0, none⟩) (sLen + n) (grownCap w (sLen + n) sCap e))
        (w.drew.alloc (.cells (olds.toArray ++ news.toArray ++ Builtin.zeroCells z.cells (grownCap w (sLen + n) sCap e - (sLen + n))) e)) := by
  have hsame : (Builtin.append_ #[t, u] ty #[.slice (some b) sLen sCap, .slice (some a) n c]).run P w = (Builtin.append_ #[t, t] ty #[.slice (some b) sLen sCap, .slice (some a) n c]).run P w := by
    simp [Builtin.append_, run_underlying ht, run_underlying hu]
  rw [hsame]
  exact run_append_grow w t ty e i z ht hi hz b sLen sCap olds hlo holds a n c news hl hnews hg h63 hfit

end Go.Proofs.YtfjaphhijefdlaaGreatDoor.Tr
namespace Go.Proofs.YtfjaphhijefdlaaGreatDoor.Tr
open Go.RowKit Atom
set_option linter.unusedVariables false

/-- A row as its cells. -/
theorem gr_cells {w : World} {g : Nat} : ∀ (l : List Sd) (bs : List Nat) (off : Nat), GR eltS w l bs g off → ∃ cs, VL eltS w l cs bs ∧ cs.length = l.length * 6 ∧ (∀ j v, cs[j]? = some v → w.cell? ⟨g, off + j, none⟩ = some v) ∧ ∀ v ∈ cs, v.oneCell' = true
  | [], bs, off, h => by
    rw [GR] at h
    exact ⟨[], ⟨rfl, h⟩, rfl, (fun j v hj => by simp at hj), fun v hv => by cases hv⟩
  | x :: r, bs, off, h => by
    rw [GR] at h
    obtain ⟨b1, b2, eb, hE, hr⟩ := h
    obtain ⟨cs, hv, hl, hc, h1⟩ := gr_cells r b2 (off + eltS.s) hr
    obtain ⟨ta, tp, t⟩ := x
    obtain ⟨tk, tn, ts, tl⟩ := t
    obtain ⟨d0, d1, hOT⟩ := hE
    dsimp only at d0 d1 hOT
    rw [OsT] at hOT
    obtain ⟨d2, d3, d4, hs4, tao, tcap, d5, hl5, hc5, hr5⟩ := hOT
    refine ⟨[.int .i64 ta, .int .i64 tp, .int .i64 tk, .int .i64 tn, .string ts, .slice tao tl.length tcap] ++ cs, ⟨_, cs, b1, b2, rfl, eb, ve_timer (x := ⟨ta, tp, .mk tk tn ts tl⟩) ⟨tao, tcap, rfl, hs4, hl5, hc5, hr5⟩, hv⟩, ?_, fun j v hj => ?_, fun v hv' => ?_⟩
    · rw [List.length_append, hl, List.length_cons]
      show 6 + r.length * 6 = (r.length + 1) * 6
      omega
    · rcases Nat.lt_or_ge j 6 with h6 | h6
      · rw [List.getElem?_append_left (by show j < 6; exact h6)] at hj
        match j, h6 with
        | 0, _ => exact d0.trans hj
        | 1, _ => exact d1.trans hj
        | 2, _ => exact d2.trans hj
        | 3, _ => exact d3.trans hj
        | 4, _ => exact d4.trans hj
        | 5, _ => exact d5.trans hj
      · rw [List.getElem?_append_right (by show 6 ≤ j; exact h6)] at hj
        have := hc (j - 6) v hj
        rw [show off + eltS.s + (j - 6) = off + j by show off + 6 + (j - 6) = _; omega] at this
        exact this
    · rcases List.mem_append.1 hv' with q | q
      · exact sixOne v q
      · exact h1 v q
/-- One more at the place i. -/
def putAt (l : List Sd) (i : Nat) (x : Sd) : List Sd := l.take i ++ x :: l.drop i
theorem VL.insert {w : World} {x : Sd} {vs : List Value} {bx : List Nat} (hx : VE eltS w x vs bx) : ∀ (i : Nat) (l : List Sd) (cs : List Value) (bs : List Nat), VL eltS w l cs bs → i ≤ l.length → ∃ bs', VL eltS w (putAt l i x) (cs.take (i * 6) ++ (vs ++ cs.drop (i * 6))) bs' ∧ bs'.Perm (bx ++ bs)
  | 0, l, cs, bs, h, _ => ⟨bx ++ bs, ⟨vs, cs, bx, bs, by simp, rfl, hx, by simpa using h⟩, List.Perm.refl _⟩
  | i + 1, [], cs, bs, h, hi => by simp at hi
  | i + 1, a :: r, cs, bs, h, hi => by
    obtain ⟨va, ys, b1, b2, e1, e2, ha, hr⟩ := h
    obtain ⟨bs', hv, hp⟩ := VL.insert hx i r ys b2 hr (by simpa using hi)
    have h6 : va.length = 6 := ha.1
    refine ⟨b1 ++ bs', ⟨va, ys.take (i * 6) ++ (vs ++ ys.drop (i * 6)), b1, bs', ?_, rfl, ha, hv⟩, ?_⟩
    · have t1 : (va ++ ys).take ((i + 1) * 6) = va ++ ys.take (i * 6) := by
        rw [List.take_append, List.take_of_length_le (by omega), h6, show (i + 1) * 6 - 6 = i * 6 by omega]
      have t2 : (va ++ ys).drop ((i + 1) * 6) = ys.drop (i * 6) := by
        rw [List.drop_append, List.drop_of_length_le (by omega), h6, show (i + 1) * 6 - 6 = i * 6 by omega, List.nil_append]
      rw [e1, t1, t2, List.append_assoc]
    · rw [e2]
      exact (List.Perm.append_left b1 hp).trans (List.perm_append_comm_assoc _ _ _)
end Go.Proofs.YtfjaphhijefdlaaGreatDoor.Tr
namespace Go.Proofs.YtfjaphhijefdlaaGreatDoor.Tr
open Go.RowKit Atom
set_option linter.unusedVariables false

/-- All ahead of k are not later, all from k on are later. -/
structure Place (l : List Sd) (a : Int) (k : Nat) : Prop where
  le : k ≤ l.length
  lo : ∀ t, t < k → (h2 : t < l.length) → l[t].kind ≤ a
  hi : ∀ t, k ≤ t → (h2 : t < l.length) → a < l[t].kind
def plc (l : List Sd) (a : Int) : Nat := (l.takeWhile (fun y => decide (y.kind ≤ a))).length
theorem Place.eq : ∀ {l : List Sd} {a : Int} {k : Nat}, Place l a k → k = plc l a
  | [], a, k, h => by have := h.le; simp at this; unfold plc; simpa using this
  | y :: r, a, 0, h => by
    have h0 : a < y.kind := h.hi 0 (Nat.le_refl _) (by simp)
    unfold plc
    rw [List.takeWhile_cons_of_neg (by simpa using h0)]; rfl
  | y :: r, a, k + 1, h => by
    have h0 : y.kind ≤ a := h.lo 0 (by omega) (by simp)
    have ih := Place.eq (l := r) (a := a) (k := k) ⟨by have := h.le; simpa using this, fun t ht h2 => h.lo (t + 1) (by omega) (by simpa using h2), fun t ht h2 => h.hi (t + 1) (by omega) (by simpa using h2)⟩
    unfold plc at ih ⊢
    rw [List.takeWhile_cons_of_pos (by simpa using h0), List.length_cons, ← ih]
def insT (l : List Sd) (x : Sd) : List Sd := putAt l (plc l x.kind) x
theorem insT_length (l : List Sd) (x : Sd) : (insT l x).length = l.length + 1 := by
  have h1 : plc l x.kind ≤ l.length := (List.takeWhile_sublist _).length_le
  unfold insT putAt
  simp; omega
theorem ord_le {l : List Sd} (h : ordB l = true) (i : Nat) : ∀ (d : Nat) (hid : i + d < l.length), (l[i]'(by omega)).kind ≤ l[i + d].kind
  | 0, hid => Int.le_refl _
  | d + 1, hid => by
    have h1 := ord_le h i d (by omega)
    have h2 : (l[i + d]'(by omega)).kind ≤ l[i + (d + 1)].kind := (of_decide_eq_true h) (i + (d + 1)) hid
    exact Int.le_trans h1 h2
theorem gl_cells {w : World} {l : List Sd} {bs : List Nat} {g : Nat} (h : GL eltS w l bs (some ⟨g, 0, none⟩)) : ∃ cs b0, VL eltS w l cs b0 ∧ cs.length = l.length * 6 ∧ (∀ j v, cs[j]? = some v → w.cell? ⟨g, j, none⟩ = some v) ∧ (∀ v ∈ cs, v.oneCell' = true) ∧ (∀ b ∈ b0, b ∈ bs) ∧ (bs.Nodup → b0.Nodup) := by
  rcases h with ⟨rfl, rfl⟩ | ⟨hl, g', o, b, rfl, e2, hf, hr⟩
  · exact ⟨[], [], ⟨rfl, rfl⟩, rfl, (fun j v hj => by simp at hj), (fun v hv => by cases hv), (fun b hb => hb), fun h => h⟩
  · injection e2 with e2
    injection e2 with e3 e4
    subst e3 e4
    obtain ⟨cs, hv, hlen, hc, h1⟩ := gr_cells l b 0 hr
    exact ⟨cs, b, hv, hlen, fun j v hj => by have := hc j v hj; rwa [Nat.zero_add] at this, h1, fun x hx => List.mem_cons_of_mem _ hx, fun hn => (List.nodup_cons.1 hn).2⟩
end Go.Proofs.YtfjaphhijefdlaaGreatDoor.Tr
namespace Go.Proofs.YtfjaphhijefdlaaGreatDoor.Tr
open Go.RowKit Atom
set_option linter.unusedVariables false

end Go.Proofs.YtfjaphhijefdlaaGreatDoor.Tr
namespace Go.Proofs.YtfjaphhijefdlaaGreatDoor.Tr
open Go.RowKit Atom
set_option linter.unusedVariables false

/-- Whether a timer is taken. -/
def addB (l : List Sd) (x : Sd) : Bool := tmsB l && (tmB x && decide (l.length < 50))
/-- The timers behind it. -/
def addT (l : List Sd) (x : Sd) : List Sd := if addB l x = true then insT l x else l
theorem addB_le {l : List Sd} {x : Sd} (h : tmsB l = true) : l.length ≤ 50 := by
  unfold tmsB at h
  exact of_decide_eq_true (Bool.and_eq_true_iff.1 h).1
theorem addB_ord {l : List Sd} (h : tmsB l = true) : ordB l = true := by
  unfold tmsB at h
  exact (Bool.and_eq_true_iff.1 (Bool.and_eq_true_iff.1 h).2).1
theorem addT_no {l : List Sd} {x : Sd} (h : addB l x = false) : addT l x = l := by unfold addT; rw [h]; rfl
theorem addT_yes {l : List Sd} {x : Sd} (h : addB l x = true) : addT l x = insT l x := by unfold addT; rw [h]; rfl

end Go.Proofs.YtfjaphhijefdlaaGreatDoor.Tr
namespace Go.Proofs.YtfjaphhijefdlaaGreatDoor.Tv
open Go.RowKit Atom
open Go.Proofs.YtfjaphhijefdlaaGreatDoor.Tr
set_option linter.unusedVariables false

theorem ve_s {w : World} {x : Sd} {bs : List Nat} {b off : Nat} (h : eltS.E w x bs b off) (vs : List Value) (hl : vs.length = 6) (hv : ∀ j v, j < 6 → w.cell? ⟨b, off + j, none⟩ = some v → vs[j]? = some v) : VE eltS w x vs bs := by
  obtain ⟨h0, h1, h2⟩ := h
  refine ⟨hl, OsT.lt _ _ _ _ h2, fun w' b' off' hc hk => ⟨hc 0 _ (hv 0 _ (by omega) h0), hc 1 _ (hv 1 _ (by omega) h1), ?_⟩⟩
  obtain ⟨kind, pid, t⟩ := x
  obtain ⟨k, n, s, l⟩ := t
  have h3 := h2
  show OsT w' (.mk k n s l) bs b' (off' + 2)
  have h3' : OsT w (.mk k n s l) bs b (off + 2) := h3
  rw [OsT] at h3' ⊢
  obtain ⟨g0, g1, g2, hs, ao, cap, g3, q1, q2, q3⟩ := h3'
  exact ⟨hc 2 _ (hv 2 _ (by omega) g0), hc 3 _ (hv 3 _ (by omega) g1), hc 4 _ (hv 4 _ (by omega) g2), hs, ao, cap, hc 5 _ (hv 5 _ (by omega) g3), q1, q2, OsL.keep _ _ _ (fun x hx _ => hk x hx) q3⟩
theorem VL.len6 {w : World} : ∀ {l : List Sd} {xs : List Value} {bs : List Nat}, VL eltS w l xs bs → xs.length = l.length * 6
  | [], _, _, ⟨h1, h2⟩ => by subst h1; rfl
  | a :: l, _, _, ⟨vs, ys, b1, b2, h1, h2, h3, h4⟩ => by
    have h5 : vs.length = 6 := h3.1
    have h6 := VL.len6 h4
    rw [h1, List.length_append, List.length_cons]; omega

end Go.Proofs.YtfjaphhijefdlaaGreatDoor.Tv
