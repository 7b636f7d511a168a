/-
  Code read of bytes: what the specification's GetCode answers.
-/
import Derived.Test.YtgdlkekjbdkjjaaGreatDoorU9
import Derived.Test.YtgdlkekjbdkjjaaGreatDoorCkC
namespace Go.Proofs.YtgdlkekjbdkjjaaGreatDoor.Cb
open Go.RowKit
open Go.Proofs.YtgdlkekjbdkjjaaGreatDoor.By
open Go.Proofs.YtgdlkekjbdkjjaaGreatDoor.Code (I codeB specOk RowI SmI Bx6 insL)
set_option linter.unusedVariables false

/-- The instructions l stand in a row of the call's own. -/
def IRw (w : World) (B : Nat) (v : Value) (l : List I) : Prop := w.ownsRow B 47 6 v l.length (l.flatMap insL)
theorem IRw.slice {w : World} {B : Nat} {v : Value} {l : List I} (h : IRw w B v l) : ∃ va vc, v = .slice va l.length vc ∧ l.length ≤ vc ∧ vc ≤ maxLen := by
  rcases h.2 with ⟨hv, h0⟩ | ⟨g, cap, cur, hv, _, _, h1, h2, _⟩
  · exact ⟨none, 0, by rw [hv, h0], by omega, Nat.zero_le _⟩
  · exact ⟨_, cap, hv, h1, h2⟩
theorem IRw.kept {w w' : World} {B : Nat} {v : Value} {l : List I} (h : IRw w B v l) (hb : Below w.heap.size w w') : IRw w' B v l :=
  World.ownsRow.kept h ⟨hb.os, hb.tape, hb.output, hb.size, fun k hk _ => hb.block k hk⟩ (row := none) (by cases hv : v.ownBlock with | none => exact .inl rfl | some x => exact .inr (by simp))
theorem IRw.base {w : World} {B B' : Nat} {v : Value} {l : List I} (h : IRw w B v l) (hB : B' ≤ B) : IRw w B' v l := by
  refine ⟨h.1, ?_⟩
  rcases h.2 with hn | ⟨g, cap, cur, hv, hb, rest⟩
  · exact .inl hn
  · exact .inr ⟨g, cap, cur, hv, Nat.le_trans hB hb, rest⟩
theorem flat_at : ∀ (l : List I) (j i : Nat), (hj : j < l.length) → (hi : i < 6) → (l.flatMap insL)[j * 6 + i]? = (insL l[j])[i]?
  | x :: l, 0, i, _, hi => by
    rw [List.flatMap_cons, Nat.zero_mul, Nat.zero_add, List.getElem?_append_left (show i < 6 from hi)]; rfl
  | x :: l, j + 1, i, hj, hi => by
    have hj' : j < l.length := by simpa using hj
    rw [List.flatMap_cons, List.getElem?_append_right (by show 6 ≤ _; omega)]
    have : (j + 1) * 6 + i - (insL x).length = j * 6 + i := by show (j + 1) * 6 + i - 6 = _; omega
    rw [this, flat_at l j i hj' hi]; rfl
theorem flat_len6 (l : List I) : (l.flatMap insL).length = l.length * 6 := by
  induction l with
  | nil => rfl
  | cons x l ih => rw [List.flatMap_cons, List.length_append, ih, List.length_cons]; show 6 + _ = _; omega
theorem IRw.row {w : World} {B : Nat} {va : Option Addr} {n vc : Nat} {l : List I} (h : IRw w B (.slice va n vc) l) : RowI w va l := by
  by_cases hl : l = []
  · exact .inl hl
  rcases h.2 with ⟨_, h0⟩ | ⟨g, cap, cur, hv, hB, hg, h1, _, hs, ht⟩
  · exact absurd (List.length_eq_zero_iff.1 h0) hl
  · simp only [Value.slice.injEq] at hv
    obtain ⟨rfl, _, _⟩ := hv
    refine .inr ⟨g, 0, rfl, fun j hj => ?_⟩
    have hc : ∀ i, i < 6 → w.cell? ⟨g, 0 + j * 6 + i, none⟩ = (insL l[j])[i]? := fun i hi => by
      rw [World.cell?, hg]
      simp only
      have h2 : (cur.toList.take (l.length * 6))[j * 6 + i]? = (l.flatMap insL)[j * 6 + i]? := by rw [ht]
      rw [List.getElem?_take, if_pos (by omega), flat_at l j i hj hi] at h2
      rw [Nat.zero_add]
      simpa using h2
    exact ⟨hc 0 (by omega), hc 1 (by omega), hc 2 (by omega), hc 3 (by omega), hc 4 (by omega), hc 5 (by omega)⟩
theorem iRw_snoc {w : World} {B : Nat} {v : Value} {l : List I} {x : I} (h : w.ownsRow B 47 6 v (l.length + 1) (l.flatMap insL ++ insL x)) : IRw w B v (l ++ [x]) := by
  unfold IRw
  simpa using h
theorem one6 (x : I) : ∀ u ∈ insL x, u.oneCell' = true := fun u hu => by
  simp only [insL, List.mem_cons, List.not_mem_nil, or_false] at hu
  rcases hu with rfl | rfl | rfl | rfl | rfl | rfl <;> rfl
theorem news6 (W : World) (x : I) : ∀ j u, (insL x)[j]? = some u → (W.alloc (.cells #[.int .i64 x.op, .int .i64 x.a, .int .i64 x.b, .int .i64 x.c, .int .i64 x.n, .string x.s] 47)).cell? ((⟨W.heap.size, 0, none⟩ : Addr).add j) = some u := by
  intro j u hj
  have e : (⟨W.heap.size, 0, none⟩ : Addr).add j = ⟨W.heap.size, j, none⟩ := by unfold Addr.add; by_cases h : j = 0 <;> simp [h]
  rw [e, World.cell?_alloc_new, ← hj]
  exact List.getElem?_toArray

theorem IRw.turn {cb B : Nat} {w w' : World} {v : Value} {l : List I} (h : IRw w B v l) (t : Turn cb w w') (hc : cb < B) : IRw w' B v l := by
  refine World.ownsRow.kept (row := some cb) h ⟨t.os, t.tape, t.output, t.size, fun k hk hn => t.block k hk (fun e => hn (by rw [e]))⟩ ?_
  cases hv : v.ownBlock with
  | none => exact .inl rfl
  | some k => exact .inr (fun e => by injection e with e; have := (World.ownsRow.lt h k hv).1; omega)
theorem IRw.drew {w : World} {B : Nat} {v : Value} {l : List I} (h : IRw w B v l) : IRw w.drew B v l := h

/-- What the loop has in hand. -/
structure Sg (w wr : World) (ao : Option Addr) (cap : Nat) (L : List UInt8) (n e0 : Int) (v : Value) (l : List I) (a : Int) (bad : Bool) : Prop where
  row : IRw wr (w.heap.size + 1) v l
  rdr : Rdr wr w.heap.size ao cap L a bad
  below : Below w.heap.size w wr
  good : bad = false → 1 ≤ n → n ≤ 200 → addIs l (rdIs L 12 (n.toNat - l.length) a) = rdIs L 12 n.toNat e0
  no : bad = true → getC L = none
  small : bad = false → SmI 12 l
theorem get_far {L : List UInt8} {n e0 : Int} (h : getB L 0 = some (n, e0)) (hn : ¬ (1 ≤ n ∧ n ≤ 200)) : getC L = none := by
  unfold getC getCm; rw [h]; simp only; rw [if_neg hn]
theorem get_near {L : List UInt8} {n e0 : Int} (h : getB L 0 = some (n, e0)) (hn : 1 ≤ n ∧ n ≤ 200) : getC L = okC L (rdIs L 12 n.toNat e0) := by
  unfold getC getCm; rw [h]; simp only; rw [if_pos hn]
/-- What the loop has in hand behind an instruction that was read, ahead of its being kept. -/
structure Sg2 (w wr : World) (ao : Option Addr) (cap : Nat) (L : List UInt8) (n e0 : Int) (v : Value) (l : List I) (x : I) (a : Int) (bad : Bool) : Prop where
  row : IRw wr (w.heap.size + 1) v l
  rdr : Rdr wr w.heap.size ao cap L a bad
  below : Below w.heap.size w wr
  good : bad = false → 1 ≤ n → n ≤ 200 → addIs (l ++ [x]) (rdIs L 12 (n.toNat - (l ++ [x]).length) a) = rdIs L 12 n.toNat e0
  no : bad = true → getC L = none
  small : bad = false → SmI 12 (l ++ [x])
theorem sg_ins {w wr w2 : World} {ao : Option Addr} {cap : Nat} {L : List UInt8} {n e0 : Int} {v : Value} {l : List I} {a a' : Int} {x : I} {bad : Bool} (h : Sg w wr ao cap L n e0 v l a false) (hg : getB L 0 = some (n, e0)) (h1 : (l.length : Int) < n)
    (hr : Rdr w2 w.heap.size ao cap L a' bad) (ht : Turn w.heap.size wr w2) (hc : (bad = false ∧ rdI L 12 a = some (x, a')) ∨ (bad = true ∧ rdI L 12 a = none)) : Sg2 w w2 ao cap L n e0 v l x a' bad := by
  refine ⟨h.row.turn ht (by omega), hr, Turn.below h.below h.below.size ht (Nat.le_refl _), fun hb h2 h3 => ?_, fun hb => ?_, fun hb => ?_⟩
  · rcases hc with ⟨_, hx⟩ | ⟨hb2, _⟩
    · rw [← h.good rfl h2 h3, show n.toNat - l.length = (n.toNat - l.length - 1) + 1 by omega, addIs_step L 12 l _ a a' x hx]
      congr 2
      rw [List.length_append]
      simp
      try omega
    · rw [hb] at hb2; cases hb2
  · rcases hc with ⟨hb2, _⟩ | ⟨_, hx⟩
    · rw [hb] at hb2; cases hb2
    · by_cases hn : 1 ≤ n ∧ n ≤ 200
      · rw [get_near hg hn, ← h.good rfl hn.1 hn.2, show n.toNat - l.length = (n.toNat - l.length - 1) + 1 by omega, addIs_none L 12 l _ a hx]; rfl
      · exact get_far hg hn
  · rcases hc with ⟨_, hx⟩ | ⟨hb2, _⟩
    · intro y hy
      rcases List.mem_append.1 hy with hy | hy
      · exact h.small rfl y hy
      · rw [List.mem_singleton.1 hy]
        have := rdI_size hx
        omega
    · rw [hb] at hb2; cases hb2
theorem Sg2.keep {w w3 w4 : World} {ao : Option Addr} {cap : Nat} {L : List UInt8} {n e0 : Int} {v v4 : Value} {l : List I} {a : Int} {x : I} {bad : Bool} (h : Sg2 w w3 ao cap L n e0 v l x a bad) (hlow : ∀ b o, ao = some ⟨b, o, none⟩ → b < w.heap.size)
    (hown : w4.ownsRow (w.heap.size + 1) 47 6 v4 (l.length + 1) (l.flatMap insL ++ insL x)) (hgr : (w3.alloc (.cells #[.int .i64 x.op, .int .i64 x.a, .int .i64 x.b, .int .i64 x.c, .int .i64 x.n, .string x.s] 47)).grownBy w4 v.ownBlock) : Sg w w4 ao cap L n e0 v4 (l ++ [x]) a bad := by
  have hb3 : Below w3.heap.size w3 (w3.alloc (.cells #[.int .i64 x.op, .int .i64 x.a, .int .i64 x.b, .int .i64 x.c, .int .i64 x.n, .string x.s] 47)) := (Below.refl _ _).alloc (Nat.le_refl _) _
  have hlt := h.rdr.lt
  have hrow := fun k (hk : v.ownBlock = some k) => (World.ownsRow.lt h.row k hk).1
  have hbl : ∀ k, k ≤ w.heap.size → w4.heap[k]? = w3.heap[k]? := fun k hk => by
    rw [hgr.block k (by rw [World.size_alloc]; omega) (fun e => by have := hrow k e.symm; omega)]
    exact hb3.block k (by omega)
  refine ⟨iRw_snoc hown, ⟨(hbl _ (Nat.le_refl _)).trans h.rdr.blk, fun h0 => ?_⟩, (h.below.alloc h.below.size _).grown hgr (by rw [World.size_alloc]; omega) (fun k hk => by have := hrow k hk; omega), h.good, h.no, h.small⟩
  obtain ⟨b, o, e, hn, hx⟩ := h.rdr.rd h0
  have := hlow b o e
  exact ⟨b, o, e, hn, fun j hj => by rw [World.cell?_of_block (w := w3) (hbl b (by omega))]; exact hx j hj⟩
/-- What GetCode answers. -/
def GcS (L : List UInt8) (w : World) (e : Ending) (w' : World) : Prop :=
  ((∃ l v, getC L = some l ∧ e = .returned (.tuple #[v, .bool true]) ∧ IRw w' w.heap.size v l) ∨ (getC L = none ∧ ∃ g, e = .returned (.tuple #[.slice (some ⟨g, 0, none⟩) 0 0, .bool false]))) ∧ Below w.heap.size w w'

set_option maxHeartbeats 4000000 in
set_option maxRecDepth 100000 in
theorem specGetC_any (ao : Option Addr) (cap : Nat) (L : List UInt8) (w : World) (hr : RdB w ao L) (hN : L.length ≤ 1048600) (hcap : L.length ≤ cap) (hlow : ∀ b o, ao = some ⟨b, o, none⟩ → b < w.heap.size) :
    Calls Tryz.prog 10 #[.slice ao L.length cap] w fun e w' => GcS L w e w' := by
  obtain ⟨i0, hi, hz0, hz1, hz2⟩ := parts8 Code.infoIns
  have HI : Hid (Tryz.prog.info? 47 = some i0 ∧ i0.zero = some (.agg #[.int .i64 0, .int .i64 0, .int .i64 0, .int .i64 0, .int .i64 0, .string ⟨#[]⟩]) ∧ i0.size = 6 ∧ i0.bytes = 56) := ⟨hi, hz0, hz1, hz2⟩
  clear hi hz0 hz1 hz2
  have HB0 : Hid (Below w.heap.size w (w.alloc (.cells #[.slice ao L.length cap, .int .i64 0, .bool false] 58))) := (Below.refl _ _).alloc (Nat.le_refl _) _
  have HR0 : Hid (Rdr (w.alloc (.cells #[.slice ao L.length cap, .int .i64 0, .bool false] 58)) w.heap.size ao cap L 0 false) := by
    refine ⟨heap_alloc_new w _, fun h0 => ?_⟩
    obtain ⟨b, o, e, hb⟩ := hr h0
    have := hlow b o e
    exact ⟨b, o, e, by omega, hb.below HB0.out⟩
  have HLO : Hid (∀ b o, ao = some ⟨b, o, none⟩ → b < w.heap.size) := hlow
  clear hr hlow
  go_enter Tryz.func10, Tryz.ntmps10
  go_wp2_with fail
  refine (l13Num_any w.heap.size ao cap L 0 false _ HR0.out hN).mono ?_
  rintro e w1 ⟨rfl, hr1, ht1⟩
  have hs1 : w.heap.size < w1.heap.size := by have := ht1.size; rw [World.size_alloc] at this; omega
  have hb1 : Below w.heap.size w w1 := Turn.below HB0.out HB0.out.size ht1 (Nat.le_refl _)
  have hS0 : ∀ n e0 bad, nSt L 0 false = (n, e0, bad) → (bad = true → getC L = none) → Sg w (w1.alloc (.cells #[] 47)) ao cap L n e0 (.slice (some ⟨w1.heap.size, 0, none⟩) ([] : List I).length 0) [] e0 bad := fun n e0 bad hq hno => by
    rw [hq] at hr1
    have hbx : Below w1.heap.size w1 (w1.alloc (.cells #[] 47)) := (Below.refl _ _).alloc (Nat.le_refl _) _
    exact ⟨World.ownsRow_made (base := w.heap.size + 1) (e := 47) (size := 6) w1 #[] 0 (by omega) (Nat.zero_le _) rfl, hr1.below hbx, hb1.alloc hb1.size _, fun _ _ _ => addIs_nil _, hno, fun _ x hx => by cases hx⟩
  cases hg : getB L 0 with
  | none =>
    have hq : nSt L 0 false = (0, 0, true) := by unfold nSt; rw [if_neg (by decide), hg]
    have hno : getC L = none := by unfold getC getCm; rw [hg]
    have HS : Hid (Sg w (w1.alloc (.cells #[] 47)) ao cap L 0 0 (.slice (some ⟨w1.heap.size, 0, none⟩) ([] : List I).length 0) [] 0 true) := hS0 0 0 true hq (fun _ => hno)
    have HNO : Hid (getC L = none) := hno
    rw [hq]
    have c2 : (w1.alloc (.cells #[] 47)).cell? ⟨w.heap.size, 2, none⟩ = some (.bool true) := by rw [cell_blk HS.out.rdr.blk]; rfl
    clear hq hno hg hS0 hr1 ht1 hs1 hb1
    go_wp2_with fail
    refine wp_loop_rounds 1 ?_
    rw [rounds_succ]
    go_wp2_with fail
    refine bodyPost_ret (v := .tuple #[.slice (some ⟨w1.heap.size + 1, 0, none⟩) 0 0, .bool false]) (by simp [results, Tryz.results10, go_sem]) rfl ⟨.inr ⟨HNO.out, _, rfl⟩, HS.out.below.alloc HS.out.below.size _⟩
  | some p =>
    obtain ⟨n, e0⟩ := p
    have hq : nSt L 0 false = (n, e0, false) := by unfold nSt; rw [if_neg (by decide), hg]
    have HS : Hid (Sg w (w1.alloc (.cells #[] 47)) ao cap L n e0 (.slice (some ⟨w1.heap.size, 0, none⟩) ([] : List I).length 0) [] e0 false) := hS0 n e0 false hq (fun h => by cases h)
    have HG : Hid (getB L 0 = some (n, e0)) := hg
    rw [hq]
    clear hq hg hS0 hr1 ht1 hs1 hb1
    go_wp2_with fail
    go_loopw [6, 7] (fun v iv wr => ∃ (l : List I) (a : Int) (bad : Bool), l.length ≤ 201 ∧ (l.length = 0 ∨ (l.length : Int) ≤ n) ∧ iv = .int .i64 l.length ∧ Sg w wr ao cap L n e0 v l a bad) (fun _ iv _ => 201 - (intOf iv).toNat)
    case atStart => exact ⟨[], e0, false, Nat.zero_le _, .inl rfl, rfl, HS.out⟩
    case round =>
      obtain ⟨l, a, bad, hl, hln, rfl, hsg⟩ := hrel
      obtain ⟨va, vc, rfl, hv1, hv2⟩ := hsg.row.slice
      have HSG : Hid (Sg w wr ao cap L n e0 (.slice va l.length vc) l a bad) := hsg
      have c1 : wr.cell? ⟨w.heap.size, 1, none⟩ = some (.int .i64 a) := by rw [cell_blk hsg.rdr.blk]; rfl
      have c2 : wr.cell? ⟨w.heap.size, 2, none⟩ = some (.bool bad) := by rw [cell_blk hsg.rdr.blk]; rfl
      clear hsg hv1 hv2 HS
      cases bad with
      | true =>
        have HNO : Hid (getC L = none) := HSG.out.no rfl
        by_cases h1 : (l.length : Int) < n
        · by_cases h2 : l.length < 201
          · go_wp2_with fail
            refine bodyPost_ret (v := .tuple #[.slice (some ⟨wr.heap.size, 0, none⟩) 0 0, .bool false]) (by simp [results, Tryz.results10, go_sem]) rfl ⟨.inr ⟨HNO.out, _, rfl⟩, HSG.out.below.alloc HSG.out.below.size _⟩
          · go_wp2_with fail
            refine bodyPost_ret (v := .tuple #[.slice (some ⟨wr.heap.size, 0, none⟩) 0 0, .bool false]) (by simp [results, Tryz.results10, go_sem]) rfl ⟨.inr ⟨HNO.out, _, rfl⟩, HSG.out.below.alloc HSG.out.below.size _⟩
        · go_wp2_with fail
          refine bodyPost_ret (v := .tuple #[.slice (some ⟨wr.heap.size, 0, none⟩) 0 0, .bool false]) (by simp [results, Tryz.results10, go_sem]) rfl ⟨.inr ⟨HNO.out, _, rfl⟩, HSG.out.below.alloc HSG.out.below.size _⟩
      | false =>
        by_cases hgo : (l.length : Int) < n ∧ l.length < 201
        · obtain ⟨h1, h2⟩ := hgo
          go_wp2_with fail
          have hbb := HSG.out.below.size
          refine (l13Ins_any w.heap.size ao cap L a wr HSG.out.rdr hN hcap (fun b o e => Nat.lt_of_lt_of_le (HLO.out b o e) hbb)).mono ?_
          rintro e w2 ⟨x, a', bad, rfl, hr2, ht2, hcase⟩
          have HS2 : Hid (Sg2 w w2 ao cap L n e0 (.slice va l.length vc) l x a' bad) := sg_ins HSG.out HG.out h1 hr2 ht2 hcase
          clear hr2 ht2 hcase hbb
          have C3 : Hid (l.length + 1 ≤ maxLen) := by show _ ≤ _; unfold maxLen; omega
          have C4 : Hid ((l.length + 1) * 56 ≤ 140737488355328) := by show _ ≤ _; omega
          have CR : Hid (IRw (w2.alloc (.cells #[.int .i64 x.op, .int .i64 x.a, .int .i64 x.b, .int .i64 x.c, .int .i64 x.n, .string x.s] 47)) (w.heap.size + 1) (.slice va l.length vc) l) := HS2.out.row.kept ((Below.refl _ _).alloc (Nat.le_refl _) _)
          have C1 : Hid (∀ j u, (insL x)[j]? = some u → (w2.alloc (.cells #[.int .i64 x.op, .int .i64 x.a, .int .i64 x.b, .int .i64 x.c, .int .i64 x.n, .string x.s] 47)).cell? ((⟨w2.heap.size, 0, none⟩ : Addr).add j) = some u) := news6 w2 x
          have C5 : Hid (w.heap.size + 1 ≤ (w2.alloc (.cells #[.int .i64 x.op, .int .i64 x.a, .int .i64 x.b, .int .i64 x.c, .int .i64 x.n, .string x.s] 47)).heap.size) := by show _ ≤ _; rw [World.size_alloc]; have := HS2.out.below.size; omega
          go_wp2_with (at_builtin; refine wpList_append_own _ rfl _ _ 25 rfl (w.heap.size + 1) 47 i0 (.agg #[.int .i64 0, .int .i64 0, .int .i64 0, .int .i64 0, .int .i64 0, .string ⟨#[]⟩]) 6 56 Code.undInsS HI.out.1 HI.out.2.1 HI.out.2.2.1 HI.out.2.2.2 rfl (by decide) _ _ _ rfl CR.out ⟨w2.heap.size, 0, none⟩ 1 1 (insL x) rfl rfl C1.out (one6 _) C3.out C4.out C5.out ?_; intro v4 w4 hown4 hgr4 hnil4)
          have HS4 : Hid (Sg w w4 ao cap L n e0 v4 (l ++ [x]) a' bad) := HS2.out.keep HLO.out hown4 hgr4
          have HL4 : Hid ((l ++ [x]).length = l.length + 1) := by show _ = _; simp
          clear hown4 hgr4 hnil4
          go_wp2_with fail
          go_roundw
          case rel => exact ⟨l ++ [x], a', bad, by rw [HL4.out]; omega, .inr (by rw [HL4.out]; omega), by rw [HL4.out]; go_num, HS4.out⟩
          case measure => simp [intOf]; omega
        · have hno : ∀ (hE : a ≠ (L.length : Int) ∨ n ≠ (l.length : Int)), getC L = none := fun hE => by
            by_cases hn : 1 ≤ n ∧ n ≤ 200
            · have hll : (l.length : Int) = n := by omega
              have hee := HSG.out.good rfl hn.1 hn.2
              rw [show n.toNat - l.length = 0 by omega] at hee
              have hee2 : rdIs L 12 n.toNat e0 = some (l, a) := by rw [← hee]; simp [rdIs, addIs]
              rw [get_near HG.out hn, hee2]
              unfold okC
              simp only
              rw [if_neg (fun h => by omega)]
            · exact get_far HG.out hn
          by_cases he : a = (L.length : Int)
          rotate_left
          · have HNO : Hid (getC L = none) := hno (.inl he)
            have hne : (a != (L.length : Int)) = true := by simpa using he
            clear hno he
            by_cases h1 : (l.length : Int) < n
            · have h2 : ¬ (l.length : Int) < 201 := by omega
              clear hgo
              go_wp2_with fail
              refine bodyPost_ret (v := .tuple #[.slice (some ⟨wr.heap.size, 0, none⟩) 0 0, .bool false]) (by simp [results, Tryz.results10, go_sem]) rfl ⟨.inr ⟨HNO.out, _, rfl⟩, HSG.out.below.alloc HSG.out.below.size _⟩
            · clear hgo
              go_wp2_with fail
              refine bodyPost_ret (v := .tuple #[.slice (some ⟨wr.heap.size, 0, none⟩) 0 0, .bool false]) (by simp [results, Tryz.results10, go_sem]) rfl ⟨.inr ⟨HNO.out, _, rfl⟩, HSG.out.below.alloc HSG.out.below.size _⟩
          · by_cases hnl : n = (l.length : Int)
            rotate_left
            · have HNO : Hid (getC L = none) := hno (.inr hnl)
              have hne : (n != (l.length : Int)) = true := by simpa using hnl
              clear hno hnl
              subst he
              by_cases h1 : (l.length : Int) < n
              · have h2 : ¬ (l.length : Int) < 201 := by omega
                clear hgo
                go_wp2_with fail
                refine bodyPost_ret (v := .tuple #[.slice (some ⟨wr.heap.size, 0, none⟩) 0 0, .bool false]) (by simp [results, Tryz.results10, go_sem]) rfl ⟨.inr ⟨HNO.out, _, rfl⟩, HSG.out.below.alloc HSG.out.below.size _⟩
              · clear hgo
                go_wp2_with fail
                refine bodyPost_ret (v := .tuple #[.slice (some ⟨wr.heap.size, 0, none⟩) 0 0, .bool false]) (by simp [results, Tryz.results10, go_sem]) rfl ⟨.inr ⟨HNO.out, _, rfl⟩, HSG.out.below.alloc HSG.out.below.size _⟩
            · have HSM : Hid (SmI maxLen l) := fun x hx => by have := HSG.out.small rfl x hx; unfold maxLen; omega
              have HCO : Hid (∀ w', w' = wr → Calls Tryz.prog 24 #[.slice va l.length vc] w' fun e w'' => e = .returned (.bool (codeB l)) ∧ Below w'.heap.size w' w'') := fun w' h => by
                subst h
                exact Code.specCode_any l va vc w' HSG.out.row.row HSM.out (by omega)
              have HGE : Hid (codeB l = true → getC L = some l) := fun hcb => by
                have h12 := codeB_len hcb
                have hn : 1 ≤ n ∧ n ≤ 200 := by omega
                have hee := HSG.out.good rfl hn.1 hn.2
                rw [show n.toNat - l.length = 0 by omega] at hee
                have hee2 : rdIs L 12 n.toNat e0 = some (l, a) := by rw [← hee]; simp [rdIs, addIs]
                rw [get_near HG.out hn, hee2, he]
                exact okC_of hcb
              have HGN : Hid (codeB l = false → getC L = none) := fun hcb => by
                by_cases hn : 1 ≤ n ∧ n ≤ 200
                · have hee := HSG.out.good rfl hn.1 hn.2
                  rw [show n.toNat - l.length = 0 by omega] at hee
                  have hee2 : rdIs L 12 n.toNat e0 = some (l, a) := by rw [← hee]; simp [rdIs, addIs]
                  rw [get_near HG.out hn, hee2]
                  unfold okC
                  simp only
                  rw [if_neg (by rw [hcb]; simp)]
                · exact get_far HG.out hn
              have hb0 : (a != (L.length : Int)) = false := by simpa using he
              have hb1 : (n != (l.length : Int)) = false := by simpa using hnl
              have h1 : ¬ (l.length : Int) < n := by omega
              clear hno he hnl hgo
              cases hcb : codeB l with
              | true =>
                have HY : Hid (getC L = some l) := HGE.out hcb
                rw [hcb] at HCO
                clear hcb
                go_wp2_with (go_at_call 24; refine (HCO.out _ rfl).mono ?_; rintro e w3 ⟨rfl, hb3⟩; have HR3 : Hid (IRw w3 w.heap.size (.slice va l.length vc) l ∧ Below w.heap.size w w3) := ⟨(HSG.out.row.kept hb3).base (Nat.le_succ _), join8 HSG.out.below hb3⟩; clear hb3)
                refine bodyPost_ret (v := .tuple #[.slice va l.length vc, .bool true]) (by simp [results, Tryz.results10, go_sem]) rfl ⟨.inl ⟨l, _, HY.out, rfl, HR3.out.1⟩, HR3.out.2⟩
              | false =>
                have HNO : Hid (getC L = none) := HGN.out hcb
                rw [hcb] at HCO
                clear hcb
                go_wp2_with (go_at_call 24; refine (HCO.out _ rfl).mono ?_; rintro e w3 ⟨rfl, hb3⟩; have HR3 : Hid (Below w.heap.size w w3) := join8 HSG.out.below hb3; clear hb3)
                refine bodyPost_ret (v := .tuple #[.slice (some ⟨w3.heap.size, 0, none⟩) 0 0, .bool false]) (by simp [results, Tryz.results10, go_sem]) rfl ⟨.inr ⟨HNO.out, _, rfl⟩, HR3.out.alloc HR3.out.size _⟩
end Go.Proofs.YtgdlkekjbdkjjaaGreatDoor.Cb
