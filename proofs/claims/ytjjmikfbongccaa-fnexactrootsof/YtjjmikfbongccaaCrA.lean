/-
  The roots of a cell, both kinds.
-/
import Derived.Test.YtjjmikfbongccaaCcA
import Derived.Test.YtjjmikfbongccaaCeA
import Derived.Deep.AppendLies
import Derived.Deep.RegionLaw
namespace Go.Proofs.Ytjjmikfbongccaa
open Go.RowKit
set_option linter.unusedVariables false

/-- Registers and what waits stand somewhere. -/
structure Cat (w : World) (c : Ce) (h : Cw) (b1 o1 b2 o2 : Nat) : Prop where
  ra : h.ra = some ⟨b1, o1, none⟩
  ba : h.ba = some ⟨b2, o2, none⟩
  rs : ∀ j, j < c.R → w.cell? ⟨b1, o1 + j, none⟩ = some (.int .i64 (c.r j))
  bs : ∀ j, j < c.B → w.cell? ⟨b2, o2 + j, none⟩ = some (.int .i64 (c.b j))
theorem Cat.below {w w' : World} {c : Ce} {h : Cw} {b1 o1 b2 o2 : Nat} (x : Cat w c h b1 o1 b2 o2) (hb : Below w.heap.size w w') : Cat w' c h b1 o1 b2 o2 :=
  ⟨x.ra, x.ba, fun j hj => keepC hb (x.rs j hj), fun j hj => keepC hb (x.bs j hj)⟩
theorem CI.cat {w : World} {c : Ce} {x y z : Nat} (h : CI w c x y z) : Cat w c (cwN c x y z) x 0 y 0 := ⟨rfl, rfl, fun j hj => h.r.cell j hj, fun j hj => h.b.cell j hj⟩
/-- Its roots: registers, then what waits. -/
def rts (c : Ce) : List Int := rowL c.R c.r ++ rowL c.B c.b
theorem rts_len (c : Ce) : (rts c).length = c.R + c.B := by simp [rts, rowL_len]

set_option maxHeartbeats 1000000 in
set_option maxRecDepth 100000 in
theorem implRoots_any (c : Ce) (h : Cw) (b1 o1 b2 o2 : Nat) (w : World) (hc : Cat w c h b1 o1 b2 o2) (hs : CeS c) :
    Calls Try.prog 8 #[ceV c h] w fun e w' => ∃ v, e = .returned v ∧ OwI w' w.heap.size v (rts c) ∧ Below w.heap.size w w' := by
  obtain ⟨pid, pc, R, r, B, b, N, f, ha⟩ := c
  obtain ⟨ra, rc, ba, bc, la, lc⟩ := h
  have e1 := hc.ra
  have e2 := hc.ba
  dsimp only at e1 e2
  subst e1 e2
  have HS : Hid (R ≤ 1048576 ∧ B ≤ 1048576) := by unfold CeS at hs; dsimp only at hs; exact ⟨by omega, by omega⟩
  have HC : Hid (Cat w ⟨pid, pc, R, r, B, b, N, f, ha⟩ ⟨some ⟨b1, o1, none⟩, rc, some ⟨b2, o2, none⟩, bc, la, lc⟩ b1 o1 b2 o2) := hc
  clear hc hs
  go_enter Try.func8, Try.ntmps8
  go_wp2_with (go_at_call 29; fail)
  generalize hW : (w.alloc (.cells #[.int .i64 pid, .int .i64 pc, .slice (some ⟨b1, o1, none⟩) R rc, .slice (some ⟨b2, o2, none⟩) B bc, .slice la N lc, .int .i64 ha] 27)) = W
  have hb0 : Below w.heap.size w W := by rw [← hW]; exact (Below.refl _ _).alloc (Nat.le_refl _) _
  have hz0 : W.heap.size = w.heap.size + 1 := by rw [← hW, World.size_alloc]
  clear hW
  rw [← hz0]
  have hb1 : Below w.heap.size w (W.alloc (.cells #[.slice (some ⟨b1, o1, none⟩) R rc, .slice (some ⟨b2, o2, none⟩) B bc] 22)) := hb0.alloc hb0.size _
  refine (concat_any W.heap.size b1 o1 R rc r b2 o2 B bc b _ (fun o => World.cell?_alloc_new W _ _ o) (HC.out.below hb1).rs (HC.out.below hb1).bs HS.out.1 HS.out.2).mono ?_
  rintro e w2 ⟨v, rfl, ho2, hb2⟩
  have HO : Hid (OwI w2 w.heap.size v (rowL R r ++ rowL B b)) := by
    refine ⟨ho2.1, ho2.2.imp id ?_⟩
    rintro ⟨g, cap, cur, h1, h2, h3⟩
    exact ⟨g, cap, cur, h1, Nat.le_trans hb1.size h2, h3⟩
  have HB : Hid (Below w.heap.size w w2) := hb1.trans (hb2.mono hb1.size)
  clear ho2 hb2 hb1 hb0 hz0
  go_wp2_with fail
  go_ret
  exact ⟨_, rfl, HO.out, HB.out⟩

theorem step_append_any {P : Program} {w : World} {ops : Array Oper} {o : Oper} {a : Act} {K : Act → World → Prop} {Q : Exit → Act → World → Prop} {E : Prop} (hgd : o.guard = none) (s x : Operand) (t : TypeId)
    (ho : o.op = .call { callee := .builtin .append, args := #[s, x], argTypes := #[t, t] })
    (base : Nat) (e : TypeId) (i : TypeInfo) (z : Value) (size bytes : Nat) (ht : P.underlying t = some (.slice e)) (hi : P.info? e = some i) (hz : i.zero = some z)
    (hsize : i.size = size) (hby : i.bytes = bytes) (hzs : z.cells.size = size) (hsz : 0 < size)
    (v : Value) (n : Nat) (xs : List Value) (hs : a.eval s = v) (hown : w.ownsRow base e size v n xs)
    (ad : Addr) (m c : Nat) (news : List Value) (hx : a.eval x = .slice (some ad) m c) (hl : news.length = m * size) (hnews : ∀ j u, news[j]? = some u → w.cell? (ad.add j) = some u) (h1 : ∀ u ∈ news, u.oneCell' = true)
    (h63 : n + m ≤ maxLen) (hbytes : (n + m) * bytes ≤ 140737488355328) (hbase : base ≤ w.heap.size)
    (h : ∀ v' w', w'.ownsRow base e size v' (n + m) (xs ++ news) → w.grownBy w' v.ownBlock → (v'.ownBlock = v.ownBlock ∨ v'.ownBlock = some w.heap.size) → K (a.put o.dst v') w') :
    if Region.wanted o (yielded ops a.tmps) = true then Oper.wp P o a w K Q else E := by
  have hw : Region.wanted o (yielded ops a.tmps) = true := by simp [Region.wanted, hgd]
  rw [if_pos hw]
  obtain ⟨v', w', hr, h2, h3, h4, h5⟩ := run_append_own_at (P := P) w base t o.type e i z size bytes ht hi hz hsize hby hzs hsz v n xs hown ad m c news hl hnews h1 h63 hbytes hbase
  unfold Oper.wp execOp
  simp only [ho, resolve, invoke, builtin, Sem.run_bind, Sem.run_pure, Result.andThen_ok, List.map_toArray, List.map_cons, List.map_nil, hs, hx, hr]
  exact h v' w' h2 h3 h5

set_option maxHeartbeats 2000000 in
set_option maxRecDepth 100000 in
theorem specRoots_any (c : Ce) (h : Cw) (b1 o1 b2 o2 : Nat) (w : World) (hc : Cat w c h b1 o1 b2 o2) (hs : CeS c) :
    Calls Try.prog 6 #[ceV c h] w fun e w' => ∃ v, e = .returned v ∧ OwI w' w.heap.size v (rts c) ∧ Below w.heap.size w w' := by
  obtain ⟨pid, pc, R, r, B, b, N, f, ha⟩ := c
  obtain ⟨ra, rc, ba, bc, la, lc⟩ := h
  have e1 := hc.ra
  have e2 := hc.ba
  dsimp only at e1 e2
  subst e1 e2
  have HS : Hid (R ≤ 1048576 ∧ B ≤ 1048576) := by unfold CeS at hs; dsimp only at hs; exact ⟨by omega, by omega⟩
  obtain ⟨i0, hi, hz0, hz1, hz2⟩ := infoPartsC infoInt
  have HI : Hid (Try.prog.info? 3 = some i0 ∧ i0.zero = some (.int .i64 0) ∧ i0.size = 1 ∧ i0.bytes = 8) := ⟨hi, hz0, hz1, hz2⟩
  clear hi hz0 hz1 hz2
  obtain ⟨W0, hW0⟩ : ∃ W0, W0 = w.alloc (.cells #[.int .i64 pid, .int .i64 pc, .slice (some ⟨b1, o1, none⟩) R rc, .slice (some ⟨b2, o2, none⟩) B bc, .slice la N lc, .int .i64 ha] 27) := ⟨_, rfl⟩
  have hz0 : W0.heap.size = w.heap.size + 1 := by rw [hW0, World.size_alloc]
  have hb0 : Below w.heap.size w W0 := by rw [hW0]; exact (Below.refl _ _).alloc (Nat.le_refl _) _
  have hq : ∀ o, W0.cell? ⟨w.heap.size, o, none⟩ = (#[.int .i64 pid, .int .i64 pc, .slice (some ⟨b1, o1, none⟩) R rc, .slice (some ⟨b2, o2, none⟩) B bc, .slice la N lc, .int .i64 ha] : Array Value)[o]? := fun o => by rw [hW0]; exact World.cell?_alloc_new w _ _ o
  have q2 : W0.cell? ⟨w.heap.size, 2, none⟩ = some (.slice (some ⟨b1, o1, none⟩) R rc) := hq 2
  have q3 : W0.cell? ⟨w.heap.size, 3, none⟩ = some (.slice (some ⟨b2, o2, none⟩) B bc) := hq 3
  have HB : Hid (Below w.heap.size w (W0.alloc (.cells #[] 3)).drew) := (hb0.alloc hb0.size _).drew
  have hlt : w.heap.size < W0.heap.size := by omega
  have t2 : (W0.alloc (.cells #[] 3)).cell? ⟨w.heap.size, 2, none⟩ = some (.slice (some ⟨b1, o1, none⟩) R rc) := by rw [World.cell?_alloc_lt (h := hlt)]; exact q2
  have t3 : (W0.alloc (.cells #[] 3)).cell? ⟨w.heap.size, 3, none⟩ = some (.slice (some ⟨b2, o2, none⟩) B bc) := by rw [World.cell?_alloc_lt (h := hlt)]; exact q3
  have HW0 : Hid ((W0.alloc (.cells #[] 3)).drew.ownsRow W0.heap.size 3 1 (.slice (some ⟨W0.heap.size, 0, none⟩) 0 0) 0 []) := World.ownsRow_made (e := 3) (size := 1) W0 #[] 0 (Nat.le_refl _) (Nat.zero_le _) rfl
  have HZ : Hid (W0.heap.size ≤ (W0.alloc (.cells #[] 3)).drew.heap.size) := by show _ ≤ (W0.alloc (.cells #[] 3)).heap.size; rw [World.size_alloc]; omega
  have HQ3 : Hid (∀ W2, (W0.alloc (.cells #[] 3)).drew.grownBy W2 (some W0.heap.size) → W2.cell? ⟨w.heap.size, 3, none⟩ = some (.slice (some ⟨b2, o2, none⟩) B bc) ∧ Below w.heap.size w W2 ∧ W0.heap.size ≤ W2.heap.size) := fun W2 hg => by
    have hl2 : w.heap.size < (W0.alloc (.cells #[] 3)).drew.heap.size := by have := HZ.out; omega
    have hne : some w.heap.size ≠ some W0.heap.size := by simp; omega
    refine ⟨?_, HB.out.grown hg HB.out.size (fun k hk => by injection hk with hk; omega), Nat.le_trans HZ.out hg.size⟩
    rw [hg.cell_far ⟨w.heap.size, 3, none⟩ hl2 hne]
    exact t3
  have HSZ : Hid (W0.heap.size = w.heap.size + 1) := hz0
  have hr := hc.rs
  have hb := hc.bs
  dsimp only at hr hb
  have HL1 : Hid (((rowL R r).map (Value.int .i64)).length = R * 1) := by show _ = _; rw [List.length_map, rowL_len]; omega
  have HL2 : Hid (((rowL B b).map (Value.int .i64)).length = B * 1) := by show _ = _; rw [List.length_map, rowL_len]; omega
  have HC1 : Hid (∀ j u, ((rowL R r).map (Value.int .i64))[j]? = some u → (W0.alloc (.cells #[] 3)).drew.cell? ((⟨b1, o1, none⟩ : Addr).add j) = some u) := rowL_cells (fun j hj => keepC HB.out (hr j hj))
  have HC2 : Hid (∀ W2, Below w.heap.size w W2 → ∀ j u, ((rowL B b).map (Value.int .i64))[j]? = some u → W2.cell? ((⟨b2, o2, none⟩ : Addr).add j) = some u) := fun W2 hb2 => rowL_cells (fun j hj => keepC hb2 (hb j hj))
  have C3 : Hid (0 + R ≤ maxLen ∧ (0 + R) * 8 ≤ 140737488355328 ∧ 0 + R + B ≤ maxLen ∧ (0 + R + B) * 8 ≤ 140737488355328) := by
    have := HS.out; unfold maxLen; exact ⟨by omega, by omega, by omega, by omega⟩
  have HFIN : Hid (∀ v2 w2 v3 w3, Below w.heap.size w w2 → w2.ownsRow W0.heap.size 3 1 v2 (0 + R) ([] ++ (rowL R r).map (Value.int .i64)) → w2.grownBy w3 v2.ownBlock → w3.ownsRow W0.heap.size 3 1 v3 (0 + R + B) ([] ++ (rowL R r).map (Value.int .i64) ++ (rowL B b).map (Value.int .i64)) → OwI w3 w.heap.size v3 (rowL R r ++ rowL B b) ∧ Below w.heap.size w w3) := fun v2 w2 v3 w3 hb2 ho2 hg3 ho3 => by
    refine ⟨?_, hb2.grown hg3 hb2.size (fun k hk => ?_)⟩
    · unfold OwI
      rw [List.length_append, rowL_len, rowL_len, List.map_append]
      rw [List.nil_append, Nat.zero_add] at ho3
      refine ⟨ho3.1, ho3.2.imp id ?_⟩
      rintro ⟨g, cap, cur, h1, h2, h3⟩
      exact ⟨g, cap, cur, h1, by omega, h3⟩
    · rcases ho2.2 with ⟨h0, _⟩ | ⟨gg, cap, cur, h0, h1, _⟩
      · rw [h0] at hk; simp [Value.ownBlock] at hk
      · rw [h0] at hk; simp only [Value.ownBlock, Option.some.injEq] at hk; omega
  clear hr hb hc hs hq hb0 hlt
  go_enter Try.func6, Try.ntmps6
  go_wp2_with fail
  rw [← hW0]
  clear hW0
  rw [← hz0] at *
  go_region_law (first
    | (refine step_append_any rfl (.tmp 3) (.tmp 5) 22 rfl W0.heap.size 3 i0 (.int .i64 0) 1 8 undInts HI.out.1 HI.out.2.1 HI.out.2.2.1 HI.out.2.2.2 rfl Nat.zero_lt_one (.slice (some ⟨W0.heap.size, 0, none⟩) 0 0) 0 [] (by simp [Act.eval]) HW0.out ⟨b1, o1, none⟩ R rc ((rowL R r).map (Value.int .i64)) (by simp [Act.eval]) HL1.out HC1.out (oneI _) C3.out.1 C3.out.2.1 HZ.out ?_; intro v2 w2 hown2 hgr2 hat2; obtain ⟨t3b, hb2, hz2⟩ := HQ3.out w2 hgr2)
    | (refine step_append_any rfl (.tmp 6) (.tmp 8) 22 rfl W0.heap.size 3 i0 (.int .i64 0) 1 8 undInts HI.out.1 HI.out.2.1 HI.out.2.2.1 HI.out.2.2.2 rfl Nat.zero_lt_one v2 (0 + R) ([] ++ (rowL R r).map (Value.int .i64)) (by simp [Act.eval]) hown2 ⟨b2, o2, none⟩ B bc ((rowL B b).map (Value.int .i64)) (by simp [Act.eval]) HL2.out (HC2.out _ hb2) (oneI _) C3.out.2.2.1 C3.out.2.2.2 hz2 ?_; intro v3 w3 hown3 hgr3 hat3)
    | go_simp)
  all_goals
    have HF : Hid (OwI w3 w.heap.size v3 (rowL R r ++ rowL B b) ∧ Below w.heap.size w w3) := HFIN.out v2 w2 v3 w3 hb2 hown2 hgr3 hown3
    clear hown2 hown3 hgr2 hgr3 hat2 hat3 t3b hb2 hz2
    go_wp2_with fail
    go_ret
    exact ⟨_, rfl, HF.out.1, HF.out.2⟩
end Go.Proofs.Ytjjmikfbongccaa
