/-
  The open lists of a copying: the last is taken, and is done; all are done.
-/
import Derived.Test.YtimnnedmpmlmdaaOsE
namespace Go.Proofs.Ytimnnedmpmlmdaa
open Go.RowKit
set_option linter.unusedVariables false

theorem own_pop {w : World} {base : Nat} {e : TypeId} {oa : Option Addr} {n oc : Nat} {xs : List Value} {v : Value} (h : w.ownsRow base e 1 (.slice oa (n + 1) oc) (n + 1) (xs ++ [v])) : w.ownsRow base e 1 (.slice oa n oc) n xs ∧ ∃ ob, oa = some ⟨ob, 0, none⟩ ∧ w.cell? ⟨ob, n, none⟩ = some v ∧ n + 1 ≤ oc ∧ oc ≤ maxLen := by
  obtain ⟨hl, hh | ⟨g, c, cur, e1, e2, e3, e4, e5, e6, e7⟩⟩ := h
  · exact absurd hh.2 (by omega)
  · simp only [Value.slice.injEq] at e1
    obtain ⟨rfl, _, rfl⟩ := e1
    have hx : xs.length = n := by simp at hl; omega
    have hcell : w.cell? ⟨g, n, none⟩ = cur[n]? := by simp [World.cell?, e3]
    refine ⟨⟨by rw [hx]; omega, Or.inr ⟨g, oc, cur, rfl, e2, e3, by omega, e5, e6, ?_⟩⟩, g, rfl, ?_, e4, e5⟩
    · have := congrArg (List.take n) e7
      rw [List.take_take, List.take_append_of_le_length (by omega), List.take_of_length_le (by omega : xs.length ≤ n)] at this
      rw [Nat.mul_one] at this ⊢
      rw [← this]; congr 1; omega
    · rw [hcell, ← Array.getElem?_toList]
      have : (cur.toList.take ((n + 1) * 1))[n]? = some v := by rw [e7, List.getElem?_append_right (by omega)]; simp [hx]
      rw [List.getElem?_take, if_pos (by omega)] at this
      exact this
theorem Wk.last {w0 w : World} {C mb : Nat} {oa : Option Addr} {oc : Nat} {F : List Nat} {st0 : List Ps} {x : Ps} {nn T : Nat} {S : Nat → Nat → Prop} {extra : Nat} {rem : List Nat} (h : Wk w0 w C mb (.slice oa (st0.length + 1) oc) F (st0 ++ [x]) nn T S extra rem) : ∃ ob, oa = some ⟨ob, 0, none⟩ ∧ w.cell? ⟨ob, st0.length, none⟩ = some (psV x) ∧ st0.length + 1 ≤ oc ∧ oc ≤ maxLen := by
  have ho := h.cp.own
  rw [List.length_append, List.map_append] at ho
  exact (own_pop ho).2
theorem Wk.pop {w0 w : World} {C mb : Nat} {oa : Option Addr} {oc : Nat} {F : List Nat} {st0 : List Ps} {x : Ps} {nn T : Nat} {S : Nat → Nat → Prop} (h : Wk w0 w C mb (.slice oa (st0.length + 1) oc) F (st0 ++ [x]) nn T S 0 []) : In w0 w (w.setCell ⟨C, 0, none⟩ (.slice oa st0.length oc)) C mb (.slice oa st0.length oc) F st0 [] x 0 nn nn T S x.ob := by
  have hx := h.mem (y := x) (by simp)
  have hxo := h.ps x (by simp)
  have hb : ∀ k, k ≠ C → (w.setCell ⟨C, 0, none⟩ (.slice oa st0.length oc)).heap[k]? = w.heap[k]? := fun k hk => Below.heap_setCell _ ⟨C, 0, none⟩ _ k hk
  have hblk : ∀ n, (Value.slice oa n oc).ownBlock = (Value.slice oa (st0.length + 1) oc).ownBlock := fun n => by cases oa <;> rfl
  have ho := h.cp.own
  rw [List.length_append, List.map_append] at ho
  have ho2 := (own_pop ho).1
  have hC0 := h.cp.hC
  have hovC : (Value.slice oa st0.length oc).ownBlock ≠ some C := fun e => (h.cp.ne2 C ((hblk _).symm.trans e)).1 rfl
  have hnd : (x.g :: F ++ st0.map Ps.g).Nodup := by
    refine (List.Perm.nodup_iff ?_).1 h.nd
    rw [List.map_append, ← List.append_assoc]
    exact List.perm_append_comm
  refine ⟨⟨⟨?_, World.cell?_setCell_same _ _ _ h.cp.c0, ?_, ?_, fun o => by rw [World.frozen?_setCell]; exact h.cp.fz o, ?_, ?_, h.cp.old, h.cp.hC, h.cp.hm, h.cp.ne1, fun g hg => h.cp.ne2 g ((hblk _).symm.trans hg)⟩, fun y hy => ?_, ?_, fun b hx2 => ?_, fun y hy => h.olds y (by simp at hy ⊢; exact .inl hy), ?_, ?_, by have := h.len; simp at this ⊢; omega⟩, by simp [Half], ?_, fun o => by rw [World.frozen?_setCell]; exact hxo.free o, fun b hF => hb b (h.lo b (by simp [hF])).2.2.1, by simp, fun b hb2 => h.olds x (by simp) b hb2, hxo.siz.keep (hb x.g hx.2.2.1)⟩
  · exact h.cp.be.setCell hC0 _
  · rw [World.cell?_setCell_other (h := fun e => by simp only [Addr.mk.injEq] at e; omega)]; exact h.cp.c1
  · rw [World.cell?_setCell_other (h := fun e => by simp only [Addr.mk.injEq] at e; omega)]; exact h.cp.c2
  · rw [List.append_nil]; exact ownsRow_set9 ho2 hovC _
  · refine h.cp.mp.keep (hb mb (fun e => h.cp.ne1 e.symm)) (fun b o hs hp => ?_)
    have hbl := h.cp.old b o hs
    have hbb := hb b (by omega)
    obtain ⟨⟨c, t, f, hh⟩, hf⟩ := hp
    exact ⟨⟨c, t, f, hbb.trans hh⟩, fun y => by rw [World.frozen?_of_block (w := w) hbb]; exact hf y⟩
  · have hy' : y ∈ st0 ++ [x] := by simp at hy ⊢; exact .inl hy
    exact (h.ps y hy').keep (hb y.g (h.mem hy').2.2.1) (fun b hb2 _ => hb b (by have := h.olds y hy' b hb2; omega))
  · rw [List.append_nil]; exact hnd
  · have hm : b ∈ F ++ (st0 ++ [x]).map Ps.g := by
      simp at hx2 ⊢
      rcases hx2 with h | h | h
      · exact .inr (.inr h)
      · exact .inl h
      · exact .inr (.inl h)
    obtain ⟨a1, a2, a3, a4, a5⟩ := h.lo b hm
    exact ⟨a1, by rw [World.size_setCell]; exact a2, a3, a4, fun e => a5 ((hblk _).symm.trans e)⟩
  · have := h.cnt
    rw [List.append_nil]
    rw [List.map_append, List.sum_append] at this
    simp at this ⊢
    omega
  · rcases h.dup with hd | ⟨h1, h2⟩
    · exact .inl hd
    · refine .inr ⟨by simpa using h1, fun b o hS => by simpa using h2 b o hS⟩
  · rw [List.drop_zero]
    exact OsR.keep _ _ _ _ (fun b hb2 _ => hb b (by have := h.olds x (by simp) b hb2; omega)) (fun o v _ _ hv => (World.cell?_of_block (w := w) (hb x.g hx.2.2.1)).trans hv) hxo.row
/-- A list is done. -/
theorem In.fin {w0 wS w : World} {C mb : Nat} {ov : Value} {F : List Nat} {st0 cs : List Ps} {x : Ps} {i nn nS T : Nat} {S : Nat → Nat → Prop} {rem : List Nat} {l : List Tm} {g0 : Nat} (h : In w0 wS w C mb ov F st0 cs x i nn nS T S rem) (hi : x.m.length ≤ i) (hk : Kont l g0 F wS (st0 ++ [x])) : Wk w0 w C mb ov (x.g :: F) (st0 ++ cs) nn T S 0 [] ∧ Kont l g0 (x.g :: F) w (st0 ++ cs) := by
  have hr := h.row
  have hw := h.wk
  have hh := h.half
  rw [List.drop_of_length_le hi] at hr hw
  rw [List.take_of_length_le hi] at hh
  rw [OsR] at hr
  subst hr
  rw [inL] at hw
  exact ⟨hw, hk.step h.kF hh h.fr⟩
/-- Where the first list's copy is: among what is done, or still open. -/
def Top (g0 c0 : Nat) (F : List Nat) (w : World) (st : List Ps) : Prop := (g0 ∈ F ∧ Szd w g0 c0) ∨ ∃ x ∈ st, x.g = g0 ∧ x.c = c0
theorem In.top {w0 wS w : World} {C mb : Nat} {ov : Value} {F : List Nat} {st0 cs : List Ps} {x : Ps} {i nn nS T : Nat} {S : Nat → Nat → Prop} {rem : List Nat} {g0 c0 : Nat} (h : In w0 wS w C mb ov F st0 cs x i nn nS T S rem) (ht : Top g0 c0 F wS (st0 ++ [x])) : Top g0 c0 (x.g :: F) w (st0 ++ cs) := by
  rcases ht with ⟨h1, h2⟩ | ⟨y, hy, h1, h2⟩
  · exact .inl ⟨List.mem_cons_of_mem _ h1, h2.keep (h.kF g0 h1)⟩
  · rcases List.mem_append.1 hy with hy | hy
    · exact .inr ⟨y, List.mem_append_left _ hy, h1, h2⟩
    · rw [List.mem_singleton] at hy
      subst hy
      have hz := h.sz
      rw [h1, h2] at hz
      exact .inl ⟨by rw [h1]; exact List.mem_cons_self, hz⟩
/-- All is done. -/
theorem Wk.fin {w0 w : World} {C mb : Nat} {ov : Value} {F : List Nat} {nn T : Nat} {S : Nat → Nat → Prop} {extra : Nat} {rem : List Nat} {l : List Tm} {g0 : Nat} (h : Wk w0 w C mb ov F [] nn T S extra rem) (hk : Kont l g0 F w []) : ∃ bs, OsL w l bs (some ⟨g0, 0, none⟩) ∧ bs.Nodup ∧ ∀ b ∈ bs, w0.heap.size ≤ b := by
  obtain ⟨bs, hp, ho⟩ := hk.fin
  have hn := h.nd
  rw [List.map_nil, List.append_nil] at hn
  exact ⟨bs, ho, (List.Perm.nodup_iff hp).2 hn, fun b hb => (h.lo b (List.mem_append_left _ (hp.mem_iff.1 hb))).1⟩
/-- The first list. -/
theorem Wk.start {w0 w : World} {C mb : Nat} {ov : Value} {l : List Tm} {g c b o : Nat} {bs : List Nat} {S : Nat → Nat → Prop} (hl : l ≠ []) (hcp : Cp w0 w C mb ov [⟨g, c, l, bs⟩] l.length S) (hok : Ps.ok w ⟨g, c, l, bs⟩) (hg : w0.heap.size ≤ g) (hgl : g < w.heap.size) (hC : g ≠ C) (hm : g ≠ mb) (hov : ov.ownBlock ≠ some g) (hbs : ∀ z ∈ bs, z < w0.heap.size) (hS : ∀ x y, S x y → x = b) (hd : ntL l ≤ 10000 ∨ (b :: bs).Nodup) : Wk w0 w C mb ov [] [⟨g, c, l, bs⟩] l.length (ntL l) S 0 [] := by
  refine ⟨hcp, fun y hy => by simp at hy; subst hy; exact hok, by simp, fun z hz => by simp at hz; subst hz; exact ⟨hg, hgl, hC, hm, hov⟩, fun y hy => by simp at hy; subst hy; exact hbs, by rw [ntL_eq l]; simp, ?_, ?_⟩
  rotate_left
  · rcases Nat.eq_zero_or_pos l.length with h | h
    · exact absurd (List.eq_nil_of_length_eq_zero h) hl
    · exact h
  rcases hd with h | h
  · exact .inl h
  · obtain ⟨h1, h2⟩ := List.nodup_cons.1 h
    refine .inr ⟨by simpa using h2, fun x y hs => ?_⟩
    rw [hS x y hs]
    simpa using h1
end Go.Proofs.Ytimnnedmpmlmdaa
