/-
  A copy that is being made: what its lists are when all is done.
-/
import Derived.Test.YtimnnedmpmlmdaaOsC
namespace Go.Proofs.Ytimnnedmpmlmdaa
open Go.RowKit
set_option linter.unusedVariables false

/-- All of these are copied whole, into the blocks B and their own. -/
def Done (w : World) : List Ps → List Nat → Prop
  | [], B => B = []
  | x :: r, B => ∃ b1 b2, B = b1 ++ b2 ∧ OsR w x.m b1 x.g 0 ∧ (∀ o, w.frozen? ⟨x.g, o, none⟩ = false) ∧ Done w r b2
theorem Done.split {w : World} : ∀ {a b : List Ps} {B : List Nat}, Done w (a ++ b) B → ∃ B1 B2, B = B1 ++ B2 ∧ Done w a B1 ∧ Done w b B2
  | [], b, B, h => ⟨[], B, rfl, by rw [Done], h⟩
  | x :: a, b, B, h => by
    rw [List.cons_append, Done] at h
    obtain ⟨b1, b2, e, h1, h2, h3⟩ := h
    obtain ⟨B1, B2, e2, h4, h5⟩ := Done.split h3
    exact ⟨b1 ++ B1, B2, by rw [e, e2, List.append_assoc], by rw [Done]; exact ⟨b1, B1, rfl, h1, h2, h4⟩, h5⟩
theorem Done.join {w : World} : ∀ {a b : List Ps} {B1 B2 : List Nat}, Done w a B1 → Done w b B2 → Done w (a ++ b) (B1 ++ B2)
  | [], b, B1, B2, h, h' => by rw [Done] at h; subst h; exact h'
  | x :: a, b, B1, B2, h, h' => by
    rw [Done] at h
    obtain ⟨b1, b2, e, h1, h2, h3⟩ := h
    rw [List.cons_append, Done]
    exact ⟨b1, b2 ++ B2, by rw [e, List.append_assoc], h1, h2, Done.join h3 h'⟩
/-- The terms of m stand in the block g from off on, their lists those of cs. -/
def Half (w : World) (g : Nat) : List Tm → Nat → List Ps → Prop
  | [], _, cs => cs = []
  | .mk k n s l :: r, off, cs => w.cell? ⟨g, off, none⟩ = some (.int .i64 k) ∧ w.cell? ⟨g, off + 1, none⟩ = some (.int .i64 n) ∧ w.cell? ⟨g, off + 2, none⟩ = some (.string s) ∧ s.size ≤ 1048576 ∧
      ((l = [] ∧ w.cell? ⟨g, off + 3, none⟩ = some (.slice none 0 0) ∧ Half w g r (off + 4) cs) ∨
       (l ≠ [] ∧ ∃ x cs', cs = x :: cs' ∧ x.m = l ∧ w.cell? ⟨g, off + 3, none⟩ = some (.slice (some ⟨x.g, 0, none⟩) l.length x.c) ∧ l.length ≤ x.c ∧ x.c ≤ maxLen ∧ Half w g r (off + 4) cs'))
theorem Half.keep {w w' : World} {g : Nat} : ∀ {m : List Tm} {off : Nat} {cs : List Ps}, (∀ o v, off ≤ o → o < off + 4 * m.length → w.cell? ⟨g, o, none⟩ = some v → w'.cell? ⟨g, o, none⟩ = some v) → Half w g m off cs → Half w' g m off cs
  | [], off, cs, _, h => by rw [Half] at h ⊢; exact h
  | .mk k n s l :: r, off, cs, hc, h => by
    rw [Half] at h ⊢
    obtain ⟨h0, h1, h2, hs, h3⟩ := h
    have hr : ∀ cs, Half w g r (off + 4) cs → Half w' g r (off + 4) cs := fun cs => Half.keep (fun o v ho1 ho2 hv => hc o v (by omega) (by simp; omega) hv)
    refine ⟨hc _ _ (by omega) (by simp) h0, hc _ _ (by omega) (by simp; omega) h1, hc _ _ (by omega) (by simp; omega) h2, hs, ?_⟩
    rcases h3 with ⟨e, h3, h4⟩ | ⟨e, x, cs', e1, e2, h3, h4, h5, h6⟩
    · exact .inl ⟨e, hc _ _ (by omega) (by simp; omega) h3, hr _ h4⟩
    · exact .inr ⟨e, x, cs', e1, e2, hc _ _ (by omega) (by simp; omega) h3, h4, h5, hr _ h6⟩
theorem Half.snoc {w : World} {g : Nat} {k n : Int} {s : ByteArray} {l : List Tm} {c : List Ps} : ∀ {m : List Tm} {off : Nat} {cs : List Ps}, Half w g m off cs → Half w g [.mk k n s l] (off + 4 * m.length) c → Half w g (m ++ [.mk k n s l]) off (cs ++ c)
  | [], off, cs, h, h' => by rw [Half] at h; subst h; simpa using h'
  | .mk k1 n1 s1 l1 :: r, off, cs, h, h' => by
    rw [Half] at h
    rw [List.cons_append, Half]
    obtain ⟨h0, h1, h2, hs, h3⟩ := h
    have e : off + 4 * (Tm.mk k1 n1 s1 l1 :: r).length = off + 4 + 4 * r.length := by simp; omega
    rw [e] at h'
    refine ⟨h0, h1, h2, hs, ?_⟩
    rcases h3 with ⟨e, h3, h4⟩ | ⟨e, x, cs', e1, e2, h3, h4, h5, h6⟩
    · exact .inl ⟨e, h3, Half.snoc h4 h'⟩
    · exact .inr ⟨e, x, cs' ++ c, by rw [e1]; rfl, e2, h3, h4, h5, Half.snoc h6 h'⟩
/-- Where all of cs are whole, so is the row. -/
theorem Half.done {w w' : World} {g : Nat} (hk : ∀ o v, w.cell? ⟨g, o, none⟩ = some v → w'.cell? ⟨g, o, none⟩ = some v) : ∀ {m : List Tm} {off : Nat} {cs : List Ps} {B : List Nat}, Half w g m off cs → Done w' cs B → ∃ Bm, OsR w' m Bm g off ∧ Bm.Perm (cs.map Ps.g ++ B)
  | [], off, cs, B, h, hd => by
    rw [Half] at h
    subst h
    rw [Done] at hd
    subst hd
    exact ⟨[], by rw [OsR], List.Perm.refl _⟩
  | .mk k n s l :: r, off, cs, B, h, hd => by
    rw [Half] at h
    obtain ⟨h0, h1, h2, hs, h3⟩ := h
    rcases h3 with ⟨e, h3, h4⟩ | ⟨e, x, cs', e1, e2, h3, h4, h5, h6⟩
    · subst e
      obtain ⟨Bm, hb, hp⟩ := Half.done hk h4 hd
      refine ⟨[] ++ Bm, ?_, by simpa using hp⟩
      rw [OsR]
      refine ⟨[], Bm, rfl, ?_, hb⟩
      rw [OsT]
      exact ⟨hk _ _ h0, hk _ _ h1, hk _ _ h2, hs, none, 0, hk _ _ h3, Nat.le_refl _, Nat.zero_le _, by rw [OsL]⟩
    · subst e1
      rw [Done] at hd
      obtain ⟨b1, b2, eb, hr, hf, hd2⟩ := hd
      obtain ⟨Bm, hb, hp⟩ := Half.done hk h6 hd2
      rw [e2] at hr
      refine ⟨(x.g :: b1) ++ Bm, ?_, ?_⟩
      · rw [OsR]
        refine ⟨x.g :: b1, Bm, rfl, ?_, hb⟩
        rw [OsT]
        exact ⟨hk _ _ h0, hk _ _ h1, hk _ _ h2, hs, some ⟨x.g, 0, none⟩, x.c, hk _ _ h3, h4, h5, (OsL.iff e).2 ⟨x.g, 0, b1, rfl, rfl, hf, hr⟩⟩
      · rw [eb, List.map_cons, List.cons_append, List.cons_append]
        refine List.Perm.cons _ ?_
        refine (hp.append_left b1).trans ?_
        rw [← List.append_assoc, ← List.append_assoc]
        exact List.perm_append_comm.append_right b2
/-- What remains to be done makes all of l whole. -/
def Kont (l : List Tm) (g0 : Nat) (F : List Nat) (w : World) (st : List Ps) : Prop := ∀ w' B, (∀ b ∈ F, w'.heap[b]? = w.heap[b]?) → Done w' st B → ∃ bs, bs.Perm (F ++ (st.map Ps.g ++ B)) ∧ OsL w' l bs (some ⟨g0, 0, none⟩)
theorem Kont.start {l : List Tm} (hl : l ≠ []) (w : World) (g c : Nat) (ob : List Nat) : Kont l g [] w [⟨g, c, l, ob⟩] := fun w' B _ hd => by
  rw [Done] at hd
  obtain ⟨b1, b2, e, h1, h2, h3⟩ := hd
  rw [Done] at h3
  subst h3
  rw [List.append_nil] at e
  subst e
  exact ⟨g :: B, List.Perm.refl _, (OsL.iff hl).2 ⟨g, 0, B, rfl, rfl, h2, h1⟩⟩
theorem Kont.step {l : List Tm} {g0 : Nat} {F : List Nat} {wS w1 : World} {st0 cs : List Ps} {x : Ps} (h : Kont l g0 F wS (st0 ++ [x])) (hF : ∀ b ∈ F, w1.heap[b]? = wS.heap[b]?) (hh : Half w1 x.g x.m 0 cs) (hf : ∀ o, w1.frozen? ⟨x.g, o, none⟩ = false) : Kont l g0 (x.g :: F) w1 (st0 ++ cs) := fun w' B hk hd => by
  obtain ⟨B0, Bc, e, h1, h2⟩ := Done.split hd
  have hg := hk x.g (List.mem_cons_self ..)
  obtain ⟨Bm, hb, hp⟩ := Half.done (w' := w') (fun o v hv => (World.cell?_of_block (w := w1) hg).trans hv) hh h2
  obtain ⟨bs, hperm, hos⟩ := h w' (B0 ++ Bm) (fun b hb => (hk b (List.mem_cons_of_mem _ hb)).trans (hF b hb)) (Done.join h1 (by rw [Done]; exact ⟨Bm, [], by simp, hb, fun o => (World.frozen?_of_block (w := w1) hg).trans (hf o), by rw [Done]⟩))
  refine ⟨bs, hperm.trans ?_, hos⟩
  rw [e, List.map_append, List.map_append, List.map_cons, List.map_nil]
  rw [List.perm_iff_count]
  intro a
  have := (List.perm_iff_count.1 hp) a
  simp only [List.count_append, List.count_cons, List.count_nil] at this ⊢
  omega
theorem Kont.fin {l : List Tm} {g0 : Nat} {F : List Nat} {w : World} (h : Kont l g0 F w []) : ∃ bs, bs.Perm F ∧ OsL w l bs (some ⟨g0, 0, none⟩) := by
  obtain ⟨bs, h1, h2⟩ := h w [] (fun _ _ => rfl) (by rw [Done])
  exact ⟨bs, by simpa using h1, h2⟩
end Go.Proofs.Ytimnnedmpmlmdaa
