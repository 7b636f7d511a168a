/-
  A timer put among others: the specification's AddTimer.
  (Ahead of it, in this text: Timers that are due, timers that are dropped: the specification's answers. A timer put among others by the specification: the later ones move up, one by one.)
-/
import Derived.Test.YtnpbmfcilcnilaaTrL
import Derived.Test.YtnpbmfcilcnilaaU1
namespace Go.Proofs.Ytnpbmfcilcnilaa.Tr
open Go.RowKit Atom
set_option linter.unusedVariables false

/-- What stands in a row, as the cells that it takes. -/
theorem ve_sk {w : World} {x : Sd} {bs : List Nat} {b off : Nat} (h : eltSk.E w x bs b off) (vs : List Value) (hl : vs.length = 6) (hv : ∀ j v, j < 6 → w.cell? ⟨b, off + j, none⟩ = some v → vs[j]? = some v) : VE eltSk w x vs bs := by
  obtain ⟨h0, h1, h2, h3⟩ := h
  refine ⟨hl, h2, fun w' b' off' hc hk => ⟨hc 0 _ (hv 0 _ (by omega) h0), hc 1 _ (hv 1 _ (by omega) h1), fun q hq => lt_of_heap (hk q hq) (h2 q hq), rpT_keep h3 (fun j v hj hq => ?_) (fun y hy _ => hk y hy)⟩⟩
  rw [Nat.add_assoc] at hq ⊢
  exact hc (2 + j) v (hv (2 + j) v (by omega) hq)
theorem six_of {w : World} {b off : Nat} {v0 v1 v2 v3 v4 v5 : Value} (d0 : w.cell? ⟨b, off, none⟩ = some v0) (d1 : w.cell? ⟨b, off + 1, none⟩ = some v1) (d2 : w.cell? ⟨b, off + 2, none⟩ = some v2) (d3 : w.cell? ⟨b, off + 2 + 1, none⟩ = some v3) (d4 : w.cell? ⟨b, off + 2 + 2, none⟩ = some v4) (d5 : w.cell? ⟨b, off + 2 + 3, none⟩ = some v5) : ∀ j v, j < 6 → w.cell? ⟨b, off + j, none⟩ = some v → [v0, v1, v2, v3, v4, v5][j]? = some v := by
  intro j v hj hq
  match j, hj with
  | 0, _ => exact d0.symm.trans hq
  | 1, _ => exact d1.symm.trans hq
  | 2, _ => exact d2.symm.trans hq
  | 3, _ => exact d3.symm.trans hq
  | 4, _ => exact d4.symm.trans hq
  | 5, _ => exact d5.symm.trans hq
/-- Two rows that begin empty, each in a block that was made for it. -/
theorem Two.two {e : Elt Sd} (w : World) : Two e w.heap.size [] ((w.alloc (.cells #[] 38)).alloc (.cells #[] 38)) (.slice (some ⟨w.heap.size, 0, none⟩) 0 0) (.slice (some ⟨w.heap.size + 1, 0, none⟩) 0 0) [] [] [] [] [] [] := by
  have h2 : ((w.alloc (.cells #[] 38)).alloc (.cells #[] 38)).ownsRow w.heap.size 38 e.s (.slice (some ⟨(w.alloc (.cells #[] 38)).heap.size, 0, none⟩) 0 0) 0 [] := World.ownsRow_made (w.alloc (.cells #[] 38)) #[] 0 (by simp) (Nat.zero_le _) (by simp)
  rw [show (w.alloc (.cells #[] 38)).heap.size = w.heap.size + 1 by simp] at h2
  refine ⟨(World.ownsRow_made w #[] 0 (Nat.le_refl _) (Nat.zero_le _) (by simp)).alloc _, h2, ⟨rfl, rfl⟩, ⟨rfl, rfl⟩, (fun b hb => by cases hb), (fun b hb => by cases hb), (fun b hb => by cases hb), (fun g hg hm => by cases hm), (fun g hg hm => by cases hm), List.nodup_nil, fun g hg q => ?_⟩
  have q1 : some w.heap.size = some g := hg
  have q2 : some (w.heap.size + 1) = some g := q
  simp only [Option.some.injEq] at q1 q2
  omega
theorem glk_row {w : World} {l : List Sd} {bs : List Nat} {ao : Option Addr} (hr : GL eltSk w l bs ao) (hnd0 : bs.Nodup) : ∃ g o b0, (l ≠ [] → ao = some ⟨g, o, none⟩ ∧ g ∈ bs) ∧ GR eltSk w l b0 g o ∧ b0.Nodup ∧ ∀ b ∈ b0, b ∈ bs := by
  rcases hr with h | ⟨h1, g, o, b, e1, e2, _, hr⟩
  · refine ⟨0, 0, [], fun h' => absurd h.1 h', ?_, List.nodup_nil, fun b hb => by cases hb⟩
    rw [h.1, GR]
  · rw [e1, List.nodup_cons] at hnd0
    exact ⟨g, o, b, fun _ => ⟨e2, by rw [e1]; simp⟩, hr, hnd0.2, fun x hx => by rw [e1]; simp [hx]⟩
theorem keep_grown {w1 wa w6 : World} {u : Value} {bs : List Nat} (h : ∀ b ∈ bs, wa.heap[b]? = w1.heap[b]?) (hlt : ∀ b ∈ bs, b < wa.heap.size) (hn : ∀ g, u.ownBlock = some g → g ∉ bs) (hg : wa.grownBy w6 u.ownBlock) : ∀ b ∈ bs, w6.heap[b]? = w1.heap[b]? :=
  fun b hb => (hg.block b (hlt b hb) (fun q => hn b q.symm hb)).trans (h b hb)
theorem below_grown {w wa w6 : World} {u : Value} {n : Nat} {xs : List Value} {s : Nat} (h : Below w.heap.size w wa) (hr : wa.ownsRow w.heap.size 38 s u n xs) (hg : wa.grownBy w6 u.ownBlock) : Below w.heap.size w w6 :=
  ⟨hg.os.trans h.os, hg.tape.trans h.tape, hg.output.trans h.output, Nat.le_trans h.size hg.size, fun b hb => (hg.block b (Nat.lt_of_lt_of_le hb h.size) (fun q => by have := (own_base hr q.symm).1; omega)).trans (h.block b hb)⟩


end Go.Proofs.Ytnpbmfcilcnilaa.Tr
namespace Go.Proofs.Ytnpbmfcilcnilaa.Tr
open Go.RowKit Atom
set_option linter.unusedVariables false

/-- The row at g: l ahead of k in its place, what is behind one place on, and something at k. -/
structure Shf (w wB wr : World) (g : Nat) (l : List Sd) (k : Nat) (b0 : List Nat) : Prop where
  below : Below w.heap.size w wr
  base : w.heap.size ≤ g
  lt : g < wr.heap.size
  free : ∀ o, wr.frozen? ⟨g, o, none⟩ = false
  mid : ∀ j, j < 6 → (wr.cell? ⟨g, k * 6 + j, none⟩).isSome = true
  row : ∃ bl bu, b0 = bl ++ bu ∧ GR eltSk wr (l.take k) bl g 0 ∧ GR eltSk wr (l.drop k) bu g ((k + 1) * 6)
  nm : g ∉ b0
  blk : ∀ b, b ≠ g → b < wB.heap.size → wr.heap[b]? = wB.heap[b]?
  sz : wB.heap.size ≤ wr.heap.size
theorem Shf.call {w wB wr w1 : World} {g : Nat} {l : List Sd} {k : Nat} {b0 : List Nat} (h : Shf w wB wr g l k b0) (hb : Below wr.heap.size wr w1) : Shf w wB w1 g l k b0 := by
  obtain ⟨bl, bu, e1, h1, h2⟩ := h.row
  have hc : ∀ o, w1.cell? ⟨g, o, none⟩ = wr.cell? ⟨g, o, none⟩ := fun o => hb.cell (p := ⟨g, o, none⟩) h.lt
  exact ⟨h.below.trans (hb.mono h.below.size), h.base, Nat.lt_of_lt_of_le h.lt hb.size, fun o => by rw [hb.frozen (p := ⟨g, o, none⟩) h.lt]; exact h.free o, fun j hj => by rw [hc]; exact h.mid j hj, ⟨bl, bu, e1, GR.keep _ _ _ _ (fun x _ hx => hb.block x hx) (fun o v _ _ hv => by rw [hc]; exact hv) h1, GR.keep _ _ _ _ (fun x _ hx => hb.block x hx) (fun o v _ _ hv => by rw [hc]; exact hv) h2⟩, h.nm, fun b hn hl => (hb.block b (Nat.lt_of_lt_of_le hl h.sz)).trans (h.blk b hn hl), Nat.le_trans h.sz hb.size⟩
theorem Shf.elt {w wB wr : World} {g : Nat} {l : List Sd} {k : Nat} {b0 : List Nat} (h : Shf w wB wr g l (k + 1) b0) (hk : k < l.length) : ∃ bt, eltSk.E wr l[k] bt g (k * 6) := by
  obtain ⟨bl, bu, e1, h1, h2⟩ := h.row
  rw [List.take_succ_eq_append_getElem hk] at h1
  obtain ⟨ba, bt, bb, e2, h3, h4, h5⟩ := GR.split h1
  have hlen : (l.take k).length = k := by simp; omega
  rw [hlen, Nat.zero_add] at h4
  exact ⟨bt, h4⟩
theorem Shf.step {w wB wr : World} {g : Nat} {l : List Sd} {k : Nat} {b0 : List Nat} (h : Shf w wB wr g l (k + 1) b0) (hk : k < l.length) (vs : List Value) (hvl : vs.length = 6) (hvs : ∀ j v, vs[j]? = some v → wr.cell? ⟨g, k * 6 + j, none⟩ = some v) : Shf w wB (wr.setCells g ((k + 1) * 6) vs) g l k b0 := by
  obtain ⟨bl, bu, e1, h1, h2⟩ := h.row
  rw [List.take_succ_eq_append_getElem hk] at h1
  obtain ⟨ba, bt, bb, e2, h3, h4, h5⟩ := GR.split h1
  have hlen : (l.take k).length = k := by simp; omega
  rw [hlen, Nat.zero_add] at h4
  rw [GR] at h5
  subst h5
  rw [List.append_nil] at e2
  subst e2
  have hin := World.cell?_setCells_in g vs ((k + 1) * 6) wr (fun j hj => h.mid j (by omega))
  have hout : ∀ i, (i < (k + 1) * 6 ∨ (k + 1) * 6 + 6 ≤ i) → (wr.setCells g ((k + 1) * 6) vs).cell? ⟨g, i, none⟩ = wr.cell? ⟨g, i, none⟩ := fun i hi =>
    World.cell?_setCells_out g vs ((k + 1) * 6) wr ⟨g, i, none⟩ (fun _ _ => by rw [hvl]; exact hi)
  have hng : ∀ x ∈ b0, x ≠ g := fun x hx q => h.nm (by rw [← q]; exact hx)
  refine ⟨setCells_bel h.base _ _ _ _ h.below, h.base, by rw [setCells_sz]; exact h.lt, fun o => by rw [World.frozen?_setCells]; exact h.free o, fun j hj => ?_, ⟨ba, bt ++ bu, by rw [e1, List.append_assoc], ?_, ?_⟩, h.nm, fun b hn hl => (setCells_blk hn _ _ _).trans (h.blk b hn hl), by rw [setCells_sz]; exact h.sz⟩
  · rw [hout _ (.inl (by omega)), hvs j (vs[j]'(by omega)) (List.getElem?_eq_getElem (by omega))]; rfl
  · refine GR.keep _ _ _ _ (fun x hx _ => setCells_blk (hng x (by rw [e1]; simp [hx])) _ _ _) (fun o v _ ho hv => ?_) h3
    rw [hlen] at ho
    have ho' : o < 0 + 6 * k := ho
    rw [hout o (.inl (by omega))]; exact hv
  · rw [List.drop_eq_getElem_cons hk, GR]
    refine ⟨bt, bu, rfl, ?_, ?_⟩
    · refine (ve_sk h4 vs hvl (fun j v hj hc => ?_)).2.2 _ g _ (fun j v hj => ?_) (fun x hx => setCells_blk (hng x (by rw [e1]; simp [hx])) _ _ _)
      · have := hvs j (vs[j]'(by omega)) (List.getElem?_eq_getElem (by omega))
        have hc' : wr.cell? ⟨g, k * 6 + j, none⟩ = some v := hc
        rw [this] at hc'
        rw [List.getElem?_eq_getElem (by omega)]; exact hc'
      · obtain ⟨q1, q2⟩ := List.getElem?_eq_some_iff.1 hj
        rw [hin j q1, q2]
    · refine GR.keep _ _ _ _ (fun x hx _ => setCells_blk (hng x (by rw [e1]; simp [hx])) _ _ _) (fun o v ho _ hv => ?_) (by rw [show (k + 1) * 6 + eltSk.s = (k + 1 + 1) * 6 by show (k + 1) * 6 + 6 = _; omega]; exact h2)
      have ho' : (k + 1) * 6 + 6 ≤ o := ho
      rw [hout o (.inr ho')]; exact hv
theorem Shf.fin {w wB wr : World} {g : Nat} {l : List Sd} {k : Nat} {b0 bx : List Nat} {x : Sd} {vs : List Value} (h : Shf w wB wr g l k b0) (hk : k ≤ l.length) (hx : VE eltSk wr x vs bx) (hgx : g ∉ bx) (hnd : (b0 ++ bx).Nodup) (hlo : ∀ b ∈ b0 ++ bx, w.heap.size ≤ b) :
    (∃ e1, GL eltSk (wr.setCells g (k * 6) vs) (putAt l k x) e1 (some ⟨g, 0, none⟩) ∧ e1.Nodup ∧ ∀ b ∈ e1, w.heap.size ≤ b) ∧ Below w.heap.size w (wr.setCells g (k * 6) vs) := by
  obtain ⟨bl, bu, e1, h1, h2⟩ := h.row
  have hvl : vs.length = 6 := hx.1
  have hlen : (l.take k).length = k := by simp; omega
  have hin := World.cell?_setCells_in g vs (k * 6) wr (fun j hj => h.mid j (by omega))
  have hout : ∀ i, (i < k * 6 ∨ k * 6 + 6 ≤ i) → (wr.setCells g (k * 6) vs).cell? ⟨g, i, none⟩ = wr.cell? ⟨g, i, none⟩ := fun i hi =>
    World.cell?_setCells_out g vs (k * 6) wr ⟨g, i, none⟩ (fun _ _ => by rw [hvl]; exact hi)
  have hng : ∀ x ∈ b0, x ≠ g := fun x hx q => h.nm (by rw [← q]; exact hx)
  have hr : GR eltSk (wr.setCells g (k * 6) vs) (putAt l k x) (bl ++ (bx ++ bu)) g 0 := by
    unfold putAt
    refine GR.join (GR.keep _ _ _ _ (fun x hx _ => setCells_blk (hng x (by rw [e1]; simp [hx])) _ _ _) (fun o v _ ho hv => ?_) h1) ?_ ?_
    · rw [hlen] at ho
      have ho' : o < 0 + 6 * k := ho
      rw [hout o (.inl (by omega))]; exact hv
    · rw [hlen, Nat.zero_add]
      refine hx.2.2 _ g _ (fun j v hj => ?_) (fun y hy => setCells_blk (fun q => hgx (by rw [← q]; exact hy)) _ _ _)
      obtain ⟨q1, q2⟩ := List.getElem?_eq_some_iff.1 hj
      have := hin j q1
      rw [q2] at this; exact this
    · rw [hlen, Nat.zero_add]
      refine GR.keep _ _ _ _ (fun x hx _ => setCells_blk (hng x (by rw [e1]; simp [hx])) _ _ _) (fun o v ho _ hv => ?_) (by rw [show k * eltSk.s + eltSk.s = (k + 1) * 6 by show k * 6 + 6 = _; omega]; exact h2)
      have ho' : k * 6 + 6 ≤ o := ho
      rw [hout o (.inr ho')]; exact hv
  have hp : (bl ++ (bx ++ bu)).Perm (b0 ++ bx) := by
    rw [e1]
    exact (List.Perm.append_left bl (List.perm_append_comm)).trans (by rw [List.append_assoc])
  refine ⟨⟨g :: (bl ++ (bx ++ bu)), .inr ⟨by unfold putAt; simp, g, 0, _, rfl, rfl, fun o => by rw [World.frozen?_setCells]; exact h.free o, hr⟩, List.nodup_cons.2 ⟨fun hm => ?_, hp.nodup_iff.2 hnd⟩, fun b hb => ?_⟩, setCells_bel h.base _ _ _ _ h.below⟩
  · rcases List.mem_append.1 (hp.mem_iff.1 hm) with q | q
    · exact h.nm q
    · exact hgx q
  · rcases List.mem_cons.1 hb with rfl | hb
    · exact h.base
    · exact hlo b (hp.mem_iff.1 hb)
end Go.Proofs.Ytnpbmfcilcnilaa.Tr
namespace Go.Proofs.Ytnpbmfcilcnilaa.Tr
open Go.RowKit Atom
set_option linter.unusedVariables false

theorem VL.len6 {w : World} : ∀ {l : List Sd} {xs : List Value} {bs : List Nat}, VL eltSk w l xs bs → xs.length = l.length * 6
  | [], _, _, ⟨h1, h2⟩ => by subst h1; rfl
  | a :: l, _, _, ⟨vs, ys, b1, b2, h1, h2, h3, h4⟩ => by
    have h5 : vs.length = 6 := h3.1
    have h6 := VL.len6 h4
    rw [h1, List.length_append, List.length_cons]; omega

set_option maxHeartbeats 4000000 in
set_option maxRecDepth 100000 in
theorem specAdd_any (l : List Sd) (ao : Option Addr) (cap : Nat) (a p : Int) (t : Tm) (tk tn : Int) (ts : ByteArray) (tao : Option Addr) (tlen tcap : Nat) (w : World)
    (hr : RowS w ao l) (hl : l.length ≤ 1048576) (hs : ∀ x ∈ l, StS x.t) (hx : RepV 0 w t (.agg #[.int .i64 tk, .int .i64 tn, .string ts, .slice tao tlen tcap])) (hst : StS t) :
    Calls Try.prog 6 #[.slice ao l.length cap, sdV a p tk tn ts tao tlen tcap] w fun e w' => (∃ a1 c1 e1, e = .returned (.tuple #[.slice a1 (addT l ⟨a, p, t⟩).length c1, .bool (addB l ⟨a, p, t⟩)]) ∧ GL eltSk w' (addT l ⟨a, p, t⟩) e1 a1 ∧ e1.Nodup ∧ ∀ b ∈ e1, w.heap.size ≤ b) ∧ Below w.heap.size w w' := by
  obtain ⟨wa, hwa⟩ : ∃ wa, wa = w.alloc (.cells #[.int .i64 a, .int .i64 p, .int .i64 tk, .int .i64 tn, .string ts, .slice tao tlen tcap] 38) := ⟨_, rfl⟩
  have hba : Below w.heap.size w wa := by rw [hwa]; exact (Below.refl _ _).alloc (Nat.le_refl _) _
  have hza : wa.heap.size = w.heap.size + 1 := by rw [hwa]; simp
  have cx : ∀ j v, #[Value.int .i64 a, .int .i64 p, .int .i64 tk, .int .i64 tn, .string ts, .slice tao tlen tcap][j]? = some v → wa.cell? ⟨w.heap.size, j, none⟩ = some v := fun j v hj => by
    rw [hwa, World.cell?_alloc_new]; exact hj
  have fx : ∀ x, wa.frozen? ⟨w.heap.size, x, none⟩ = false := fun x => by rw [hwa, World.frozen?_alloc_new]
  have HBA : Hid (Below w.heap.size w wa ∧ wa.heap.size = w.heap.size + 1) := ⟨hba, hza⟩
  have HQX : Hid (∀ wc, Below wa.heap.size wa wc → (wc.cell? ⟨w.heap.size, 0, none⟩ = some (.int .i64 a) ∧ wc.cell? ⟨w.heap.size, 1, none⟩ = some (.int .i64 p) ∧ wc.cell? ⟨w.heap.size, 2, none⟩ = some (.int .i64 tk) ∧ wc.cell? ⟨w.heap.size, 3, none⟩ = some (.int .i64 tn) ∧ wc.cell? ⟨w.heap.size, 4, none⟩ = some (.string ts) ∧ wc.cell? ⟨w.heap.size, 5, none⟩ = some (.slice tao tlen tcap)) ∧ ∀ x, wc.frozen? ⟨w.heap.size, x, none⟩ = false) := fun wc hb =>
    ⟨⟨keepOt hb (cx 0 _ rfl), keepOt hb (cx 1 _ rfl), keepOt hb (cx 2 _ rfl), keepOt hb (cx 3 _ rfl), keepOt hb (cx 4 _ rfl), keepOt hb (cx 5 _ rfl)⟩, fun x => by rw [hb.frozen (p := ⟨w.heap.size, x, none⟩) (by show w.heap.size < _; omega)]; exact fx x⟩
  have HC : Hid (Calls Try.prog 16 #[.slice ao l.length cap] wa fun e w' => ∃ ua uc xs bs D, e = .returned (.slice ua l.length uc) ∧ Two eltSk wa.heap.size D w' (.slice ua l.length uc) (.slice none 0 0) l [] xs [] bs [] ∧ (∀ b ∈ D, wa.heap.size ≤ b) ∧ Below wa.heap.size wa w') :=
    (l14Copy_any l ao cap wa (hr.below hba) hl hs).mono fun e w' ⟨u, xs, bs, D, h1, h2, h3, h4⟩ => by
      obtain ⟨ua, uc, rfl⟩ := h2.form1
      exact ⟨ua, uc, xs, bs, D, h1, h2, h3, h4⟩
  have HOK : Hid (∀ wc, Below wa.heap.size wa wc → Calls Try.prog 17 #[.slice ao l.length cap] wc fun e w' => e = .returned (.bool (tmsB l)) ∧ Below wc.heap.size wc w') := fun wc hb => specTimersOk_any l ao cap wc ((hr.below hba).below hb) (Nat.le_trans hl (by unfold maxLen; omega))
  have HIR : Hid (∀ wc, Below wa.heap.size wa wc → Calls Try.prog 18 #[sdV a p tk tn ts tao tlen tcap] wc fun e w' => e = .returned (.bool (tmB ⟨a, p, t⟩)) ∧ Below wc.heap.size wc w') := fun wc hb => l14Timer_any ⟨a, p, t⟩ tk tn ts tao tlen tcap wc (Below.repV hb (Below.repV hba hx))
  have HCP : Hid (∀ wc, Below wa.heap.size wa wc → Calls Try.prog 19 #[.agg #[.int .i64 tk, .int .i64 tn, .string ts, .slice tao tlen tcap]] wc fun e w' => ∃ va vb vc vd ve vf, e = .returned (.agg #[.int .i64 va, .int .i64 vb, .string vc, .slice vd ve vf]) ∧ RpV (fun b => wc.heap.size ≤ b) w' t (.agg #[.int .i64 va, .int .i64 vb, .string vc, .slice vd ve vf]) ∧ Below wc.heap.size wc w') := fun wc hb =>
    (czT_all t wc _ (Below.repV hb (Below.repV hba hx)) hst).mono fun e w' ⟨v', h1, h2, h3⟩ => by
      obtain ⟨va, vb, vc, vd, ve, vf, rfl⟩ := h2.form
      exact ⟨va, vb, vc, vd, ve, vf, h1, h2, h3⟩
  obtain ⟨X, hX⟩ : ∃ X : Sd, X = ⟨a, p, t⟩ := ⟨_, rfl⟩
  rw [← hX] at HIR ⊢
  have HX : Hid (X = ⟨a, p, t⟩) := hX
  have HLL : Hid (l.length ≤ 1048576) := hl
  have HI : Hid (∃ i0, Try.prog.info? 38 = some i0 ∧ i0.zero = some (.agg #[.int .i64 0, .int .i64 0, .int .i64 0, .int .i64 0, .string ⟨#[]⟩, .slice none 0 0]) ∧ i0.size = 6 ∧ i0.bytes = 72) := by
    obtain ⟨i0, hi, hzz⟩ := Option.map_eq_some_iff.1 infoTimer
    simp only [Prod.mk.injEq] at hzz
    exact ⟨i0, hi, hzz⟩
  clear hr hs hba hza cx fx hx hst hX hl
  go_enter Try.func6, Try.ntmps6
  go_wp2_with (go_at_call 16; fail)
  rw [← hwa]
  clear hwa
  refine HC.out.mono ?_
  rintro e w1 ⟨ua, uc, xs, bs, D, rfl, htw, hD, hb1⟩
  have H1 : Hid (Two eltSk wa.heap.size D w1 (.slice ua l.length uc) (.slice none 0 0) l [] xs [] bs [] ∧ (∀ b ∈ D, wa.heap.size ≤ b) ∧ Below wa.heap.size wa w1) := ⟨htw, hD, hb1⟩
  have HNO : Hid (∀ wc, Below w1.heap.size w1 wc → addB l X = false → ∃ e1, GL eltSk wc (addT l X) e1 ua ∧ e1.Nodup ∧ (∀ b ∈ e1, w.heap.size ≤ b) ∧ Below w.heap.size w wc ∧ (addT l X).length = l.length) := fun wc hb hno => by
    obtain ⟨a1, c1, a2, c2, e1, e2, f1, f2, g1, g2, n, i1, i2⟩ := (htw.call hb).done
    injection f1 with f1 _ _
    subst f1
    have hbb := hb1.trans (hb.mono hb1.size)
    refine ⟨e1, by rw [addT_no hno]; exact g1, (List.nodup_append.1 n).1, fun b hq => ?_, HBA.out.1.trans (hbb.mono HBA.out.1.size), by rw [addT_no hno]⟩
    have hz := HBA.out.2
    rcases i1 b hq with q | q
    · have := hD b (htw.i1 b q); omega
    · omega
  clear htw hD hb1 HC
  go_wp2_with (go_at_call 17; fail)
  have HOK' := (HOK.out w1 H1.out.2.2)
  clear HOK
  cases hA : tmsB l with
  | false =>
    rw [hA] at HOK'
    refine HOK'.mono ?_
    rintro e w2 ⟨rfl, hb2⟩
    have hno : addB l X = false := by unfold addB; rw [hA]; rfl
    have HF : Hid ((∃ e1, GL eltSk w2 (addT l X) e1 ua ∧ e1.Nodup ∧ (∀ b ∈ e1, w.heap.size ≤ b) ∧ Below w.heap.size w w2 ∧ (addT l X).length = l.length) ∧ addB l X = false) := ⟨HNO.out w2 hb2 hno, hno⟩
    clear hb2 hno hA
    go_wp2_with fail
    rw [HF.out.2]
    obtain ⟨e1, q1, q2, q3, q4, q5⟩ := HF.out.1
    exact bodyPost_ret (v := .tuple #[.slice ua l.length uc, .bool false]) (by simp [results, Try.results6, go_sem]) rfl ⟨⟨_, uc, e1, by rw [q5], q1, q2, q3⟩, q4⟩
  | true =>
    rw [hA] at HOK'
    refine HOK'.mono ?_
    rintro e w2 ⟨rfl, hb2⟩
    have H2 : Hid (Below wa.heap.size wa w2 ∧ Below w1.heap.size w1 w2) := ⟨H1.out.2.2.trans (hb2.mono H1.out.2.2.size), hb2⟩
    have HA : Hid (tmsB l = true) := hA
    obtain ⟨⟨d0, d1, d2, d3, d4, d5⟩, _⟩ := HQX.out w2 H2.out.1
    clear hb2 hA
    go_wp2_with (go_at_call 18; fail)
    have HIR' := HIR.out w2 H2.out.1
    clear HIR d0 d1 d2 d3 d4 d5
    cases hT : tmB X with
    | false =>
      rw [hT] at HIR'
      refine HIR'.mono ?_
      rintro e w3 ⟨rfl, hb3⟩
      have hno : addB l X = false := by unfold addB; rw [hT]; simp
      have HF : Hid ((∃ e1, GL eltSk w3 (addT l X) e1 ua ∧ e1.Nodup ∧ (∀ b ∈ e1, w.heap.size ≤ b) ∧ Below w.heap.size w w3 ∧ (addT l X).length = l.length) ∧ addB l X = false) := ⟨HNO.out w3 (H2.out.2.trans (hb3.mono H2.out.2.size)) hno, hno⟩
      clear hb3 hno hT
      go_wp2_with fail
      rw [HF.out.2]
      obtain ⟨e1, q1, q2, q3, q4, q5⟩ := HF.out.1
      exact bodyPost_ret (v := .tuple #[.slice ua l.length uc, .bool false]) (by simp [results, Try.results6, go_sem]) rfl ⟨⟨_, uc, e1, by rw [q5], q1, q2, q3⟩, q4⟩
    | true =>
      rw [hT] at HIR'
      refine HIR'.mono ?_
      rintro e w3 ⟨rfl, hb3⟩
      have H3 : Hid (Below wa.heap.size wa w3 ∧ Below w1.heap.size w1 w3) := ⟨H2.out.1.trans (hb3.mono H2.out.1.size), H2.out.2.trans (hb3.mono H2.out.2.size)⟩
      have HT : Hid (tmB X = true) := hT
      clear hb3 hT
      by_cases h50 : l.length = 50
      · have hno : addB l X = false := by unfold addB; rw [decide_eq_false (by omega)]; simp
        have HF : Hid ((∃ e1, GL eltSk w3 (addT l X) e1 ua ∧ e1.Nodup ∧ (∀ b ∈ e1, w.heap.size ≤ b) ∧ Below w.heap.size w w3 ∧ (addT l X).length = l.length) ∧ addB l X = false) := ⟨HNO.out w3 H3.out.2 hno, hno⟩
        have e50 : decide ((l.length : Int) = 50) = true := decide_eq_true (by omega)
        have e50' : ((l.length : Int) == 50) = true := by simp; omega
        have H50 : Hid (l.length = 50) := h50
        clear hno h50
        go_wp2_with fail
        rw [HF.out.2]
        obtain ⟨e1, q1, q2, q3, q4, q5⟩ := HF.out.1
        exact bodyPost_ret (v := .tuple #[.slice ua l.length uc, .bool false]) (by simp [results, Try.results6, go_sem]) rfl ⟨⟨_, uc, e1, by rw [q5], q1, q2, q3⟩, q4⟩
      · have hle := addB_le (x := X) HA.out
        have hyes : addB l X = true := by unfold addB; rw [HA.out, HT.out, decide_eq_true (by omega)]; rfl
        have HY : Hid (addB l X = true) := hyes
        have e50 : decide ((l.length : Int) = 50) = false := decide_eq_false (by omega)
        have e50' : ((l.length : Int) == 50) = false := by simp; omega
        have H50 : Hid (l.length < 50) := by show _ < _; omega
        clear hyes h50 hle
        obtain ⟨⟨d0, d1, d2, d3, d4, d5⟩, _⟩ := HQX.out w3 H3.out.1
        go_wp2_with (go_at_call 19; fail)
        refine (HCP.out w3 H3.out.1).mono ?_
        rintro e w4 ⟨va, vb, vc, vd, ve, vf, rfl, hr4, hb4⟩
        obtain ⟨⟨c0, c1, c2, c3, c4, c5⟩, cf⟩ := HQX.out w4 (H3.out.1.trans (hb4.mono H3.out.1.size))
        have HB4 : Hid (Below w.heap.size w w4 ∧ Below w1.heap.size w1 w4 ∧ w.heap.size < w3.heap.size ∧ w3.heap.size ≤ w4.heap.size ∧ w1.heap.size ≤ w3.heap.size ∧ w.heap.size < w1.heap.size) := by
          have h := H3.out.1.trans (hb4.mono H3.out.1.size)
          have q1 := HBA.out.2
          have q2 := H3.out.1.size
          have q3 := H1.out.2.2.size
          exact ⟨HBA.out.1.trans (h.mono HBA.out.1.size), H3.out.2.trans (hb4.mono H3.out.2.size), by omega, hb4.size, H3.out.2.size, by omega⟩
        have HVE4 : Hid (VE eltSk w4 ⟨a, p, t⟩ [.int .i64 a, .int .i64 p, .int .i64 va, .int .i64 vb, .string vc, .slice vd ve vf] (rng w3.heap.size w4.heap.size)) := ve_timerk (x := ⟨a, p, t⟩) hr4
        obtain ⟨w5, hw5⟩ : ∃ w5, w5 = (((w4.setCell ⟨w.heap.size, 2, none⟩ (.int .i64 va)).setCell ⟨w.heap.size, 3, none⟩ (.int .i64 vb)).setCell ⟨w.heap.size, 4, none⟩ (.string vc)).setCell ⟨w.heap.size, 5, none⟩ (.slice vd ve vf) := ⟨_, rfl⟩
        have ho5 : OutB [w.heap.size] w4 w5 := by rw [hw5]; exact ((((OutB.refl [w.heap.size] w4).set (by simp) 2 _).set (by simp) 3 _).set (by simp) 4 _).set (by simp) 5 _
        have HBX : Hid (∀ j v, ([.int .i64 a, .int .i64 p, .int .i64 va, .int .i64 vb, .string vc, .slice vd ve vf] : List Value)[j]? = some v → w5.cell? ⟨w.heap.size, j, none⟩ = some v) := by
          intro j v hj
          have hw5' : w5 = w4.setCells w.heap.size 2 [.int .i64 va, .int .i64 vb, .string vc, .slice vd ve vf] := hw5
          have hin := World.cell?_setCells_in w.heap.size [.int .i64 va, .int .i64 vb, .string vc, .slice vd ve vf] 2 w4 (fun j hj => by
            have hj' : j < 4 := hj
            match j, hj' with
            | 0, _ => rw [c2]; rfl
            | 1, _ => rw [c3]; rfl
            | 2, _ => rw [c4]; rfl
            | 3, _ => rw [c5]; rfl)
          have hout : ∀ i, i < 2 → w5.cell? ⟨w.heap.size, i, none⟩ = w4.cell? ⟨w.heap.size, i, none⟩ := fun i hi => by
            rw [hw5']; exact World.cell?_setCells_out w.heap.size _ 2 w4 ⟨w.heap.size, i, none⟩ (fun _ _ => .inl hi)
          obtain ⟨q1, q2⟩ := List.getElem?_eq_some_iff.1 hj
          have q1' : j < 6 := q1
          match j, q1' with
          | 0, _ => rw [hout 0 (by omega), c0]; exact hj
          | 1, _ => rw [hout 1 (by omega), c1]; exact hj
          | 2, _ => rw [hw5']; exact (hin 0 (by show 0 < 4; omega)).trans hj
          | 3, _ => rw [hw5']; exact (hin 1 (by show 1 < 4; omega)).trans hj
          | 4, _ => rw [hw5']; exact (hin 2 (by show 2 < 4; omega)).trans hj
          | 5, _ => rw [hw5']; exact (hin 3 (by show 3 < 4; omega)).trans hj
        have H5 : Hid (Below w.heap.size w w5 ∧ w4.heap.size ≤ w5.heap.size ∧ VE eltSk w5 ⟨a, p, t⟩ [.int .i64 a, .int .i64 p, .int .i64 va, .int .i64 vb, .string vc, .slice vd ve vf] (rng w3.heap.size w4.heap.size) ∧ Two eltSk wa.heap.size (D ++ rng w3.heap.size w4.heap.size) w5 (.slice ua l.length uc) (.slice none 0 0) l [] xs [] bs []) := by
          obtain ⟨z1, z2, z3, z4, z5, z6⟩ := HB4.out
          have zD := H1.out.2.1
          refine ⟨⟨ho5.os.trans z1.os, ho5.tape.trans z1.tape, ho5.output.trans z1.output, Nat.le_trans z1.size ho5.size, fun x hx => by rw [ho5.block x (Nat.lt_of_lt_of_le hx z1.size) (by simp; omega)]; exact z1.block x hx⟩, ho5.size, HVE4.out.keep ho5.size (fun x hx => ho5.block x (mem_rng.1 hx).2 (by have := (mem_rng.1 hx).1; simp; omega)), ?_⟩
          refine Two.keep (wr := w4) (Two.wide (H1.out.1.call z2) (fun b hb => (mem_rng.1 hb).2) (fun b hb => ⟨fun q => ?_, fun q => by cases q⟩)) ho5.size (fun b hb hm => ho5.block b hb ?_)
          · have := (own_base H1.out.1.r1 q).2
            have := (mem_rng.1 hb).1
            omega
          · have z7 := HBA.out.2
            rcases hm with hm | hm | hm
            · rcases List.mem_append.1 hm with hm | hm
              · have := zD b hm; simp; omega
              · have := (mem_rng.1 hm).1; simp; omega
            · have := (own_base H1.out.1.r1 hm).1; simp; omega
            · cases hm
        have HFIN : Hid (∀ v' w8, w8.ownsRow wa.heap.size 38 6 v' (l.length + 1) (xs ++ [.int .i64 a, .int .i64 p, .int .i64 va, .int .i64 vb, .string vc, .slice vd ve vf]) → (w5.alloc (.cells #[.int .i64 a, .int .i64 p, .int .i64 va, .int .i64 vb, .string vc, .slice vd ve vf] 38)).grownBy w8 (Value.slice ua l.length uc).ownBlock → (v'.ownBlock = (Value.slice ua l.length uc).ownBlock ∨ v'.ownBlock = some (w5.alloc (.cells #[.int .i64 a, .int .i64 p, .int .i64 va, .int .i64 vb, .string vc, .slice vd ve vf] 38)).heap.size) →
            ∃ g c b0 bx, v' = .slice (some ⟨g, 0, none⟩) (l.length + 1) c ∧ Shf w w8 w8 g l l.length b0 ∧ VE eltSk w8 ⟨a, p, t⟩ [.int .i64 a, .int .i64 p, .int .i64 va, .int .i64 vb, .string vc, .slice vd ve vf] bx ∧ g ∉ bx ∧ (b0 ++ bx).Nodup ∧ (∀ b ∈ b0 ++ bx, w.heap.size ≤ b) ∧ (∀ j v, ([.int .i64 a, .int .i64 p, .int .i64 va, .int .i64 vb, .string vc, .slice vd ve vf] : List Value)[j]? = some v → w8.cell? ⟨w.heap.size, j, none⟩ = some v) ∧ w.heap.size ≠ g ∧ w.heap.size < w8.heap.size) := fun v' w8 h1 h2 h3 => by
          have hal : Below w5.heap.size w5 (w5.alloc (.cells #[.int .i64 a, .int .i64 p, .int .i64 va, .int .i64 vb, .string vc, .slice vd ve vf] 38)) := (Below.refl _ _).alloc (Nat.le_refl _) _
          have hB7 := H5.out.1.trans (hal.mono H5.out.1.size)
          have hT7 := H5.out.2.2.2.call hal
          obtain ⟨z1, z2, z3, z4, z5, z6⟩ := HB4.out
          have z7 := HBA.out.2
          have z8 := hB7.size
          have z9 := h2.size
          have z10 := H5.out.2.1
          have z11 := hal.size
          have hnd : (rng w3.heap.size w4.heap.size ++ (bs ++ [])).Nodup := by
            rw [List.append_nil]
            refine List.nodup_append.2 ⟨rng_nodup _ _, by have := H1.out.1.nd; rw [List.append_nil] at this; exact this, fun x hx y hy q => ?_⟩
            have h9 := H1.out.1.dl y (H1.out.1.i1 y hy)
            have h8 := (mem_rng.1 hx).1
            omega
          have hT8 := hT7.more (H5.out.2.2.1.keep hal.size (fun x hx => hal.block x (Nat.lt_of_lt_of_le (mem_rng.1 hx).2 H5.out.2.1))) (fun b hb => List.mem_append_right _ hb) hnd h1 h2 h3
          obtain ⟨g, c, hv, hbg, hnc, hcm, hcl, hfr, hgl⟩ := owns_cells h1 (by omega)
          have hbe8 : Below w.heap.size w w8 := ⟨h2.os.trans hB7.os, h2.tape.trans hB7.tape, h2.output.trans hB7.output, Nat.le_trans hB7.size h2.size, fun b hb => (h2.block b (Nat.lt_of_lt_of_le hb hB7.size) (fun q => by have := (own_base hT7.r1 q.symm).1; omega)).trans (hB7.block b hb)⟩
          have hob : v'.ownBlock = some g := by rw [hv]; rfl
          have hgD := hT8.n1 g hob
          have hrow := VL.row 0 hT8.v1 (g := g) (fun j v hj => by rw [Nat.zero_add]; exact hcl j v hj)
          obtain ⟨ba, bt, bb, eb, r1, r2, r3⟩ := GR.split hrow
          rw [GR] at r3
          subst r3
          rw [List.append_nil] at eb
          rw [Nat.zero_add] at r2
          have hxl : xs.length = l.length * 6 := VL.len6 hT7.v1
          have hmem : ∀ b, b ∈ ba ++ bt → b ∈ D ++ rng w3.heap.size w4.heap.size := fun b hb => hT8.i1 b (by rw [eb]; exact hb)
          have hDl : ∀ b ∈ D ++ rng w3.heap.size w4.heap.size, w.heap.size ≤ b := fun b hb => by
            rcases List.mem_append.1 hb with hb | hb
            · have := H1.out.2.1 b hb; omega
            · have := (mem_rng.1 hb).1; omega
          have hv6 : ∀ j v, ([.int .i64 a, .int .i64 p, .int .i64 va, .int .i64 vb, .string vc, .slice vd ve vf] : List Value)[j]? = some v → w8.cell? ⟨g, l.length * 6 + j, none⟩ = some v := fun j v hj => hcl _ v (by rw [List.getElem?_append_right (by omega), hxl, show l.length * 6 + j - l.length * 6 = j by omega]; exact hj)
          have hbox : w8.heap[w.heap.size]? = w5.heap[w.heap.size]? := (h2.block _ (by omega) (fun q => by have := (own_base hT7.r1 q.symm).1; omega)).trans (hal.block _ (by omega))
          refine ⟨g, c, ba, bt, hv, ⟨hbe8, by omega, hgl, hfr, fun j hj => ?_, ⟨ba, [], by simp, by rw [List.take_of_length_le (Nat.le_refl _)]; exact r1, by rw [List.drop_of_length_le (Nat.le_refl _), GR]⟩, fun hm => hgD (hmem g (List.mem_append_left _ hm)), fun b _ _ => rfl, Nat.le_refl _⟩, ve_sk r2 _ rfl (fun j v hj hc => ?_), fun hm => hgD (hmem g (List.mem_append_right _ hm)), ?_, fun b hb => hDl b (hmem b hb), fun j v hj => by rw [World.cell?_of_block (w := w5) hbox]; exact HBX.out j v hj, by omega, by omega⟩
          · rw [hv6 j _ (List.getElem?_eq_getElem (by show j < 6; omega))]; rfl
          · have hj' : j < ([.int .i64 a, .int .i64 p, .int .i64 va, .int .i64 vb, .string vc, .slice vd ve vf] : List Value).length := hj
            have h9 := hv6 j _ (List.getElem?_eq_getElem hj')
            have hc' : w8.cell? ⟨g, l.length * 6 + j, none⟩ = some v := hc
            rw [h9] at hc'
            rw [List.getElem?_eq_getElem hj']; exact hc'
          · have := hT8.nd
            rw [List.append_nil, eb] at this
            exact this
        have HO7 : Hid ((w5.alloc (.cells #[.int .i64 a, .int .i64 p, .int .i64 va, .int .i64 vb, .string vc, .slice vd ve vf] 38)).ownsRow wa.heap.size 38 6 (.slice ua l.length uc) l.length xs ∧ wa.heap.size ≤ (w5.alloc (.cells #[.int .i64 a, .int .i64 p, .int .i64 va, .int .i64 vb, .string vc, .slice vd ve vf] 38)).heap.size) := by
          have z7 := HBA.out.2
          refine ⟨H5.out.2.2.2.r1.alloc _, ?_⟩
          have z1 := HB4.out.2.2.1
          have z2 := HB4.out.2.2.2.1
          have z3 := H5.out.2.1
          rw [World.size_alloc]; omega
        have HNW : Hid (∀ j u, ([.int .i64 a, .int .i64 p, .int .i64 va, .int .i64 vb, .string vc, .slice vd ve vf] : List Value)[j]? = some u → (w5.alloc (.cells #[.int .i64 a, .int .i64 p, .int .i64 va, .int .i64 vb, .string vc, .slice vd ve vf] 38)).cell? ((⟨w4.heap.size, 0, none⟩ : Addr).add j) = some u) := by
          have hz6 : w5.heap.size = w4.heap.size := by rw [hw5]; simp only [World.size_setCell]
          rw [← hz6]; exact sixCells
        have HOR : Hid (ordB l = true) := addB_ord HA.out
        have HTY : Hid (addT l X = insT l ⟨a, p, t⟩) := by show _ = _; rw [addT_yes HY.out, HX.out]
        have C3 : Hid (l.length + 1 ≤ maxLen) := by have := H50.out; show _ ≤ _; unfold maxLen; omega
        have C4 : Hid ((l.length + 1) * 72 ≤ 140737488355328) := by have := H50.out; show _ ≤ _; omega
        obtain ⟨i0, hi0⟩ := HI.out
        have HI0 : Hid (Try.prog.info? 38 = some i0 ∧ i0.zero = some (.agg #[.int .i64 0, .int .i64 0, .int .i64 0, .int .i64 0, .string ⟨#[]⟩, .slice none 0 0]) ∧ i0.size = 6 ∧ i0.bytes = 72) := hi0
        clear HI hi0 H5 HBX HVE4 HQX HCP H1 H2 H3 HNO HOK' HIR' HLL
        subst hw5
        clear hb4 hr4 ho5 d0 d1 d2 d3 d4 d5
        go_wp2_with (at_builtin; refine wpList_append_own_at _ rfl _ _ 30 rfl wa.heap.size 38 i0 (.agg #[.int .i64 0, .int .i64 0, .int .i64 0, .int .i64 0, .string ⟨#[]⟩, .slice none 0 0]) 6 72 undTimerS HI0.out.1 HI0.out.2.1 HI0.out.2.2.1 HI0.out.2.2.2 rfl (by decide) (.slice ua l.length uc) l.length xs rfl HO7.out.1 ⟨w4.heap.size, 0, none⟩ 1 1 [.int .i64 a, .int .i64 p, .int .i64 va, .int .i64 vb, .string vc, .slice vd ve vf] rfl rfl HNW.out sixOne C3.out C4.out HO7.out.2 ?_; intro v8 w8 hown8 hgr8 hnn8 hat8; have HG8 := hid (HFIN.out v8 w8 hown8 hgr8 hat8); clear hown8 hgr8 hnn8 hat8)
        obtain ⟨g, c, b0, bx, rfl, hsh, hvx, hgx, hnd, hlo, hbox, hng, hwz⟩ := HG8.out
        have HEX : Hid (∀ wr k, k ≤ l.length → Shf w w8 wr g l k b0 → Place l a k → ((∃ e1, GL eltSk (wr.setCells g (k * 6) [.int .i64 a, .int .i64 p, .int .i64 va, .int .i64 vb, .string vc, .slice vd ve vf]) (addT l X) e1 (some ⟨g, 0, none⟩) ∧ e1.Nodup ∧ ∀ b ∈ e1, w.heap.size ≤ b) ∧ Below w.heap.size w (wr.setCells g (k * 6) [.int .i64 a, .int .i64 p, .int .i64 va, .int .i64 vb, .string vc, .slice vd ve vf])) ∧ (addT l X).length = l.length + 1) := fun wr k hk h hp => by
          rw [HTY.out]
          have hpe := hp.eq
          refine ⟨?_, insT_length _ _⟩
          have := h.fin hk (hvx.keep h.sz (fun b hb => h.blk b (fun q => hgx (by rw [← q]; exact hb)) (hvx.2.1 b hb))) hgx hnd hlo
          unfold insT
          show (∃ e1, GL eltSk _ (putAt l (plc l a) ⟨a, p, t⟩) e1 _ ∧ _) ∧ _
          rw [← hpe]; exact this
        have HBC : Hid (∀ wr k, Shf w w8 wr g l k b0 → ∀ j v, ([.int .i64 a, .int .i64 p, .int .i64 va, .int .i64 vb, .string vc, .slice vd ve vf] : List Value)[j]? = some v → wr.cell? ⟨w.heap.size, j, none⟩ = some v) := fun wr k h j v hj => by
          rw [World.cell?_of_block (w := w8) (h.blk _ hng hwz)]; exact hbox j v hj
        have HSH : Hid (Shf w w8 w8 g l l.length b0) := hsh
        clear HG8 hsh hvx hgx hnd hlo hbox hng hwz HFIN HO7 HNW C3 C4 HI0 HTY
        go_loopw [7] (fun i wr => ∃ k : Nat, k ≤ l.length ∧ i = .int .i64 k ∧ Shf w w8 wr g l k b0 ∧ ∀ t, k ≤ t → (h : t < l.length) → a < l[t].kind) (fun i _ => (intOf i).toNat)
        case atStart => exact ⟨l.length, Nat.le_refl _, rfl, HSH.out, fun t h1 h2 => by omega⟩
        case round =>
          obtain ⟨K, hK, rfl, hS, hlate⟩ := hrel
          have HS : Hid (Shf w w8 wr g l K b0) := hS
          have HLT : Hid (∀ t, K ≤ t → (h : t < l.length) → a < l[t].kind) := hlate
          clear hS hlate
          have HBI : Hid (∀ w7, (∃ x : Inn wr, w7 = x.val) → Shf w w8 w7 g l K b0) := fun w7 ⟨x7, h7⟩ => by
            have : Below wr.heap.size wr w7 := by rw [h7]; exact x7.bel
            exact HS.out.call this
          haveI := inn_ne wr
          clear c0 c1 c2 c3 c4 c5 cf e50 e50'
          have c0 := Inn.keep (HBC.out wr K HS.out 0 _ rfl)
          rcases Nat.eq_zero_or_pos K with hk0 | hk0
          · have HPL : Hid (Place l a K) := ⟨hK, fun t ht _ => by omega, HLT.out⟩
            have e9 : decide ((K : Int) > 0) = false := decide_eq_false (by omega)
            have e9' : decide ((0 : Int) < (K : Int)) = false := decide_eq_false (by omega)
            have e9'' : decide (0 < K) = false := decide_eq_false (by omega)
            clear hk0
            go_wp2_with fail
            refine wp_region_inn ?_ ?_ ?_
            · kernel_rfl
            · kernel_rfl
            repeat (go_big_quiet_step (fail))
            refine wpQuiet_nil ?_
            intro w7 h7
            have H7 : Hid (Shf w w8 w7 g l K b0) := HBI.out w7 h7
            clear h7 c0
            obtain ⟨hd0, hd1, hd2, hd3, hd4, hd5⟩ : w7.cell? ⟨w.heap.size, 0, none⟩ = some (.int .i64 a) ∧ w7.cell? ⟨w.heap.size, 1, none⟩ = some (.int .i64 p) ∧ w7.cell? ⟨w.heap.size, 2, none⟩ = some (.int .i64 va) ∧ w7.cell? ⟨w.heap.size, 3, none⟩ = some (.int .i64 vb) ∧ w7.cell? ⟨w.heap.size, 4, none⟩ = some (.string vc) ∧ w7.cell? ⟨w.heap.size, 5, none⟩ = some (.slice vd ve vf) := ⟨HBC.out w7 K H7.out 0 _ rfl, HBC.out w7 K H7.out 1 _ rfl, HBC.out w7 K H7.out 2 _ rfl, HBC.out w7 K H7.out 3 _ rfl, HBC.out w7 K H7.out 4 _ rfl, HBC.out w7 K H7.out 5 _ rfl⟩
            obtain ⟨x0, hs0⟩ : ∃ x, w7.cell? ⟨g, K * 6, none⟩ = some x := Option.isSome_iff_exists.1 (H7.out.mid 0 (by omega))
            obtain ⟨x1, hs1⟩ := Option.isSome_iff_exists.1 (H7.out.mid 1 (by omega))
            obtain ⟨x2, hs2⟩ := Option.isSome_iff_exists.1 (H7.out.mid 2 (by omega))
            obtain ⟨x3, hs3⟩ := Option.isSome_iff_exists.1 (H7.out.mid 3 (by omega))
            obtain ⟨x4, hs4⟩ := Option.isSome_iff_exists.1 (H7.out.mid 4 (by omega))
            obtain ⟨x5, hs5⟩ := Option.isSome_iff_exists.1 (H7.out.mid 5 (by omega))
            have hf := H7.out.free
            have HF := hid (HEX.out w7 K hK H7.out HPL.out)
            go_wp2_with fail
            rw [HY.out]
            obtain ⟨⟨⟨e1, q1, q2, q3⟩, q4⟩, q5⟩ := HF.out
            exact bodyPost_ret (v := .tuple #[.slice (some ⟨g, 0, none⟩) (l.length + 1) c, .bool true]) (by simp [results, Try.results6, go_sem]) rfl ⟨⟨_, c, e1, by rw [q5], q1, q2, q3⟩, q4⟩
          · obtain ⟨m, hm⟩ : ∃ m, K = m + 1 := ⟨K - 1, by omega⟩
            have hml : m < l.length := by omega
            have HE : Hid (∀ wc, Shf w w8 wc g l K b0 → ∃ bt, eltSk.E wc l[m] bt g (m * 6)) := fun wc h => by
              rw [hm] at h; exact h.elt hml
            have HSTEP : Hid (∀ wc vs, Shf w w8 wc g l K b0 → vs.length = 6 → (∀ j v, vs[j]? = some v → wc.cell? ⟨g, m * 6 + j, none⟩ = some v) → Shf w w8 (wc.setCells g (K * 6) vs) g l m b0) := fun wc vs h h1 h2 => by
              rw [hm] at h ⊢; exact h.step hml vs h1 h2
            have HP : Hid (l[m].kind ≤ a → Place l a K) := fun hq => ⟨hK, fun t ht h2 => by
              have h3 := ord_le HOR.out t (m - t) (by omega)
              simp only [show t + (m - t) = m by omega] at h3
              omega, HLT.out⟩
            have HLM : Hid (a < l[m].kind → ∀ t, m ≤ t → (h : t < l.length) → a < l[t].kind) := fun hq t h1 h2 => by
              rcases Nat.eq_or_lt_of_le h1 with h3 | h3
              · subst h3; exact hq
              · exact HLT.out t (by omega) h2
            obtain ⟨bt, hE0, _⟩ := HE.out wr HS.out
            have c6 := Inn.keep hE0
            have em : IntKind.i64.wrap ((K : Int) - 1) = (m : Int) := by have := H50.out; rw [IntKind.wrap_i64]; omega
            have HMK : Hid (m ≤ l.length ∧ K = m + 1) := ⟨by omega, hm⟩
            have hm1 : m < l.length + 1 := by omega
            have hK1 : K < l.length + 1 := by omega
            have e9 : decide ((K : Int) > 0) = true := decide_eq_true (by omega)
            have e9' : decide ((0 : Int) < (K : Int)) = true := decide_eq_true (by omega)
            have e9'' : decide (0 < K) = true := decide_eq_true (by omega)
            clear hE0 hm hk0
            generalize hy : l[m].kind = y at *
            by_cases hay : a < y
            · have HLM' := hid (HLM.out hay)
              have e8 : decide (y > a) = true := decide_eq_true hay
              have e8' : decide (a < y) = true := decide_eq_true hay
              go_wp2_with fail
              refine wp_region_inn ?_ ?_ ?_
              · kernel_rfl
              · kernel_rfl
              repeat (go_big_quiet_step (fail))
              refine wpQuiet_nil ?_
              intro w7 h7
              have H7 : Hid (Shf w w8 w7 g l K b0) := HBI.out w7 h7
              clear h7 c0 c6
              obtain ⟨bt7, h0, h1, h2, h3⟩ := HE.out w7 H7.out
              obtain ⟨yk, yn, ys, yao, ylen, ycap, r0, r1, r2, r3, _⟩ := (rpT_rep h3).cells
              have HN : Hid (Shf w w8 (w7.setCells g (K * 6) [.int .i64 l[m].kind, .int .i64 l[m].pid, .int .i64 yk, .int .i64 yn, .string ys, .slice yao ylen ycap]) g l m b0) := HSTEP.out w7 _ H7.out rfl (fun j v hj => by
                obtain ⟨q1, q2⟩ := List.getElem?_eq_some_iff.1 hj
                have q1' : j < 6 := q1
                match j, q1' with
                | 0, _ => exact h0.trans hj
                | 1, _ => exact h1.trans hj
                | 2, _ => exact r0.trans hj
                | 3, _ => exact r1.trans hj
                | 4, _ => exact r2.trans hj
                | 5, _ => exact r3.trans hj)
              obtain ⟨x0, hs0⟩ : ∃ x, w7.cell? ⟨g, K * 6, none⟩ = some x := Option.isSome_iff_exists.1 (H7.out.mid 0 (by omega))
              obtain ⟨x1, hs1⟩ := Option.isSome_iff_exists.1 (H7.out.mid 1 (by omega))
              obtain ⟨x2, hs2⟩ := Option.isSome_iff_exists.1 (H7.out.mid 2 (by omega))
              obtain ⟨x3, hs3⟩ := Option.isSome_iff_exists.1 (H7.out.mid 3 (by omega))
              obtain ⟨x4, hs4⟩ := Option.isSome_iff_exists.1 (H7.out.mid 4 (by omega))
              obtain ⟨x5, hs5⟩ := Option.isSome_iff_exists.1 (H7.out.mid 5 (by omega))
              have hf := H7.out.free
              generalize l[m].kind = yy at *
              generalize l[m].pid = yp at *
              clear h2 h3 hay hy
              go_wp2_with fail
              go_roundw
              case rel => exact ⟨m, HMK.out.1, by go_num, HN.out, HLM'.out⟩
              case measure => have := HMK.out.2; simp [intOf]; omega
            · have HPL := hid (HP.out (by omega))
              have e8 : decide (y > a) = false := decide_eq_false hay
              have e8' : decide (a < y) = false := decide_eq_false hay
              go_wp2_with fail
              refine wp_region_inn ?_ ?_ ?_
              · kernel_rfl
              · kernel_rfl
              repeat (go_big_quiet_step (fail))
              refine wpQuiet_nil ?_
              intro w7 h7
              have H7 : Hid (Shf w w8 w7 g l K b0) := HBI.out w7 h7
              clear h7 c0 c6
              obtain ⟨hd0, hd1, hd2, hd3, hd4, hd5⟩ : w7.cell? ⟨w.heap.size, 0, none⟩ = some (.int .i64 a) ∧ w7.cell? ⟨w.heap.size, 1, none⟩ = some (.int .i64 p) ∧ w7.cell? ⟨w.heap.size, 2, none⟩ = some (.int .i64 va) ∧ w7.cell? ⟨w.heap.size, 3, none⟩ = some (.int .i64 vb) ∧ w7.cell? ⟨w.heap.size, 4, none⟩ = some (.string vc) ∧ w7.cell? ⟨w.heap.size, 5, none⟩ = some (.slice vd ve vf) := ⟨HBC.out w7 K H7.out 0 _ rfl, HBC.out w7 K H7.out 1 _ rfl, HBC.out w7 K H7.out 2 _ rfl, HBC.out w7 K H7.out 3 _ rfl, HBC.out w7 K H7.out 4 _ rfl, HBC.out w7 K H7.out 5 _ rfl⟩
              obtain ⟨x0, hs0⟩ : ∃ x, w7.cell? ⟨g, K * 6, none⟩ = some x := Option.isSome_iff_exists.1 (H7.out.mid 0 (by omega))
              obtain ⟨x1, hs1⟩ := Option.isSome_iff_exists.1 (H7.out.mid 1 (by omega))
              obtain ⟨x2, hs2⟩ := Option.isSome_iff_exists.1 (H7.out.mid 2 (by omega))
              obtain ⟨x3, hs3⟩ := Option.isSome_iff_exists.1 (H7.out.mid 3 (by omega))
              obtain ⟨x4, hs4⟩ := Option.isSome_iff_exists.1 (H7.out.mid 4 (by omega))
              obtain ⟨x5, hs5⟩ := Option.isSome_iff_exists.1 (H7.out.mid 5 (by omega))
              have hf := H7.out.free
              have HF := hid (HEX.out w7 K hK H7.out HPL.out)
              go_wp2_with fail
              rw [HY.out]
              obtain ⟨⟨⟨e1, q1, q2, q3⟩, q4⟩, q5⟩ := HF.out
              exact bodyPost_ret (v := .tuple #[.slice (some ⟨g, 0, none⟩) (l.length + 1) c, .bool true]) (by simp [results, Try.results6, go_sem]) rfl ⟨⟨_, c, e1, by rw [q5], q1, q2, q3⟩, q4⟩
end Go.Proofs.Ytnpbmfcilcnilaa.Tr
