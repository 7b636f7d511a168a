/-
  Timers drawn, one of them perhaps bent; and what the law FnDropped does.
  (Ahead of it, in this text: Timers that are due, timers that are dropped: the program's answers. What the law FnDue does. Timers drawn for FnDropped; a term in blocks of its own may be compared.)
-/
import Derived.Test.YtimnnedmpmlmdaaTrK
import Derived.Test.YtimnnedmpmlmdaaV2
import Derived.Test.YtimnnedmpmlmdaaV4
import Derived.Test.YtimnnedmpmlmdaaV6
namespace Go.Proofs.Ytimnnedmpmlmdaa.Tr
open Go.RowKit Atom
set_option linter.unusedVariables false


set_option maxHeartbeats 2000000 in
set_option maxRecDepth 100000 in
theorem implDrop_any (l : List Sd) (bs0 : List Nat) (ao : Option Addr) (cap : Nat) (z : Int) (w : World) (hr : GL eltS w l bs0 ao) (hnd0 : bs0.Nodup) (hl : l.length ≤ 1048576) (hn : ∀ x ∈ l, ntL [x.t] ≤ 4194304) :
    Calls Try.prog 7 #[.slice ao l.length cap, .int .i64 z] w fun e w' => (∃ a1 c1 e1, e = .returned (.slice a1 (l.filter (notB (ofB z))).length c1) ∧ GL eltS w' (l.filter (notB (ofB z))) e1 a1 ∧ e1.Nodup ∧ ∀ b ∈ e1, w.heap.size ≤ b) ∧ Below w.heap.size w w' := by
  obtain ⟨wa, hwa⟩ : ∃ wa, wa = w.alloc (.cells #[.int .i64 z] 3) := ⟨_, rfl⟩
  have hba : Below w.heap.size w wa := by rw [hwa]; exact (Below.refl _ _).alloc (Nat.le_refl _) _
  have hca : wa.cell? ⟨w.heap.size, 0, none⟩ = some (.int .i64 z) := by rw [hwa, World.cell?_alloc_new]; rfl
  have HBA : Hid (Below w.heap.size w wa ∧ wa.cell? ⟨w.heap.size, 0, none⟩ = some (.int .i64 z)) := ⟨hba, hca⟩
  have HC : Hid (Calls Try.prog 18 #[.slice ao l.length cap] wa fun e w' => (∃ (g : Nat) (bs : List Nat), e = .returned (.slice (some ⟨g, 0, none⟩) l.length l.length) ∧ GL eltS w' l bs (some ⟨g, 0, none⟩) ∧ bs.Nodup ∧ ∀ b ∈ bs, wa.heap.size ≤ b) ∧ Below wa.heap.size wa w') := ownTimers_any l bs0 ao cap wa (hr.below hba) hnd0 hl hn
  clear hr hnd0 hn hba hca
  go_enter Try.func7, Try.ntmps7
  go_wp2_with (go_at_call 18; fail)
  rw [← hwa]
  clear hwa
  refine HC.out.mono ?_
  rintro e w1 ⟨⟨g, bs, rfl, hg, hnd, hlo⟩, hb1⟩
  have HS : Hid (Calls Try.prog 19 #[.slice (some ⟨g, 0, none⟩) l.length l.length, .func (.func 20) #[] #[.pointer (some ⟨w.heap.size, 0, none⟩)]] w1 fun e w' => ∃ a1 c1 a2 c2 e1 e2, e = .returned (.tuple #[.slice a1 (l.filter (ofB z)).length c1, .slice a2 (l.filter (notB (ofB z))).length c2]) ∧ GL eltS w' (l.filter (ofB z)) e1 a1 ∧ GL eltS w' (l.filter (notB (ofB z))) e2 a2 ∧ (e1 ++ e2).Nodup ∧ (∀ b ∈ e1 ++ e2, b ∈ bs ∨ w1.heap.size ≤ b) ∧ Below w1.heap.size w1 w') := splitDrop_any l bs _ _ z w.heap.size w1 hg hnd hl (keepOt hb1 HBA.out.2)
  have HB1 : Hid (Below w.heap.size w w1 ∧ ∀ b, (b ∈ bs ∨ w1.heap.size ≤ b) → w.heap.size ≤ b) := by
    have h := HBA.out.1.trans (hb1.mono HBA.out.1.size)
    exact ⟨h, fun b hb => by
      rcases hb with hb | hb
      · exact Nat.le_trans HBA.out.1.size (hlo b hb)
      · exact Nat.le_trans h.size hb⟩
  clear hg hnd hlo hb1
  go_wp2_with (go_at_call 19; fail)
  refine HS.out.mono ?_
  rintro e w2 ⟨a1, c1, a2, c2, e1, e2, rfl, h1, h2, h3, h4, hb2⟩
  have HF : Hid (GL eltS w2 (l.filter (ofB z)) e1 a1 ∧ GL eltS w2 (l.filter (notB (ofB z))) e2 a2 ∧ (e1 ++ e2).Nodup ∧ (∀ b ∈ e1 ++ e2, w.heap.size ≤ b) ∧ Below w.heap.size w w2) := ⟨h1, h2, h3, fun b hb => HB1.out.2 b (h4 b hb), HB1.out.1.trans (hb2.mono HB1.out.1.size)⟩
  clear h1 h2 h3 h4 hb2
  go_wp2_with fail
  go_ret
  exact ⟨⟨a2, c2, e2, rfl, HF.out.2.1, (List.nodup_append.1 HF.out.2.2.1).2.1, fun b hb => HF.out.2.2.2.1 b (List.mem_append_right _ hb)⟩, HF.out.2.2.2.2⟩
end Go.Proofs.Ytimnnedmpmlmdaa.Tr
namespace Go.Proofs.Ytimnnedmpmlmdaa.Tv
open Go.RowKit Atom
open Go.Proofs.Ytimnnedmpmlmdaa.Tr
set_option linter.unusedVariables false

theorem hidM {p : Prop} (h : p) : Hid p := h
theorem bigT_any (ao : Option Addr) (len cap : Nat) (w : World) (hm : len ≤ maxLen) :
    Calls Try.prog 5 #[.slice ao len cap] w fun e w' => e = .returned (.bool (decide (1048576 < len))) ∧ w' = w := by
  unfold maxLen at hm
  by_cases h : 1048576 < len
  · go_enter Try.func5, Try.ntmps5
    go_wp2_with fail
    go_ret
    exact ⟨by simp [h]; omega, rfl⟩
  · go_enter Try.func5, Try.ntmps5
    go_wp2_with fail
    go_ret
    exact ⟨by simp [h]; omega, rfl⟩
theorem ntL_flat : ∀ l : List Tm, (∀ t, t ∈ l → DpT 0 t) → ntL l = l.length
  | [], _ => by rw [ntL]; rfl
  | .mk k n s m :: r, h => by
    have h0 : m = [] := by have := h (.mk k n s m) (List.mem_cons_self ..); rw [DpT] at this; exact this
    subst h0
    rw [ntL, ntL, ntL_flat r (fun t ht => h t (List.mem_cons_of_mem _ ht)), List.length_cons]; omega
theorem nt_small {x : Sd} (h : SdOk x) : ntL [x.t] ≤ 4194304 := by
  obtain ⟨a, p, t⟩ := x
  obtain ⟨k, n, s, l⟩ := t
  have h1 : WfT (.mk k n s l) := h.2.2.1
  have h2 : DpT 1 (.mk k n s l) := h.2.2.2
  rw [WfT] at h1
  rw [DpT] at h2
  show ntL [.mk k n s l] ≤ 4194304
  rw [ntL, ntL, ntL_flat l h2]; have := h1.2.1; omega
theorem len_parts (P : Sd → Bool) : ∀ l : List Sd, (l.filter P).length + (l.filter (notB P)).length = l.length
  | [] => rfl
  | x :: r => by
    have h := len_parts P r
    cases hp : P x
    · have hq : notB P x = true := by unfold notB; rw [hp]; rfl
      rw [List.filter_cons_of_neg (by rw [hp]; simp), List.filter_cons_of_pos hq, List.length_cons, List.length_cons]; omega
    · have hq : notB P x = false := by unfold notB; rw [hp]; rfl
      rw [List.filter_cons_of_pos hp, List.filter_cons_of_neg (by rw [hq]; simp), List.length_cons, List.length_cons]; omega
theorem ord_pair {l : List Sd} : ordB l = true ↔ l.Pairwise (fun x y => x.kind ≤ y.kind) := by
  constructor
  · intro h
    rw [List.pairwise_iff_getElem]
    intro i j hi hj hij
    obtain ⟨d, rfl⟩ : ∃ d, j = i + d := ⟨j - i, by omega⟩
    exact ord_le h i d hj
  · intro h
    refine ordB_yes fun j hj => ?_
    rw [List.pairwise_iff_getElem] at h
    rcases Nat.eq_zero_or_pos j with rfl | h0
    · exact Int.le_refl _
    · exact h (j - 1) j (by omega) hj (by omega)
theorem tms_filter {l : List Sd} (P : Sd → Bool) (h : tmsB l = true) : tmsB (l.filter P) = true := by
  unfold tmsB at h ⊢
  simp only [Bool.and_eq_true, decide_eq_true_eq] at h ⊢
  obtain ⟨h1, h2, h3⟩ := h
  refine ⟨Nat.le_trans (List.length_filter_le ..) h1, ord_pair.2 ((ord_pair.1 h2).filter P), ?_⟩
  unfold allB at h3 ⊢
  rw [List.all_eq_true] at h3 ⊢
  exact fun x hx => h3 x (List.mem_filter.1 hx).1

end Go.Proofs.Ytimnnedmpmlmdaa.Tv
namespace Go.Proofs.Ytimnnedmpmlmdaa.Tv
open Go.RowKit Atom
open Go.Proofs.Ytimnnedmpmlmdaa.Tr
set_option linter.unusedVariables false

/-! ### Terms in blocks of their own are compared -/
theorem osT_rp {w : World} : ∀ t : Tm, ∀ bs b off, OsT w t bs b off → RpT (Nf w) w t b off := by
  refine Tm.ind ?_
  intro k n s l ih bs b off h
  rw [OsT] at h
  rw [RpT]
  obtain ⟨h0, h1, h2, hs, ao, cap, h3, hl, hc, hr⟩ := h
  refine ⟨h0, h1, h2, by unfold maxLen; omega, ao, cap, h3, hl, hc, ?_⟩
  have go : ∀ (m : List Tm), (∀ t, t ∈ m → ∀ bs b off, OsT w t bs b off → RpT (Nf w) w t b off) → ∀ bs g o, Nf w g → OsR w m bs g o → RpL (Nf w) w m (some ⟨g, o, none⟩) := by
    intro m
    induction m with
    | nil => intro _ _ _ _ _ _; rw [RpL]; trivial
    | cons t r ihr =>
      intro hm bs g o hg hq
      rw [OsR] at hq
      obtain ⟨b1, b2, _, q1, q2⟩ := hq
      rw [RpL]
      exact ⟨g, o, rfl, hg, hm t (List.mem_cons_self ..) _ _ _ q1, ihr (fun x hx => hm x (List.mem_cons_of_mem _ hx)) _ _ _ hg q2⟩
  by_cases hn : l = []
  · subst hn; rw [RpL]; trivial
  · obtain ⟨g, o, bb, _, rfl, hf, hq⟩ := (OsL.iff hn).1 hr
    exact go l ih bb g o hf hq
theorem osV_rp {w : World} {t : Tm} {bs : List Nat} {v : Value} (h : OsV w bs t v) : RpV (Nf w) w t v := by
  obtain ⟨k, n, s, l⟩ := t
  obtain ⟨ao, cap, e, hs, hl, hc, hr⟩ := h
  refine ⟨ao, cap, e, by unfold maxLen; omega, hl, hc, ?_⟩
  by_cases hn : l = []
  · subst hn; rw [RpL]; trivial
  · obtain ⟨g, o, bb, _, rfl, hf, hq⟩ := (OsL.iff hn).1 hr
    have go : ∀ (m : List Tm) bs o, OsR w m bs g o → RpL (Nf w) w m (some ⟨g, o, none⟩) := by
      intro m
      induction m with
      | nil => intro _ _ _; rw [RpL]; trivial
      | cons t r ihr =>
        intro bs o hq
        rw [OsR] at hq
        obtain ⟨b1, b2, _, q1, q2⟩ := hq
        rw [RpL]
        exact ⟨g, o, rfl, hf, osT_rp t _ _ _ q1, ihr _ _ q2⟩
    exact go l bb o hq
/-- One term, wherever it stands twice in blocks of its own, is the same to the program. -/
theorem same_one {w : World} {t : Tm} {v v' : Value} (h : RpV (Nf w) w t v) (h' : RpV (Nf w) w t v') (hc : cntT t ≤ 1000000000) :
    Calls Try.prog 8 #[v, v'] w fun e w' => e = .returned (.bool true) ∧ Below w.heap.size w w' :=
  sameI_nf (fun b hb => hb) (fun b hb => hb) h h' hc true ⟨fun _ => cmpT_self t, fun _ => rfl⟩
/-- The cells of one timer of a row. -/
structure Bt (w : World) (g o : Nat) (x : Sd) (tk tn : Int) (ts : ByteArray) (tao : Option Addr) (tlen tcap : Nat) : Prop where
  c0 : w.cell? ⟨g, o, none⟩ = some (.int .i64 x.kind)
  c1 : w.cell? ⟨g, o + 1, none⟩ = some (.int .i64 x.pid)
  c2 : w.cell? ⟨g, o + 2, none⟩ = some (.int .i64 tk)
  c3 : w.cell? ⟨g, o + 3, none⟩ = some (.int .i64 tn)
  c4 : w.cell? ⟨g, o + 4, none⟩ = some (.string ts)
  c5 : w.cell? ⟨g, o + 5, none⟩ = some (.slice tao tlen tcap)
  t : RpV (Nf w) w x.t (.agg #[.int .i64 tk, .int .i64 tn, .string ts, .slice tao tlen tcap])
theorem elt_bt {w : World} {x : Sd} {bs : List Nat} {g o : Nat} (h : eltS.E w x bs g o) : ∃ tk tn ts tao tlen tcap, Bt w g o x tk tn ts tao tlen tcap := by
  obtain ⟨h0, h1, h2⟩ := h
  obtain ⟨kd, pd, t⟩ := x
  obtain ⟨k, n, s, l⟩ := t
  have h3 := osT_rp _ _ _ _ h2
  rw [OsT] at h2
  rw [RpT] at h3
  obtain ⟨a0, a1, a2, hs, ao, cap, a3, hl, hc, hr⟩ := h2
  obtain ⟨_, _, _, hs', ao', cap', a3', hl', hc', hr'⟩ := h3
  rw [a3] at a3'
  simp only [Option.some.injEq, Value.slice.injEq, true_and] at a3'
  obtain ⟨rfl, rfl⟩ := a3'
  exact ⟨k, n, s, ao, l.length, cap, h0, h1, a0, a1, a2, a3, ⟨ao, cap, rfl, hs', hl', hc', hr'⟩⟩
theorem Bt.below {w w' : World} {g o : Nat} {x : Sd} {tk tn : Int} {ts : ByteArray} {tao : Option Addr} {tlen tcap : Nat} (h : Bt w g o x tk tn ts tao tlen tcap) (hb : Below w.heap.size w w') : Bt w' g o x tk tn ts tao tlen tcap := by
  have k : ∀ {o v}, w.cell? ⟨g, o, none⟩ = some v → w'.cell? ⟨g, o, none⟩ = some v := fun {o v} hv => by rw [hb.cell (p := ⟨g, o, none⟩) (World.block_lt_of_cell? w _ hv)]; exact hv
  exact ⟨k h.c0, k h.c1, k h.c2, k h.c3, k h.c4, k h.c5, nf_below h.t hb⟩
theorem gl_bt {w : World} {l : List Sd} {bs : List Nat} {a : Option Addr} (h : GL eltS w l bs a) (j : Nat) (hj : j < l.length) : ∃ g o, a = some ⟨g, o, none⟩ ∧ ∃ tk tn ts tao tlen tcap, Bt w g (o + j * 6) l[j] tk tn ts tao tlen tcap := by
  rcases h with ⟨rfl, _⟩ | ⟨hl, g, o, b, _, e2, _, hr⟩
  · simp at hj
  · obtain ⟨bt, _, he⟩ := hr.at j hj
    exact ⟨g, o, e2, elt_bt he⟩

/-! ### The draws -/
set_option maxHeartbeats 2000000 in
theorem drawDrop_any (w : World) (ao : Option Addr) (len cap : Nat) (zs : List Int) (hr : IsRow w ao len cap zs) (hsm : len ≤ 1048576) :
    Calls Try.prog 6 #[.slice ao len cap] w fun e w' => ∃ (l : List Sd) (a : Option Addr) (c : Nat) (z : Int), e = .returned (.tuple #[.slice a l.length c, .int .i64 z]) ∧ l.length ≤ 52 ∧ (∃ bs, GL eltS w' l bs a ∧ bs.Nodup) ∧ (∀ x ∈ l, SdOk x) ∧ Below w.heap.size w w' := by
  have HR : Hid (IsRow w ao len cap zs) := hr
  clear hr
  go_enter Try.func6, Try.ntmps6
  go_wp2_with fail
  refine (new_any w ao len cap zs HR.out hsm).mono ?_
  rintro e w1 ⟨rfl, hcur, hb1, hsz⟩
  have HC1 : Hid (Cur w.heap.size ao len cap zs w1 ∧ Below w.heap.size w w1 ∧ w1.heap.size = w.heap.size + 1) := ⟨hcur, hb1, hsz⟩
  clear hcur hb1 hsz
  go_wp2_with fail
  refine (tmsAny_any w.heap.size ao len cap zs w1 HC1.out.1).mono ?_
  rintro e w2 ⟨l, a, c, xs, bs, rfl, hl, har, hok, hd2⟩
  have H2 : Hid (AR w2 w1.heap.size (.slice a l.length c) l xs bs ∧ (∀ x ∈ l, SdOk x) ∧ Drawn w.heap.size ao len cap zs w1 w2) := ⟨har, hok, hd2⟩
  clear har hok hd2
  go_wp2_with fail
  refine (below_any w.heap.size ao len cap zs w2 H2.out.2.2.1 5 (by decide) (by decide)).mono ?_
  rintro e w3 ⟨z, rfl, _, _, hd3⟩
  have HF : Hid ((∃ bs, GL eltS w3 l bs a ∧ bs.Nodup) ∧ Below w.heap.size w w3) := by
    refine ⟨?_, Turn.below HC1.out.2.1 HC1.out.2.1.size (H2.out.2.2.2.trans hd3.2) (Nat.le_refl _)⟩
    obtain ⟨e, h1, h2, _⟩ := (H2.out.1.turn hd3.2 (by have := HC1.out.2.2; omega)).gl
    exact ⟨e, h1, h2⟩
  clear hd3
  go_wp2_with fail
  refine bodyPost_ret (v := .tuple #[.slice a l.length c, .int .i64 z]) (by simp [results, Try.results6, go_sem]) rfl ⟨l, a, c, z, rfl, hl, HF.out.1, H2.out.2.1, HF.out.2⟩

/-- One timer of a row is laid down anew. -/
theorem row_set {w : World} {l : List Sd} {e : List Nat} {g : Nat} (hg : GL eltS w l e (some ⟨g, 0, none⟩)) (hnd : e.Nodup) (y : Nat) (hy : y < l.length) {x : Sd} {bx : List Nat} {tk tn : Int} {ts : ByteArray} {tao : Option Addr} {tlen tcap : Nat}
    (hx : OsV w bx x.t (.agg #[.int .i64 tk, .int .i64 tn, .string ts, .slice tao tlen tcap])) (hgx : g ∉ bx) :
    RowS (w.setCells g (y * 6) [.int .i64 x.kind, .int .i64 x.pid, .int .i64 tk, .int .i64 tn, .string ts, .slice tao tlen tcap]) (some ⟨g, 0, none⟩) (l.set y x) := by
  rcases hg with ⟨rfl, _⟩ | ⟨hl, g', o', b, rfl, e2, hf, hr⟩
  · simp at hy
  injection e2 with e2
  injection e2 with e3 e4 _
  subst e3
  subst e4
  rw [List.nodup_cons] at hnd
  obtain ⟨bt0, _, he0'⟩ := hr.at y hy
  have he0 : eltS.E w l[y] bt0 g (0 + y * 6) := he0'
  obtain ⟨k1, n1, s1, ao1, len1, cap1, hb0⟩ := elt_bt he0
  have hin := World.cell?_setCells_in g [.int .i64 x.kind, .int .i64 x.pid, .int .i64 tk, .int .i64 tn, .string ts, .slice tao tlen tcap] (y * 6) w (fun j hj => by
    have hj' : j < 6 := hj
    have h0 := hb0.c0
    have h1 := hb0.c1
    have h2 := hb0.c2
    have h3 := hb0.c3
    have h4 := hb0.c4
    have h5 := hb0.c5
    rw [Nat.zero_add] at h0 h1 h2 h3 h4 h5
    have : j = 0 ∨ j = 1 ∨ j = 2 ∨ j = 3 ∨ j = 4 ∨ j = 5 := by omega
    rcases this with rfl | rfl | rfl | rfl | rfl | rfl
    · rw [Nat.add_zero, h0]; rfl
    · rw [h1]; rfl
    · rw [h2]; rfl
    · rw [h3]; rfl
    · rw [h4]; rfl
    · rw [h5]; rfl)
  have hbk : ∀ z, z ≠ g → (w.setCells g (y * 6) [.int .i64 x.kind, .int .i64 x.pid, .int .i64 tk, .int .i64 tn, .string ts, .slice tao tlen tcap]).heap[z]? = w.heap[z]? := fun z hz => setCells_blk hz _ _ _
  refine .inr ⟨g, 0, rfl, fun j hj => ?_⟩
  rw [List.length_set] at hj
  by_cases hjy : j = y
  · subst hjy
    have hE : eltS.E (w.setCells g (j * 6) [.int .i64 x.kind, .int .i64 x.pid, .int .i64 tk, .int .i64 tn, .string ts, .slice tao tlen tcap]) x bx g (0 + j * 6) := (ve_timer hx).2.2 _ g (0 + j * 6) (fun i v hv => by
      rw [Nat.zero_add]
      have hi : i < 6 := (List.getElem?_eq_some_iff.1 hv).1
      have h := hin i hi
      rw [h, ← hv, List.getElem?_eq_getElem hi]) (fun z hz => hbk z (fun q => hgx (by rw [← q]; exact hz)))
    obtain ⟨p, q, r⟩ := hE
    rw [List.getElem_set_self]
    exact ⟨p, q, OsT.rep _ _ _ _ r⟩
  · obtain ⟨bt, hbt, he'⟩ := hr.at j hj
    have he : eltS.E w l[j] bt g (0 + j * 6) := he'
    have hE := eltS.keep (w' := w.setCells g (y * 6) [.int .i64 x.kind, .int .i64 x.pid, .int .i64 tk, .int .i64 tn, .string ts, .slice tao tlen tcap]) (fun z hz _ => hbk z (fun q => hnd.1 (by rw [← q]; exact hbt z hz))) (fun i v hi hv => by
      have hi' : i < 6 := hi
      rw [World.cell?_setCells_out g [.int .i64 x.kind, .int .i64 x.pid, .int .i64 tk, .int .i64 tn, .string ts, .slice tao tlen tcap] (y * 6) w ⟨g, 0 + j * 6 + i, none⟩ (fun _ _ => by show 0 + j * 6 + i < y * 6 ∨ y * 6 + 6 ≤ 0 + j * 6 + i; omega)]; exact hv) he
    obtain ⟨p, q, r⟩ := hE
    rw [List.getElem_set_ne (by omega)]
    exact ⟨p, q, OsT.rep _ _ _ _ r⟩
end Go.Proofs.Ytimnnedmpmlmdaa.Tv
namespace Go.Proofs.Ytimnnedmpmlmdaa.Tv
open Go.RowKit Atom
open Go.Proofs.Ytimnnedmpmlmdaa.Tr
set_option linter.unusedVariables false

set_option maxRecDepth 100000 in
set_option maxHeartbeats 4000000 in
theorem drawTok_any (w : World) (ao : Option Addr) (len cap : Nat) (zs : List Int) (hr : IsRow w ao len cap zs) (hsm : len ≤ 1048576) :
    Calls Try.prog 9 #[.slice ao len cap] w fun e w' => ∃ (l : List Sd) (a : Option Addr) (c : Nat), e = .returned (.slice a l.length c) ∧ l.length ≤ 52 ∧ RowS w' a l ∧ Below w.heap.size w w' := by
  have HR : Hid (IsRow w ao len cap zs) := hr
  clear hr
  go_enter Try.func9, Try.ntmps9
  go_wp2_with fail
  refine (new_any w ao len cap zs HR.out hsm).mono ?_
  rintro e w1 ⟨rfl, hcur, hb1, hsz⟩
  have HC1 : Hid (Cur w.heap.size ao len cap zs w1 ∧ Below w.heap.size w w1 ∧ w1.heap.size = w.heap.size + 1) := ⟨hcur, hb1, hsz⟩
  clear hcur hb1 hsz
  go_wp2_with fail
  refine (tmsAny_any w.heap.size ao len cap zs w1 HC1.out.1).mono ?_
  rintro e w2 ⟨l, a, c, xs, bs, rfl, hl, har, hok, hd2⟩
  have H2 : Hid (AR w2 w1.heap.size (.slice a l.length c) l xs bs ∧ Drawn w.heap.size ao len cap zs w1 w2) := ⟨har, hd2⟩
  have HBW : Hid (∀ w9, Turn w.heap.size w1 w9 → Below w.heap.size w w9) := fun w9 ht => Turn.below HC1.out.2.1 HC1.out.2.1.size ht (Nat.le_refl _)
  clear har hok hd2
  by_cases h0 : l.length = 0
  · have hl0 : l = [] := List.length_eq_zero_iff.1 h0
    have h00 : ¬ (0 < (l.length : Int)) := by omega
    go_wp2_with fail
    go_ret
    exact ⟨[], a, c, rfl, Nat.zero_le _, .inl rfl, HBW.out _ H2.out.2.2⟩
  · have h01 : 0 < (l.length : Int) := by omega
    go_wp2_with (go_at_call 22; fail)
    refine (once_any w.heap.size ao len cap zs w2 H2.out.2.1 4 (by decide) (by decide)).mono ?_
    rintro e w3 ⟨x, rfl, hd3⟩
    have HD3 : Hid (Drawn w.heap.size ao len cap zs w1 w3) := H2.out.2.trans hd3
    have HA3 : Hid (AR w3 w1.heap.size (.slice a l.length c) l xs bs) := H2.out.1.turn hd3.2 (by have := HC1.out.2.2; omega)
    clear hd3
    cases x
    · go_wp2_with fail
      go_ret
      obtain ⟨e, hg, _, _⟩ := HA3.out.gl
      exact ⟨l, a, c, rfl, hl, GL.rowS hg, HBW.out _ HD3.out.2⟩
    · go_wp2_with (go_at_call 17; fail)
      refine (below_any w.heap.size ao len cap zs w3 HD3.out.1 (l.length : Int) (by omega) (by omega)).mono ?_
      rintro e w4 ⟨y, rfl, hy0, hy1, hd4⟩
      obtain ⟨yn, rfl⟩ : ∃ yn : Nat, y = yn := ⟨y.toNat, by omega⟩
      have hyl : yn < l.length := by omega
      have HD4 : Hid (Drawn w.heap.size ao len cap zs w1 w4) := HD3.out.trans hd4
      have HA4 : Hid (AR w4 w1.heap.size (.slice a l.length c) l xs bs) := HA3.out.turn hd4.2 (by have := HC1.out.2.2; omega)
      clear hd4 hy0 hy1
      go_wp2_with (go_at_call 23; fail)
      refine (bent_any w.heap.size ao len cap zs w4 HD4.out.1).mono ?_
      rintro e w5 ⟨⟨kd, pd, t⟩, tk, tn, ts, tao, tlen, tcap, rfl, ⟨bx, hos, hbn, hbl⟩, hbnt, hd5⟩
      have HD5 : Hid (Drawn w.heap.size ao len cap zs w1 w5) := HD4.out.trans hd5
      have HA5 : Hid (AR w5 w1.heap.size (.slice a l.length c) l xs bs) := HA4.out.turn hd5.2 (by have := HC1.out.2.2; omega)
      obtain ⟨g, c', hv, hg0, _, _, _, hfr, hgl5⟩ := owns_cells HA5.out.own h0
      injection hv with hv1 _ hv3
      subst hv1
      subst hv3
      have hg4 : g < w4.heap.size := by
        obtain ⟨g2, c2, hv2, _, _, _, _, _, h9⟩ := owns_cells HA4.out.own h0
        injection hv2 with hv3 _ _
        injection hv3 with hv4
        injection hv4 with hv5 _ _
        rw [hv5]; exact h9
      obtain ⟨e9, hgl, hnd, _⟩ := HA5.out.gl
      obtain ⟨g', o', eg, k1, n1, s1, ao1, len1, cap1, hbt⟩ := gl_bt hgl yn hyl
      injection eg with eg
      injection eg with eg1 eg2 _
      subst eg1
      subst eg2
      have b0 := hbt.c0
      have b1 := hbt.c1
      have b2 := hbt.c2
      have b3 := hbt.c3
      have b4 := hbt.c4
      have b5 := hbt.c5
      rw [Nat.zero_add] at b0 b1 b2 b3 b4 b5
      generalize l[yn].kind = xk at b0
      generalize l[yn].pid = xp at b1
      have HF : Hid (RowS (w5.setCells g (yn * 6) [.int .i64 kd, .int .i64 pd, .int .i64 tk, .int .i64 tn, .string ts, .slice tao tlen tcap]) (some ⟨g, 0, none⟩) (l.set yn ⟨kd, pd, t⟩) ∧ Below w.heap.size w (w5.setCells g (yn * 6) [.int .i64 kd, .int .i64 pd, .int .i64 tk, .int .i64 tn, .string ts, .slice tao tlen tcap])) := by
        refine ⟨row_set (x := ⟨kd, pd, t⟩) hgl hnd yn hyl hos (fun hm => by have := hbl g hm; omega), ?_⟩
        exact setCells_bel (by have := HC1.out.2.2; omega) _ _ _ _ (HBW.out _ HD5.out.2)
      have HLS : Hid ((l.set yn ⟨kd, pd, t⟩).length = l.length) := by show _ = _; rw [List.length_set]
      clear hd5 hos hbn hbl hbnt hgl hnd hbt
      go_wp2_with fail
      go_ret
      exact ⟨l.set yn ⟨kd, pd, t⟩, _, c, by rw [HLS.out]; rfl, by rw [HLS.out]; exact hl, HF.out.1, HF.out.2⟩

theorem flt_at (P : Sd → Bool) {l : List Sd} {i : Nat} (hi : i < l.length) (hp : P l[i] = true) : ∃ h : ((l.take i).filter P).length < (l.filter P).length, (l.filter P)[((l.take i).filter P).length]'h = l[i] := by
  have e : l.filter P = (l.take i).filter P ++ l[i] :: (l.drop (i + 1)).filter P := by
    conv => lhs; rw [← List.take_append_drop i l, List.drop_eq_getElem_cons hi, List.filter_append, List.filter_cons_of_pos hp]
  have h : ((l.take i).filter P).length < (l.filter P).length := by rw [e]; simp
  refine ⟨h, ?_⟩
  have h2 : (l.filter P)[((l.take i).filter P).length]? = some l[i] := by rw [e, List.getElem?_append_right (Nat.le_refl _)]; simp
  exact (List.getElem?_eq_some_iff.1 h2).2
theorem flt_yes (P : Sd → Bool) {l : List Sd} {i : Nat} (hi : i < l.length) (hp : P l[i] = true) : ((l.take (i + 1)).filter P).length = ((l.take i).filter P).length + 1 := by
  rw [List.take_succ_eq_append_getElem hi, List.filter_append, List.filter_cons_of_pos hp]; simp
theorem flt_no (P : Sd → Bool) {l : List Sd} {i : Nat} (hi : i < l.length) (hp : P l[i] = false) : ((l.take (i + 1)).filter P).length = ((l.take i).filter P).length := by
  rw [List.take_succ_eq_append_getElem hi, List.filter_append, List.filter_cons_of_neg (by rw [hp]; simp)]; simp

set_option maxRecDepth 100000 in
set_option maxHeartbeats 4000000 in
theorem dropped_law (w : World) (ao : Option Addr) (len cap : Nat) (zs : List Int) (hr : IsRow w ao len cap zs) (hlc : len ≤ cap) (hcm : cap ≤ maxLen) :
    Calls Try.prog 3 #[.slice ao len cap] w fun e w' => e = .returned (.bool true) ∧ Below w.heap.size w w' := by
  have HR : Hid (IsRow w ao len cap zs) := hr
  have HBG : Hid (∀ w', Calls Try.prog 5 #[.slice ao len cap] w' fun e w'' => e = .returned (.bool (decide (1048576 < len))) ∧ w'' = w') := fun w' => bigT_any ao len cap w' (Nat.le_trans hlc hcm)
  clear hr hlc hcm
  by_cases hbig : 1048576 < len
  · have hd : decide (1048576 < len) = true := by simpa using hbig
    rw [hd] at HBG
    go_enter Try.func3, Try.ntmps3
    go_wp2_with (go_at_call 5; refine (HBG.out _).mono ?_; rintro e w' ⟨rfl, rfl⟩)
    go_ret
    exact ⟨rfl, Below.refl _ _⟩
  · have hd : decide (1048576 < len) = false := by simpa using hbig
    rw [hd] at HBG
    have HSM : Hid (len ≤ 1048576) := by show _ ≤ _; omega
    clear hd hbig
    go_enter Try.func3, Try.ntmps3
    go_wp2_with (go_at_call 5; refine (HBG.out _).mono ?_; rintro e w' ⟨rfl, hw'⟩; obtain rfl := hw'.symm)
    refine (drawDrop_any w ao len cap zs HR.out HSM.out).mono ?_
    rintro e w1 ⟨l, a, c, z, rfl, hl, ⟨bs, hgl, hnd⟩, hok, hb1⟩
    have H1 : Hid (GL eltS w1 l bs a ∧ Below w.heap.size w w1 ∧ ∀ x ∈ l, SdOk x) := ⟨hgl, hb1, hok⟩
    have HDR := hidM (implDrop_any l bs a c z w1 hgl hnd (by omega) (fun x hx => nt_small (hok x hx)))
    clear hgl hb1 hnd hok
    go_wp2_with fail
    refine HDR.out.mono ?_
    rintro e w2 ⟨⟨a1, c1, e1, rfl, hg1, hnd1, hlo1⟩, hb2⟩
    clear HDR hnd1 hlo1
    obtain ⟨P, hP⟩ : ∃ P, P = notB (ofB z) := ⟨_, rfl⟩
    have HPZ : Hid (∀ x, P x = (x.pid != z)) := fun x => by rw [hP]; rfl
    rw [← hP] at hg1 ⊢
    clear hP
    have HS : Hid (Below w.heap.size w w2 ∧ GL eltS w2 l bs a ∧ GL eltS w2 (l.filter P) e1 a1 ∧ ∀ x ∈ l, SdOk x) := ⟨H1.out.2.1.trans (hb2.mono H1.out.2.1.size), H1.out.1.below hb2, hg1, H1.out.2.2⟩
    have hml : (l.filter P).length ≤ l.length := List.length_filter_le _ _
    clear hg1 hb2 H1
    obtain ⟨M, hM⟩ : ∃ M, M = (l.filter P).length := ⟨_, rfl⟩
    have HM : Hid (M = (l.filter P).length) := hM
    rw [← hM] at hml ⊢
    clear hM
    go_wp2_with fail
    go_loopw [6, 7] (fun n i wr => ∃ k : Nat, k ≤ l.length ∧ i = .int .i64 k ∧ n = .int .i64 (((l.take k).filter P).length : Nat) ∧ ((l.take k).filter P).length ≤ k ∧ Below w2.heap.size w2 wr) (fun _ i _ => l.length - (intOf i).toNat)
    case atStart => exact ⟨0, Nat.zero_le _, rfl, rfl, Nat.le_refl _, Below.refl _ _⟩
    case round =>
      obtain ⟨k, hk, rfl, rfl, hle, hbl⟩ := hrel
      have HB : Hid (Below w2.heap.size w2 wr) := hbl
      clear hbl
      by_cases hlt : k < l.length
      · obtain ⟨g, o, rfl, tk, tn, ts, tao, tlen, tcap, hbt0⟩ := gl_bt HS.out.2.1 k hlt
        have HBT : Hid (Bt wr g (o + k * 6) l[k] tk tn ts tao tlen tcap) := hbt0.below HB.out
        have d1 := HBT.out.c1
        have HOK : Hid (cntT l[k].t ≤ 1000000000) := cnt_6 (d := 1) (by omega) (HS.out.2.2.2 _ (List.getElem_mem hlt)).2.2
        clear hbt0
        by_cases hp : P l[k] = true
        · have hpz : (l[k].pid != z) = true := by rw [← HPZ.out]; exact hp
          obtain ⟨hlm, hat⟩ := flt_at P hlt hp
          have HY : Hid (((l.take (k + 1)).filter P).length = ((l.take k).filter P).length + 1) := flt_yes P hlt hp
          obtain ⟨g1, o1, rfl, tk1, tn1, ts1, tao1, tlen1, tcap1, hbt1⟩ := gl_bt HS.out.2.2.1 _ hlm
          rw [hat] at hbt1
          have HBT1 : Hid (Bt wr g1 (o1 + ((l.take k).filter P).length * 6) l[k] tk1 tn1 ts1 tao1 tlen1 tcap1) := hbt1.below HB.out
          rw [← HM.out] at hlm
          clear hbt1 hat hp
          obtain ⟨n, hn⟩ : ∃ n, n = ((l.take k).filter P).length := ⟨_, rfl⟩
          rw [← hn] at HBT1 HY hle hlm ⊢
          clear hn
          generalize l[k] = x at *
          obtain ⟨kd, pd, t⟩ := x
          dsimp only at hpz d1 HOK
          have x1 := Inn.keep HBT.out.c1
          have x0 := Inn.keep HBT.out.c0
          have x2 := Inn.keep HBT.out.c2
          have x3 := Inn.keep HBT.out.c3
          have x4 := Inn.keep HBT.out.c4
          have x5 := Inn.keep HBT.out.c5
          have y1 := Inn.keep HBT1.out.c1
          have y0 := Inn.keep HBT1.out.c0
          have y2 := Inn.keep HBT1.out.c2
          have y3 := Inn.keep HBT1.out.c3
          have y4 := Inn.keep HBT1.out.c4
          have y5 := Inn.keep HBT1.out.c5
          dsimp only at x0 x1 y0 y1
          have HSA : Hid (∀ x : Inn wr, Calls Try.prog 8 #[.agg #[.int .i64 tk1, .int .i64 tn1, .string ts1, .slice tao1 tlen1 tcap1], .agg #[.int .i64 tk, .int .i64 tn, .string ts, .slice tao tlen tcap]] x.val fun e w' => e = .returned (.bool true) ∧ Below x.val.heap.size x.val w') := fun x => same_one (HBT1.out.below x.bel).t (HBT.out.below x.bel).t HOK.out
          haveI := inn_ne wr
          have e1 : (pd != pd) = false := by simp
          have e2 : (kd != kd) = false := by simp
          have e3 : decide (M ≤ n) = false := by simp; omega
          go_wp2_with fail
          refine wp_region_inn ?_ ?_ ?_
          · kernel_rfl
          · kernel_rfl
          go_big_quiet_step (fail)
          repeat (go_big_quiet_step (first
            | (go_at_call 8; exact calls_inn (HSA.out _))))
          refine wpQuiet_nil ?_
          rintro w3 ⟨x3', h3⟩
          have hb3 : Below wr.heap.size wr w3 := by rw [h3]; exact x3'.bel
          have HB3 : Hid (Below w2.heap.size w2 w3) := HB.out.trans (hb3.mono HB.out.size)
          clear h3 x3' hb3 x0 x1 x2 x3 x4 x5 y0 y1 y2 y3 y4 y5 d1
          go_wp2_with fail
          go_roundw
          case rel => exact ⟨k + 1, by omega, by go_num, by rw [HY.out]; go_num, by rw [HY.out]; omega, HB3.out⟩
          case measure => simp [intOf]; omega
        · have hp' : P l[k] = false := by simpa using hp
          have hpz : (l[k].pid != z) = false := by rw [← HPZ.out]; exact hp'
          have HY : Hid (((l.take (k + 1)).filter P).length = ((l.take k).filter P).length) := flt_no P hlt hp'
          clear hp hp'
          generalize l[k].pid = pd at *
          go_wp2_with fail
          go_roundw
          case rel => exact ⟨k + 1, by omega, by go_num, by rw [HY.out], by rw [HY.out]; omega, HB.out⟩
          case measure => simp [intOf]; omega
      · have HTA : Hid (((l.take k).filter P).length = M) := by show _ = _; rw [List.take_of_length_le (by omega), HM.out]
        rw [HTA.out]
        have HBW : Hid (Below w.heap.size w wr) := HS.out.1.trans (HB.out.mono HS.out.1.size)
        have HRR : Hid (IsRow wr ao len cap zs) := HR.out.below HBW.out
        clear hle
        go_wp2_with (go_at_call 9; fail)
        refine (drawTok_any wr ao len cap zs HRR.out HSM.out).mono ?_
        rintro e w4 ⟨q, qa, qc, rfl, hql, hrq, hb4⟩
        have HB4 : Hid (Below w.heap.size w w4) := HBW.out.trans (hb4.mono HBW.out.size)
        have HI : Hid (Calls Try.prog 10 #[.slice qa q.length qc] w4 fun e w' => e = .returned (.bool (tmsB q)) ∧ Below w4.heap.size w4 w') := implTimersOk_any q qa qc w4 hrq (by unfold maxLen; omega)
        have HP : Hid (∀ wc, Below w4.heap.size w4 wc → Calls Try.prog 11 #[.slice qa q.length qc] wc fun e w' => e = .returned (.bool (tmsB q)) ∧ Below wc.heap.size wc w') := fun wc hb => specTimersOk_any q qa qc wc (hrq.below hb) (by unfold maxLen; omega)
        clear hrq hb4
        obtain ⟨tb, htb⟩ : ∃ tb, tb = tmsB q := ⟨_, rfl⟩
        rw [← htb] at HI HP
        clear htb
        have e1 : ((M : Int) == (M : Int)) = true := by simp
        have e2 : (tb == tb) = true := by simp
        go_wp2_with (go_at_call 10; fail)
        refine HI.out.mono ?_
        rintro e w5 ⟨rfl, hb5⟩
        have HB5 : Hid (Below w4.heap.size w4 w5) := hb5
        clear hb5
        go_wp2_with (go_at_call 11; fail)
        refine (HP.out w5 HB5.out).mono ?_
        rintro e w6 ⟨rfl, hb6⟩
        have HB6 : Hid (Below w.heap.size w w6) := HB4.out.trans ((HB5.out.mono HB4.out.size).trans (hb6.mono (Nat.le_trans HB4.out.size HB5.out.size)))
        clear hb6
        go_wp2_with fail
        go_ret
        exact ⟨rfl, HB6.out⟩
end Go.Proofs.Ytimnnedmpmlmdaa.Tv
