/-
  A timer put among others: where it comes to stand, and the program's add.
  (Ahead of it, in this text: A timer put at the end of a row that has no room: the program's slices.Insert. Rows of timers as the cells that they take, and one more among them.)
-/
import Derived.Test.YtimnnedmpmlmdaaV7
namespace Go.Proofs.Ytimnnedmpmlmdaa.Tr
open Go.RowKit Atom
set_option linter.unusedVariables false

theorem run_append_grow2 {P : Program} {w : World} (t u ty e e2 : TypeId) (i : TypeInfo) (z : Value) (ht : P.underlying t = some (.slice e)) (hu : P.underlying u = some (.slice e2)) (hi : P.info? e = some i) (hz : i.zero = some z)
    (b : Addr) (sLen sCap : Nat) (olds : List Value) (hlo : olds.length = sLen * i.size) (holds : ∀ j v, olds[j]? = some v → w.cell? (b.add j) = some v)
    (a : Addr) (n c : Nat) (news : List Value) (hl : news.length = n * i.size) (hnews : ∀ j v, news[j]? = some v → w.cell? (a.add j) = some v)
    (hg : sCap < sLen + n) (h63 : ((sLen + n : Nat) : Int) ≤ 9223372036854775807) (hfit : Builtin.nextslicecap (sLen + n) sCap * i.bytes ≤ 281474976710656) :
    (Builtin.append_ #[t, u] ty #[.slice (some b) sLen sCap, .slice (some a) n c]).run P w =
      .ok (.slice (some ⟨w.heap.size, 0, none⟩) (sLen + n) (grownCap w (sLen + n) sCap e))
        (w.drew.alloc (.cells (olds.toArray ++ news.toArray ++ Builtin.zeroCells z.cells (grownCap w (sLen + n) sCap e - (sLen + n))) e)) := by
  have hsame : (Builtin.append_ #[t, u] ty #[.slice (some b) sLen sCap, .slice (some a) n c]).run P w = (Builtin.append_ #[t, t] ty #[.slice (some b) sLen sCap, .slice (some a) n c]).run P w := by
    simp [Builtin.append_, run_underlying ht, run_underlying hu]
  rw [hsame]
  exact run_append_grow w t ty e i z ht hi hz b sLen sCap olds hlo holds a n c news hl hnews hg h63 hfit

set_option maxHeartbeats 4000000 in
set_option maxRecDepth 100000 in
theorem insertEnd_any (cs vs : List Value) (n b vb : Nat) (w : World) (hn : n ≤ 1048576) (hcl : cs.length = n * 6) (hvl : vs.length = 6)
    (hcs : ∀ j v, cs[j]? = some v → w.cell? ⟨b, j, none⟩ = some v) (hvs : ∀ j v, vs[j]? = some v → w.cell? ⟨vb, j, none⟩ = some v) :
    Calls Try.prog 50 #[.slice (some ⟨b, 0, none⟩) n n, .int .i64 n, .slice (some ⟨vb, 0, none⟩) 1 1] w fun e w' =>
      (∃ c cur, e = .returned (.slice (some ⟨w.heap.size, 0, none⟩) (n + 1) c) ∧ w'.heap[w.heap.size]? = some (.cells cur 32 (0, 0)) ∧ n + 1 ≤ c ∧ c ≤ maxLen ∧ cur.size = c * 6 ∧ cur.toList.take ((n + 1) * 6) = cs ++ vs) ∧ Below w.heap.size w w' := by
  obtain ⟨i0, hi0, hzz⟩ := Option.map_eq_some_iff.1 infoTimer
  simp only [Prod.mk.injEq] at hzz
  obtain ⟨hz0, hzs, hzb⟩ := hzz
  have ad0 : ∀ (x y j : Nat), (⟨x, y, none⟩ : Addr).add j = ⟨x, y + j, none⟩ := fun x y j => by rw [Addr.add_lit]
  obtain ⟨G, hG⟩ : ∃ G, G = grownCap w (n + 1) n 32 := ⟨_, rfl⟩
  have hGn : n + 1 ≤ G := by rw [hG]; exact grownCap_ge w _ _ _
  have hGm : G ≤ maxLen := by rw [hG]; exact grownCap_le_maxLen w _ _ _ (by unfold maxLen; omega)
  obtain ⟨R, hR⟩ : ∃ R : Array Value, R = cs.toArray ++ vs.toArray ++ Builtin.zeroCells (Value.agg #[.int .i64 0, .int .i64 0, .int .i64 0, .int .i64 0, .string ⟨#[]⟩, .slice none 0 0]).cells (G - (n + 1)) := ⟨_, rfl⟩
  have hRs : R.size = G * 6 := by
    rw [hR]
    simp [size_zeroCells, Value.cells]
    omega
  have hRt : R.toList.take ((n + 1) * 6) = cs ++ vs := by
    rw [hR, Array.toList_append, Array.toList_append]
    rw [List.take_append_of_le_length (by simp; omega), List.take_of_length_le (by simp; omega)]
  have hra : ∀ ty, (Builtin.append_ #[44, 24] ty #[.slice (some ⟨b, 0, none⟩) n n, .slice (some ⟨vb, 0, none⟩) 1 1]).run Try.prog w = .ok (.slice (some ⟨w.heap.size, 0, none⟩) (n + 1) G) (w.drew.alloc (.cells R 32)) := fun ty => by
    rw [hR, hG]
    exact run_append_grow2 _ _ ty 32 32 i0 _ undQ undTimerS hi0 hz0 ⟨b, 0, none⟩ n n cs (by rw [hzs]; exact hcl) (fun j v hj => by rw [ad0, Nat.zero_add]; exact hcs j v hj) ⟨vb, 0, none⟩ 1 1 vs (by rw [hzs]; omega) (fun j v hj => by rw [ad0, Nat.zero_add]; exact hvs j v hj) (by omega) (by omega) (by rw [hzb]; exact growslice_fits (by omega) (by omega))
  have HB1 : Hid (Below w.heap.size w (w.drew.alloc (.cells R 32)) ∧ (w.drew.alloc (.cells R 32)).heap[w.heap.size]? = some (.cells R 32 (0, 0))) :=
    ⟨((Below.refl w.heap.size w).drew).alloc (Nat.le_refl _) _, heap_alloc_new w.drew _⟩
  obtain ⟨W1, hW1⟩ : ∃ W1, W1 = w.drew.alloc (.cells R 32) := ⟨_, rfl⟩
  rw [← hW1] at hra HB1
  clear hW1 hR hG hi0 hz0 hcs hvs
  go_enter Try.func50, Try.ntmps50
  go_wp2_with (at_builtin; refine Lib.wpList_append_run _ rfl _ _ _ _ rfl _ _ rfl rfl _ _ (hra _) ?_)
  go_ret
  exact ⟨⟨G, R, rfl, HB1.out.2, hGn, hGm, hRs, hRt⟩, HB1.out.1⟩
end Go.Proofs.Ytimnnedmpmlmdaa.Tr
namespace Go.Proofs.Ytimnnedmpmlmdaa.Tr
open Go.RowKit Atom
set_option linter.unusedVariables false

/-- A row as its cells. -/
theorem gr_cells {w : World} {g : Nat} : ∀ (l : List Sd) (bs : List Nat) (off : Nat), GR eltS w l bs g off → ∃ cs, VL eltS w l cs bs ∧ cs.length = l.length * 6 ∧ (∀ j v, cs[j]? = some v → w.cell? ⟨g, off + j, none⟩ = some v) ∧ ∀ v ∈ cs, v.oneCell' = true
  | [], bs, off, h => by
    rw [GR] at h
    exact ⟨[], ⟨rfl, h⟩, rfl, (fun j v hj => by simp at hj), fun v hv => by cases hv⟩
  | x :: r, bs, off, h => by
    rw [GR] at h
    obtain ⟨b1, b2, eb, hE, hr⟩ := h
    obtain ⟨cs, hv, hl, hc, h1⟩ := gr_cells r b2 (off + eltS.s) hr
    obtain ⟨ta, tp, t⟩ := x
    obtain ⟨tk, tn, ts, tl⟩ := t
    obtain ⟨d0, d1, hOT⟩ := hE
    dsimp only at d0 d1 hOT
    rw [OsT] at hOT
    obtain ⟨d2, d3, d4, hs4, tao, tcap, d5, hl5, hc5, hr5⟩ := hOT
    refine ⟨[.int .i64 ta, .int .i64 tp, .int .i64 tk, .int .i64 tn, .string ts, .slice tao tl.length tcap] ++ cs, ⟨_, cs, b1, b2, rfl, eb, ve_timer (x := ⟨ta, tp, .mk tk tn ts tl⟩) ⟨tao, tcap, rfl, hs4, hl5, hc5, hr5⟩, hv⟩, ?_, fun j v hj => ?_, fun v hv' => ?_⟩
    · rw [List.length_append, hl, List.length_cons]
      show 6 + r.length * 6 = (r.length + 1) * 6
      omega
    · rcases Nat.lt_or_ge j 6 with h6 | h6
      · rw [List.getElem?_append_left (by show j < 6; exact h6)] at hj
        match j, h6 with
        | 0, _ => exact d0.trans hj
        | 1, _ => exact d1.trans hj
        | 2, _ => exact d2.trans hj
        | 3, _ => exact d3.trans hj
        | 4, _ => exact d4.trans hj
        | 5, _ => exact d5.trans hj
      · rw [List.getElem?_append_right (by show 6 ≤ j; exact h6)] at hj
        have := hc (j - 6) v hj
        rw [show off + eltS.s + (j - 6) = off + j by show off + 6 + (j - 6) = _; omega] at this
        exact this
    · rcases List.mem_append.1 hv' with q | q
      · exact sixOne v q
      · exact h1 v q
/-- One more at the place i. -/
def putAt (l : List Sd) (i : Nat) (x : Sd) : List Sd := l.take i ++ x :: l.drop i
theorem VL.insert {w : World} {x : Sd} {vs : List Value} {bx : List Nat} (hx : VE eltS w x vs bx) : ∀ (i : Nat) (l : List Sd) (cs : List Value) (bs : List Nat), VL eltS w l cs bs → i ≤ l.length → ∃ bs', VL eltS w (putAt l i x) (cs.take (i * 6) ++ (vs ++ cs.drop (i * 6))) bs' ∧ bs'.Perm (bx ++ bs)
  | 0, l, cs, bs, h, _ => ⟨bx ++ bs, ⟨vs, cs, bx, bs, by simp, rfl, hx, by simpa using h⟩, List.Perm.refl _⟩
  | i + 1, [], cs, bs, h, hi => by simp at hi
  | i + 1, a :: r, cs, bs, h, hi => by
    obtain ⟨va, ys, b1, b2, e1, e2, ha, hr⟩ := h
    obtain ⟨bs', hv, hp⟩ := VL.insert hx i r ys b2 hr (by simpa using hi)
    have h6 : va.length = 6 := ha.1
    refine ⟨b1 ++ bs', ⟨va, ys.take (i * 6) ++ (vs ++ ys.drop (i * 6)), b1, bs', ?_, rfl, ha, hv⟩, ?_⟩
    · have t1 : (va ++ ys).take ((i + 1) * 6) = va ++ ys.take (i * 6) := by
        rw [List.take_append, List.take_of_length_le (by omega), h6, show (i + 1) * 6 - 6 = i * 6 by omega]
      have t2 : (va ++ ys).drop ((i + 1) * 6) = ys.drop (i * 6) := by
        rw [List.drop_append, List.drop_of_length_le (by omega), h6, show (i + 1) * 6 - 6 = i * 6 by omega, List.nil_append]
      rw [e1, t1, t2, List.append_assoc]
    · rw [e2]
      exact (List.Perm.append_left b1 hp).trans (List.perm_append_comm_assoc _ _ _)
end Go.Proofs.Ytimnnedmpmlmdaa.Tr
namespace Go.Proofs.Ytimnnedmpmlmdaa.Tr
open Go.RowKit Atom
set_option linter.unusedVariables false

/-- All ahead of k are not later, all from k on are later. -/
structure Place (l : List Sd) (a : Int) (k : Nat) : Prop where
  le : k ≤ l.length
  lo : ∀ t, t < k → (h2 : t < l.length) → l[t].kind ≤ a
  hi : ∀ t, k ≤ t → (h2 : t < l.length) → a < l[t].kind
def plc (l : List Sd) (a : Int) : Nat := (l.takeWhile (fun y => decide (y.kind ≤ a))).length
theorem Place.eq : ∀ {l : List Sd} {a : Int} {k : Nat}, Place l a k → k = plc l a
  | [], a, k, h => by have := h.le; simp at this; unfold plc; simpa using this
  | y :: r, a, 0, h => by
    have h0 : a < y.kind := h.hi 0 (Nat.le_refl _) (by simp)
    unfold plc
    rw [List.takeWhile_cons_of_neg (by simpa using h0)]; rfl
  | y :: r, a, k + 1, h => by
    have h0 : y.kind ≤ a := h.lo 0 (by omega) (by simp)
    have ih := Place.eq (l := r) (a := a) (k := k) ⟨by have := h.le; simpa using this, fun t ht h2 => h.lo (t + 1) (by omega) (by simpa using h2), fun t ht h2 => h.hi (t + 1) (by omega) (by simpa using h2)⟩
    unfold plc at ih ⊢
    rw [List.takeWhile_cons_of_pos (by simpa using h0), List.length_cons, ← ih]
def insT (l : List Sd) (x : Sd) : List Sd := putAt l (plc l x.kind) x
theorem insT_length (l : List Sd) (x : Sd) : (insT l x).length = l.length + 1 := by
  have h1 : plc l x.kind ≤ l.length := (List.takeWhile_sublist _).length_le
  unfold insT putAt
  simp; omega
theorem ord_le {l : List Sd} (h : ordB l = true) (i : Nat) : ∀ (d : Nat) (hid : i + d < l.length), (l[i]'(by omega)).kind ≤ l[i + d].kind
  | 0, hid => Int.le_refl _
  | d + 1, hid => by
    have h1 := ord_le h i d (by omega)
    have h2 : (l[i + d]'(by omega)).kind ≤ l[i + (d + 1)].kind := (of_decide_eq_true h) (i + (d + 1)) hid
    exact Int.le_trans h1 h2
theorem gl_cells {w : World} {l : List Sd} {bs : List Nat} {g : Nat} (h : GL eltS w l bs (some ⟨g, 0, none⟩)) : ∃ cs b0, VL eltS w l cs b0 ∧ cs.length = l.length * 6 ∧ (∀ j v, cs[j]? = some v → w.cell? ⟨g, j, none⟩ = some v) ∧ (∀ v ∈ cs, v.oneCell' = true) ∧ (∀ b ∈ b0, b ∈ bs) ∧ (bs.Nodup → b0.Nodup) := by
  rcases h with ⟨rfl, rfl⟩ | ⟨hl, g', o, b, rfl, e2, hf, hr⟩
  · exact ⟨[], [], ⟨rfl, rfl⟩, rfl, (fun j v hj => by simp at hj), (fun v hv => by cases hv), (fun b hb => hb), fun h => h⟩
  · injection e2 with e2
    injection e2 with e3 e4
    subst e3 e4
    obtain ⟨cs, hv, hlen, hc, h1⟩ := gr_cells l b 0 hr
    exact ⟨cs, b, hv, hlen, fun j v hj => by have := hc j v hj; rwa [Nat.zero_add] at this, h1, fun x hx => List.mem_cons_of_mem _ hx, fun hn => (List.nodup_cons.1 hn).2⟩
theorem insert_any (cs vs : List Value) (n i b vb : Nat) (w : World) (hi : i ≤ n) (hn : n ≤ 1048576) (hcl : cs.length = n * 6) (hvl : vs.length = 6)
    (hcs : ∀ j v, cs[j]? = some v → w.cell? ⟨b, j, none⟩ = some v) (hvs : ∀ j v, vs[j]? = some v → w.cell? ⟨vb, j, none⟩ = some v) (h1c : ∀ v ∈ cs, v.oneCell' = true) (h1v : ∀ v ∈ vs, v.oneCell' = true) :
    Calls Try.prog 50 #[.slice (some ⟨b, 0, none⟩) n n, .int .i64 i, .slice (some ⟨vb, 0, none⟩) 1 1] w fun e w' =>
      (∃ c cur, e = .returned (.slice (some ⟨w.heap.size, 0, none⟩) (n + 1) c) ∧ w'.heap[w.heap.size]? = some (.cells cur 32 (0, 0)) ∧ n + 1 ≤ c ∧ c ≤ maxLen ∧ cur.size = c * 6 ∧ cur.toList.take ((n + 1) * 6) = cs.take (i * 6) ++ (vs ++ cs.drop (i * 6))) ∧ Below w.heap.size w w' := by
  rcases Nat.lt_or_ge i n with h | h
  · exact insertGrow_any cs vs n i b vb w h hn hcl hvl hcs hvs h1c h1v
  · obtain rfl : i = n := by omega
    refine (insertEnd_any cs vs i b vb w hn hcl hvl hcs hvs).mono ?_
    rintro e w' ⟨⟨c, cur, h1, h2, h3, h4, h5, h6⟩, hb⟩
    refine ⟨⟨c, cur, h1, h2, h3, h4, h5, ?_⟩, hb⟩
    rw [h6, List.take_of_length_le (by omega), List.drop_of_length_le (by omega), List.append_nil]

set_option maxHeartbeats 2000000 in
set_option maxRecDepth 100000 in
theorem add_any (l : List Sd) (bs bx : List Nat) (g : Nat) (a p k n : Int) (s : ByteArray) (tl : List Tm) (xo : Option Addr) (xcap : Nat) (w : World)
    (hg : GL eltS w l bs (some ⟨g, 0, none⟩)) (hx : OsV w bx (.mk k n s tl) (.agg #[.int .i64 k, .int .i64 n, .string s, .slice xo tl.length xcap])) (hnd : (bx ++ bs).Nodup) (ho : ordB l = true) (hl : l.length ≤ 1048576) :
    Calls Try.prog 27 #[.slice (some ⟨g, 0, none⟩) l.length l.length, sdV a p k n s xo tl.length xcap] w fun e w' => (∃ ao c b', e = .returned (.slice ao (insT l ⟨a, p, .mk k n s tl⟩).length c) ∧ GL eltS w' (insT l ⟨a, p, .mk k n s tl⟩) b' ao ∧ b'.Nodup ∧ ∀ b ∈ b', b ∈ bs ∨ b ∈ bx ∨ w.heap.size ≤ b) ∧ Below w.heap.size w w' := by
  obtain ⟨wa, hwa⟩ : ∃ wa, wa = (w.alloc (.cells #[.slice (some ⟨g, 0, none⟩) l.length l.length] 44)).alloc (.cells #[.int .i64 a, .int .i64 p, .int .i64 k, .int .i64 n, .string s, .slice xo tl.length xcap] 32) := ⟨_, rfl⟩
  have hz1 : (w.alloc (.cells #[.slice (some ⟨g, 0, none⟩) l.length l.length] 44)).heap.size = w.heap.size + 1 := World.size_alloc _ _
  have hb1 : Below w.heap.size w (w.alloc (.cells #[.slice (some ⟨g, 0, none⟩) l.length l.length] 44)) := (Below.refl _ _).alloc (Nat.le_refl _) _
  have hba : Below w.heap.size w wa := by rw [hwa]; exact hb1.alloc (by omega) _
  have cq : wa.cell? ⟨w.heap.size, 0, none⟩ = some (.slice (some ⟨g, 0, none⟩) l.length l.length) := by
    rw [hwa]; refine keepOt ((Below.refl _ _).alloc (Nat.le_refl _) _) ?_; rw [World.cell?_alloc_new]; rfl
  have cx : ∀ j v, #[Value.int .i64 a, .int .i64 p, .int .i64 k, .int .i64 n, .string s, .slice xo tl.length xcap][j]? = some v → wa.cell? ⟨w.heap.size + 1, j, none⟩ = some v := fun j v hj => by
    rw [hwa, ← hz1, World.cell?_alloc_new]; exact hj
  have HBA : Hid (Below w.heap.size w wa) := hba
  have HQX : Hid (∀ wc, Below wa.heap.size wa wc → wc.cell? ⟨w.heap.size, 0, none⟩ = some (.slice (some ⟨g, 0, none⟩) l.length l.length) ∧ wc.cell? ⟨w.heap.size + 1, 0, none⟩ = some (.int .i64 a) ∧ wc.cell? ⟨w.heap.size + 1, 1, none⟩ = some (.int .i64 p) ∧ wc.cell? ⟨w.heap.size + 1, 2, none⟩ = some (.int .i64 k) ∧ wc.cell? ⟨w.heap.size + 1, 3, none⟩ = some (.int .i64 n) ∧ wc.cell? ⟨w.heap.size + 1, 4, none⟩ = some (.string s) ∧ wc.cell? ⟨w.heap.size + 1, 5, none⟩ = some (.slice xo tl.length xcap)) := fun wc hb =>
    ⟨keepOt hb cq, keepOt hb (cx 0 _ rfl), keepOt hb (cx 1 _ rfl), keepOt hb (cx 2 _ rfl), keepOt hb (cx 3 _ rfl), keepOt hb (cx 4 _ rfl), keepOt hb (cx 5 _ rfl)⟩
  have HSE : Hid (Calls Try.prog 48 #[.int .i64 l.length, .func (.func 49) #[] #[.pointer (some ⟨w.heap.size, 0, none⟩), .pointer (some ⟨w.heap.size + 1, 0, none⟩)]] wa fun e w' => (∃ k0 : Nat, e = .returned (.int .i64 k0) ∧ Place l a k0) ∧ Below wa.heap.size wa w') := by
    have h0 := search_any l.length hl (.pointer (some ⟨w.heap.size, 0, none⟩)) (.pointer (some ⟨w.heap.size + 1, 0, none⟩)) (fun i => if h : i < l.length then decide (a < l[i].kind) else false) wa (fun wc i hb hi => by
      obtain ⟨d0, d1, d2, d3, d4, d5, d6⟩ := HQX.out wc hb
      rw [dif_pos hi]
      exact later1_any l _ _ i hi hl a p k n s xo tl.length xcap _ _ wc (GL.rowS ((hg.below hba).below hb)) d0 d1 d2 d3 d4 d5 d6) (fun i j hij hj h => by
      rw [dif_pos (by omega)] at h
      rw [dif_pos hj]
      have h1 := of_decide_eq_true h
      have h2 := ord_le ho i (j - i) (by omega)
      simp only [show i + (j - i) = j by omega] at h2
      exact decide_eq_true (by omega))
    refine h0.mono ?_
    rintro e w' ⟨⟨k0, rfl, q1, q2, q3⟩, hb⟩
    refine ⟨⟨k0, rfl, q1, fun t ht h2 => ?_, fun t ht h2 => ?_⟩, hb⟩
    · have := q2 t ht; rw [dif_pos h2] at this; have := of_decide_eq_false this; omega
    · have := q3 t ht h2; rw [dif_pos h2] at this; exact of_decide_eq_true this
  have HGX : Hid (GL eltS w l bs (some ⟨g, 0, none⟩) ∧ OsV w bx (.mk k n s tl) (.agg #[.int .i64 k, .int .i64 n, .string s, .slice xo tl.length xcap]) ∧ (bx ++ bs).Nodup ∧ l.length ≤ 1048576) := ⟨hg, hx, hnd, hl⟩
  clear hg hx hnd ho hl hb1 hz1 cq cx hba
  go_enter Try.func27, Try.ntmps27
  go_wp2_with (go_at_call 48; fail)
  rw [← hwa]
  clear hwa
  refine HSE.out.mono ?_
  rintro e w1 ⟨⟨k0, rfl, hk0⟩, hb1⟩
  obtain ⟨d0, d1, d2, d3, d4, d5, d6⟩ := HQX.out w1 hb1
  have HB1 : Hid (Below w.heap.size w w1 ∧ Place l a k0) := ⟨HBA.out.trans (hb1.mono HBA.out.size), hk0⟩
  clear hb1 hk0 HQX HSE
  go_wp2_with (go_at_call 50; fail)
  obtain ⟨w2, hw2⟩ : ∃ w2, w2 = w1.alloc (.cells #[.int .i64 a, .int .i64 p, .int .i64 k, .int .i64 n, .string s, .slice xo tl.length xcap] 32) := ⟨_, rfl⟩
  rw [← hw2]
  obtain ⟨hb0, hpl⟩ := HB1.out
  obtain ⟨hg, hx, hnd, hl⟩ := HGX.out
  have hb2 : Below w.heap.size w w2 := by rw [hw2]; exact hb0.alloc hb0.size _
  obtain ⟨cs, b0, hvl, hcl, hcs, h1c, hin, hnb⟩ := gl_cells (hg.below hb2)
  have hvs : ∀ j v, [Value.int .i64 a, .int .i64 p, .int .i64 k, .int .i64 n, .string s, .slice xo tl.length xcap][j]? = some v → w2.cell? ⟨w1.heap.size, j, none⟩ = some v := fun j v hj => by
    rw [hw2, World.cell?_alloc_new]; simpa using hj
  refine (insert_any cs [.int .i64 a, .int .i64 p, .int .i64 k, .int .i64 n, .string s, .slice xo tl.length xcap] l.length k0 g w1.heap.size w2 hpl.le hl hcl rfl hcs hvs h1c (sixOne)).mono ?_
  rintro e w3 ⟨⟨c, cur, rfl, hcur, hc1, hc2, hc3, hct⟩, hb3⟩
  have hpl' := hpl.eq
  subst hpl'
  have hxV : VE eltS w2 ⟨a, p, .mk k n s tl⟩ [.int .i64 a, .int .i64 p, .int .i64 k, .int .i64 n, .string s, .slice xo tl.length xcap] bx := ve_timer (x := ⟨a, p, .mk k n s tl⟩) (osV_keep hx (fun b hb h => hb2.block b h))
  obtain ⟨b', hvl', hperm⟩ := VL.insert hxV (plc l a) l cs b0 hvl hpl.le
  have HLN : Hid ((insT l ⟨a, p, .mk k n s tl⟩).length = l.length + 1) := insT_length l _
  have HF : Hid (GL eltS w3 (insT l ⟨a, p, .mk k n s tl⟩) (w2.heap.size :: b') (some ⟨w2.heap.size, 0, none⟩) ∧ (w2.heap.size :: b').Nodup ∧ (∀ b ∈ w2.heap.size :: b', b ∈ bs ∨ b ∈ bx ∨ w.heap.size ≤ b) ∧ Below w.heap.size w w3) := by
    obtain ⟨n1, n2, n3⟩ := List.nodup_append.1 hnd
    have hlt : ∀ b ∈ b', b < w2.heap.size := VL.lt hvl'
    refine ⟨.inr ⟨?_, _, 0, b', rfl, rfl, fun x => by simp [World.frozen?, hcur], VL.row 0 (VL.keep hb3.size hvl' (fun x hx => hb3.block x (hlt x hx))) (fun j v hj => ?_)⟩, ?_, fun b hb => ?_, hb2.trans (hb3.mono hb2.size)⟩
    · intro h0; rw [h0] at HLN; have := HLN.out; simp at this
    · rw [← hct, List.getElem?_take] at hj
      rw [Nat.zero_add]
      split at hj
      · simpa [World.cell?, hcur] using hj
      · cases hj
    · refine List.nodup_cons.2 ⟨fun h => by have := hlt _ h; omega, ?_⟩
      refine hperm.nodup_iff.2 (List.nodup_append.2 ⟨n1, hnb n2, fun x hx y hy => n3 x hx y (hin y hy)⟩)
    · rcases List.mem_cons.1 hb with rfl | hb
      · exact .inr (.inr hb2.size)
      · rcases List.mem_append.1 (hperm.mem_iff.1 hb) with q | q
        · exact .inr (.inl q)
        · exact .inl (hin b q)
  clear hw2 hg hx hnd hl hpl hb0 hb2 hvl hcl hcs h1c hin hnb hvs hxV hvl' hperm hcur hc1 hc2 hc3 hct hb3 d0 d1 d2 d3 d4 d5 d6
  go_wp2_with fail
  go_ret
  exact ⟨⟨some ⟨w2.heap.size, 0, none⟩, c, w2.heap.size :: b', by rw [HLN.out]; rfl, HF.out.1, HF.out.2.1, HF.out.2.2.1⟩, HF.out.2.2.2⟩
end Go.Proofs.Ytimnnedmpmlmdaa.Tr
