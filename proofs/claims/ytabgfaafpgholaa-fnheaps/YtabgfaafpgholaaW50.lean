/-
  The program's comparison of two terms: its stack and its map, round by round.
  (Ahead of it, in this text: A region that draws its order and whose callees make new blocks and write nothing that was there: one walk in the order of the text. The program's comparison of two terms: what its stack of pairs of lists holds.)
-/
import Derived.Test.YtabgfaafpgholaaW4
import Derived.Deep.Quiet
import Derived.BigQuiet
import Derived.Test.YtabgfaafpgholaaW49
import Derived.Laws.OwnMore
import Derived.Maps.AppendAt
import Derived.WalkSmall
namespace Go.Proofs.Ytabgfaafpgholaa
open Go.RowKit
set_option linter.unusedVariables false

theorem below_join {a b c : World} (h : Below a.heap.size a b) (k : Below b.heap.size b c) : Below a.heap.size a c := h.trans (k.mono h.size)
/-- A world in which all stands that stood in W. -/
structure Inn (W : World) where
  val : World
  bel : Below W.heap.size W val

theorem inn_ne (W : World) : Nonempty (Inn W) := ⟨⟨W, Below.refl _ _⟩⟩
theorem Inn.keep {W : World} {b o : Nat} {v : Value} (h : W.cell? ⟨b, o, none⟩ = some v) (x : Inn W) : x.val.cell? ⟨b, o, none⟩ = some v :=
  (x.bel.cell (p := ⟨b, o, none⟩) (World.block_lt_of_cell? W _ h)).trans h

theorem calls_inn {P : Program} {f : FuncId} {args : Array Value} {W : World} {x : Inn W} {v : Value}
    (h : Calls P f args x.val fun e w' => e = .returned v ∧ Below x.val.heap.size x.val w') : Calls P f args x.val fun e w'' => e = .returned v ∧ ∃ y : Inn W, w'' = y.val :=
  h.mono fun _ w' ⟨he, hb⟩ => ⟨he, ⟨w', below_join x.bel hb⟩, rfl⟩
theorem calls_inn_same {P : Program} {f : FuncId} {args : Array Value} {W : World} {x : Inn W} {v : Value}
    (h : Calls P f args x.val fun e w' => e = .returned v ∧ w' = x.val) : Calls P f args x.val fun e w'' => e = .returned v ∧ ∃ y : Inn W, w'' = y.val :=
  h.mono fun _ w' ⟨he, hb⟩ => ⟨he, x, hb⟩

theorem wp_region_inn {P : Program} {id : Nat} {Q : Exit → Act → World → Prop} {a : Act} {w : World} {l : List Oper} (hm : P.follows .mixedOrders = true) (hB : Region.lexB .any l.toArray = true)
    (h : wpQuiet P l.toArray (fun w' => ∃ x : Inn w, w' = x.val) (fun a' => ∀ w', (∃ x : Inn w, w' = x.val) → Q .normal a' w') l a) : (Code.region id l.toArray true).wp P Q a w :=
  wp_region_quiet (C := fun w' => ∃ x : Inn w, w' = x.val) hm hB ⟨⟨_, (Below.refl w.heap.size w).drew⟩, rfl⟩ (by simpa using h)
end Go.Proofs.Ytabgfaafpgholaa
namespace Go.Proofs.Ytabgfaafpgholaa
open Go.RowKit
set_option linter.unusedVariables false

/-- Where a list begins, if it has something. -/
def nmL (l : List Tm) : Option Addr → Nm
  | some ⟨b, o, _⟩ => if l = [] then (none, 0) else (some (b, o), l.length)
  | none => (none, 0)
theorem nmL_nil (ao : Option Addr) : nmL [] ao = (none, 0) := by
  rcases ao with _ | ⟨b, o, s⟩
  · rfl
  · show (if ([] : List Tm) = [] then ((none, 0) : Nm) else (some (b, o), ((0 : Nat) : Int))) = _
    rw [if_pos rfl]
theorem nmL_cons {l : List Tm} (h : l ≠ []) (b o : Nat) : nmL l (some ⟨b, o, none⟩) = ((some (b, o), (l.length : Int)) : Nm) := by
  show (if l = [] then ((none, 0) : Nm) else _) = _
  rw [if_neg h]
theorem nmL_one {w : World} {l l' : List Tm} {ao ao' : Option Addr} (h : RepL 0 w l ao) (h' : RepL 0 w l' ao') (e : nmL l ao = nmL l' ao') : l = l' := by
  rcases l with _ | ⟨x, r⟩
  · rcases l' with _ | ⟨y, s⟩
    · rfl
    · rw [RepL] at h'
      obtain ⟨b, o, rfl, _, _, _⟩ := h'
      rw [nmL_nil, nmL_cons (by simp)] at e
      cases e
  · have h0 := h
    rw [RepL] at h
    obtain ⟨b, o, rfl, _, _, _⟩ := h
    rcases l' with _ | ⟨y, s⟩
    · rw [nmL_nil, nmL_cons (by simp)] at e
      cases e
    · have h0' := h'
      rw [RepL] at h'
      obtain ⟨b', o', rfl, _, _, _⟩ := h'
      rw [nmL_cons (by simp), nmL_cons (by simp)] at e
      simp only [Prod.mk.injEq, Option.some.injEq] at e
      obtain ⟨⟨rfl, rfl⟩, e2⟩ := e
      exact repL_one _ _ _ (by omega) h0 h0'
/-- Its block can be told from others. -/
def PlA (w : World) (l : List Tm) (ao : Option Addr) : Prop := PlainP w (nmL l ao).1
mutual
/-- Wherever two within are held against each other their blocks can be told from others. -/
def HpT (w : World) : Tm → Option Addr → Tm → Option Addr → Prop
  | .mk k _ _ l, ao, .mk k' _ _ l', ao' => (k = 4 ∨ k = 5) → k = k' → HpL w l ao l' ao' ∧ PlA w l ao ∧ PlA w l' ao'
def HpL (w : World) : List Tm → Option Addr → List Tm → Option Addr → Prop
  | t :: r, ao, t' :: r', ao' => ∀ b o b' o', ao = some ⟨b, o, none⟩ → ao' = some ⟨b', o', none⟩ →
      (∀ ax n c ay n' c', w.cell? ⟨b, o + 3, none⟩ = some (.slice ax n c) → w.cell? ⟨b', o' + 3, none⟩ = some (.slice ay n' c') → HpT w t ax t' ay) ∧ HpL w r (some ⟨b, o + 4, none⟩) r' (some ⟨b', o' + 4, none⟩)
  | [], _, _, _ => True
  | _ :: _, _, [], _ => True
end
/-- One list of a pair: its slice, and what it holds in the world W. -/
structure Sl (W : World) (v : Value) (l : List Tm) (ao : Option Addr) : Prop where
  e : ∃ cap, v = .slice ao l.length cap ∧ l.length ≤ cap ∧ cap ≤ maxLen
  r : RepL 0 W l ao
/-- The stack, its bottom first: the cells of its row. -/
def Stk (W : World) : List (List Tm × List Tm) → List Value → Prop
  | [], xs => xs = []
  | (l, l') :: ps, xs => ∃ v v' ao ao' ys, xs = v :: v' :: ys ∧ Sl W v l ao ∧ Sl W v' l' ao' ∧ HpL W l ao l' ao' ∧ Stk W ps ys
theorem Stk.len {W : World} : ∀ {ps : List (List Tm × List Tm)} {xs : List Value}, Stk W ps xs → xs.length = ps.length * 2
  | [], xs, h => by rw [Stk] at h; subst h; rfl
  | (l, l') :: ps, xs, h => by
    rw [Stk] at h
    obtain ⟨v, v', ao, ao', ys, rfl, _, _, _, h5⟩ := h
    have := h5.len
    simp only [List.length_cons]; omega
theorem Stk.split {W : World} {p : List Tm × List Tm} : ∀ {ps : List (List Tm × List Tm)} {xs : List Value}, Stk W (ps ++ [p]) xs → ∃ ys v v' ao ao', xs = ys ++ [v, v'] ∧ Stk W ps ys ∧ Sl W v p.1 ao ∧ Sl W v' p.2 ao' ∧ HpL W p.1 ao p.2 ao'
  | [], xs, h => by
    rw [List.nil_append, Stk] at h
    obtain ⟨v, v', ao, ao', ys, rfl, h1, h2, h3, h5⟩ := h
    rw [Stk] at h5
    subst h5
    exact ⟨[], v, v', ao, ao', rfl, by rw [Stk], h1, h2, h3⟩
  | (l, l') :: ps, xs, h => by
    rw [List.cons_append, Stk] at h
    obtain ⟨v, v', ao, ao', ys, rfl, h1, h2, h3, h5⟩ := h
    obtain ⟨zs, u, u', bo, bo', rfl, k1, k2, k3, k4⟩ := h5.split
    exact ⟨v :: v' :: zs, u, u', bo, bo', rfl, by rw [Stk]; exact ⟨v, v', ao, ao', zs, rfl, h1, h2, h3, k1⟩, k2, k3, k4⟩
theorem Stk.snoc {W : World} {l l' : List Tm} {v v' : Value} {bo bo' : Option Addr} (hv : Sl W v l bo) (hv' : Sl W v' l' bo') (hp : HpL W l bo l' bo') : ∀ {ps : List (List Tm × List Tm)} {xs : List Value}, Stk W ps xs → Stk W (ps ++ [(l, l')]) (xs ++ [v, v'])
  | [], xs, h => by
    rw [Stk] at h
    subst h
    rw [List.nil_append, Stk]
    exact ⟨v, v', bo, bo', [], rfl, hv, hv', hp, by rw [Stk]⟩
  | (a, a') :: ps, xs, h => by
    rw [Stk] at h
    obtain ⟨u, u', ao, ao', ys, rfl, h1, h2, h3, h5⟩ := h
    rw [List.cons_append, Stk]
    exact ⟨u, u', ao, ao', ys ++ [v, v'], rfl, h1, h2, h3, Stk.snoc hv hv' hp h5⟩
/-- What the map knows: pairs of lists by their names. -/
def Kn (W : World) (st : List (List Tm × List Tm)) (x y : Nm) : Prop := ∃ l l' ao ao', x = nmL l ao ∧ y = nmL l' ao' ∧ RepL 0 W l ao ∧ RepL 0 W l' ao' ∧ Mok st l l'
theorem Kn.mono {W : World} {st st' : List (List Tm × List Tm)} (h : ∀ l l', Mok st l l' → Mok st' l l') {x y : Nm} (hk : Kn W st x y) : Kn W st' x y := by
  obtain ⟨l, l', ao, ao', h1, h2, h3, h4, h5⟩ := hk
  exact ⟨l, l', ao, ao', h1, h2, h3, h4, h _ _ h5⟩
theorem Kn.hit {W : World} {st : List (List Tm × List Tm)} {l l' : List Tm} {ao ao' : Option Addr} (h : Kn W st (nmL l ao) (nmL l' ao')) (hr : RepL 0 W l ao) (hr' : RepL 0 W l' ao') : Mok st l l' := by
  obtain ⟨m, m', bo, bo', h1, h2, h3, h4, h5⟩ := h
  rw [nmL_one hr h3 h1, nmL_one hr' h4 h2]
  exact h5
theorem infoSides : (Try.prog.info? 117).map (fun i => (i.zero, i.size, i.bytes)) = some (some (.agg #[.slice none 0 0, .slice none 0 0]), 2, 48) := by kernel_rfl
theorem undSides : Try.prog.underlying 118 = some (.slice 117) := by kernel_rfl
theorem nameOf_nil (ao : Option Addr) (cap : Nat) (w : World) : Calls Try.prog 86 #[.slice ao 0 cap] w fun e w' => e = .returned (.agg #[.pointer none, .int .i64 0]) ∧ Below w.heap.size w w' := by
  go_enter Try.func86, Try.ntmps86
  go_wp2
  refine bodyPost_ret (v := .agg #[.pointer none, .int .i64 0]) (by simp [results, Try.results86, go_sem]) rfl ⟨rfl, ?_⟩
  exact (Below.refl _ _).alloc (Nat.le_refl _) _
theorem nameOf_some (b o n cap : Nat) (w : World) (hn : n ≠ 0) :
    Calls Try.prog 86 #[.slice (some ⟨b, o, none⟩) n cap] w fun e w' => e = .returned (.agg #[.pointer (some ⟨b, o, none⟩), .int .i64 n]) ∧ Below w.heap.size w w' := by
  have q : ((n : Int) == 0) = false := by simp; omega
  have hpos : 0 < n := by omega
  clear hn
  go_enter Try.func86, Try.ntmps86
  go_wp2
  refine bodyPost_ret (v := .agg #[.pointer (some ⟨b, o, none⟩), .int .i64 n]) (by simp [results, Try.results86, go_sem]) rfl ⟨rfl, ?_⟩
  exact (Below.refl _ _).alloc (Nat.le_refl _) _
theorem nameOf_all {W : World} {l : List Tm} {ao : Option Addr} (h : RepL 0 W l ao) (cap : Nat) (w : World) : Calls Try.prog 86 #[.slice ao l.length cap] w fun e w' => e = .returned (.agg #[npV (nmL l ao).1, .int .i64 (nmL l ao).2]) ∧ Below w.heap.size w w' := by
  rcases l with _ | ⟨t, r⟩
  · rw [nmL_nil]
    exact nameOf_nil ao cap w
  · rw [RepL] at h
    obtain ⟨b, o, rfl, _⟩ := h
    rw [nmL_cons (by simp)]
    exact nameOf_some b o _ cap w (by simp)
end Go.Proofs.Ytabgfaafpgholaa
namespace Go.Proofs.Ytabgfaafpgholaa
open Go.RowKit
set_option linter.unusedVariables false

def msr : List (List Tm × List Tm) → Nat
  | [] => 0
  | p :: r => 2 * cntL p.1 + 1 + msr r
theorem msr_snoc (p : List Tm × List Tm) : ∀ ps, msr (ps ++ [p]) = msr ps + (2 * cntL p.1 + 1)
  | [] => by simp [msr]
  | q :: r => by rw [List.cons_append, msr, msr, msr_snoc p r]; omega
theorem own_keepR {w w' : World} {base : Nat} {T : TypeId} {size n : Nat} {v : Value} {xs : List Value} (h : w.ownsRow base T size v n xs) (hk : ∀ g, v.ownBlock = some g → w'.heap[g]? = w.heap[g]?) : w'.ownsRow base T size v n xs := by
  obtain ⟨h1, h2⟩ := h
  refine ⟨h1, ?_⟩
  rcases h2 with h2 | ⟨g, c, cur, rfl, q1, q2, q3, q4, q5, q6⟩
  · exact .inl h2
  · exact .inr ⟨g, c, cur, rfl, q1, (hk g rfl).trans q2, q3, q4, q5, q6⟩
/-- Stack and map in the world wr; what is compared stands in W. -/
structure TO (W wr : World) (mb : Nat) (u : Value) (ps : List (List Tm × List Tm)) (xs : List Value) (st : List (List Tm × List Tm)) : Prop where
  bel : Below W.heap.size W wr
  row : wr.ownsRow W.heap.size 117 2 u ps.length xs
  stk : Stk W ps xs
  map : PrMap wr mb (Kn W st)
  mlo : W.heap.size ≤ mb
theorem TO.ne {W wr : World} {mb : Nat} {u : Value} {ps st : List (List Tm × List Tm)} {xs : List Value} (h : TO W wr mb u ps xs st) {g : Nat} (hg : u.ownBlock = some g) : g ≠ mb ∧ W.heap.size ≤ g ∧ g < wr.heap.size := by
  obtain ⟨es, clk, hm, _⟩ := h.map
  rcases h.row.2 with ⟨e, _⟩ | ⟨g', c, cur, rfl, q1, q2, _⟩
  · rw [e] at hg; cases hg
  · have hgg : g' = g := by
      have : some g' = some g := hg
      injection this
    subst hgg
    refine ⟨fun e => ?_, q1, ?_⟩
    · rw [e, hm] at q2; cases q2
    · rcases Nat.lt_or_ge g' wr.heap.size with h9 | h9
      · exact h9
      · rw [Array.getElem?_eq_none h9] at q2; cases q2
theorem TO.mlt {W wr : World} {mb : Nat} {u : Value} {ps st : List (List Tm × List Tm)} {xs : List Value} (h : TO W wr mb u ps xs st) : mb < wr.heap.size := by
  obtain ⟨es, clk, hm, _⟩ := h.map
  rcases Nat.lt_or_ge mb wr.heap.size with h9 | h9
  · exact h9
  · rw [Array.getElem?_eq_none h9] at hm; cases hm
theorem nm_lt {W : World} {l : List Tm} {ao : Option Addr} (h : RepL 0 W l ao) {b o : Nat} (e : (nmL l ao).1 = some (b, o)) : b < W.heap.size := by
  rcases l with _ | ⟨t, r⟩
  · rw [nmL_nil] at e; cases e
  · rw [RepL] at h
    obtain ⟨b', o', rfl, _, h2, _⟩ := h
    rw [nmL_cons (by simp)] at e
    simp only [Option.some.injEq, Prod.mk.injEq] at e
    obtain ⟨rfl, rfl⟩ := e
    obtain ⟨k, n, s, l'⟩ := t
    rw [RepT] at h2
    exact World.block_lt_of_cell? W _ h2.1
theorem plainP_keep {w w' : World} : ∀ {p : Option (Nat × Nat)}, PlainP w p → (∀ b o, p = some (b, o) → w'.heap[b]? = w.heap[b]?) → PlainP w' p
  | none, _, _ => trivial
  | some (b, o), ⟨⟨c, t, f, h1⟩, h2⟩, hk => ⟨⟨c, t, f, by rw [hk b o rfl]; exact h1⟩, fun y => by rw [World.frozen?_of_block (w := w) (hk b o rfl)]; exact h2 y⟩
theorem Kn.keep {W w w' : World} {st : List (List Tm × List Tm)} (hb : ∀ b, b < W.heap.size → w'.heap[b]? = w.heap[b]?) (x y : Nm) (hk : Kn W st x y) (hx : PlainP w x.1) (hy : PlainP w y.1) : PlainP w' x.1 ∧ PlainP w' y.1 := by
  obtain ⟨l, l', ao, ao', rfl, rfl, h3, h4, h5⟩ := hk
  exact ⟨plainP_keep hx (fun b o e => hb b (nm_lt h3 e)), plainP_keep hy (fun b o e => hb b (nm_lt h4 e))⟩
theorem TO.call {W wr w1 : World} {mb : Nat} {u : Value} {ps st : List (List Tm × List Tm)} {xs : List Value} (h : TO W wr mb u ps xs st) (hb : Below wr.heap.size wr w1) : TO W w1 mb u ps xs st :=
  ⟨h.bel.trans (hb.mono h.bel.size), own_keepR h.row (fun g hg => hb.block g (h.ne hg).2.2), h.stk, h.map.keep (hb.block mb h.mlt) (Kn.keep fun b hl => hb.block b (Nat.lt_of_lt_of_le hl h.bel.size)), h.mlo⟩
/-- The top of the stack. -/
theorem TO.top {W wr : World} {mb : Nat} {u : Value} {qs st : List (List Tm × List Tm)} {l l' : List Tm} {xs : List Value} (h : TO W wr mb u (qs ++ [(l, l')]) xs st) :
    ∃ g c ys ao ao' ca ca', u = .slice (some ⟨g, 0, none⟩) (qs.length + 1) c ∧ xs = ys ++ [.slice ao l.length ca, .slice ao' l'.length ca'] ∧ ys.length = qs.length * 2 ∧ Stk W qs ys ∧ RepL 0 W l ao ∧ RepL 0 W l' ao' ∧ HpL W l ao l' ao' ∧ l.length ≤ ca ∧ ca ≤ maxLen ∧ l'.length ≤ ca' ∧ ca' ≤ maxLen ∧ qs.length + 1 ≤ c ∧ c ≤ maxLen ∧
      wr.cell? ⟨g, qs.length * 2, none⟩ = some (.slice ao l.length ca) ∧ wr.cell? ⟨g, qs.length * 2 + 1, none⟩ = some (.slice ao' l'.length ca') ∧ ∀ o, wr.frozen? ⟨g, o, none⟩ = false := by
  obtain ⟨ys, v, v', ao, ao', rfl, h1, h2, h3, h4⟩ := h.stk.split
  obtain ⟨ca, rfl, k1, k2⟩ := h2.e
  obtain ⟨ca', rfl, k3, k4⟩ := h3.e
  have hyl := h1.len
  have hr := h.row
  rw [List.length_append] at hr
  rcases hr.2 with ⟨_, e⟩ | ⟨g, c, cur, rfl, q1, q2, q3, q4, q5, q6⟩
  · simp at e
  · have hcell : ∀ j v, (ys ++ [Value.slice ao l.length ca, .slice ao' l'.length ca'])[j]? = some v → wr.cell? ⟨g, j, none⟩ = some v := fun j v hj => by
      rw [← q6, List.getElem?_take] at hj
      split at hj
      · simpa [World.cell?, q2] using hj
      · cases hj
    refine ⟨g, c, ys, ao, ao', ca, ca', by simp, rfl, hyl, h1, h2.r, h3.r, h4, k1, k2, k3, k4, by simpa using q3, q4, hcell _ _ ?_, hcell _ _ ?_, fun o => by simp [World.frozen?, q2]⟩
    · rw [List.getElem?_append_right (by omega), hyl, Nat.sub_self]; rfl
    · rw [List.getElem?_append_right (by omega), hyl, show qs.length * 2 + 1 - qs.length * 2 = 1 by omega]; rfl
theorem TO.pop {W wr : World} {mb g c : Nat} {qs : List (List Tm × List Tm)} {xs : List Value} (h : TO W wr mb (.slice (some ⟨g, 0, none⟩) (qs.length + 1) c) (qs ++ [([], [])]) xs (([], []) :: qs.reverse)) : ∃ ys, TO W wr mb (.slice (some ⟨g, 0, none⟩) qs.length c) qs ys qs.reverse := by
  obtain ⟨g', c', ys, ao, ao', ca, ca', e1, e2, e3, e4, _⟩ := h.top
  cases e1
  have hr := h.row
  rw [List.length_append, e2] at hr
  refine ⟨ys, h.bel, ownsRow_pop e3 hr, e4, ?_, h.mlo⟩
  exact h.map.mono (fun x y hk => Kn.mono (fun l l' hm => hm.pop) hk)
/-- The rest of a list, as a slice behind its first. -/
def ofs (o c : Nat) : Nat := if c = 1 then o else o + 4
theorem sl_tail {W : World} {t : Tm} {r : List Tm} {b o c : Nat} (h : RepL 0 W (t :: r) (some ⟨b, o, none⟩)) (hl : (t :: r).length ≤ c) (hc : c ≤ maxLen) : Sl W (.slice (some ⟨b, ofs o c, none⟩) r.length (c - 1)) r (some ⟨b, ofs o c, none⟩) := by
  rw [List.length_cons] at hl
  refine ⟨⟨c - 1, rfl, by omega, by omega⟩, ?_⟩
  rw [RepL] at h
  obtain ⟨b', o', e, _, _, h2⟩ := h
  cases e
  unfold ofs
  by_cases hc1 : c = 1
  · have : r = [] := by
      cases r with
      | nil => rfl
      | cons a b => simp at hl; omega
    subst this
    rw [RepL]; trivial
  · rw [if_neg hc1]; exact h2
theorem hp_tail {W : World} {t t' : Tm} {r r' : List Tm} {b o c b' o' c' : Nat} (h : HpL W (t :: r) (some ⟨b, o, none⟩) (t' :: r') (some ⟨b', o', none⟩)) (hl : (t :: r).length ≤ c) (hl' : (t' :: r').length ≤ c') : HpL W r (some ⟨b, ofs o c, none⟩) r' (some ⟨b', ofs o' c', none⟩) := by
  rw [HpL] at h
  have h2 := (h b o b' o' rfl rfl).2
  cases r with
  | nil => rw [HpL]; trivial
  | cons a r =>
    cases r' with
    | nil => rw [HpL]; trivial
    | cons a' r' =>
      simp only [List.length_cons] at hl hl'
      unfold ofs
      rw [if_neg (by omega), if_neg (by omega)]
      exact h2
theorem TO.set {W wr : World} {mb g c : Nat} {qs st : List (List Tm × List Tm)} {l l' r r' : List Tm} {ys : List Value} {v v' u u' : Value} {ao ao' : Option Addr}
    (h : TO W wr mb (.slice (some ⟨g, 0, none⟩) (qs.length + 1) c) (qs ++ [(l, l')]) (ys ++ [v, v']) st) (hy : Stk W qs ys) (hu : Sl W u r ao) (hu' : Sl W u' r' ao') (hp : HpL W r ao r' ao') :
    TO W ((wr.setCell ⟨g, qs.length * 2, none⟩ u).setCell ⟨g, qs.length * 2 + 1, none⟩ u') mb (.slice (some ⟨g, 0, none⟩) (qs.length + 1) c) (qs ++ [(r, r')]) (ys ++ [u, u']) st := by
  have hr := h.row
  have hyl := hy.len
  have hn := h.ne (g := g) rfl
  rw [List.length_append, List.length_singleton] at hr
  obtain ⟨r1, g1⟩ := hr.stored (qs.length * 2) u
  obtain ⟨r2, g2⟩ := r1.stored (qs.length * 2 + 1) u'
  have hx : ((ys ++ [v, v']).set (qs.length * 2) u).set (qs.length * 2 + 1) u' = ys ++ [u, u'] := by
    rw [List.set_append_right _ _ (by omega), hyl, Nat.sub_self, List.set_append_right _ _ (by omega), hyl, show qs.length * 2 + 1 - qs.length * 2 = 1 by omega]
    rfl
  rw [hx] at r2
  have hk : ∀ b, b < wr.heap.size → b ≠ g → ((wr.setCell ⟨g, qs.length * 2, none⟩ u).setCell ⟨g, qs.length * 2 + 1, none⟩ u').heap[b]? = wr.heap[b]? := fun b hb hg => by
    have hs : (wr.setCell ⟨g, qs.length * 2, none⟩ u).heap.size = wr.heap.size := World.size_setCell _ _ _
    exact (g2.block b (by omega) (by simpa using hg)).trans (g1.block b hb (by simpa using hg))
  refine ⟨(h.bel.setCell hn.2.1 _).setCell hn.2.1 _, by rw [List.length_append, List.length_singleton]; exact r2, Stk.snoc hu hu' hp hy, h.map.keep (hk mb h.mlt (fun e => hn.1 e.symm)) (Kn.keep fun b hl => hk b (Nat.lt_of_lt_of_le hl h.bel.size) (by omega)), h.mlo⟩
theorem TO.upd {W wr w' : World} {mb : Nat} {u : Value} {ps st st' : List (List Tm × List Tm)} {xs : List Value} (h : TO W wr mb u ps xs st) (ht : Turn mb wr w') (hm : PrMap w' mb (Kn W st')) : TO W w' mb u ps xs st' :=
  ⟨Turn.below h.bel h.bel.size ht h.mlo, own_keepR h.row (fun g hg => ht.block g (h.ne hg).2.2 (h.ne hg).1), h.stk, hm, h.mlo⟩
theorem TO.more {W w5 w8 : World} {mb : Nat} {u v' : Value} {ps st : List (List Tm × List Tm)} {xs : List Value} {l l' : List Tm} {v1 v2 : Value} {ao ao' : Option Addr} (h : TO W w5 mb u ps xs st) (hv : Sl W v1 l ao) (hv' : Sl W v2 l' ao') (hp : HpL W l ao l' ao')
    (hown : w8.ownsRow W.heap.size 117 2 v' (ps.length + 1) (xs ++ [v1, v2])) (hgr : w5.grownBy w8 u.ownBlock) : TO W w8 mb v' (ps ++ [(l, l')]) (xs ++ [v1, v2]) st := by
  have hk : ∀ b, b < w5.heap.size → u.ownBlock ≠ some b → w8.heap[b]? = w5.heap[b]? := fun b hb hg => hgr.block b hb (fun e => hg e.symm)
  refine ⟨⟨hgr.os.trans h.bel.os, hgr.tape.trans h.bel.tape, hgr.output.trans h.bel.output, Nat.le_trans h.bel.size hgr.size, fun b hb => (hk b (Nat.lt_of_lt_of_le hb h.bel.size) (fun e => by have := (h.ne e).2.1; omega)).trans (h.bel.block b hb)⟩, by rw [List.length_append]; exact hown, Stk.snoc hv hv' hp h.stk, h.map.keep (hk mb h.mlt (fun e => (h.ne e).1 rfl)) (Kn.keep fun b hl => hk b (Nat.lt_of_lt_of_le hl h.bel.size) (fun e => by have := (h.ne e).2.1; omega)), h.mlo⟩
/-- What stands within, where it is. -/
def wiA (k : Int) (ao : Option Addr) : Option Addr := if k = 4 ∨ k = 5 then ao else none
theorem sl_wi {W : World} {k : Int} {l : List Tm} {ao : Option Addr} {cap : Nat} (h : RepL 0 W l ao) (hl : l.length ≤ cap) (hc : cap ≤ maxLen) : Sl W (inn k (.slice ao l.length cap)) (wiL k l) (wiA k ao) := by
  unfold inn wiL wiA
  by_cases hk : k = 4 ∨ k = 5
  · rw [if_pos hk, if_pos hk, if_pos hk]; exact ⟨⟨cap, rfl, hl, hc⟩, h⟩
  · rw [if_neg hk, if_neg hk, if_neg hk]; exact ⟨⟨0, rfl, Nat.zero_le _, Nat.zero_le _⟩, by rw [RepL]; trivial⟩
theorem hp_wi {W : World} {k n : Int} {s : ByteArray} {l : List Tm} {k' n' : Int} {s' : ByteArray} {l' : List Tm} {ax ay : Option Addr} (h : HpT W (.mk k n s l) ax (.mk k' n' s' l') ay) (he : k = k') : HpL W (wiL k l) (wiA k ax) (wiL k' l') (wiA k' ay) ∧ PlA W (wiL k l) (wiA k ax) ∧ PlA W (wiL k' l') (wiA k' ay) := by
  subst he
  unfold wiL wiA
  by_cases hk : k = 4 ∨ k = 5
  · rw [if_pos hk, if_pos hk, if_pos hk, if_pos hk]
    rw [HpT] at h
    exact h hk rfl
  · rw [if_neg hk, if_neg hk, if_neg hk, if_neg hk]
    refine ⟨by rw [HpL]; trivial, ?_, ?_⟩ <;> (unfold PlA; rw [nmL_nil]; trivial)
theorem own_same {k n : Int} {s : ByteArray} {a : Nat} {k' n' : Int} {s' : ByteArray} {a' : Nat} (h : thenC (cmpI k k') (ownC k n s a n' s' a') = 0) : k = k' := by
  apply (cmpI_zero k k').1
  unfold thenC at h
  split at h
  · assumption
  · exact h
end Go.Proofs.Ytabgfaafpgholaa
