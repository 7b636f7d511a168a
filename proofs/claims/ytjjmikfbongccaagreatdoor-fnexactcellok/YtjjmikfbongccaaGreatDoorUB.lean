/-
  How the program reads words that a function value tells: what is there, the words at a place.
-/
import Derived.Test.YtjjmikfbongccaaGreatDoorUR
import Derived.Test.YtjjmikfbongccaaGreatDoorUT
namespace Go.Proofs.YtjjmikfbongccaaGreatDoor.Gn
open Go.RowKit
set_option linter.unusedVariables false

theorem rTs_none {u : Nat → Int} {g : Rd} {k q y : Nat} (h : g (u q) y = none) : rTs u g (k + 1) q y = none := by rw [rTs, h]
theorem rTs_some {u : Nat → Int} {g : Rd} {k q y : Nat} {t : Tm} {z : Nat} (h : g (u q) y = some (t, z)) : rTs u g (k + 1) q y = pre [t] (rTs u g k (q + 1) z) := by
  rw [rTs, h]
  simp only
  cases rTs u g k (q + 1) z with
  | none => rfl
  | some p => rfl
theorem rL_end {H : Hp} {g : Rd} {k y : Nat} : rL H g k 3 y = some ([], y) := by
  cases k <;> rw [rL, if_pos rfl]
theorem rL_off {H : Hp} {g : Rd} {k y : Nat} {x : Int} (h : x ≠ 3) (hc : ¬ consAt H x) : rL H g k x y = none := by
  cases k with
  | zero => rw [rL, if_neg h]
  | succ k => rw [rL, if_neg h, if_neg hc]
theorem rL_none {H : Hp} {g : Rd} {k y : Nat} {x : Int} (h : x ≠ 3) (hg : g (H.w (valW x).toNat 0) y = none) : rL H g k x y = none := by
  cases k with
  | zero => rw [rL, if_neg h]
  | succ k =>
    rw [rL, if_neg h]
    split
    · rw [hg]
    · rfl
theorem rL_some {H : Hp} {g : Rd} {k y : Nat} {x : Int} (h : x ≠ 3) (hc : consAt H x) {t : Tm} {z : Nat} (hg : g (H.w (valW x).toNat 0) y = some (t, z)) : rL H g (k + 1) x y = pre [t] (rL H g k (H.w (valW x).toNat 1) z) := by
  rw [rL, if_neg h, if_pos hc, hg]
  simp only
  cases rL H g k (H.w (valW x).toNat 1) z with
  | none => rfl
  | some p => rfl
/-- More rounds than may come yet make no difference. -/
theorem rL_more {H : Hp} {g : Rd} (hg : ∀ w left t x, g w left = some (t, x) → x < left) : ∀ (k k' : Nat) (x : Int) (y : Nat), y ≤ k → y ≤ k' → rL H g k x y = rL H g k' x y
  | 0, 0, x, y, _, _ => rfl
  | 0, k' + 1, x, y, h, _ => by
    rw [rL, rL]
    split
    · rfl
    · split
      · cases hq : g (H.w (valW x).toNat 0) y with
        | none => rfl
        | some p => obtain ⟨t, z⟩ := p; have := hg _ _ _ _ hq; omega
      · rfl
  | k + 1, 0, x, y, _, h => by
    rw [rL, rL]
    split
    · rfl
    · split
      · cases hq : g (H.w (valW x).toNat 0) y with
        | none => rfl
        | some p => obtain ⟨t, z⟩ := p; have := hg _ _ _ _ hq; omega
      · rfl
  | k + 1, k' + 1, x, y, h, h' => by
    rw [rL, rL]
    split
    · rfl
    · split
      · cases hq : g (H.w (valW x).toNat 0) y with
        | none => rfl
        | some p =>
          obtain ⟨t, z⟩ := p
          have := hg _ _ _ _ hq
          simp only
          rw [rL_more hg k k' _ z (by omega) (by omega)]
      · rfl
theorem wordsAt_len (H : Hp) (p k n : Nat) : (wordsAt H p k n).length = n := by simp [wordsAt]
theorem wordsAt_get (H : Hp) (p k n j : Nat) (h : j < (wordsAt H p k n).length) : (wordsAt H p k n)[j] = H.w p (k + j) := by simp [wordsAt]
theorem rT_isW {H : Hp} {d : Nat} {x : Int} {left : Nat} (h : isW x = false) : rT true H d x left = none := by
  cases d with
  | zero => rw [rT]
  | succ d => rw [rT, if_neg (by simp [h])]
theorem rT_left {H : Hp} {d : Nat} {x : Int} : rT true H d x 0 = none := by
  cases d with
  | zero => rw [rT]
  | succ d => rw [rT, if_neg (by simp)]
theorem rT_on {H : Hp} {d : Nat} {x : Int} {k : Nat} (h : isW x = true) : rT true H (d + 1) x (k + 1) = held true (raw true H (rT true H d) x k) := by
  rw [rT, if_pos ⟨by simpa using h, by omega⟩]; rfl

/-- All blocks of W are there as they were. -/
def Agr (W w : World) : Prop := W.heap.size ≤ w.heap.size ∧ ∀ k, k < W.heap.size → w.heap[k]? = W.heap[k]?
theorem Agr.cell {W w : World} (h : Agr W w) {b o : Nat} {v : Value} (hc : W.cell? ⟨b, o, none⟩ = some v) : w.cell? ⟨b, o, none⟩ = some v := by
  rw [World.cell?_of_block (w := W) (h.2 b (World.block_lt_of_cell? W _ hc))]; exact hc
/-- What is read from: the words that the function fk, whose variable stands in the block gb, tells, the atoms H.A in the block ab from ao on; both are named by the three cells of rb. What stands from the place p on stands in the block sb p from so p on. -/
structure Env where
  H : Hp
  W : World
  rb : Nat
  fk : Nat
  gb : Nat
  sb : Nat → Nat
  so : Nat → Nat
  av : Option Addr
  ab : Nat
  ao : Nat
  acap : Nat
/-- What the function value answers; what stands there. -/
structure Told (E : Env) : Prop where
  one : E.fk = 72 ∨ E.fk = 72
  call : ∀ w (p : Nat), Agr E.W w → p ≤ 4000001 → Calls Tryz.prog E.fk #[.int .i64 p, .pointer (some ⟨E.gb, 0, none⟩)] w fun e w' => ∃ a c, e = .returned (.slice a (E.H.len p) c) ∧ (E.H.len p ≠ 0 → a = some ⟨E.sb p, E.so p, none⟩) ∧ E.H.len p ≤ c ∧ w' = w
  ws : ∀ p j, j < E.H.len p → E.W.cell? ⟨E.sb p, E.so p + j, none⟩ = some (.int .i64 (E.H.w p j))
structure Rr (E : Env) (left : Nat) (w : World) : Prop where
  c0 : w.cell? ⟨E.rb, 0, none⟩ = some (.func (.func E.fk) #[] #[.pointer (some ⟨E.gb, 0, none⟩)])
  c1 : w.cell? ⟨E.rb, 1, none⟩ = some (.slice E.av E.H.A.length E.acap)
  c2 : w.cell? ⟨E.rb, 2, none⟩ = some (.int .i64 left)
  fr : w.frozen? ⟨E.rb, 2, none⟩ = false
  ok : E.H.ok
  told : Told E
  src : Agr E.W w
  ro : E.W.heap.size ≤ E.rb
  al : E.H.A.length ≠ 0 → E.av = some ⟨E.ab, E.ao, none⟩
  ats : Txt E.W E.ab E.ao E.H.A
  big : ∀ p j, E.H.w p j ≤ 9223372036854775807
  txt : ∀ s, s ∈ E.H.A → s.size ≤ 1048576
theorem Rr.lt {E : Env} {left : Nat} {w : World} (h : Rr E left w) : E.rb < w.heap.size := World.block_lt_of_cell? w _ h.c0
theorem Rr.ws {E : Env} {left : Nat} {w : World} (h : Rr E left w) (p j : Nat) (hj : j < E.H.len p) : w.cell? ⟨E.sb p, E.so p + j, none⟩ = some (.int .i64 (E.H.w p j)) := h.src.cell (h.told.ws p j hj)
theorem Rr.at {E : Env} {left : Nat} {w : World} (h : Rr E left w) (j : Nat) (hj : j < E.H.A.length) : w.cell? ⟨E.ab, E.ao + j, none⟩ = some (.string E.H.A[j]) := h.src.cell (h.ats j hj)
/-- A world that differs in nothing that was there. -/
theorem Rr.same {E : Env} {l0 left : Nat} {w w1 w2 : World} (h0 : Rr E l0 w) (h : Rr E left w1) (hk : ∀ k, k < w.heap.size → w2.heap[k]? = w1.heap[k]?) : Rr E left w2 := by
  have e : ∀ b o, b < w.heap.size → w2.cell? ⟨b, o, none⟩ = w1.cell? ⟨b, o, none⟩ := fun b o hb => World.cell?_of_block (w := w1) (hk b hb)
  have hr := h0.lt
  have c0 : w2.cell? ⟨E.rb, 0, none⟩ = some (.func (.func E.fk) #[] #[.pointer (some ⟨E.gb, 0, none⟩)]) := by rw [e _ _ hr]; exact h.c0
  have hr2 : E.rb < w2.heap.size := World.block_lt_of_cell? w2 _ c0
  refine ⟨c0, by rw [e _ _ hr]; exact h.c1, by rw [e _ _ hr]; exact h.c2, by rw [World.frozen?_of_block (w := w1) (hk E.rb hr)]; exact h.fr, h.ok, h.told, ⟨?_, fun k hkw => ?_⟩, h.ro, h.al, h.ats, h.big, h.txt⟩
  · have := h.ro; omega
  · have := h0.src.1
    rw [hk k (by omega)]; exact h.src.2 k hkw
theorem Rr.below {E : Env} {left : Nat} {w w' : World} (h : Rr E left w) (hb : Below w.heap.size w w') : Rr E left w' := h.same h (fun k hk => hb.block k hk)
theorem Rr.set {E : Env} {left : Nat} {w : World} (h : Rr E left w) (x : Nat) : Rr E x (w.setCell ⟨E.rb, 2, none⟩ (.int .i64 x)) := by
  have e : ∀ o, o ≠ 2 → (w.setCell ⟨E.rb, 2, none⟩ (.int .i64 x)).cell? ⟨E.rb, o, none⟩ = w.cell? ⟨E.rb, o, none⟩ := fun o hn => by
    rw [World.cell?_setCell_other (h := fun e => by simp only [Addr.mk.injEq] at e; omega)]
  refine ⟨by rw [e _ (by omega)]; exact h.c0, by rw [e _ (by omega)]; exact h.c1, World.cell?_setCell_same w _ _ h.c2, by rw [World.frozen?_setCell]; exact h.fr, h.ok, h.told, ⟨by rw [World.size_setCell]; exact h.src.1, fun k hk => ?_⟩, h.ro, h.al, h.ats, h.big, h.txt⟩
  have := h.ro
  rw [Below.heap_setCell _ ⟨E.rb, 2, none⟩ _ k (by show k ≠ E.rb; omega)]
  exact h.src.2 k hk
structure GI (E : Env) (w wr : World) (l : List Tm) (u : Value) (xs : List Value) (left : Nat) : Prop where
  turn : Turn E.rb w wr
  rr : Rr E left wr
  rr0 : ∃ l0, Rr E l0 w
  own : wr.ownsRow w.heap.size 66 4 u l.length xs
  row : RowO wr u.ownBlock l xs w.heap.size wr.heap.size
theorem GI.start {E : Env} {left : Nat} {w : World} (h : Rr E left w) : GI E w w [] (.slice none 0 0) [] left :=
  ⟨Turn.refl _ _, h, ⟨left, h⟩, ⟨rfl, Or.inl ⟨rfl, rfl⟩⟩, by rw [RowO]; exact ⟨rfl, Nat.le_refl _⟩⟩
theorem GI.form {E : Env} {w wr : World} {l : List Tm} {u : Value} {xs : List Value} {left : Nat} (h : GI E w wr l u xs left) : ∃ ua uc, u = .slice ua l.length uc := by
  rcases h.own.2 with ⟨rfl, h0⟩ | ⟨g, cap, cur, rfl, _⟩
  · exact ⟨none, 0, by rw [h0]⟩
  · exact ⟨_, _, rfl⟩
theorem GI.call {E : Env} {w wr w1 : World} {l : List Tm} {u : Value} {xs : List Value} {left left' : Nat} (h : GI E w wr l u xs left) (ht : Turn E.rb wr w1) (hr : Rr E left' w1) : GI E w w1 l u xs left' := by
  obtain ⟨l0, h0⟩ := h.rr0
  have hlt := h0.lt
  refine ⟨h.turn.trans ht, hr, h.rr0, h.own.kept ht.grown (Or.inr (fun e => ?_)), RowO.hi ht.size (RowO.move (fun b hb1 hb2 _ hbl => ht.block b hbl (by omega)) (fun g hg => .inl hg) h.row)⟩
  have := (h.own.lt _ e).1; omega
theorem GI.more {E : Env} {w wr w1 w2 : World} {l : List Tm} {u v : Value} {xs : List Value} {left left' : Nat} (h : GI E w wr l u xs left) (ht : Turn E.rb wr w1) (hr : Rr E left' w1)
    {t : Tm} {a b c d : Value} (hv : OwV w1 wr.heap.size w1.heap.size t (.agg #[a, b, c, d])) {o : Obj}
    (hown : w2.ownsRow w.heap.size 66 4 v (l.length + 1) (xs ++ [a, b, c, d])) (hgrow : (w1.alloc o).grownBy w2 u.ownBlock) (hat : v.ownBlock = u.ownBlock ∨ v.ownBlock = some (w1.alloc o).heap.size) :
    GI E w w2 (l ++ [t]) v (xs ++ [a, b, c, d]) left' := by
  have h1 := h.call ht hr
  obtain ⟨l0, h0⟩ := h.rr0
  have hs1 : (w1.alloc o).heap.size = w1.heap.size + 1 := World.size_alloc _ _
  have hz1 := h1.turn.size
  have hz2 := ht.size
  have hzw := h.turn.size
  have hzg := hgrow.size
  have hrl := h0.lt
  have hun : ∀ k, k < w.heap.size → some k ≠ u.ownBlock := fun k hk e => by have := (h.own.lt k e.symm).1; omega
  have hk : ∀ k, k < w.heap.size → w2.heap[k]? = w1.heap[k]? := fun k hkt => by
    rw [hgrow.block k (by rw [hs1]; omega) (hun k hkt)]
    show (w1.heap.push _)[k]? = _
    rw [Array.getElem?_push, if_neg (by omega)]
  have hcell : ∀ p o' v, some p ≠ u.ownBlock → w1.cell? ⟨p, o', none⟩ = some v → w2.cell? ⟨p, o', none⟩ = some v := fun p o' v hp hc => by
    have hpl := World.block_lt_of_cell? w1 _ hc
    rw [hgrow.cell_far ⟨p, o', none⟩ (by rw [hs1]; exact Nat.lt_succ_of_lt hpl) hp, World.cell?_alloc_lt (h := hpl)]; exact hc
  have hblk : ∀ p, p < w1.heap.size → some p ≠ u.ownBlock → w2.heap[p]? = w1.heap[p]? := fun p hp hn => by
    rw [hgrow.block p (by rw [hs1]; omega) hn]
    show (w1.heap.push _)[p]? = _
    rw [Array.getElem?_push, if_neg (by omega)]
  have huo : ∀ g, u.ownBlock = some g → g < wr.heap.size := fun g e => (h.own.lt g e).2
  have hvo : ∀ g, v.ownBlock = some g → u.ownBlock = some g ∨ w1.heap.size ≤ g := fun g e => by
    rcases hat with hat | hat
    · left; rw [← hat]; exact e
    · rw [hat, hs1] at e
      injection e with e
      right; omega
  have row1 : RowO w2 v.ownBlock l xs w.heap.size wr.heap.size := RowO.move (fun b' hb1 hb2 hb3 hbl => (hblk b' (by omega) (fun e => hb3 e.symm)).trans (ht.block b' hbl (by omega))) (fun g hg => (hvo g hg).imp id (fun h => by omega)) h.row
  have hv2 : OwV w2 wr.heap.size w1.heap.size t (.agg #[a, b, c, d]) := hv.keep (fun b' hb1 hb2 hbl => hblk b' hbl (fun e => by have := huo b' e.symm; omega))
  have t1 := h1.turn
  refine ⟨⟨hgrow.os.trans t1.os, hgrow.tape.trans t1.tape, hgrow.output.trans t1.output, by omega, fun k hkl hkn => (hk k hkl).trans (t1.block k hkl hkn)⟩, h0.same hr hk, h.rr0, by rw [List.length_append]; exact hown, RowO.hi (by omega) (RowO.snoc hv2 (fun g hg => (hvo g hg).imp (huo g) id) hz2 (Nat.le_refl _) row1)⟩
/-- v is the list l, new behind w, its lists apart. -/
def IsL (w w' : World) (v : Value) (l : List Tm) : Prop := ∃ ao cap, v = .slice ao l.length cap ∧ l.length ≤ cap ∧ cap ≤ maxLen ∧ OwL w' l w.heap.size w'.heap.size ao
theorem GI.list {E : Env} {w wr : World} {l : List Tm} {u : Value} {xs : List Value} {left : Nat} (h : GI E w wr l u xs left) : IsL w wr u l := by
  obtain ⟨hlen, hcase⟩ := id h.own
  rcases hcase with ⟨rfl, h0⟩ | ⟨g, cap, cur, rfl, hb, hg, hn, hc, hsz, htake⟩
  · have : l = [] := List.eq_nil_of_length_eq_zero h0
    subst this
    exact ⟨none, 0, rfl, Nat.le_refl _, Nat.zero_le _, by rw [OwL]; trivial⟩
  · refine ⟨some ⟨g, 0, none⟩, cap, rfl, hn, hc, ?_⟩
    by_cases hl : l = []
    · subst hl; rw [OwL]; trivial
    · have hgl := h.own.lt g rfl
      refine (OwL.iff hl).2 ⟨g, w.heap.size, wr.heap.size, rfl, hgl.1, hgl.2, Nat.le_refl _, Nat.le_refl _, fun o => h.own.frozenAt o, RowO.row (fun j v hj => ?_) h.row⟩
      rw [Nat.zero_add, h.own.cellAt j (by have := (List.getElem?_eq_some_iff.1 hj).1; omega)]
      exact hj

set_option maxRecDepth 100000 in
theorem at_yes {E : Env} {left : Nat} {w : World} (h : Rr E left w) (p n : Nat) (hpn : n ≤ E.H.len p) (h1 : n ≠ 0) :
    Calls Tryz.prog 129 #[.pointer (some ⟨E.rb, 0, none⟩), .int .i64 p, .int .i64 n] w fun e w' => (∃ c, e = .returned (.slice (some ⟨E.sb p, E.so p, none⟩) n c) ∧ n ≤ c) ∧ w' = w := by
  have hN := h.ok.n p
  have hf := h.ok.far p (by omega)
  have q0 := h.c0
  have h1k := h.told.one
  have HC : Hid (∀ w', w' = w → Calls Tryz.prog E.fk #[.int .i64 p, .pointer (some ⟨E.gb, 0, none⟩)] w' fun e w'' => ∃ c, e = .returned (.slice (some ⟨E.sb p, E.so p, none⟩) (E.H.len p) c) ∧ E.H.len p ≤ c ∧ w'' = w') := by
    rintro w' rfl
    refine (h.told.call w' p h.src (by omega)).mono ?_
    rintro e w'' ⟨a, c, rfl, ha, hc, rfl⟩
    exact ⟨c, by rw [ha (by omega)], hc, rfl⟩
  clear h
  generalize E.H.len p = N at *
  have hd : decide ((n : Int) ≤ (N : Int)) = true := by simp; omega
  generalize E.fk = K at *
  rcases h1k with rfl | rfl
  all_goals
    go_enter Tryz.func129, Tryz.ntmps129
    go_wp2_with fail
    refine (HC.out _ rfl).mono ?_
    rintro e w' ⟨c, rfl, hc, rfl⟩
    go_wp2_with (first | (go_at_call 106; refine (insist_yes _).mono ?_; rintro e w' ⟨rfl, rfl⟩))
    go_ret
    exact ⟨⟨_, rfl, by omega⟩, rfl⟩
set_option maxRecDepth 100000 in
theorem at_no {E : Env} {left : Nat} {w : World} (h : Rr E left w) (p n : Nat) (hpn : ¬ n ≤ E.H.len p) (hp : p ≤ 4000001) (hn : n ≤ 4000000) :
    Calls Tryz.prog 129 #[.pointer (some ⟨E.rb, 0, none⟩), .int .i64 p, .int .i64 n] w fun e w' => e = .panicked PN ∧ w' = w := by
  have hN := h.ok.n p
  have q0 := h.c0
  have h1k := h.told.one
  have HC : Hid (∀ w', w' = w → Calls Tryz.prog E.fk #[.int .i64 p, .pointer (some ⟨E.gb, 0, none⟩)] w' fun e w'' => ∃ a c, e = .returned (.slice a (E.H.len p) c) ∧ w'' = w') := by
    rintro w' rfl
    refine (h.told.call w' p h.src hp).mono ?_
    rintro e w'' ⟨a, c, rfl, ha, hc, rfl⟩
    exact ⟨a, c, rfl, rfl⟩
  clear h
  generalize E.H.len p = N at *
  have hd : decide ((n : Int) ≤ (N : Int)) = false := by simp; omega
  generalize E.fk = K at *
  rcases h1k with rfl | rfl
  all_goals
    go_enter Tryz.func129, Tryz.ntmps129
    go_wp2_with fail
    refine (HC.out _ rfl).mono ?_
    rintro e w' ⟨a, c, rfl, rfl⟩
    go_wp2_with (first | (go_at_call 106; refine (insist_no _).mono ?_; rintro e w' ⟨rfl, rfl⟩))
    exact ⟨rfl, rfl, rfl⟩
end Go.Proofs.YtjjmikfbongccaaGreatDoor.Gn
