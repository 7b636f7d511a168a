/-
  The law over GensPut: what it has in hand.
-/
import Derived.Test.YtabgfaafpgholaaY6
import Derived.Test.YtabgfaafpgholaaY7
import Derived.Test.YtabgfaafpgholaaY16
import Derived.Test.YtabgfaafpgholaaY17
namespace Go.Proofs.Ytabgfaafpgholaa
open Go.RowKit
set_option linter.unusedVariables false

theorem OutR.fewB {xs : List Int} {A : List ByteArray} {t : Tm} {ys : List Int} {B : List ByteArray} {x : Int} {ok : Bool} {N : Nat} (h : OutR xs A (PtB t xs 100000 1000 A) ys B x ok) (hx : N + xs.length ≤ 1048576) (hA : A.length + nT t ≤ 1048577) : ys.length ≤ 1048576 ∧ B.length ≤ 1048577 ∧ N + ys.length ≤ 1049576 := by
  rcases h with ⟨rfl, ns, e1, rfl⟩ | ⟨rfl, rfl, rfl, rfl, e1⟩
  · unfold PtB at e1
    split at e1
    · rename_i hc
      have h1 := ptT_len t _ A ns B x (goodK (look_b hc.1).1) e1
      have h2 := ptT_cnt t _ A ns B x e1
      rw [List.length_append]
      exact ⟨by omega, by omega, by omega⟩
    · cases e1
  · exact ⟨by omega, by omega, by omega⟩
/-- What the specification answered, and the arguments. -/
structure LG (w wc : World) (c3 c5 : Array Value) (v0 v1 v2 : Value) (b8 g8 y8 a8 N : Nat) (F : Nat → Int) (Y : List Int) (B : List ByteArray) (M : Nat) : Prop where
  bel : Below w.heap.size w wc
  q3 : ∀ o, wc.cell? ⟨w.heap.size, o, none⟩ = c3[o]?
  q5 : ∀ o, wc.cell? ⟨w.heap.size + 1, o, none⟩ = c5[o]?
  q80 : wc.cell? ⟨b8, 0, none⟩ = some v0
  q81 : wc.cell? ⟨b8, 1, none⟩ = some v1
  q82 : wc.cell? ⟨b8, 2, none⟩ = some v2
  o8 : Ints wc g8 0 N F
  r8 : Ints wc y8 0 Y.length (lfI Y)
  s8 : Sts wc a8 B.length (lf B)
  l1 : w.heap.size + 2 ≤ M
  l2 : b8 < M
  l3 : g8 < M
  ly : y8 < M
  l4 : a8 < M
  l5 : M ≤ wc.heap.size
theorem LG.next {w wc w' : World} {c3 c5 : Array Value} {v0 v1 v2 : Value} {b8 g8 y8 a8 N M : Nat} {F : Nat → Int} {Y : List Int} {B : List ByteArray} (h : LG w wc c3 c5 v0 v1 v2 b8 g8 y8 a8 N F Y B M) (hb : Below M wc w') : LG w w' c3 c5 v0 v1 v2 b8 g8 y8 a8 N F Y B M := by
  have l1 := h.l1
  have l2 := h.l2
  have l3 := h.l3
  have l4 := h.l4
  have l5 := h.l5
  have hs := hb.size
  refine ⟨h.bel.trans (hb.mono (by omega)), fun o => ?_, fun o => ?_, ?_, ?_, ?_, h.o8.heap (hb.block g8 l3), h.r8.heap (hb.block y8 h.ly), h.s8.heap (hb.block a8 l4), l1, l2, l3, h.ly, l4, by omega⟩
  · rw [hb.cell (p := ⟨w.heap.size, o, none⟩) (by show w.heap.size < M; omega)]; exact h.q3 o
  · rw [hb.cell (p := ⟨w.heap.size + 1, o, none⟩) (by show w.heap.size + 1 < M; omega)]; exact h.q5 o
  · rw [hb.cell (p := ⟨b8, 0, none⟩) l2]; exact h.q80
  · rw [hb.cell (p := ⟨b8, 1, none⟩) l2]; exact h.q81
  · rw [hb.cell (p := ⟨b8, 2, none⟩) l2]; exact h.q82
theorem LG.call {w wc w' : World} {c3 c5 : Array Value} {v0 v1 v2 : Value} {b8 g8 y8 a8 N M : Nat} {F : Nat → Int} {Y : List Int} {B : List ByteArray} (h : LG w wc c3 c5 v0 v1 v2 b8 g8 y8 a8 N F Y B M) (hb : Below wc.heap.size wc w') : LG w w' c3 c5 v0 v1 v2 b8 g8 y8 a8 N F Y B M := h.next (hb.mono h.l5)
/-- A variable with two lists, and atoms. -/
structure GY (wc : World) (b g y a : Nat) (c : Array Value) (n m p : Nat) (F G : Nat → Int) (H : Nat → ByteArray) : Prop where
  q : ∀ o, wc.cell? ⟨b, o, none⟩ = c[o]?
  o : Ints wc g 0 n F
  r : Ints wc y 0 m G
  s : Sts wc a p H
  lb : b < wc.heap.size
  lg : g < wc.heap.size
  ly : y < wc.heap.size
  la : a < wc.heap.size
theorem GY.go {wc w' : World} {b g y a n m p : Nat} {c : Array Value} {F G : Nat → Int} {H : Nat → ByteArray} (h : GY wc b g y a c n m p F G H) (hk : ∀ k, k = b ∨ k = g ∨ k = y ∨ k = a → w'.heap[k]? = wc.heap[k]?) (hs : wc.heap.size ≤ w'.heap.size) : GY w' b g y a c n m p F G H :=
  ⟨fun o => by rw [World.cell?_of_block (w := wc) (hk b (.inl rfl))]; exact h.q o, h.o.heap (hk g (.inr (.inl rfl))), h.r.heap (hk y (.inr (.inr (.inl rfl)))), h.s.heap (hk a (.inr (.inr (.inr rfl)))), Nat.lt_of_lt_of_le h.lb hs, Nat.lt_of_lt_of_le h.lg hs, Nat.lt_of_lt_of_le h.ly hs, Nat.lt_of_lt_of_le h.la hs⟩
theorem GY.call {wc w' : World} {b g y a n m p : Nat} {c : Array Value} {F G : Nat → Int} {H : Nat → ByteArray} (h : GY wc b g y a c n m p F G H) (hb : Below wc.heap.size wc w') : GY w' b g y a c n m p F G H :=
  h.go (fun k hk => hb.block k (by rcases hk with rfl | rfl | rfl | rfl; exact h.lb; exact h.lg; exact h.ly; exact h.la)) hb.size
theorem GY.turn {wc w' : World} {b g y a n m p z : Nat} {c : Array Value} {F G : Nat → Int} {H : Nat → ByteArray} (h : GY wc b g y a c n m p F G H) (ht : Turn z wc w') (h1 : b ≠ z) (h2 : g ≠ z) (h4 : y ≠ z) (h3 : a ≠ z) : GY w' b g y a c n m p F G H :=
  h.go (fun k hk => by rcases hk with rfl | rfl | rfl | rfl; exact ht.block _ h.lb h1; exact ht.block _ h.lg h2; exact ht.block _ h.ly h4; exact ht.block _ h.la h3) ht.size
theorem GY.out {wc w' : World} {b g y a n m p : Nat} {c : Array Value} {bs : List Nat} {F G : Nat → Int} {H : Nat → ByteArray} (h : GY wc b g y a c n m p F G H) (ht : OutB bs wc w') (h1 : b ∉ bs) (h2 : g ∉ bs) (h4 : y ∉ bs) (h3 : a ∉ bs) : GY w' b g y a c n m p F G H :=
  h.go (fun k hk => by rcases hk with rfl | rfl | rfl | rfl; exact ht.block _ h.lb h1; exact ht.block _ h.lg h2; exact ht.block _ h.ly h4; exact ht.block _ h.la h3) ht.size
theorem MkQ.outB {w w' : World} {g y N M : Nat} (h : MkQ w w' g y N M) : OutB [g, y] w w' := ⟨h.os, h.tape, h.output, h.size, fun k hk hn => h.block k hk (fun e => hn (by simp [e])) (fun e => hn (by simp [e]))⟩
theorem TX.out {wc w' : World} {b : Nat} {c : Array Value} {l : List Tm} {bs zs : List Nat} {xa : Option Addr} (h : TX wc b c l bs xa) (ht : OutB zs wc w') (h1 : b ∉ zs) (h2 : ∀ z ∈ zs, z ∉ bs) : TX w' b c l bs xa :=
  ⟨fun o => by rw [World.cell?_of_block (w := wc) (ht.block b h.lb h1)]; exact h.q o, OsL.keep l bs xa (fun x hx hl => ht.block x hl (fun e => h2 x e hx)) h.os, Nat.lt_of_lt_of_le h.lb ht.size⟩
/-- A variable that nothing is in yet. -/
structure Zg (lo : Nat) (w : World) (b : Nat) : Prop where
  c0 : w.cell? ⟨b, 0, none⟩ = some (.slice none 0 0)
  c1 : w.cell? ⟨b, 1, none⟩ = some (.slice none 0 0)
  c2 : w.cell? ⟨b, 2, none⟩ = some (.int .i64 0)
  f : ∀ o, w.frozen? ⟨b, o, none⟩ = false
  lt : b < w.heap.size
  ge : lo ≤ b
abbrev zeroG : Obj := .cells #[.slice none 0 0, .slice none 0 0, .int .i64 0] 60 (0, 0)
theorem Zg.new {lo : Nat} (w : World) (h : lo ≤ w.heap.size) : Zg lo (w.alloc zeroG) w.heap.size :=
  ⟨by rw [World.cell?_alloc_at (hn := rfl)]; rfl, by rw [World.cell?_alloc_at (hn := rfl)]; rfl, by rw [World.cell?_alloc_at (hn := rfl)]; rfl, fun o => by rw [World.frozen?_alloc_at (hn := rfl)], by rw [World.size_alloc]; omega, h⟩
theorem Zg.below {lo b : Nat} {w w' : World} (h : Zg lo w b) (hb : Below w.heap.size w w') : Zg lo w' b :=
  ⟨by rw [hb.cell (p := ⟨b, 0, none⟩) h.lt]; exact h.c0, by rw [hb.cell (p := ⟨b, 1, none⟩) h.lt]; exact h.c1, by rw [hb.cell (p := ⟨b, 2, none⟩) h.lt]; exact h.c2, fun o => by rw [hb.frozen (p := ⟨b, o, none⟩) h.lt]; exact h.f o, Nat.lt_of_lt_of_le h.lt hb.size, h.ge⟩
theorem Zg.newd {lo : Nat} (w : World) (h : lo ≤ w.heap.size) : Zg lo (w.alloc zeroG).drew w.heap.size := (Zg.new w h).below (Below.refl _ _).drew
theorem zsetG {X w : World} {b : Nat} (h : Zg X.heap.size w b) (hk : Below X.heap.size X w) : ∀ u v x, Below X.heap.size X (((w.setCell ⟨b, 0, none⟩ u).setCell ⟨b, 1, none⟩ v).setCell ⟨b, 2, none⟩ x) := fun u v x => ((hk.setCell h.ge u).setCell h.ge v).setCell h.ge x
theorem zlastG {X wC w : World} {b g y a : Nat} (h : Zg X.heap.size wC b) (hb : Below wC.heap.size wC w) (hg : wC.heap.size ≤ g) (hy : wC.heap.size ≤ y) (ha : wC.heap.size ≤ a) : Zg X.heap.size w b ∧ b < g ∧ b < y ∧ b < a := ⟨h.below hb, Nat.lt_of_lt_of_le h.lt hg, Nat.lt_of_lt_of_le h.lt hy, Nat.lt_of_lt_of_le h.lt ha⟩
theorem gy_new {w : World} {g y a n m p : Nat} {c : Array Value} {F G : Nat → Int} {H : Nat → ByteArray} (h1 : Ints w g 0 n F) (h2 : Ints w y 0 m G) (h3 : Sts w a p H) (l1 : g < w.heap.size) (l2 : y < w.heap.size) (l3 : a < w.heap.size) (ty : TypeId) : GY (w.alloc (.cells c ty)) w.heap.size g y a c n m p F G H :=
  ⟨fun o => by rw [World.cell?_alloc_at (hn := rfl)], h1.heap (Below.heap_alloc _ _ _ l1), h2.heap (Below.heap_alloc _ _ _ l2), h3.heap (Below.heap_alloc _ _ _ l3), by rw [World.size_alloc]; omega, by rw [World.size_alloc]; omega, by rw [World.size_alloc]; omega, by rw [World.size_alloc]; omega⟩
theorem set3_cell {w : World} {b : Nat} {u v x p q r : Value} (h0 : w.cell? ⟨b, 0, none⟩ = some p) (h1 : w.cell? ⟨b, 1, none⟩ = some q) (h2 : w.cell? ⟨b, 2, none⟩ = some r) : (((w.setCell ⟨b, 0, none⟩ u).setCell ⟨b, 1, none⟩ v).setCell ⟨b, 2, none⟩ x).cell? ⟨b, 0, none⟩ = some u ∧ (((w.setCell ⟨b, 0, none⟩ u).setCell ⟨b, 1, none⟩ v).setCell ⟨b, 2, none⟩ x).cell? ⟨b, 1, none⟩ = some v ∧ (((w.setCell ⟨b, 0, none⟩ u).setCell ⟨b, 1, none⟩ v).setCell ⟨b, 2, none⟩ x).cell? ⟨b, 2, none⟩ = some x := by
  refine ⟨?_, ?_, ?_⟩
  · rw [World.cell?_setCell_other (h := fun e => by simp at e), World.cell?_setCell_other (h := fun e => by simp at e)]
    exact World.cell?_setCell_same _ _ _ h0
  · rw [World.cell?_setCell_other (h := fun e => by simp at e)]
    exact World.cell?_setCell_same _ _ _ (by rw [World.cell?_setCell_other (h := fun e => by simp at e)]; exact h1)
  · exact World.cell?_setCell_same _ _ _ (by rw [World.cell?_setCell_other (h := fun e => by simp at e), World.cell?_setCell_other (h := fun e => by simp at e)]; exact h2)
/-- A variable of three cells, as it is read. -/
structure GZ (wc : World) (b g y a : Nat) (v0 v1 v2 : Value) (n m p : Nat) (F G : Nat → Int) (H : Nat → ByteArray) : Prop where
  q0 : wc.cell? ⟨b, 0, none⟩ = some v0
  q1 : wc.cell? ⟨b, 1, none⟩ = some v1
  q2 : wc.cell? ⟨b, 2, none⟩ = some v2
  o : Ints wc g 0 n F
  r : Ints wc y 0 m G
  s : Sts wc a p H
  lb : b < wc.heap.size
  lg : g < wc.heap.size
  ly : y < wc.heap.size
  la : a < wc.heap.size
theorem gz_new {w : World} {g y a n m p : Nat} {v0 v1 v2 : Value} {F G : Nat → Int} {H : Nat → ByteArray} (h1 : Ints w g 0 n F) (h2 : Ints w y 0 m G) (h3 : Sts w a p H) (l1 : g < w.heap.size) (l2 : y < w.heap.size) (l3 : a < w.heap.size) (ty : TypeId) : GZ (w.alloc (.cells #[v0, v1, v2] ty)) w.heap.size g y a v0 v1 v2 n m p F G H :=
  ⟨by rw [World.cell?_alloc_at (hn := rfl)]; rfl, by rw [World.cell?_alloc_at (hn := rfl)]; rfl, by rw [World.cell?_alloc_at (hn := rfl)]; rfl, h1.heap (Below.heap_alloc _ _ _ l1), h2.heap (Below.heap_alloc _ _ _ l2), h3.heap (Below.heap_alloc _ _ _ l3), by rw [World.size_alloc]; omega, by rw [World.size_alloc]; omega, by rw [World.size_alloc]; omega, by rw [World.size_alloc]; omega⟩
theorem gz_set {w : World} {lo b g y a n m p : Nat} {v0 v1 v2 : Value} {F G : Nat → Int} {H : Nat → ByteArray} (hz : Zg lo w b) (h1 : Ints w g 0 n F) (h2 : Ints w y 0 m G) (h3 : Sts w a p H) (l1 : b < g ∧ g < w.heap.size) (l2 : b < y ∧ y < w.heap.size) (l3 : b < a ∧ a < w.heap.size) : GZ (((w.setCell ⟨b, 0, none⟩ v0).setCell ⟨b, 1, none⟩ v1).setCell ⟨b, 2, none⟩ v2) b g y a v0 v1 v2 n m p F G H := by
  have e : ∀ k, k ≠ b → (((w.setCell ⟨b, 0, none⟩ v0).setCell ⟨b, 1, none⟩ v1).setCell ⟨b, 2, none⟩ v2).heap[k]? = w.heap[k]? := fun k hk => ((Below.heap_setCell _ ⟨b, 2, none⟩ _ k hk).trans (Below.heap_setCell _ ⟨b, 1, none⟩ _ k hk)).trans (Below.heap_setCell _ ⟨b, 0, none⟩ _ k hk)
  obtain ⟨c0, c1, c2⟩ := set3_cell (u := v0) (v := v1) (x := v2) hz.c0 hz.c1 hz.c2
  exact ⟨c0, c1, c2, h1.heap (e g (by omega)), h2.heap (e y (by omega)), h3.heap (e a (by omega)), by simp only [World.size_setCell]; exact hz.lt, by simp only [World.size_setCell]; exact l1.2, by simp only [World.size_setCell]; exact l2.2, by simp only [World.size_setCell]; exact l3.2⟩
theorem al6 {w : World} {g y n n' a m : Nat} {F G : Nat → Int} {H : Nat → ByteArray} {bs : List Nat} {t : Tm} {v : Value} (o : Obj) (h1 : Ints w g 0 n F) (h6 : Ints w y 0 n' G) (h2 : g < w.heap.size) (h7 : y < w.heap.size) (h3 : Sts w a m H) (h4 : a < w.heap.size) (h5 : OsV w bs t v) : Ints (w.alloc o) g 0 n F ∧ Ints (w.alloc o) y 0 n' G ∧ g < (w.alloc o).heap.size ∧ y < (w.alloc o).heap.size ∧ Sts (w.alloc o) a m H ∧ a < (w.alloc o).heap.size ∧ OsV (w.alloc o) bs t v := by
  have hb : Below w.heap.size w (w.alloc o) := (Below.refl _ _).alloc (Nat.le_refl _) o
  exact ⟨h1.below hb h2, h6.below hb h7, by rw [World.size_alloc]; omega, by rw [World.size_alloc]; omega, h3.below hb h4, by rw [World.size_alloc]; omega, OsV.below hb h5⟩
end Go.Proofs.Ytabgfaafpgholaa
