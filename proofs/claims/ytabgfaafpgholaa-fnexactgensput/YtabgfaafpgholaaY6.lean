/-
  The law over PutTerm: what it has in hand.
-/
import Derived.Test.YtabgfaafpgholaaY5
namespace Go.Proofs.Ytabgfaafpgholaa
open Go.RowKit
set_option linter.unusedVariables false

/-- What both are to answer. -/
def OutR (xs : List Int) (A : List ByteArray) (R : Option (List Int × List ByteArray × Int)) (ys : List Int) (B : List ByteArray) (x : Int) (ok : Bool) : Prop :=
  (ok = true ∧ ∃ ns, R = some (ns, B, x) ∧ ys = xs ++ ns) ∨ (ok = false ∧ x = 0 ∧ ys = xs ∧ B = A ∧ R = none)
theorem OutR.one {xs : List Int} {A : List ByteArray} {R : Option (List Int × List ByteArray × Int)} {ys ys' : List Int} {B B' : List ByteArray} {x x' : Int} {ok ok' : Bool} (h : OutR xs A R ys B x ok) (h' : OutR xs A R ys' B' x' ok') : ys' = ys ∧ B' = B ∧ x' = x ∧ ok' = ok := by
  rcases h with ⟨rfl, ns, e1, rfl⟩ | ⟨rfl, rfl, rfl, rfl, e1⟩
  · rcases h' with ⟨rfl, ns', e2, rfl⟩ | ⟨rfl, rfl, rfl, rfl, e2⟩
    · rw [e1] at e2
      simp only [Option.some.injEq, Prod.mk.injEq] at e2
      obtain ⟨rfl, rfl, rfl⟩ := e2
      exact ⟨rfl, rfl, rfl, rfl⟩
    · rw [e1] at e2; cases e2
  · rcases h' with ⟨rfl, ns', e2, rfl⟩ | ⟨rfl, rfl, rfl, rfl, e2⟩
    · rw [e1] at e2; cases e2
    · exact ⟨rfl, rfl, rfl, rfl⟩
theorem OutR.few {xs : List Int} {A : List ByteArray} {t : Tm} {ys : List Int} {B : List ByteArray} {x : Int} {ok : Bool} (h : OutR xs A (PtR t xs A) ys B x ok) (hx : xs.length ≤ 1048576) (hA : A.length + nT t ≤ 1048577) : ys.length ≤ 1048576 ∧ B.length ≤ 1048577 := by
  rcases h with ⟨rfl, ns, e1, rfl⟩ | ⟨rfl, rfl, rfl, rfl, e1⟩
  · unfold PtR at e1
    split at e1
    · rename_i hc
      have h1 := ptT_len t _ A ns B x (goodK (look_b hc.1).1) e1
      have h2 := ptT_cnt t _ A ns B x e1
      rw [List.length_append]
      exact ⟨by omega, by omega⟩
    · cases e1
  · exact ⟨hx, by omega⟩
/-- What the specification answered, and the arguments. -/
structure LP (w wc : World) (c3 : Value) (c5 : Array Value) (b8 g8 c8 a8 : Nat) (Y : List Int) (B : List ByteArray) (M : Nat) : Prop where
  bel : Below w.heap.size w wc
  q3 : wc.cell? ⟨w.heap.size, 0, none⟩ = some c3
  q5 : ∀ o, wc.cell? ⟨w.heap.size + 1, o, none⟩ = c5[o]?
  q8 : wc.cell? ⟨b8, 0, none⟩ = some (.slice (some ⟨g8, 0, none⟩) Y.length c8)
  r8 : Ints wc g8 0 Y.length (lfI Y)
  s8 : Sts wc a8 B.length (lf B)
  l1 : w.heap.size + 2 ≤ M
  l2 : b8 < M
  l3 : g8 < M
  l4 : a8 < M
  l5 : M ≤ wc.heap.size
theorem LP.next {w wc w' : World} {c3 : Value} {c5 : Array Value} {b8 g8 c8 a8 M : Nat} {Y : List Int} {B : List ByteArray} (h : LP w wc c3 c5 b8 g8 c8 a8 Y B M) (hb : Below M wc w') : LP w w' c3 c5 b8 g8 c8 a8 Y B M := by
  have l1 := h.l1
  have l2 := h.l2
  have l3 := h.l3
  have l4 := h.l4
  have l5 := h.l5
  have hs := hb.size
  refine ⟨h.bel.trans (hb.mono (by omega)), ?_, fun o => ?_, ?_, h.r8.heap (hb.block g8 l3), h.s8.heap (hb.block a8 l4), l1, l2, l3, l4, by omega⟩
  · rw [hb.cell (p := ⟨w.heap.size, 0, none⟩) (by show w.heap.size < M; omega)]; exact h.q3
  · rw [hb.cell (p := ⟨w.heap.size + 1, o, none⟩) (by show w.heap.size + 1 < M; omega)]; exact h.q5 o
  · rw [hb.cell (p := ⟨b8, 0, none⟩) l2]; exact h.q8
theorem LP.call {w wc w' : World} {c3 : Value} {c5 : Array Value} {b8 g8 c8 a8 M : Nat} {Y : List Int} {B : List ByteArray} (h : LP w wc c3 c5 b8 g8 c8 a8 Y B M) (hb : Below wc.heap.size wc w') : LP w w' c3 c5 b8 g8 c8 a8 Y B M := h.next (hb.mono h.l5)
/-- What the program answered: the variable and its rows. -/
structure GX (wc : World) (b g c a : Nat) (n m : Nat) (F : Nat → Int) (H : Nat → ByteArray) : Prop where
  q : wc.cell? ⟨b, 0, none⟩ = some (.slice (some ⟨g, 0, none⟩) n c)
  r : Ints wc g 0 n F
  s : Sts wc a m H
  lb : b < wc.heap.size
  lg : g < wc.heap.size
  la : a < wc.heap.size
theorem GX.go {wc w' : World} {b g c a n m : Nat} {F : Nat → Int} {H : Nat → ByteArray} (h : GX wc b g c a n m F H) (hk : ∀ k, k = b ∨ k = g ∨ k = a → w'.heap[k]? = wc.heap[k]?) (hs : wc.heap.size ≤ w'.heap.size) : GX w' b g c a n m F H :=
  ⟨by rw [World.cell?_of_block (w := wc) (hk b (.inl rfl))]; exact h.q, h.r.heap (hk g (.inr (.inl rfl))), h.s.heap (hk a (.inr (.inr rfl))), Nat.lt_of_lt_of_le h.lb hs, Nat.lt_of_lt_of_le h.lg hs, Nat.lt_of_lt_of_le h.la hs⟩
theorem GX.call {wc w' : World} {b g c a n m : Nat} {F : Nat → Int} {H : Nat → ByteArray} (h : GX wc b g c a n m F H) (hb : Below wc.heap.size wc w') : GX w' b g c a n m F H :=
  h.go (fun k hk => hb.block k (by rcases hk with rfl | rfl | rfl; exact h.lb; exact h.lg; exact h.la)) hb.size
theorem GX.turn {wc w' : World} {b g c a n m y : Nat} {F : Nat → Int} {H : Nat → ByteArray} (h : GX wc b g c a n m F H) (ht : Turn y wc w') (h1 : b ≠ y) (h2 : g ≠ y) (h3 : a ≠ y) : GX w' b g c a n m F H :=
  h.go (fun k hk => by rcases hk with rfl | rfl | rfl; exact ht.block _ h.lb h1; exact ht.block _ h.lg h2; exact ht.block _ h.la h3) ht.size
theorem GX.out {wc w' : World} {b g c a n m : Nat} {bs : List Nat} {F : Nat → Int} {H : Nat → ByteArray} (h : GX wc b g c a n m F H) (ht : OutB bs wc w') (h1 : b ∉ bs) (h2 : g ∉ bs) (h3 : a ∉ bs) : GX w' b g c a n m F H :=
  h.go (fun k hk => by rcases hk with rfl | rfl | rfl; exact ht.block _ h.lb h1; exact ht.block _ h.lg h2; exact ht.block _ h.la h3) ht.size
/-- The term that was handed in. -/
structure TX (wc : World) (b : Nat) (c : Array Value) (l : List Tm) (bs : List Nat) (xa : Option Addr) : Prop where
  q : ∀ o, wc.cell? ⟨b, o, none⟩ = c[o]?
  os : OsL wc l bs xa
  lb : b < wc.heap.size
theorem TX.turn {wc w' : World} {b y : Nat} {c : Array Value} {l : List Tm} {bs : List Nat} {xa : Option Addr} (h : TX wc b c l bs xa) (ht : Turn y wc w') (h1 : b ≠ y) (h2 : y ∉ bs) : TX w' b c l bs xa :=
  ⟨fun o => by rw [World.cell?_of_block (w := wc) (ht.block b h.lb h1)]; exact h.q o, OsL.keep l bs xa (fun x hx hl => ht.block x hl (fun e => h2 (e ▸ hx))) h.os, Nat.lt_of_lt_of_le h.lb ht.size⟩
theorem TX.call {wc w' : World} {b : Nat} {c : Array Value} {l : List Tm} {bs : List Nat} {xa : Option Addr} (h : TX wc b c l bs xa) (hb : Below wc.heap.size wc w') : TX w' b c l bs xa :=
  ⟨fun o => by rw [hb.cell (p := ⟨b, o, none⟩) h.lb]; exact h.q o, OsL.below hb h.os, Nat.lt_of_lt_of_le h.lb hb.size⟩
theorem turnM {y M : Nat} {wc w' : World} (h : Turn y wc w') (h1 : M ≤ wc.heap.size) (h2 : M ≤ y) : Below M wc w' := ⟨h.os, h.tape, h.output, h.size, fun k hk => h.block k (by omega) (by omega)⟩
theorem outM {bs : List Nat} {M : Nat} {wc w' : World} (h : OutB bs wc w') (h1 : M ≤ wc.heap.size) (h2 : ∀ b ∈ bs, M ≤ b) : Below M wc w' := ⟨h.os, h.tape, h.output, h.size, fun k hk => h.block k (by omega) (fun hm => by have := h2 k hm; omega)⟩
theorem Sts.turn9 {y b n : Nat} {f : Nat → ByteArray} {wc w' : World} (h : Sts wc b n f) (ht : Turn y wc w') (hl : b < wc.heap.size) (hn : b ≠ y) : Sts w' b n f := h.heap (ht.block b hl hn)
theorem rowF_at (N : Nat) (f : Nat → Int) (j : Nat) (h : j < N) : lfI (rowF N f) j = f j := lfI_row N f j h
mutual
theorem cT_ntP : ∀ (k n : Int) (s : ByteArray) (l : List Tm), cT (.mk k n s l) = 3 * (1 + ntL l)
  | k, n, s, l => by rw [cT, cL_ntP l]; omega
theorem cL_ntP : ∀ (l : List Tm), cL l = 3 * ntL l
  | [] => by rw [cL, ntL]
  | .mk k n s l :: r => by rw [cL, ntL, cL_ntP r, cT_ntP k n s l]; omega
end
/-- A variable that nothing is in yet. -/
structure Zc (lo : Nat) (w : World) (b : Nat) : Prop where
  c : w.cell? ⟨b, 0, none⟩ = some (.slice none 0 0)
  f : w.frozen? ⟨b, 0, none⟩ = false
  lt : b < w.heap.size
  ge : lo ≤ b
theorem Zc.new {lo : Nat} (w : World) (h : lo ≤ w.heap.size) : Zc lo (w.alloc (.cells #[.slice none 0 0] 32)) w.heap.size :=
  ⟨by rw [World.cell?_alloc_at (hn := rfl)]; rfl, by rw [World.frozen?_alloc_at (hn := rfl)], by rw [World.size_alloc]; omega, h⟩
theorem Zc.below {lo b : Nat} {w w' : World} (h : Zc lo w b) (hb : Below w.heap.size w w') : Zc lo w' b :=
  ⟨by rw [hb.cell (p := ⟨b, 0, none⟩) h.lt]; exact h.c, by rw [hb.frozen (p := ⟨b, 0, none⟩) h.lt]; exact h.f, Nat.lt_of_lt_of_le h.lt hb.size, h.ge⟩
theorem belAl {X w : World} (h : Below X.heap.size X w) (o : Obj) : Below X.heap.size X (w.alloc o) := h.alloc h.size o
theorem belJn {X w w' : World} (h : Below X.heap.size X w) (k : Below w.heap.size w w') : Below X.heap.size X w' := h.trans (k.mono h.size)
theorem gx_new {w : World} {g c a n m : Nat} {F : Nat → Int} {H : Nat → ByteArray} (h1 : Ints w g 0 n F) (h2 : Sts w a m H) (h3 : g < w.heap.size) (h4 : a < w.heap.size) (ty : TypeId) : GX (w.alloc (.cells #[.slice (some ⟨g, 0, none⟩) n c] ty)) w.heap.size g c a n m F H :=
  ⟨by rw [World.cell?_alloc_at (hn := rfl)]; rfl, h1.heap (Below.heap_alloc _ _ _ h3), h2.heap (Below.heap_alloc _ _ _ h4), by rw [World.size_alloc]; omega, by rw [World.size_alloc]; omega, by rw [World.size_alloc]; omega⟩
theorem gx_set {w : World} {lo b g c a n m : Nat} {F : Nat → Int} {H : Nat → ByteArray} (hz : Zc lo w b) (h1 : Ints w g 0 n F) (h2 : Sts w a m H) (h3 : b < g ∧ g < w.heap.size) (h4 : b < a ∧ a < w.heap.size) : GX (w.setCell ⟨b, 0, none⟩ (.slice (some ⟨g, 0, none⟩) n c)) b g c a n m F H :=
  ⟨World.cell?_setCell_same _ _ _ hz.c, h1.heap (Below.heap_setCell _ _ _ _ (by show g ≠ b; omega)), h2.heap (Below.heap_setCell _ _ _ _ (by show a ≠ b; omega)), by rw [World.size_setCell]; exact hz.lt, by rw [World.size_setCell]; exact h3.2, by rw [World.size_setCell]; exact h4.2⟩
theorem GX.drew {wc : World} {b g c a n m : Nat} {F : Nat → Int} {H : Nat → ByteArray} (h : GX wc b g c a n m F H) : GX wc.drew b g c a n m F H := h.call (Below.refl _ _).drew
theorem oneOf {w X w' : World} (hb : Below X.heap.size X w') (h : X = w ∨ ∃ o, X = w.alloc o) : Below w.heap.size w w' := by
  rcases h with rfl | ⟨o, rfl⟩
  · exact hb
  · exact ((Below.refl _ _).alloc (Nat.le_refl _) o).trans (hb.mono (by rw [World.size_alloc]; omega))
theorem intsN {w X w' : World} {g n : Nat} {F : Nat → Int} (h : Ints w g 0 n F) (hb : Below X.heap.size X w') (hl : g < w.heap.size) (hx : X = w ∨ ∃ o, X = w.alloc o) : Ints w' g 0 n F := h.below (oneOf hb hx) hl
theorem stsN {w X w' : World} {g n : Nat} {F : Nat → ByteArray} (h : Sts w g n F) (hb : Below X.heap.size X w') (hl : g < w.heap.size) (hx : X = w ∨ ∃ o, X = w.alloc o) : Sts w' g n F := h.below (oneOf hb hx) hl
theorem ltN {w X w' : World} {g : Nat} (hb : Below X.heap.size X w') (hl : g < w.heap.size) (hx : X = w ∨ ∃ o, X = w.alloc o) : g < w'.heap.size := Nat.lt_of_lt_of_le hl (oneOf hb hx).size
theorem al5 {w : World} {g n a m : Nat} {F : Nat → Int} {H : Nat → ByteArray} {bs : List Nat} {t : Tm} {v : Value} (o : Obj) (h1 : Ints w g 0 n F) (h2 : g < w.heap.size) (h3 : Sts w a m H) (h4 : a < w.heap.size) (h5 : OsV w bs t v) : Ints (w.alloc o) g 0 n F ∧ g < (w.alloc o).heap.size ∧ Sts (w.alloc o) a m H ∧ a < (w.alloc o).heap.size ∧ OsV (w.alloc o) bs t v := by
  have hb : Below w.heap.size w (w.alloc o) := (Below.refl _ _).alloc (Nat.le_refl _) o
  exact ⟨h1.below hb h2, by rw [World.size_alloc]; omega, h3.below hb h4, by rw [World.size_alloc]; omega, OsV.below hb h5⟩
theorem hidP {p : Prop} (h : p) : Hid p := h
theorem zset {X w : World} {b : Nat} (h : Zc X.heap.size w b) (hk : Below X.heap.size X w) : ∀ v, Below X.heap.size X (w.setCell ⟨b, 0, none⟩ v) := fun v => hk.setCell h.ge v
theorem zlast {X wC w : World} {b g a : Nat} (h : Zc X.heap.size wC b) (hb : Below wC.heap.size wC w) (hg : wC.heap.size ≤ g) (ha : wC.heap.size ≤ a) : Zc X.heap.size w b ∧ b < g ∧ b < a := ⟨h.below hb, Nat.lt_of_lt_of_le h.lt hg, Nat.lt_of_lt_of_le h.lt ha⟩
theorem Zc.newd {lo : Nat} (w : World) (h : lo ≤ w.heap.size) : Zc lo (w.alloc (.cells #[.slice none 0 0] 32)).drew w.heap.size := (Zc.new w h).below (Below.refl _ _).drew
end Go.Proofs.Ytabgfaafpgholaa
