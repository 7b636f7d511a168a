/-
  What the program's joined answers.
-/
import Derived.Test.YtmongbpdbcbhlaaUaA
import Derived.Test.YtmongbpdbcbhlaaApM
namespace Go.Proofs.Ytmongbpdbcbhlaa
open Go.RowKit Go.Shelf
set_option linter.unusedVariables false
attribute [local go_sem] Oper.semAt_some

/-- Where what joins begins, by the free blocks gone through. -/
def SP (p : Nat) (l : List (Nat × Nat × Bool)) (S : Nat) : Prop := (S = p ∧ ∀ b ∈ l, b.1 + b.2.1 + 3 ≠ p) ∨ ∃ m u, (S, m, u) ∈ l ∧ S + m + 3 = p
/-- Where it ends. -/
def EP (r : Nat) (l : List (Nat × Nat × Bool)) (E : Nat) : Prop := (E = r ∧ ∀ b ∈ l, b.1 ≠ r) ∨ ∃ m u, (r, m, u) ∈ l ∧ E = r + m + 3
theorem SP.no {p S : Nat} {l : List (Nat × Nat × Bool)} (h : SP p l S) {b : Nat × Nat × Bool} (hb : b.1 + b.2.1 + 3 ≠ p) : SP p (l ++ [b]) S := by
  rcases h with ⟨h1, h2⟩ | ⟨m, u, h1, h2⟩
  · exact .inl ⟨h1, fun c hc => by rcases List.mem_append.1 hc with hc | hc; exact h2 c hc; rw [List.mem_singleton] at hc; subst hc; exact hb⟩
  · exact .inr ⟨m, u, List.mem_append_left _ h1, h2⟩
theorem SP.yes {p : Nat} {l : List (Nat × Nat × Bool)} {q m : Nat} {u : Bool} (hb : q + m + 3 = p) : SP p (l ++ [(q, m, u)]) q := .inr ⟨m, u, List.mem_append_right _ List.mem_cons_self, hb⟩
theorem EP.no {r E : Nat} {l : List (Nat × Nat × Bool)} (h : EP r l E) {b : Nat × Nat × Bool} (hb : b.1 ≠ r) : EP r (l ++ [b]) E := by
  rcases h with ⟨h1, h2⟩ | ⟨m, u, h1, h2⟩
  · exact .inl ⟨h1, fun c hc => by rcases List.mem_append.1 hc with hc | hc; exact h2 c hc; rw [List.mem_singleton] at hc; subst hc; exact hb⟩
  · exact .inr ⟨m, u, List.mem_append_left _ h1, h2⟩
theorem EP.yes {r : Nat} {l : List (Nat × Nat × Bool)} {m : Nat} {u : Bool} : EP r (l ++ [(r, m, u)]) (r + m + 3) := .inr ⟨m, u, List.mem_append_right _ List.mem_cons_self, rfl⟩

/-- What joined has in hand. -/
structure JoS (w V : World) (ao : Option Addr) (N cap p n Bs Be S E : Nat) : Prop where
  below : Below w.heap.size w V
  ba : Boxed V w.heap.size 26 (.slice ao N cap)
  bb : Boxed3 V (w.heap.size + 1) p n true
  bz : Zer3 V (w.heap.size + 1 + 1)
  bs : Boxed V Bs 3 (.int .i64 S)
  be : Boxed V Be 3 (.int .i64 E)
  ne : Bs ≠ Be
  ls : w.heap.size + 2 < Bs
  le : w.heap.size + 2 < Be
theorem Boxed3.below {W W' : World} {X p m : Nat} {u : Bool} (h : Boxed3 W X p m u) (hb : Below W.heap.size W W') : Boxed3 W' X p m u := (hb.block X (Array.getElem?_eq_some_iff.1 (show W.heap[X]? = _ from h)).1).trans h
theorem Boxed3.other {W : World} {X p m : Nat} {u : Bool} (h : Boxed3 W X p m u) {B : Nat} (hne : X ≠ B) (v : Value) : Boxed3 (W.setCell ⟨B, 0, none⟩ v) X p m u := (Below.heap_setCell W ⟨B, 0, none⟩ v X hne).trans h
theorem Zer3.other {W : World} {X : Nat} (h : Zer3 W X) {B : Nat} (hne : X ≠ B) (v : Value) : Zer3 (W.setCell ⟨B, 0, none⟩ v) X := (Below.heap_setCell W ⟨B, 0, none⟩ v X hne).trans h
theorem JoS.call {w V V' : World} {ao : Option Addr} {N cap p n Bs Be S E : Nat} (s : JoS w V ao N cap p n Bs Be S E) (hb : Below V.heap.size V V') : JoS w V' ao N cap p n Bs Be S E :=
  ⟨below_join s.below hb, boxed_below' s.ba hb, s.bb.below hb, s.bz.below hb, boxed_below' s.bs hb, boxed_below' s.be hb, s.ne, s.ls, s.le⟩
theorem JoS.setS {w V : World} {ao : Option Addr} {N cap p n Bs Be S E : Nat} (s : JoS w V ao N cap p n Bs Be S E) (T : Nat) : JoS w (V.setCell ⟨Bs, 0, none⟩ (.int .i64 T)) ao N cap p n Bs Be T E := by
  have h1 := s.ls
  exact ⟨s.below.setCell (p := ⟨Bs, 0, none⟩) (by show w.heap.size ≤ Bs; omega) _, s.ba.other (by omega) _, s.bb.other (by omega) _, s.bz.other (by omega) _, s.bs.set _, s.be.other (fun e => s.ne e.symm) _, s.ne, s.ls, s.le⟩
theorem JoS.setE {w V : World} {ao : Option Addr} {N cap p n Bs Be S E : Nat} (s : JoS w V ao N cap p n Bs Be S E) (T : Nat) : JoS w (V.setCell ⟨Be, 0, none⟩ (.int .i64 T)) ao N cap p n Bs Be S T := by
  have h1 := s.le
  exact ⟨s.below.setCell (p := ⟨Be, 0, none⟩) (by show w.heap.size ≤ Be; omega) _, s.ba.other (by omega) _, s.bb.other (by omega) _, s.bz.other (by omega) _, s.bs.other s.ne _, s.be.set _, s.ne, s.ls, s.le⟩
theorem joS_own {w : World} {ao : Option Addr} {N cap p n Bs Be S E B : Nat} (hB : w.heap.size ≤ B) : OwnFrom B (fun (_ : Unit) V => JoS w V ao N cap p n Bs Be S E) := fun s A C row hs hg hr => by
  have ho : ∀ r, row = some r → ∃ o : Obj, A.heap[r]? = some o ∧ o.isCells = false := fun r e => (hr r e).2
  exact ⟨ownFrom_below (β := Unit) (Nat.le_refl _) hB () A C row hs.below hg hr, boxed_own _ _ (fun _ : Unit => _) () A C row hs.ba hg ho, boxed3_own _ _ _ _ () A C row hs.bb hg ho, zer3_own _ () A C row hs.bz hg ho, boxed_own _ _ (fun _ : Unit => _) () A C row hs.bs hg ho, boxed_own _ _ (fun _ : Unit => _) () A C row hs.be hg ho, hs.ne, hs.ls, hs.le⟩

theorem box1 {W : World} {k : Nat} {t : TypeId} {v : Value} (h : W.heap.size = k) (o2 o3 : Obj) : Boxed (((W.alloc (.cells #[v] t)).alloc o2).alloc o3).drew k t v := by
  subst h
  exact ((Boxed.new W t v).alloc o2).alloc o3
theorem box2 {W : World} {k : Nat} {t : TypeId} {v : Value} (h : W.heap.size = k) (o1 o3 : Obj) : Boxed (((W.alloc o1).alloc (.cells #[v] t)).alloc o3).drew (k + 1) t v := by
  have hz : (W.alloc o1).heap.size = k + 1 := by rw [World.size_alloc, h]
  have := (Boxed.new (W.alloc o1) t v).alloc o3
  rw [hz] at this
  exact this
theorem box3 {W : World} {k : Nat} {t : TypeId} {v : Value} (h : W.heap.size = k) (o1 o2 : Obj) : Boxed (((W.alloc o1).alloc o2).alloc (.cells #[v] t)).drew (k + 1 + 1) t v := by
  have hz : ((W.alloc o1).alloc o2).heap.size = k + 1 + 1 := by rw [World.size_alloc, World.size_alloc, h]
  have := Boxed.new ((W.alloc o1).alloc o2) t v
  rw [hz] at this
  exact this
/-- The three boxes ahead of what the region makes. -/
structure Jo3 (w W : World) (ao : Option Addr) (N cap p n : Nat) : Prop where
  below : Below w.heap.size w W
  ba : Boxed W w.heap.size 26 (.slice ao N cap)
  bb : Boxed3 W (w.heap.size + 1) p n true
  bz : Zer3 W (w.heap.size + 1 + 1)
  sz : W.heap.size = w.heap.size + 1 + 1 + 1
theorem Jo3.start (w : World) (ao : Option Addr) (N cap p n : Nat) : Jo3 w (((w.alloc (.cells #[.slice ao N cap] 26)).alloc (.cells #[.int .i64 p, .int .i64 n, .bool true] 54)).alloc (.cells #[.int .i64 0, .int .i64 0, .bool false] 54)) ao N cap p n := by
  have q1 := ((Boxed.new w 26 (.slice ao N cap)).alloc (.cells #[.int .i64 p, .int .i64 n, .bool true] 54)).alloc (.cells #[.int .i64 0, .int .i64 0, .bool false] 54)
  have q2 := (Boxed3.new (w.alloc (.cells #[.slice ao N cap] 26)) p n true).below ((Below.refl _ _).alloc (Nat.le_refl _) (.cells #[.int .i64 0, .int .i64 0, .bool false] 54))
  have q3 : Zer3 (((w.alloc (.cells #[.slice ao N cap] 26)).alloc (.cells #[.int .i64 p, .int .i64 n, .bool true] 54)).alloc (.cells #[.int .i64 0, .int .i64 0, .bool false] 54)) ((w.alloc (.cells #[.slice ao N cap] 26)).alloc (.cells #[.int .i64 p, .int .i64 n, .bool true] 54)).heap.size := World.alloc_heap_new _ _
  simp only [World.size_alloc] at q2 q3
  exact ⟨(((Below.refl _ w).alloc (Nat.le_refl _) _).alloc (by simp) _).alloc (by simp; omega) _, q1, q2, q3, by simp⟩
theorem Jo3.three {w W : World} {ao : Option Addr} {N cap p n Bs Be : Nat} (h : Jo3 w W ao N cap p n) (o1 o2 o3 : Obj) (bs : Boxed (((W.alloc o1).alloc o2).alloc o3).drew Bs 3 (.int .i64 p)) (be : Boxed (((W.alloc o1).alloc o2).alloc o3).drew Be 3 (.int .i64 ((p : Int) + n + 3))) (ne : Bs ≠ Be) (ls : w.heap.size + 2 < Bs) (le : w.heap.size + 2 < Be) :
    JoS w (((W.alloc o1).alloc o2).alloc o3).drew ao N cap p n Bs Be p (p + n + 3) := by
  have hb : Below W.heap.size W (((W.alloc o1).alloc o2).alloc o3).drew := ((((Below.refl _ W).alloc (Nat.le_refl _) o1).alloc (by simp) o2).alloc (by simp; omega) o3).drew
  rw [show ((p : Int) + n + 3) = ((p + n + 3 : Nat) : Int) by omega] at be
  exact ⟨below_join h.below hb, boxed_below' h.ba hb, h.bb.below hb, h.bz.below hb, bs, be, ne, ls, le⟩

/-- What a round of joined has in hand. -/
structure JoX (w U0 U : World) (ao : Option Addr) (N cap p n Bs Be S E Bx q m : Nat) (u : Bool) (T : Nat) : Prop where
  j : JoS w U ao N cap p n Bs Be S E
  x : Boxed3 U Bx q m u
  ko : KeepsOthers U0 U
  kb : KB w.heap.size T U0 U
theorem JoX.call {w U0 U U' : World} {ao : Option Addr} {N cap p n Bs Be S E Bx q m : Nat} {u : Bool} {T : Nat} (h : JoX w U0 U ao N cap p n Bs Be S E Bx q m u T) (hb : Below U.heap.size U U') : JoX w U0 U' ao N cap p n Bs Be S E Bx q m u T :=
  ⟨h.j.call hb, h.x.below hb, h.ko.trans (KeepsOthers.of_below' hb), h.kb.trans (KB.of_below hb h.j.below.size)⟩
theorem JoX.setS {w U0 U : World} {ao : Option Addr} {N cap p n Bs Be S E Bx q m : Nat} {u : Bool} {T : Nat} (h : JoX w U0 U ao N cap p n Bs Be S E Bx q m u T) (hne : Bx ≠ Bs) (Z : Nat) : JoX w U0 (U.setCell ⟨Bs, 0, none⟩ (.int .i64 Z)) ao N cap p n Bs Be Z E Bx q m u T :=
  ⟨h.j.setS Z, h.x.other hne _, h.ko.trans (KeepsOthers.setCell _ _ _), h.kb.trans (KB.set h.j.bs (by have := h.j.ls; omega) (by decide) (by decide) (by decide) _)⟩
theorem JoX.setE {w U0 U : World} {ao : Option Addr} {N cap p n Bs Be S E Bx q m : Nat} {u : Bool} {T : Nat} (h : JoX w U0 U ao N cap p n Bs Be S E Bx q m u T) (hne : Bx ≠ Be) (Z : Nat) : JoX w U0 (U.setCell ⟨Be, 0, none⟩ (.int .i64 Z)) ao N cap p n Bs Be S Z Bx q m u T :=
  ⟨h.j.setE Z, h.x.other hne _, h.ko.trans (KeepsOthers.setCell _ _ _), h.kb.trans (KB.set h.j.be (by have := h.j.le; omega) (by decide) (by decide) (by decide) _)⟩
theorem three_sets (V : World) (X : Nat) (a b c : Value) {a0 b0 c0 : Value} (h0 : V.cell? ⟨X, 0, none⟩ = some a0) (h1 : V.cell? ⟨X, 1, none⟩ = some b0) (h2 : V.cell? ⟨X, 2, none⟩ = some c0) :
    (((V.setCell ⟨X, 0, none⟩ a).setCell ⟨X, 1, none⟩ b).setCell ⟨X, 2, none⟩ c).cell? ⟨X, 0, none⟩ = some a ∧ (((V.setCell ⟨X, 0, none⟩ a).setCell ⟨X, 1, none⟩ b).setCell ⟨X, 2, none⟩ c).cell? ⟨X, 1, none⟩ = some b ∧
      (((V.setCell ⟨X, 0, none⟩ a).setCell ⟨X, 1, none⟩ b).setCell ⟨X, 2, none⟩ c).cell? ⟨X, 2, none⟩ = some c := by
  have o : ∀ {W : World} {k l : Nat} {v u : Value}, k ≠ l → W.cell? ⟨X, k, none⟩ = some v → (W.setCell ⟨X, l, none⟩ u).cell? ⟨X, k, none⟩ = some v := fun hkl hc => by
    rw [World.cell?_setCell_other (h := fun q => by simp at q; try omega)]; exact hc
  exact ⟨o (by decide) (o (by decide) (World.cell?_setCell_same V _ _ h0)), o (by decide) (World.cell?_setCell_same _ _ _ (o (by decide) h1)), World.cell?_setCell_same _ _ _ (o (by decide) (o (by decide) h2))⟩
theorem SP.le {p S : Nat} {l : List (Nat × Nat × Bool)} (h : SP p l S) : S ≤ p := by
  rcases h with ⟨h, _⟩ | ⟨m, u, _, h⟩ <;> omega
theorem EP.le {f : Nat → Int} {N r E : Nat} (h : EP r (fk f N) E) : E ≤ r ∨ E ≤ N := by
  rcases h with ⟨h, _⟩ | ⟨m, u, h1, h2⟩
  · exact .inl (by omega)
  · have := (bk_blk (List.mem_filter.1 h1).1).2.1
    exact .inr (by omega)

def jMid (w : World) (ao : Option Addr) (N cap p n : Nat) : Exit → Act → World → Prop
  | .normal, a, V => ∃ Bs Be, a = { tmps := #[.agg #[.slice ao N cap], .agg #[.int .i64 p, .int .i64 n, .bool true], .pointer (some ⟨w.heap.size, 0, none⟩), .pointer (some ⟨w.heap.size + 1, 0, none⟩), .pointer (some ⟨w.heap.size + 1 + 1, 0, none⟩), .pointer (some ⟨Bs, 0, none⟩), .pointer (some ⟨Be, 0, none⟩), undef, .pointer (some ⟨w.heap.size + 1, 0, none⟩), .int .i64 p, .agg #[.int .i64 p, .int .i64 n, .bool true], .int .i64 ((p : Int) + n + 3), undef, undef, undef, undef, undef, undef, undef, undef, undef, undef, undef, undef, undef, undef, undef, undef, undef, undef, undef, undef, undef, undef, undef], defers := [] } ∧ JoS w V ao N cap p n Bs Be p (p + n + 3)
  | _, _, _ => False
theorem cast3 (p n : Nat) : ((p : Int) + n + 3) = ((p + n + 3 : Nat) : Int) := by omega

end Go.Proofs.Ytmongbpdbcbhlaa
