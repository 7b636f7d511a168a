/-
  What the exact laws over lists of places have in hand: the specification's list, the argument's copy in its box, the program's list.
-/
import Derived.Test.YtejhfoahpopeoacExC
import Derived.Test.YtejhfoahpopeoacTiA
namespace Go.Proofs.Ytejhfoahpopeoac
open Go.RowKit
set_option linter.unusedVariables false

/-- The value v is a list of n numbers F that may be written, in a block from base on. -/
def RowI (w : World) (base : Nat) (v : Value) (n : Nat) (F : Nat → Int) : Prop :=
  (v = .slice none 0 0 ∧ n = 0) ∨ ∃ g cap, v = .slice (some ⟨g, 0, none⟩) n cap ∧ base ≤ g ∧ g < w.heap.size ∧ Ints w g 0 n F

theorem Places.row {w : World} {base : Nat} {v : Value} {l : List Nat} (h : Places w base v l) : RowI w base v l.length (fun j => (l.getD j 0 : Nat)) := by
  have hh := h
  rcases h.2 with ⟨rfl, hn⟩ | ⟨g, cap, cur, rfl, hb, hg, hc, hm, hs, ht⟩
  · exact .inl ⟨rfl, hn⟩
  · refine .inr ⟨g, cap, rfl, hb, (Array.getElem?_eq_some_iff.1 hg).1, fun j hj => ?_, fun x => ?_⟩
    · have hc := hh.cells (g := g) rfl j (.int .i64 (l.getD j 0 : Nat)) (by simp [hj])
      rw [Addr.add_lit] at hc
      exact hc
    · simp [World.frozen?, hg]
theorem RowI.call {w w' : World} {base : Nat} {v : Value} {n : Nat} {F : Nat → Int} (h : RowI w base v n F) (hb : Below w.heap.size w w') : RowI w' base v n F := by
  rcases h with h | ⟨g, cap, e, h1, h2, h3⟩
  · exact .inl h
  · exact .inr ⟨g, cap, e, h1, Nat.lt_of_lt_of_le h2 hb.size, h3.below hb h2⟩
theorem RowI.turn {w w' : World} {base cb : Nat} {v : Value} {n : Nat} {F : Nat → Int} (h : RowI w base v n F) (ht : Turn cb w w') (hc : cb < base) : RowI w' base v n F := by
  rcases h with h | ⟨g, cap, e, h1, h2, h3⟩
  · exact .inl h
  · exact .inr ⟨g, cap, e, h1, Nat.lt_of_lt_of_le h2 ht.size, h3.turn ht (by omega) h2⟩
theorem RowI.slice {w : World} {base : Nat} {v : Value} {n : Nat} {F : Nat → Int} (h : RowI w base v n F) : ∃ ao cap, v = .slice ao n cap ∧ Rd w ao n F := by
  rcases h with ⟨e, h0⟩ | ⟨g, cap, e, h1, h2, h3⟩
  · subst h0; exact ⟨none, 0, e, Rd.nil _ _ _⟩
  · exact ⟨_, cap, e, h3.rd⟩

theorem markNil' (k : Int) (w : World) :
    Calls Try.prog 11 #[.slice none 0 0, .int .i64 k] w fun e w' => e = .returned (.int .i64 k) ∧ w' = w := by
  go_enter Try.func11, Try.ntmps11
  go_wp2_with fail
  go_loop [1, 5] (fun a i => i = .int .i64 0 ∧ a = .int .i64 k) (fun _ _ => 0)
  case atStart => exact ⟨rfl, rfl⟩
  case round =>
    obtain ⟨rfl, rfl⟩ := hrel
    go_wp2_with fail
    go_ret
    exact ⟨rfl, rfl⟩
theorem heldNil' (k : Int) (w : World) :
    Calls Try.prog 12 #[.slice none 0 0, .int .i64 k] w fun e w' => e = .returned (.int .i64 k) ∧ w' = w := by
  go_enter Try.func12, Try.ntmps12
  go_wp2_with fail
  go_loop [1, 5] (fun a i => i = .int .i64 0 ∧ a = .int .i64 k) (fun _ _ => 0)
  case atStart => exact ⟨rfl, rfl⟩
  case round =>
    obtain ⟨rfl, rfl⟩ := hrel
    go_wp2_with fail
    go_ret
    exact ⟨rfl, rfl⟩
theorem markRow (w : World) (base : Nat) (v : Value) (n : Nat) (F : Nat → Int) (h : RowI w base v n F) (k : Int) (hk : 0 ≤ k ∧ k ≤ 1048576) (hn : n ≤ 1048576) :
    Calls Try.prog 11 #[v, .int .i64 k] w fun e w' => e = .returned (.int .i64 (k + n)) ∧ (∃ gb, base ≤ gb ∧ Turn gb w w') ∧ RowI w' base v n (fun j => k + j) := by
  rcases h with ⟨rfl, rfl⟩ | ⟨g, cap, rfl, h1, h2, h3⟩
  · refine (markNil' k w).mono ?_
    rintro e w' ⟨rfl, rfl⟩
    exact ⟨ret_int (by simp), ⟨base, Nat.le_refl _, Turn.refl _ _⟩, .inl ⟨rfl, rfl⟩⟩
  · refine (markIntS_any g 0 n cap F w h3 k hk hn).mono ?_
    rintro e w' ⟨rfl, ht, hi⟩
    exact ⟨rfl, ⟨g, h1, ht⟩, .inr ⟨g, cap, rfl, h1, Nat.lt_of_lt_of_le h2 ht.size, hi⟩⟩
theorem heldRow (w : World) (base : Nat) (v : Value) (n : Nat) (k : Int) (h : RowI w base v n (fun j => k + j)) (hk : 0 ≤ k ∧ k ≤ 1048576) (hn : n ≤ 1048576) :
    Calls Try.prog 12 #[v, .int .i64 k] w fun e w' => e = .returned (.int .i64 (k + n)) ∧ w' = w := by
  rcases h with ⟨rfl, rfl⟩ | ⟨g, cap, rfl, h1, h2, h3⟩
  · refine (heldNil' k w).mono ?_
    rintro e w' ⟨rfl, rfl⟩
    exact ⟨ret_int (by simp), rfl⟩
  · exact heldIntS_any g 0 n cap w k h3 hk hn
theorem eqRow (w : World) (b1 : Nat) (v : Value) (sa : Option Addr) (sc n : Nat) (F h : Nat → Int) (hv : RowI w b1 v n F) (hs : Rd w sa n h) (he : ∀ j, j < n → F j = h j) (hn : n ≤ 1048576) :
    Calls Try.prog 8 #[v, .slice sa n sc] w fun e w' => e = .returned (.bool true) ∧ Below w.heap.size w w' := by
  obtain ⟨ao, cap, rfl, hr⟩ := hv.slice
  exact eqIntS_same ao sa n cap sc F h w hr hs he hn

/-- S1: behind the specification's list; the argument's copy g4 in the box X; the program's list from S5 on. -/
structure Sx (w wx : World) (ao : Option Addr) (N cap : Nat) (f : Nat → Int) (sa : Option Addr) (L : Nat) (h : Nat → Int) (S1 g4 X S5 : Nat) (F4 : Nat → Int) (v : Value) (Fi : Nat → Int) : Prop where
  below : Below w.heap.size w wx
  box0 : wx.cell? ⟨w.heap.size, 0, none⟩ = some (.slice ao N cap)
  sp : Rd wx sa L h
  spl : L ≠ 0 → ∀ a, sa = some a → a.block < S1
  xbox : wx.cell? ⟨X, 0, none⟩ = some (.slice (some ⟨g4, 0, none⟩) N N)
  xw : Ints wx g4 0 N F4
  im : RowI wx S5 v L Fi
  l0 : w.heap.size < S1
  l1 : S1 ≤ g4
  l2 : g4 < X
  l3 : X < S5
  l4 : S5 ≤ wx.heap.size
theorem Sx.call {w wx wy : World} {ao : Option Addr} {N cap : Nat} {f : Nat → Int} {sa : Option Addr} {L : Nat} {h : Nat → Int} {S1 g4 X S5 : Nat} {F4 : Nat → Int} {v : Value} {Fi : Nat → Int}
    (s : Sx w wx ao N cap f sa L h S1 g4 X S5 F4 v Fi) (hb : Below wx.heap.size wx wy) : Sx w wy ao N cap f sa L h S1 g4 X S5 F4 v Fi := by
  have a0 := s.l0
  have a1 := s.l1
  have a2 := s.l2
  have a3 := s.l3
  have a4 := s.l4
  exact ⟨below_join s.below hb, (hb.cell (p := ⟨w.heap.size, 0, none⟩) (by show w.heap.size < _; omega)).trans s.box0, s.sp.below hb, s.spl, (hb.cell (p := ⟨X, 0, none⟩) (by show X < _; omega)).trans s.xbox, s.xw.below hb (by omega), s.im.call hb, a0, a1, a2, a3, Nat.le_trans a4 hb.size⟩
theorem Rd.turn' {cb : Nat} {w w' : World} {ao : Option Addr} {N : Nat} {f : Nat → Int} (h : Rd w ao N f) (t : Turn cb w w') (hn : N ≠ 0 → ∀ a, ao = some a → a.block ≠ cb) : Rd w' ao N f := fun h0 => by
  obtain ⟨b, o, e, hc⟩ := h h0
  exact ⟨b, o, e, fun j hj => t.cell (hn h0 _ e) (hc j hj)⟩
theorem Sx.markX {w wx wy : World} {ao : Option Addr} {N cap : Nat} {f : Nat → Int} {sa : Option Addr} {L : Nat} {h : Nat → Int} {S1 g4 X S5 : Nat} {F4 G4 : Nat → Int} {v : Value} {Fi : Nat → Int}
    (s : Sx w wx ao N cap f sa L h S1 g4 X S5 F4 v Fi) (ht : Turn g4 wx wy) (hi : Ints wy g4 0 N G4) : Sx w wy ao N cap f sa L h S1 g4 X S5 G4 v Fi := by
  have a0 := s.l0
  have a1 := s.l1
  have a2 := s.l2
  have a3 := s.l3
  have a4 := s.l4
  exact ⟨Turn.below s.below s.below.size ht (by omega), ht.cell (by omega) s.box0, s.sp.turn' ht (fun hn a e => by have := s.spl hn a e; omega), s.spl, ht.cell (by omega) s.xbox, hi, s.im.turn ht (by omega), a0, a1, a2, a3, Nat.le_trans a4 ht.size⟩
theorem Sx.markI {w wx wy : World} {ao : Option Addr} {N cap : Nat} {f : Nat → Int} {sa : Option Addr} {L : Nat} {h : Nat → Int} {S1 g4 X S5 : Nat} {F4 : Nat → Int} {v : Value} {Fi Gi : Nat → Int} {gb : Nat}
    (s : Sx w wx ao N cap f sa L h S1 g4 X S5 F4 v Fi) (hg : S5 ≤ gb) (ht : Turn gb wx wy) (hi : RowI wy S5 v L Gi) : Sx w wy ao N cap f sa L h S1 g4 X S5 F4 v Gi := by
  have a0 := s.l0
  have a1 := s.l1
  have a2 := s.l2
  have a3 := s.l3
  have a4 := s.l4
  exact ⟨Turn.below s.below s.below.size ht (by omega), ht.cell (by omega) s.box0, s.sp.turn' ht (fun hn a e => by have := s.spl hn a e; omega), s.spl, ht.cell (by omega) s.xbox, s.xw.turn ht (by omega) (by omega), hi, a0, a1, a2, a3, Nat.le_trans a4 ht.size⟩
theorem Sx.rd {w wx : World} {ao : Option Addr} {N cap : Nat} {f : Nat → Int} {sa : Option Addr} {L : Nat} {h : Nat → Int} {S1 g4 X S5 : Nat} {F4 : Nat → Int} {v : Value} {Fi : Nat → Int}
    (s : Sx w wx ao N cap f sa L h S1 g4 X S5 F4 v Fi) (hr : Rd w ao N f) : Rd wx ao N f := hr.below s.below
end Go.Proofs.Ytejhfoahpopeoac
