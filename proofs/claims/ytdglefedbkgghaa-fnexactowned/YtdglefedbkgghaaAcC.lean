/-
  Actors in memory; the laws' own functions on them: measure, copy, comparison.
-/
import Derived.Test.YtdglefedbkgghaaAcB
namespace Go.Proofs.Ytdglefedbkgghaa
open Go.RowKit Atom
set_option linter.unusedVariables false

structure Ac where
  pid : Int
  pc : Int
  regs : List Tm
  box : List Tm
  N : Nat
  f : Nat → Int
/-- Where the three lists of an actor stand. -/
structure Wh where
  ra : Option Addr
  rc : Nat
  ba : Option Addr
  bc : Nat
  la : Option Addr
  lc : Nat
structure AcR (w : World) (a : Ac) (h : Wh) : Prop where
  regs : RepL 0 w a.regs h.ra
  box : RepL 0 w a.box h.ba
  links : RdI w h.la a.N a.f
  r1 : a.regs.length ≤ h.rc
  r2 : h.rc ≤ maxLen
  b1 : a.box.length ≤ h.bc
  b2 : h.bc ≤ maxLen
  l1 : a.N ≤ h.lc
  l2 : h.lc ≤ maxLen
abbrev acV (a : Ac) (h : Wh) : Value := .agg #[.int .i64 a.pid, .int .i64 a.pc, .slice h.ra a.regs.length h.rc, .slice h.ba a.box.length h.bc, .slice h.la a.N h.lc]
theorem AcR.below {w w' : World} {a : Ac} {h : Wh} (x : AcR w a h) (hb : Below w.heap.size w w') : AcR w' a h :=
  ⟨(Keeps.below hb 0).repL _ _ x.regs, (Keeps.below hb 0).repL _ _ x.box, x.links.below hb, x.r1, x.r2, x.b1, x.b2, x.l1, x.l2⟩

theorem keepA {w w' : World} (h : Below w.heap.size w w') {b o : Nat} {v : Value} (hc : w.cell? ⟨b, o, none⟩ = some v) : w'.cell? ⟨b, o, none⟩ = some v := by
  rw [h.cell (p := ⟨b, o, none⟩) (World.block_lt_of_cell? w _ hc)]; exact hc
def zL (l : List Tm) (left : Int) : Int := if left - l.length < 0 then -1 else szGo l (left - l.length)
theorem zL_le (l : List Tm) (a : Int) (h : 0 ≤ a) : -1 ≤ zL l a ∧ zL l a ≤ a := by
  unfold zL
  split
  · omega
  · have := szGo_le l (a - l.length) (by omega); omega
theorem szGo_small : ∀ (l : List Tm) (a : Int), 0 ≤ a → a ≤ 1048576 → 0 ≤ szGo l a → ∀ t ∈ l, SmallT t
  | [], _, _, _, _, t, ht => by cases ht
  | x :: r, a, h0, h1, h2, t, ht => by
    rw [szGo] at h2
    have hx := szT_le x a h0
    split at h2
    · omega
    · rcases List.mem_cons.1 ht with rfl | ht
      · exact sz_small t a h0 h1 (by omega)
      · exact szGo_small r (szT x a) (by omega) (by omega) h2 t ht
def SmL (l : List Tm) : Prop := l.length ≤ 1048576 ∧ ∀ t ∈ l, SmallT t
theorem zL_small {l : List Tm} {a : Int} (h0 : 0 ≤ a) (h1 : a ≤ 1048576) (h2 : 0 ≤ zL l a) : SmL l := by
  unfold zL at h2
  split at h2
  · omega
  · exact ⟨by omega, szGo_small l (a - l.length) (by omega) (by omega) h2⟩
theorem szL_any (l : List Tm) (ao : Option Addr) (cap : Nat) (left : Int) (w : World) (hr : RepL 0 w l ao) (hl : l.length ≤ cap) (hc : cap ≤ maxLen) (h0 : 0 ≤ left) (h1 : left ≤ 1048576) :
    Calls Try.prog 68 #[.slice ao l.length cap, .int .i64 left] w fun e w' => e = .returned (.int .i64 (zL l left)) ∧ Below w.heap.size w w' :=
  szS_of l (fun t _ => szT_all t) 0 w ao cap left hr hl hc h0 h1
theorem toL_any (l : List Tm) (ao : Option Addr) (cap : Nat) (w : World) (hr : RepL 0 w l ao) (hl : l.length ≤ cap) (hc : cap ≤ maxLen) (hs : SmL l) :
    Calls Try.prog 69 #[.slice ao l.length cap] w fun e w' => ∃ ao', e = .returned (.slice ao' l.length l.length) ∧ Below w.heap.size w w' ∧ RepL w.heap.size w' l ao' :=
  toS_of l hs.1 (fun t ht => toT_all t (hs.2 t ht)) 0 w ao cap hr hl hc
theorem eqL_any (l : List Tm) (ao bo : Option Addr) (cap cap' : Nat) (w : World) (hr : RepL 0 w l ao) (hr' : RepL 0 w l bo) (h1 : l.length ≤ cap) (h2 : cap ≤ maxLen) (h3 : l.length ≤ cap') (h4 : cap' ≤ maxLen) :
    Calls Try.prog 74 #[.slice ao l.length cap, .slice bo l.length cap'] w fun e w' => e = .returned (.bool true) ∧ Below w.heap.size w w' :=
  eqS_of l (fun t _ => eqT_all t) 0 w ao bo cap cap' hr hr' h1 h2 h3 h4

/-- What is within limits. -/
def AcS (a : Ac) : Prop := SmL a.regs ∧ SmL a.box ∧ a.N ≤ 1048576

end Go.Proofs.Ytdglefedbkgghaa
