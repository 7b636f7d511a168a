/-
  The law FnExactActorNew, walked.
-/
import Derived.Test.YtgccbpjdkeoclaaAnD
import Derived.Test.YtgccbpjdkeoclaaAnE
import Derived.Test.YtgccbpjdkeoclaaTmD
namespace Go.Proofs.Ytgccbpjdkeoclaa.fnExactActorNew
open Go.RowKit Atom
set_option linter.unusedVariables false

mutual
theorem cT_nt : ∀ (k n : Int) (s : ByteArray) (l : List Tm), cT (.mk k n s l) = 3 * (1 + ntL l)
  | k, n, s, l => by rw [cT, cL_nt l]; omega
theorem cL_nt : ∀ (l : List Tm), cL l = 3 * ntL l
  | [] => by rw [cL, ntL]
  | .mk k n s l :: r => by rw [cL, ntL, cL_nt r, cT_nt k n s l]; omega
end
theorem nt_seven : ntL seven = 7 := by
  unfold seven e0T
  simp [List.replicate, ntL]
def acN (pid pc : Int) (regs : List Tm) : Ac := ⟨pid, pc, regs, [], 0, fun _ => 0⟩
def whN (ra : Option Addr) (rc : Nat) : Wh := ⟨ra, rc, none, 0, none, 0⟩
theorem acr_of {w : World} {pid pc : Int} {regs : List Tm} {ra : Option Addr} {rc : Nat} (h : RepL 0 w regs ra) (h1 : regs.length ≤ rc) (h2 : rc ≤ maxLen) : AcR w (acN pid pc regs) (whN ra rc) :=
  ⟨h, by show RepL 0 w [] _; rw [RepL]; trivial, fun h => absurd rfl h, h1, h2, Nat.le_refl _, Nat.zero_le _, Nat.le_refl _, Nat.zero_le _⟩
theorem eqN {w : World} {pid pc : Int} {regs : List Tm} {ra rb : Option Addr} {rc rd : Nat} (h : RepL 0 w regs ra) (h1 : regs.length ≤ rc) (h2 : rc ≤ maxLen) (k : RepL 0 w regs rb) (k1 : regs.length ≤ rd) (k2 : rd ≤ maxLen) :
    Calls Try.prog 8 #[.agg #[.int .i64 pid, .int .i64 pc, .slice ra regs.length rc, .slice none 0 0, .slice none 0 0], .agg #[.int .i64 pid, .int .i64 pc, .slice rb regs.length rd, .slice none 0 0, .slice none 0 0]] w fun e w' => e = .returned (.bool true) ∧ Below w.heap.size w w' :=
  eqActor_same (acN pid pc regs) (whN ra rc) (whN rb rd) w (acr_of h h1 h2) (acr_of k k1 k2) (Nat.zero_le _)
theorem rp_keep {S : Nat → Prop} {w w' : World} {l : List Tm} {ao : Option Addr} (hk : ∀ b, S b → b < w.heap.size → w'.heap[b]? = w.heap[b]?) (h : RpL S w l ao) : RpL S w' l ao :=
  Moves.repL (fun b o v hb hv => ⟨hb, (World.cell?_of_block (w := w) (hk b hb (World.block_lt_of_cell? w _ hv))).trans hv⟩) _ _ h
theorem rp_up {S : Nat → Prop} {w : World} {l : List Tm} {ao : Option Addr} (h : RpL S w l ao) : RpL (fun b => S b ∧ b < w.heap.size) w l ao :=
  Moves.repL (fun b o v hb hv => ⟨⟨hb, World.block_lt_of_cell? w _ hv⟩, hv⟩) _ _ h

/-- The argument's box, and the specification's answer; all of it below M. -/
structure S1 (w wc : World) (c5 : Array Value) (B8 M : Nat) (c8 : Array Value) (regs : List Tm) (ra : Option Addr) : Prop where
  bel : Below w.heap.size w wc
  q5 : ∀ o, wc.cell? ⟨w.heap.size, o, none⟩ = c5[o]?
  q8 : ∀ o, wc.cell? ⟨B8, o, none⟩ = c8[o]?
  r8 : RpL (fun b => w.heap.size ≤ b ∧ b < M) wc regs ra
  l5 : w.heap.size < M
  l8 : B8 < M
  lM : M ≤ wc.heap.size
theorem S1.next {w wc w' : World} {c5 : Array Value} {B8 M : Nat} {c8 : Array Value} {regs : List Tm} {ra : Option Addr} (h : S1 w wc c5 B8 M c8 regs ra) (hb : Below wc.heap.size wc w') : S1 w w' c5 B8 M c8 regs ra := by
  have hM := h.lM
  have h5 := h.l5
  have h8 := h.l8
  exact ⟨h.bel.trans (hb.mono h.bel.size), fun o => by rw [hb.cell (p := ⟨w.heap.size, o, none⟩) (by show w.heap.size < _; omega)]; exact h.q5 o, fun o => by rw [hb.cell (p := ⟨B8, o, none⟩) (by show B8 < _; omega)]; exact h.q8 o, rp_keep (fun b _ hl => hb.block b hl) h.r8, h5, h8, Nat.le_trans hM hb.size⟩
theorem S1.out {w wc w' : World} {c5 : Array Value} {B8 M : Nat} {c8 : Array Value} {regs : List Tm} {ra : Option Addr} {bs : List Nat} (h : S1 w wc c5 B8 M c8 regs ra) (ho : OutB bs wc w') (hbs : ∀ b ∈ bs, M ≤ b) : S1 w w' c5 B8 M c8 regs ra := by
  have hM := h.lM
  have h5 := h.l5
  have h8 := h.l8
  have hz := h.bel.size
  have kk : ∀ b, b < M → w'.heap[b]? = wc.heap[b]? := fun b hb => ho.block b (by omega) (fun hm => by have := hbs b hm; omega)
  exact ⟨⟨ho.os.trans h.bel.os, ho.tape.trans h.bel.tape, ho.output.trans h.bel.output, Nat.le_trans h.bel.size ho.size, fun k hk => (kk k (by omega)).trans (h.bel.block k hk)⟩, fun o => (World.cell?_of_block (w := wc) (kk _ h5)).trans (h.q5 o), fun o => (World.cell?_of_block (w := wc) (kk _ h8)).trans (h.q8 o), rp_keep (fun b hb _ => kk b hb.2) h.r8, h5, h8, Nat.le_trans hM ho.size⟩
/-- A variable and a list in blocks of its own. -/
structure Xp (wc : World) (B : Nat) (c : Array Value) (l : List Tm) (bs : List Nat) (ao : Option Addr) : Prop where
  q : ∀ o, wc.cell? ⟨B, o, none⟩ = c[o]?
  lt : B < wc.heap.size
  os : OsL wc l bs ao
theorem Xp.next {wc w' : World} {B : Nat} {c : Array Value} {l : List Tm} {bs : List Nat} {ao : Option Addr} (h : Xp wc B c l bs ao) (hb : Below wc.heap.size wc w') : Xp w' B c l bs ao :=
  ⟨fun o => by rw [hb.cell (p := ⟨B, o, none⟩) h.lt]; exact h.q o, Nat.lt_of_lt_of_le h.lt hb.size, OsL.below hb h.os⟩
theorem Xp.out {wc w' : World} {B : Nat} {c : Array Value} {l : List Tm} {bs bs' : List Nat} {ao : Option Addr} (h : Xp wc B c l bs ao) (ho : OutB bs' wc w') (h1 : B ∉ bs') (h2 : ∀ b ∈ bs, b ∉ bs') : Xp w' B c l bs ao :=
  ⟨fun o => (World.cell?_of_block (w := wc) (ho.block B h.lt h1)).trans (h.q o), Nat.lt_of_lt_of_le h.lt ho.size, OsL.keep _ _ _ (fun b hb hl => ho.block b hl (h2 b hb)) h.os⟩
theorem Xp.mark {wc w' : World} {B : Nat} {c : Array Value} {l l' : List Tm} {bs : List Nat} {ao : Option Addr} (h : Xp wc B c l bs ao) (ho : OutB bs wc w') (h1 : B ∉ bs) (h2 : OsL w' l' bs ao) : Xp w' B c l' bs ao :=
  ⟨fun o => (World.cell?_of_block (w := wc) (ho.block B h.lt h1)).trans (h.q o), Nat.lt_of_lt_of_le h.lt ho.size, h2⟩
end Go.Proofs.Ytgccbpjdkeoclaa.fnExactActorNew
