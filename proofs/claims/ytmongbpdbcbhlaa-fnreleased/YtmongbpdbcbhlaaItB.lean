/-
  A loop over an iterator that itself loops over an iterator: the contract asks more of what is kept (whatever is no cells and lies at or beyond the call's start may turn), and the loop pays it.
-/
import Derived.Test.YtmongbpdbcbhlaaItA
namespace Go.Proofs.Ytmongbpdbcbhlaa
open Go.RowKit Go.Shelf
set_option linter.unusedVariables false

/-- An iterator's contract whose invariants abide the turn of every record laid since the call began. -/
def SeqO {α : Type} (n gf : Nat) (lb : Array Value) (encs : α → Array Value) (n₀ Z : Nat) (S Sp : List α → Prop) (N : Nat) (w : World) : Prop :=
  ∀ (l : Nat) (J Jx : List α → World → Prop) (W : World), Below w.heap.size w W → Z ≤ W.heap.size → OwnFrom W.heap.size J → OwnFrom W.heap.size Jx →
    (∀ pre x W1, J pre W1 → pre.length < N → YieldAt Fence.wide (n - 1) Try.prog l (encs x) W1 fun e W' => (e = .returned (.bool true) ∧ J (pre ++ [x]) W' ∧ KB n₀ Z W1 W') ∨ (e = .returned (.bool false) ∧ Jx (pre ++ [x]) W' ∧ KeepsFrom Z W1 W')) →
    J [] W → CallsIn Fence.wide n Try.prog gf (#[.func (.yield l) #[] #[]] ++ lb) W fun e W' => (∃ v, e = .returned v) ∧ ((∃ xs, S xs ∧ J xs W') ∨ (∃ pre, Sp pre ∧ Jx pre W'))

theorem abides_of_own {β : Type} {B : Nat} {J : β → World → Prop} (h : OwnFrom B J) : AbidesFrom B J := fun s A C row hs hg hr => h s A C row hs hg fun r e => by
  obtain ⟨h1, o, h2, h3⟩ := hr r e
  exact ⟨h1, o, h2, Obj.not_cells_of_walk h3⟩
theorem SeqO.of {α : Type} {n gf : Nat} {lb : Array Value} {encs : α → Array Value} {n₀ Z : Nat} {S Sp : List α → Prop} {N : Nat} {w : World} (h : SeqStopsK Fence.wide n Try.prog gf lb encs (KB n₀ Z) S Sp N w) : SeqO n gf lb encs n₀ Z S Sp N w :=
  fun l J Jx W hW _ hJ hJx hY h0 => h l J Jx W hW (abides_of_own hJ) (abides_of_own hJx) (fun pre x W1 hj hl => (hY pre x W1 hj hl).mono fun e W' h => h.imp_right fun h => ⟨h.1, h.2.1⟩) h0

/-- The loop's record and the block for its deferred calls. -/
structure Recs (W : World) (B : Nat) (r : Loop) : Prop where
  loop : W.heap[B + 1]? = some (.loop r)
  defs : W.heap[B]? = some (.deferred (some []))
theorem Recs.grown {A C : World} {B b : Nat} {r : Loop} {row : Option Nat} (h : Recs A B r) (hb : B + 1 < b) (hg : A.grownBy C row) (hr : ∀ q, row = some q → b ≤ q) : Recs C B r := by
  have h1 := (Array.getElem?_eq_some_iff.1 h.loop).1
  exact ⟨(hg.block _ h1 (fun e => by have := hr _ e.symm; omega)).trans h.loop, (hg.block _ (by omega) (fun e => by have := hr _ e.symm; omega)).trans h.defs⟩
theorem Recs.from {A C : World} {B : Nat} {r : Loop} (h : Recs A B r) (hk : KeepsFrom B A C) : Recs C B r := ⟨hk.same _ _ (by omega) h.loop rfl, hk.same _ _ (Nat.le_refl _) h.defs rfl⟩
theorem Recs.put {A : World} {B : Nat} {r : Loop} (h : Recs A B r) (r' : Loop) : Recs (A.putObj (B + 1) (.loop r')) B r' :=
  ⟨World.putObj_heap_same (Array.getElem?_eq_some_iff.1 h.loop).1, (World.putObj_heap_other (by omega)).trans h.defs⟩

set_option maxHeartbeats 1000000 in
theorem range_over {α : Type} {g : Operand} {ps : Array Tmp} {assign body : Code} {Q : Exit → Act → World → Prop} {a : Act} {w : World} {n : Nat} (h1 : 1 ≤ n) {gf : Nat} {lb : Array Value} (hg : a.eval g = .func (.func gf) #[] lb) (eg : ∀ args w, (callFunc gf args).run Try.prog w = .ok (.enter gf args) w)
    {encs : α → Array Value} {n₀ : Nat} {S Sp : List α → Prop} {N : Nat} (hseq : SeqO (n - 1) gf lb encs n₀ (w.heap.size + 2) S Sp N w) (hn₀ : n₀ ≤ w.heap.size) (hps : ∀ x, (encs x).size = ps.size)
    (I : List α → World → Prop) (Ix : Code → List α → World → Prop) (hI : OwnFrom w.heap.size I) (hIx : ∀ c, OwnFrom w.heap.size (Ix c)) (h0 : I [] w) (Ax : α → Act → World → Prop) (hAx : ∀ x a', OwnFrom w.heap.size (fun (_ : Unit) W => Ax x a' W))
    (hassign : ∀ (l : Nat) (pre : List α) (x : α) (W : World) (K : Act → World → Prop), I pre W → (∀ a' W', KeepsFrom w.heap.size W W' → KB n₀ (w.heap.size + 2) W W' → I pre W' → Ax x a' W' → K a' W') →
      assign.wpIn (Fence.wide.inRound l) (n - 1 - 1) Try.prog (Exit.then K (fun _ _ _ => False)) { tmps := (ps.zip (encs x)).foldl (fun t (p, v) => t.setIfInBounds p v) a.tmps, defers := [] } W)
    (hbody : ∀ (l : Nat) (pre : List α) (x : α) (a' : Act) (W : World), I pre W → Ax x a' W → pre.length < N → body.wpIn (Fence.wide.inRound l) (n - 1 - 1) Try.prog (ownPostG w.heap.size (KB n₀ (w.heap.size + 2)) I Ix (pre ++ [x]) W) a' W)
    (hdone : ∀ (D : Nat) (xs : List α) (W : World), w.heap.size ≤ D → S xs → I xs W → W.heap[D]? = some (.deferred (some [])) → Q .normal { a with defers := { target := .collected D, args := #[] } :: a.defers } W)
    (hstop : ∀ (D : Nat) (c : Code) (pre : List α) (W : World), w.heap.size ≤ D → Sp pre → Ix c pre W → W.heap[D]? = some (.deferred (some [])) → c.wpIn Fence.wide n Try.prog Q { a with defers := { target := .collected D, args := #[] } :: a.defers } W) :
    (Code.rangeFunc g ps assign body).wpIn Fence.wide n Try.prog Q a w := by
  refine wpIn_rangeFunc fun fn hfn => ?_
  obtain ⟨rc, hrc⟩ : ∃ rc : LoopState → Option Code → Loop, rc = fun st pe => { state := st, pending := pe, fn, tmps := a.tmps, params := ps, assign, body, defers := w.heap.size } := ⟨_, rfl⟩
  obtain ⟨B, hB⟩ : ∃ B, B = w.heap.size := ⟨_, rfl⟩
  obtain ⟨V, hV⟩ : ∃ V, V = (w.alloc (.deferred (some []))).alloc (.loop (rc .ready none)) := ⟨_, rfl⟩
  have hz : V.heap.size = B + 2 := by rw [hV, hB]; simp
  have hrV : Recs V B (rc .ready none) := by
    refine ⟨?_, ?_⟩
    · have := World.alloc_heap_new (w.alloc (.deferred (some []))) (.loop (rc .ready none))
      rw [World.size_alloc] at this
      rw [hV, hB]; exact this
    · rw [hV, hB]; exact (Below.heap_alloc _ _ _ (by simp)).trans (World.alloc_heap_new w _)
  have hbV : Below w.heap.size w V := by rw [hV]; exact ((Below.refl _ w).alloc (Nat.le_refl _) _).alloc (by simp) _
  have hIV : I [] V := by rw [hV]; exact hI.alloc _ (hI.alloc _ h0)
  have put : ∀ {β : Type} {J : β → World → Prop} (h : OwnFrom w.heap.size J) {s : β} {A : World} {r : Loop} (r' : Loop), J s A → Recs A B r → J s (A.putObj (B + 1) (.loop r')) := fun h _ _ _ r' hj hr => h.putObj _ hj (by omega) hr.loop rfl
  have kput : ∀ {A : World} {r : Loop} (r' : Loop), Recs A B r → KB n₀ (w.heap.size + 2) A (A.putObj (B + 1) (.loop r')) := fun r' hr => KB.put hn₀ _ _ _ _ (by omega) (by omega) hr.loop rfl rfl
  refine ⟨B + 1, [{ target := .collected B, args := #[] }], V, { target := .fn (.func gf) lb, args := #[.func (.yield (B + 1)) #[] #[]] }, V, gf, #[.func (.yield (B + 1)) #[] #[]] ++ lb, V, ?_, ?_, fun _ _ => trivial, ?_, fun _ => h1, ?_⟩
  · rw [hV, hrc, hB]; exact run_enterLoop_outer _ _ _ _ _
  · simp only [resolve, hg]
    simp [go_sem]
  · simp [invoke, go_sem, eg]
  refine (hseq (B + 1) (fun pre W => I pre W ∧ Recs W B (rc .ready none)) (fun pre W => ∃ c, Ix c pre W ∧ Recs W B (rc .done (some c))) V hbV (by omega) ?_ ?_ ?_ ⟨hIV, hrV⟩).mono ?_
  · intro s A C row hs hg' hr
    exact ⟨hI s A C row hs.1 hg' (fun r e => ⟨by have := (hr r e).1; omega, (hr r e).2⟩), hs.2.grown (b := V.heap.size) (by omega) hg' (fun q e => (hr q e).1)⟩
  · rintro s A C row ⟨c, hs1, hs2⟩ hg' hr
    exact ⟨c, hIx c s A C row hs1 hg' (fun r e => ⟨by have := (hr r e).1; omega, (hr r e).2⟩), hs2.grown (b := V.heap.size) (by omega) hg' (fun q e => (hr q e).1)⟩
  · rintro pre x W ⟨hi, hr⟩ hlen
    have hy := run_yield (P := Try.prog) (args := encs x) hr.loop (by rw [hrc]; exact hps x)
    rw [hrc] at hy
    refine ⟨fn, _, assign, body, hy, roundIn_of_wpIn hfn (hassign _ pre x W _ hi ?_)⟩
    intro a' A hkf hkp hiA hax
    have hrA := hr.from (hB ▸ hkf)
    refine ⟨_, run_beginRound hrA.loop (by rw [hrc]), ?_⟩
    have hrb := hrA.put { rc .ready none with state := .busy }
    refine wpIn_mono (hbody _ pre x a' _ (put hI _ hiA hrA) (put (s := ()) (hAx x a') _ hax hrA) hlen) ?_
    have fin : ∀ (jump : Option Code) (C : World), KeepsFrom w.heap.size (A.putObj (B + 1) (.loop { rc .ready none with state := .busy })) C →
        (Instr.endRound (B + 1) jump).run Try.prog C = .ok (.bool jump.isNone) (C.putObj (B + 1) (.loop (rc (if jump.isNone then .ready else .done) jump))) ∧ Recs C B { rc .ready none with state := .busy } := fun jump C hk => by
      have hrC := hrb.from (show KeepsFrom B (A.putObj (B + 1) (.loop { rc .ready none with state := .busy })) C by have h := hk; rw [← hB] at h; exact h)
      have := run_endRound (P := Try.prog) jump hrC.loop
      rw [hrc] at this hrC ⊢
      exact ⟨this, hrC⟩
    have kfp : ∀ {A : World} {r : Loop} (r' : Loop), Recs A B r → KeepsFrom (w.heap.size + 2) A (A.putObj (B + 1) (.loop r')) := fun r' hr => (kput r' hr).from (Nat.le_refl _) (kput r' hr).bel.size
    have kfu : ∀ {X Y : World}, KeepsFrom w.heap.size X Y → KeepsFrom (w.heap.size + 2) X Y := fun h => ⟨h.size, fun k o hk => h.same k o (by omega)⟩
    rintro e a3 C hp
    cases e with
    | normal =>
      obtain ⟨f1, f2⟩ := fin none C hp.1
      exact ⟨_, _, f1, .inl ⟨rfl, ⟨put hI _ hp.2.2 f2, f2.put _⟩, hkp.trans (((kput _ hrA).trans hp.2.1).trans (kput _ f2))⟩⟩
    | ret =>
      obtain ⟨f1, f2⟩ := fin (some .ret) C hp.1
      exact ⟨_, _, f1, .inr ⟨rfl, ⟨.ret, put (hIx _) _ hp.2 f2, f2.put _⟩, (kfu hkf).trans (((kfp _ hrA).trans (kfu hp.1)).trans (kfp _ f2))⟩⟩
    | exit id =>
      obtain ⟨f1, f2⟩ := fin (some (.exit id)) C hp.1
      exact ⟨_, _, f1, .inr ⟨rfl, ⟨.exit id, put (hIx _) _ hp.2 f2, f2.put _⟩, (kfu hkf).trans (((kfp _ hrA).trans (kfu hp.1)).trans (kfp _ f2))⟩⟩
    | goto t =>
      obtain ⟨f1, f2⟩ := fin (some (.goto t)) C hp.1
      exact ⟨_, _, f1, .inr ⟨rfl, ⟨.goto t, put (hIx _) _ hp.2 f2, f2.put _⟩, (kfu hkf).trans (((kfp _ hrA).trans (kfu hp.1)).trans (kfp _ f2))⟩⟩
    | panic ch => exact hp.elim
    | outgrown => exact hp.elim
  · rintro e W ⟨⟨v, rfl⟩, (⟨xs, hS, hi, hr⟩ | ⟨pre, hSp, c, hi, hr⟩)⟩
    · exact ⟨none, _, by have := run_endLoop (P := Try.prog) hr.loop (by rw [hrc]; simp); rw [hrc] at this; exact this, hdone _ xs _ (by omega) hS (put hI _ hi hr) (hr.put _).defs⟩
    · exact ⟨some c, _, by have := run_endLoop (P := Try.prog) hr.loop (by rw [hrc]; simp); rw [hrc] at this; exact this, hstop _ c pre _ (by omega) hSp (put (hIx c) _ hi hr) (hr.put _).defs⟩
end Go.Proofs.Ytmongbpdbcbhlaa
