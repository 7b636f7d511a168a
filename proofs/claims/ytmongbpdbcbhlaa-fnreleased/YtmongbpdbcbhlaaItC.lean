/-
  The program's iterator over the free blocks, which goes over the one over all blocks.
-/
import Derived.Test.YtmongbpdbcbhlaaItB
namespace Go.Proofs.Ytmongbpdbcbhlaa
open Go.RowKit Go.Shelf
set_option linter.unusedVariables false
attribute [local go_sem] Oper.semAt_some

def frs {f : Nat → Int} {N : Nat} (xs : List (BT f N)) : List (BT f N) := xs.filter fun x => isFree x.1
theorem unB_frs {f : Nat → Int} {N : Nat} (xs : List (BT f N)) : unB (frs xs) = (unB xs).filter isFree := by
  unfold unB frs
  rw [List.filter_map]
  rfl
theorem frs_snoc {f : Nat → Int} {N : Nat} (xs : List (BT f N)) (x : BT f N) : frs (xs ++ [x]) = if isFree x.1 then frs xs ++ [x] else frs xs := by
  unfold frs
  rw [List.filter_append]
  by_cases h : isFree x.1 = true <;> simp [h]
theorem OwnFrom.up {β : Type} {B C : Nat} {J : β → World → Prop} (h : OwnFrom B J) (hc : B ≤ C) : OwnFrom C J := fun s X Y row hs hg hr => h s X Y row hs hg fun r e => ⟨Nat.le_trans hc (hr r e).1, (hr r e).2⟩
theorem boxed3_own {β : Type} (X p m : Nat) (u : Bool) : Own (fun (_ : β) W => Boxed3 W X p m u) := fun s A C row hs hg hrow => by
  have h : A.heap[X]? = _ := hs
  refine (hg.block X (Array.getElem?_eq_some_iff.1 h).1 (fun e => ?_)).trans h
  obtain ⟨o, ho, hc⟩ := hrow X e.symm
  rw [h] at ho
  cases ho
  cases hc
theorem Boxed3.new (W : World) (p m : Nat) (u : Bool) : Boxed3 (W.alloc (.cells #[.int .i64 p, .int .i64 m, .bool u] 54)) W.heap.size p m u := World.alloc_heap_new W _
theorem round_any {m m' : Nat} {l l2 : Nat} {fn : FuncId} {tmps : Array Value} {assign body : Code} {w : World} {R : Ending → World → Prop} (h : RoundIn Fence.wide m Try.prog l fn tmps assign body w R) : RoundIn (Fence.wide.inRound l2) m' Try.prog l fn tmps assign body w R :=
  ⟨trivial, fun c cs _ => h.2 c cs (fun d hd => by cases hd)⟩

set_option maxRecDepth 100000 in
set_option maxHeartbeats 4000000 in
theorem free_seq (n : Nat) (hn : 4 ≤ n) (n₀ Bn : Nat) (ao : Option Addr) (N cap : Nat) (f : Nat → Int) (hN : N ≤ 1048576) (hcap : N ≤ cap) (w : World) (hH : Hld n₀ Bn ao N cap f w) (hn₀ : n₀ ≤ w.heap.size) (Z : Nat) :
    SeqO n 68 #[.pointer (some ⟨Bn, 0, none⟩)] (enB (f := f) (N := N)) n₀ Z (fun ys => unB ys = fk f N) (fun pre => ∃ rest, unB pre ++ rest = fk f N) N w := fun l J Jx W hW hZ hJ hJx hY h0 => by
  have h1 : 1 ≤ n := by omega
  have hHW := hH.below hW
  have b0 := hHW.box.cell
  have hWs := hW.size
  have hBn := hHW.box.lt
  have hne : ¬ Bn = W.heap.size := by omega
  refine callsIn_of_wp_marks Try.func68 rfl trivial ?_ rfl
  simp only [Try.ntmps68, List.size_toArray, List.length_cons, List.length_nil, Nat.reduceAdd, Nat.reduceSub, Array.replicate_succ, Array.replicate_zero, List.push_toArray, List.append_toArray, List.nil_append, List.cons_append]
  gi_wp2_with (refine ⟨trivial, ?_⟩; gi_at_call 41; refine (each_in (n - 1) ao N cap _).mono ?_; rintro e w' ⟨rfl, rfl⟩)
  have hbn : Below W.heap.size W ((W.alloc (.cells #[.func (.yield l) #[] #[]] 89)).alloc (.cells #[.slice ao N cap] 26)) := ((Below.refl _ W).alloc (Nat.le_refl _) _).alloc (by simp) _
  have bY := (Boxed.new W 89 (.func (.yield l) #[] #[])).alloc (.cells #[.slice ao N cap] 26)
  have bA := Boxed.new (W.alloc (.cells #[.func (.yield l) #[] #[]] 89)) 26 (.slice ao N cap)
  have hJ2 := hJ.alloc (.cells #[.slice ao N cap] 26) (hJ.alloc (.cells #[.func (.yield l) #[] #[]] 89) h0)
  have hsz : ((W.alloc (.cells #[.func (.yield l) #[] #[]] 89)).alloc (.cells #[.slice ao N cap] 26)).heap.size = W.heap.size + 2 := by simp
  simp only [World.size_alloc] at bA
  generalize ((W.alloc (.cells #[.func (.yield l) #[] #[]] 89)).alloc (.cells #[.slice ao N cap] 26)) = W0 at hbn bY bA hJ2 hsz ⊢
  have hH0 : Hld n₀ (W.heap.size + 1) ao N cap f W0 := ⟨bA, (hHW.below hbn).rd, hHW.low⟩
  refine range_over h1 (gf := 70) (lb := #[.pointer (some ⟨W.heap.size + 1, 0, none⟩)]) rfl (enters_of Try.func70 (by kernel_rfl) rfl) (SeqO.of (each_stops (n - 1) (by omega) n₀ (W0.heap.size + 2) (W.heap.size + 1) ao N cap f hN hcap W0 hH0)) (by omega) (by intro x; rfl)
    (fun xs V => J (frs xs) V ∧ Boxed V W.heap.size 89 (.func (.yield l) #[] #[]))
    (fun c xs V => c = .ret ∧ Jx (frs xs) V)
    (OwnFrom.and (fun s A C row hs hg hr => hJ _ A C row hs hg fun r e => ⟨by have := (hr r e).1; omega, (hr r e).2⟩) (Own.from (boxed_own _ _ _) _))
    (fun c s A C row hs hg hr => ⟨hs.1, hJx _ A C row hs.2 hg fun r e => ⟨by have := (hr r e).1; omega, (hr r e).2⟩⟩)
    ⟨hJ2, bY⟩
    (fun x a' V => ∃ Bx, Boxed3 V Bx x.1.1 x.1.2.1 x.1.2.2 ∧ a' = { tmps := #[.func (.yield l) #[] #[], .pointer (some ⟨Bn, 0, none⟩), .pointer (some ⟨W.heap.size, 0, none⟩), .pointer (some ⟨Bx, 0, none⟩), .agg #[.slice ao N cap], .func (.func 70) #[] #[.pointer (some ⟨W.heap.size + 1, 0, none⟩)], .agg #[.int .i64 x.1.1, .int .i64 x.1.2.1, .bool x.1.2.2], undef, undef, undef, undef, undef, undef, undef, undef, undef], defers := [] })
    (fun x a' _ A C row hs hg hr => by obtain ⟨Bx, h2, h3⟩ := hs; exact ⟨Bx, boxed3_own Bx _ _ _ () A C row h2 hg (fun r e => (hr r e).2), h3⟩)
    ?assign ?body ?done ?stop
  case assign =>
    rintro l2 pre x V K ⟨hj, hb⟩ hK
    dsimp only [enB]
    gi_wp2
    have hs : n₀ ≤ V.heap.size := by have := hb.lt; omega
    exact hK _ _ ((KeepsOthers.alloc _ _).from _) (KB.of_below ((Below.refl _ V).alloc (Nat.le_refl _) _) hs) ⟨hJ.alloc _ hj, hb.alloc _⟩ ⟨V.heap.size, Boxed3.new V _ _ _, rfl⟩
  case body =>
    rintro l2 pre x a' V ⟨hj, hb⟩ ⟨Bx, bX, rfl⟩ hlt
    obtain ⟨⟨p, m, u⟩, hBk⟩ := x
    dsimp only at bX ⊢
    obtain ⟨q0, q1, q2⟩ := bX.cells
    have cY := hb.cell
    have hle : (frs pre).length < N := Nat.lt_of_le_of_lt (List.length_filter_le _ _) hlt
    cases u with
    | true =>
      have e : frs (pre ++ [(⟨(p, m, true), hBk⟩ : BT f N)]) = frs pre := by rw [frs_snoc]; rfl
      gi_wp2
      refine ⟨fun _ h => (by cases h), ?_⟩
      gi_wp2
      exact ⟨KeepsFrom.refl _ _, KB.refl _ _ _, by rw [e]; exact hj, hb⟩
    | false =>
      have e : frs (pre ++ [(⟨(p, m, false), hBk⟩ : BT f N)]) = frs pre ++ [⟨(p, m, false), hBk⟩] := by rw [frs_snoc]; rfl
      obtain ⟨fn, tmps, assign, body, hy, hR⟩ := hY (frs pre) ⟨(p, m, false), hBk⟩ V hj hle
      dsimp only [enB] at hy
      gi_wp2
      refine ⟨fun h => (by cases h), ?_⟩
      refine (round_any hR).mono ?_
      rintro e3 V3 (⟨rfl, hj3, hk3⟩ | ⟨rfl, hj3, hk3⟩)
      · have hb3 : Boxed V3 W.heap.size 89 (.func (.yield l) #[] #[]) := hk3.box _ _ _ _ hb (.inr (.inr rfl))
        have hfr := hk3.from (B := W0.heap.size) (by omega) hk3.bel.size
        have hk4 := hk3.up (T := W0.heap.size + 2) (by omega)
        clear hR hy
        gi_wp2
        exact ⟨hfr, hk4, by rw [e]; exact hj3, hb3⟩
      · clear hR hy
        gi_wp2
        exact ⟨⟨hk3.size, fun k o hk => hk3.same k o (by omega)⟩, rfl, by rw [e]; exact hj3⟩
  case done =>
    rintro D xs V hD hS ⟨hj, hb⟩ hK
    have HO : Hid (unB (frs xs) = fk f N) := by show _ = _; rw [unB_frs, hS]; rfl
    gi_wp2
    refine ⟨by simp, .inl ⟨_, _, rfl, run_takeDeferred hK, ?_⟩⟩
    exact ⟨_, results_none rfl _ _ _, ⟨_, rfl⟩, .inl ⟨frs xs, HO.out, hJ.putObj _ hj (by omega) hK rfl⟩⟩
  case stop =>
    rintro D c pre V hD ⟨rest, hS⟩ ⟨rfl, hj⟩ hK
    have HO : Hid (∃ rest, unB (frs pre) ++ rest = fk f N) := ⟨rest.filter isFree, by rw [unB_frs, ← List.filter_append, hS]; rfl⟩
    gi_wp2
    refine ⟨by simp, .inl ⟨_, _, rfl, run_takeDeferred hK, ?_⟩⟩
    exact ⟨_, results_none rfl _ _ _, ⟨_, rfl⟩, .inr ⟨frs pre, HO.out, hJx.putObj _ hj (by omega) hK rfl⟩⟩

theorem free_in (n : Nat) (ao : Option Addr) (N cap : Nat) (w : World) :
    CallsIn Fence.wide n Try.prog 39 #[.agg #[.slice ao N cap]] w fun e w' => e = .returned (.func (.func 68) #[] #[.pointer (some ⟨w.heap.size, 0, none⟩)]) ∧ w' = w.alloc (.cells #[.slice ao N cap] 26) := by
  refine callsIn_of_wp Try.func39 rfl trivial ?_ rfl
  simp only [Try.ntmps39, List.size_toArray, List.length_cons, List.length_nil, Nat.reduceAdd, Nat.reduceSub, Array.replicate_succ, Array.replicate_zero, List.push_toArray, List.append_toArray, List.nil_append, List.cons_append]
  gi_wp2
  go_ret
  exact ⟨rfl, rfl⟩

end Go.Proofs.Ytmongbpdbcbhlaa
