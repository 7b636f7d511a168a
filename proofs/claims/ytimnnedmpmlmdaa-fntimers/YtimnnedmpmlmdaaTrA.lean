/-
  Timers in memory: as they are read, as they are owned; the laws' copies of them.
-/
import Derived.Test.YtimnnedmpmlmdaaRwB
import Derived.Test.YtimnnedmpmlmdaaOtA
import Derived.Test.YtimnnedmpmlmdaaTmK
namespace Go.Proofs.Ytimnnedmpmlmdaa.Tr
open Go.RowKit Atom
set_option linter.unusedVariables false

structure Sd where
  kind : Int
  pid : Int
  t : Tm
structure BxS (w : World) (b o : Nat) (x : Sd) : Prop where
  c0 : w.cell? ⟨b, o, none⟩ = some (.int .i64 x.kind)
  c1 : w.cell? ⟨b, o + 1, none⟩ = some (.int .i64 x.pid)
  t : RepT 0 w x.t b (o + 2)
theorem repT_below {w w' : World} {t : Tm} {b o : Nat} (h : RepT 0 w t b o) (hb : Below w.heap.size w w') : RepT 0 w' t b o := by
  obtain ⟨k, n, s, l⟩ := t
  rw [RepT] at h ⊢
  obtain ⟨h0, h1, h2, hs, ao, cap, h3, hl, hc, hr⟩ := h
  exact ⟨keepOt hb h0, keepOt hb h1, keepOt hb h2, hs, ao, cap, keepOt hb h3, hl, hc, (Keeps.below hb 0).repL _ _ hr⟩
theorem BxS.below {w w' : World} {b o : Nat} {x : Sd} (h : BxS w b o x) (hb : Below w.heap.size w w') : BxS w' b o x :=
  ⟨keepOt hb h.c0, keepOt hb h.c1, repT_below h.t hb⟩
/-- What was said stands one behind the other from ao on. -/
def RowS (w : World) (ao : Option Addr) (l : List Sd) : Prop := l = [] ∨ ∃ b o, ao = some ⟨b, o, none⟩ ∧ ∀ j (hj : j < l.length), BxS w b (o + j * 6) l[j]
theorem RowS.below {w w' : World} {ao : Option Addr} {l : List Sd} (h : RowS w ao l) (hb : Below w.heap.size w w') : RowS w' ao l := by
  rcases h with h | ⟨b, o, h1, h2⟩
  · exact .inl h
  · exact .inr ⟨b, o, h1, fun j hj => (h2 j hj).below hb⟩
def eltS : Elt Sd where
  s := 6
  E := fun w x bs b off => w.cell? ⟨b, off, none⟩ = some (.int .i64 x.kind) ∧ w.cell? ⟨b, off + 1, none⟩ = some (.int .i64 x.pid) ∧ OsT w x.t bs b (off + 2)
  pos := by omega
  keep := fun hk hc ⟨h0, h1, h2⟩ => ⟨hc 0 _ (by omega) h0, hc 1 _ (by omega) h1, OsT.keep _ _ _ _ hk (fun j v hj hv => by rw [Nat.add_assoc] at hv ⊢; exact hc (2 + j) v (by omega) hv) h2⟩
  lt := fun ⟨h0, h1, h2⟩ => OsT.lt _ _ _ _ h2
  head := fun ⟨h0, h1, h2⟩ => ⟨_, h0⟩
theorem GL.rowS {w : World} {l : List Sd} {bs : List Nat} {ao : Option Addr} (h : GL eltS w l bs ao) : RowS w ao l := by
  rcases h with h | ⟨hl, g, o, b, _, e2, _, hr⟩
  · exact .inl h.1
  · refine .inr ⟨g, o, e2, fun j hj => ?_⟩
    obtain ⟨bt, _, x, y, z⟩ := hr.at j hj
    exact ⟨x, y, OsT.rep _ _ _ _ z⟩
theorem infoTimer : (Try.prog.info? 32).map (fun i => (i.zero, i.size, i.bytes)) = some (some (.agg #[.int .i64 0, .int .i64 0, .int .i64 0, .int .i64 0, .string ⟨#[]⟩, .slice none 0 0]), 6, 72) := by kernel_rfl
theorem undTimerS : Try.prog.underlying 24 = some (.slice 32) := by kernel_rfl
def zerosS (n : Nat) : Array Value := madeCells #[.int .i64 0, .int .i64 0, .int .i64 0, .int .i64 0, .string ⟨#[]⟩, .slice none 0 0] (n * 6)
theorem run_zerosS (n : Nat) (hn : n ≤ 1048576) (w : World) :
    (Instr.makeSlice 24 (.int .i64 (n : Int)) (.int .i64 (n : Int))).run Try.prog w = .ok (.slice (some ⟨w.heap.size, 0, none⟩) n n) (w.alloc (.cells (zerosS n) 32)) := by
  obtain ⟨i, hi, hzz⟩ := Option.map_eq_some_iff.1 infoTimer
  simp only [Prod.mk.injEq] at hzz
  obtain ⟨hz, hs, hb⟩ := hzz
  have hr := run_make (P := Try.prog) w 24 32 i _ undTimerS hi hz .i64 .i64 n n (by omega) (Int.le_refl _) (by rw [hb]; omega) (by omega)
  rw [hs] at hr
  simp only [Int.toNat_natCast] at hr
  exact hr
abbrev sdV (kind pid k n : Int) (s : ByteArray) (ao : Option Addr) (len cap : Nat) : Value := .agg #[.int .i64 kind, .int .i64 pid, .int .i64 k, .int .i64 n, .string s, .slice ao len cap]
end Go.Proofs.Ytimnnedmpmlmdaa.Tr
