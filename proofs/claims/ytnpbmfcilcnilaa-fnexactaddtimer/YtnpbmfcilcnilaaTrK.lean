/-
  Timers parted into those of which something holds and the others: the program's split.
-/
import Derived.Test.YtnpbmfcilcnilaaTrJ
import Derived.Test.YtnpbmfcilcnilaaRwC
namespace Go.Proofs.Ytnpbmfcilcnilaa.Tr
open Go.RowKit Atom
set_option linter.unusedVariables false

/-- The cells of a timer. -/
theorem ve_timer {w : World} {x : Sd} {va vb : Int} {vc : ByteArray} {vd : Option Addr} {ve vf : Nat} {bs : List Nat} (hv : OsV w bs x.t (.agg #[.int .i64 va, .int .i64 vb, .string vc, .slice vd ve vf])) : VE eltS w x [.int .i64 x.kind, .int .i64 x.pid, .int .i64 va, .int .i64 vb, .string vc, .slice vd ve vf] bs :=
  ⟨rfl, osV_lt hv, fun w' b off hc hk => by
    have hv' := osV_keep hv (fun b hb _ => hk b hb)
    refine ⟨hc 0 _ rfl, hc 1 _ rfl, ?_⟩
    obtain ⟨kind, pid, t⟩ := x
    obtain ⟨k, m, s, l⟩ := t
    obtain ⟨ao, cp, e, q1, q2, q3, q4⟩ := hv'
    simp only [Value.agg.injEq, Array.mk.injEq, List.cons.injEq, Value.int.injEq, Value.string.injEq, true_and, and_true] at e
    show OsT w' (.mk k m s l) bs b (off + 2)
    rw [OsT]
    refine ⟨?_, ?_, ?_, q1, ao, cp, ?_, q2, q3, q4⟩
    · rw [← e.1]; exact hc 2 _ rfl
    · rw [← e.2.1]; exact hc 3 _ rfl
    · rw [← e.2.2.1]; exact hc 4 _ rfl
    · rw [← e.2.2.2]; exact hc 5 _ rfl⟩
/-- Two rows so far; what stands in them leads to blocks of the list D, the rows themselves stand from B on and not in D. -/
structure Two (e : Elt Sd) (B : Nat) (D : List Nat) (wr : World) (u1 u2 : Value) (l1 l2 : List Sd) (x1 x2 : List Value) (b1 b2 : List Nat) : Prop where
  r1 : wr.ownsRow B 38 e.s u1 l1.length x1
  r2 : wr.ownsRow B 38 e.s u2 l2.length x2
  v1 : VL e wr l1 x1 b1
  v2 : VL e wr l2 x2 b2
  dl : ∀ b ∈ D, b < wr.heap.size
  i1 : ∀ b ∈ b1, b ∈ D
  i2 : ∀ b ∈ b2, b ∈ D
  n1 : ∀ g, u1.ownBlock = some g → g ∉ D
  n2 : ∀ g, u2.ownBlock = some g → g ∉ D
  nd : (b1 ++ b2).Nodup
  ne : ∀ g, u1.ownBlock = some g → u2.ownBlock ≠ some g
variable {e : Elt Sd} {B : Nat} {D : List Nat}
theorem Two.nil (w : World) (hD : ∀ b ∈ D, b < w.heap.size) : Two e B D w (.slice none 0 0) (.slice none 0 0) [] [] [] [] [] [] :=
  ⟨World.ownsRow_nil _ _ _ _, World.ownsRow_nil _ _ _ _, ⟨rfl, rfl⟩, ⟨rfl, rfl⟩, hD, (fun b hb => by cases hb), (fun b hb => by cases hb), (fun g hg => by cases hg), (fun g hg => by cases hg), List.nodup_nil, fun g hg => by cases hg⟩
theorem nodup_swap {a b : List Nat} (h : (a ++ b).Nodup) : (b ++ a).Nodup := by
  obtain ⟨h1, h2, h3⟩ := List.nodup_append.1 h
  exact List.nodup_append.2 ⟨h2, h1, fun x hx y hy q => h3 y hy x hx q.symm⟩
theorem Two.swap {wr : World} {u1 u2 : Value} {l1 l2 : List Sd} {x1 x2 : List Value} {b1 b2 : List Nat} (h : Two e B D wr u1 u2 l1 l2 x1 x2 b1 b2) : Two e B D wr u2 u1 l2 l1 x2 x1 b2 b1 :=
  ⟨h.r2, h.r1, h.v2, h.v1, h.dl, h.i2, h.i1, h.n2, h.n1, nodup_swap h.nd, fun g hg q => h.ne g q hg⟩
theorem Two.form1 {wr : World} {u1 u2 : Value} {l1 l2 : List Sd} {x1 x2 : List Value} {b1 b2 : List Nat} (h : Two e B D wr u1 u2 l1 l2 x1 x2 b1 b2) : ∃ a c, u1 = .slice a l1.length c := by
  rcases h.r1.2 with ⟨rfl, h0⟩ | ⟨g, cap, cur, rfl, _⟩
  · exact ⟨none, 0, by rw [h0]⟩
  · exact ⟨_, _, rfl⟩
theorem Two.call {wr w5 : World} {u1 u2 : Value} {l1 l2 : List Sd} {x1 x2 : List Value} {b1 b2 : List Nat} (h : Two e B D wr u1 u2 l1 l2 x1 x2 b1 b2) (hb : Below wr.heap.size wr w5) : Two e B D w5 u1 u2 l1 l2 x1 x2 b1 b2 := by
  have hg : wr.grownBy w5 none := ⟨hb.os, hb.tape, hb.output, hb.size, fun k hk _ => hb.block k hk⟩
  exact ⟨h.r1.kept hg (by cases u1.ownBlock <;> simp), h.r2.kept hg (by cases u2.ownBlock <;> simp), VL.keep hb.size h.v1 (fun x hx => hb.block x (h.dl x (h.i1 x hx))), VL.keep hb.size h.v2 (fun x hx => hb.block x (h.dl x (h.i2 x hx))), fun b hb' => Nat.lt_of_lt_of_le (h.dl b hb') hb.size, h.i1, h.i2, h.n1, h.n2, h.nd, h.ne⟩
/-- One more in the first row. -/
theorem Two.more {w5 w6 : World} {u1 u2 v' : Value} {l1 l2 : List Sd} {x1 x2 vs : List Value} {b1 b2 b' : List Nat} {a : Sd} (h : Two e B D w5 u1 u2 l1 l2 x1 x2 b1 b2) (hve : VE e w5 a vs b') (hd : ∀ b ∈ b', b ∈ D) (hnd : (b' ++ (b1 ++ b2)).Nodup)
    (hown : w6.ownsRow B 38 e.s v' (l1.length + 1) (x1 ++ vs)) (hgr : w5.grownBy w6 u1.ownBlock) (hat : v'.ownBlock = u1.ownBlock ∨ v'.ownBlock = some w5.heap.size) : Two e B D w6 v' u2 (l1 ++ [a]) l2 (x1 ++ vs) x2 (b1 ++ b') b2 := by
  have k6 : ∀ b ∈ D, w6.heap[b]? = w5.heap[b]? := fun b hb => hgr.block b (h.dl b hb) (fun q => h.n1 b q.symm hb)
  refine ⟨by rw [List.length_append]; exact hown, h.r2.kept hgr ?_, VL.snoc (hve.keep hgr.size (fun x hx => k6 x (hd x hx))) (VL.keep hgr.size h.v1 (fun x hx => k6 x (h.i1 x hx))), VL.keep hgr.size h.v2 (fun x hx => k6 x (h.i2 x hx)), fun b hb => Nat.lt_of_lt_of_le (h.dl b hb) hgr.size, fun b hb => ?_, h.i2, fun g hg => ?_, h.n2, ?_, fun g hg q => ?_⟩
  · cases hq : u2.ownBlock with
    | none => exact .inl rfl
    | some g => exact .inr (fun q => h.ne g q.symm hq)
  · rcases List.mem_append.1 hb with hb | hb
    · exact h.i1 b hb
    · exact hd b hb
  · rcases hat with ha | ha
    · exact h.n1 g (by rw [← ha]; exact hg)
    · rw [ha] at hg
      simp only [Option.some.injEq] at hg
      intro hm
      have := h.dl g hm
      omega
  · obtain ⟨n1, n2, n3⟩ := List.nodup_append.1 hnd
    obtain ⟨m1, m2, m3⟩ := List.nodup_append.1 h.nd
    rw [List.append_assoc]
    refine List.nodup_append.2 ⟨m1, List.nodup_append.2 ⟨n1, m2, fun x hx y hy q => n3 x hx y (by simp [hy]) q⟩, fun x hx y hy q => ?_⟩
    rcases List.mem_append.1 hy with hy | hy
    · exact n3 y hy x (by simp [hx]) q.symm
    · exact m3 x hx y hy q
  · rcases hat with ha | ha
    · exact h.ne g (by rw [← ha]; exact hg) q
    · rw [ha] at hg
      simp only [Option.some.injEq] at hg
      have := (own_base h.r2 q).2
      omega
/-- Both rows are lists of their own. -/
theorem Two.done {w : World} {u1 u2 : Value} {l1 l2 : List Sd} {x1 x2 : List Value} {b1 b2 : List Nat} (h : Two e B D w u1 u2 l1 l2 x1 x2 b1 b2) :
    ∃ a1 c1 a2 c2 e1 e2, u1 = .slice a1 l1.length c1 ∧ u2 = .slice a2 l2.length c2 ∧ GL e w l1 e1 a1 ∧ GL e w l2 e2 a2 ∧ (e1 ++ e2).Nodup ∧ (∀ b ∈ e1, b ∈ b1 ∨ B ≤ b) ∧ (∀ b ∈ e2, b ∈ b2 ∨ B ≤ b) := by
  obtain ⟨m1, m2, m3⟩ := List.nodup_append.1 h.nd
  obtain ⟨a1, c1, f1, _, _, e1, g1, j1, n1⟩ := VL.gl h.v1 h.r1
  obtain ⟨a2, c2, f2, _, _, e2, g2, j2, n2⟩ := VL.gl h.v2 h.r2
  refine ⟨a1, c1, a2, c2, e1, e2, f1, f2, g1, g2, List.nodup_append.2 ⟨n1 m1 (fun b hb q => h.n1 b q (h.i1 b hb)), n2 m2 (fun b hb q => h.n2 b q (h.i2 b hb)), fun x hx y hy q => ?_⟩, fun b hb => ?_, fun b hb => ?_⟩
  · subst q
    rcases j1 x hx with p1 | p1 <;> rcases j2 x hy with p2 | p2
    · exact m3 x p1 x p2 rfl
    · exact h.n2 x p2 (h.i1 x p1)
    · exact h.n1 x p1 (h.i2 x p2)
    · exact h.ne x p1 p2
  · rcases j1 b hb with p | p
    · exact .inl p
    · exact .inr (own_base h.r1 p).1
  · rcases j2 b hb with p | p
    · exact .inl p
    · exact .inr (own_base h.r2 p).1
theorem sixCells {w : World} {a b c d e f : Value} {t : TypeId} : ∀ j u, [a, b, c, d, e, f][j]? = some u → (w.alloc (.cells #[a, b, c, d, e, f] t)).cell? ((⟨w.heap.size, 0, none⟩ : Addr).add j) = some u := fun j u h => by
  rw [Addr.add_lit, Nat.zero_add, World.cell?_alloc_new]
  simpa using h
theorem sixOne {a b k n : Int} {s : ByteArray} {ao : Option Addr} {len cap : Nat} : ∀ v ∈ ([.int .i64 a, .int .i64 b, .int .i64 k, .int .i64 n, .string s, .slice ao len cap] : List Value), v.oneCell' = true := fun v hv => by
  simp at hv
  rcases hv with rfl | rfl | rfl | rfl | rfl | rfl <;> rfl
theorem take_filter {l : List Sd} {k : Nat} (h : k < l.length) (P : Sd → Bool) : (l.take (k + 1)).filter P = (l.take k).filter P ++ (if P l[k] = true then [l[k]] else []) := by
  rw [List.take_succ_eq_append_getElem h, List.filter_append]
  congr 1
  cases hp : P l[k] <;> simp [hp]
theorem hid {p : Prop} (h : p) : Hid p := h
def dueB (now : Int) (x : Sd) : Bool := decide (x.kind ≤ now)
def ofB (pid : Int) (x : Sd) : Bool := x.pid == pid
def notB (P : Sd → Bool) (x : Sd) : Bool := !P x

end Go.Proofs.Ytnpbmfcilcnilaa.Tr
