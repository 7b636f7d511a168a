/-
  A system on terms in memory: its code, its actors, what was said; each of them read, and each of them owned.
-/
import Derived.Test.YtdglefedbkgghaaRwA
import Derived.Test.YtdglefedbkgghaaAcC
import Derived.Test.YtdglefedbkgghaaCkA
namespace Go.Proofs.Ytdglefedbkgghaa
open Go.RowKit
open Go.Proofs.Ytdglefedbkgghaa.Code
set_option linter.unusedVariables false

/-! ### What is read -/
structure Sd where
  kind : Int
  pid : Int
  t : Tm
structure Bx5 (w : World) (b o : Nat) (a : Ac) (h : Wh) : Prop where
  c0 : w.cell? ⟨b, o, none⟩ = some (.int .i64 a.pid)
  c1 : w.cell? ⟨b, o + 1, none⟩ = some (.int .i64 a.pc)
  c2 : w.cell? ⟨b, o + 2, none⟩ = some (.slice h.ra a.regs.length h.rc)
  c3 : w.cell? ⟨b, o + 3, none⟩ = some (.slice h.ba a.box.length h.bc)
  c4 : w.cell? ⟨b, o + 4, none⟩ = some (.slice h.la a.N h.lc)
theorem Bx5.below {w w' : World} {b o : Nat} {a : Ac} {h : Wh} (x : Bx5 w b o a h) (hb : Below w.heap.size w w') : Bx5 w' b o a h :=
  ⟨keepA hb x.c0, keepA hb x.c1, keepA hb x.c2, keepA hb x.c3, keepA hb x.c4⟩
/-- The actors l stand one behind the other from ao on. -/
def RowA (w : World) (ao : Option Addr) (l : List Ac) : Prop := l = [] ∨ ∃ b o, ao = some ⟨b, o, none⟩ ∧ ∀ j (hj : j < l.length), ∃ h, Bx5 w b (o + j * 5) l[j] h ∧ AcR w l[j] h
theorem RowA.below {w w' : World} {ao : Option Addr} {l : List Ac} (h : RowA w ao l) (hb : Below w.heap.size w w') : RowA w' ao l := by
  rcases h with h | ⟨b, o, h1, h2⟩
  · exact .inl h
  · exact .inr ⟨b, o, h1, fun j hj => by obtain ⟨h, x, y⟩ := h2 j hj; exact ⟨h, x.below hb, y.below hb⟩⟩
structure BxS (w : World) (b o : Nat) (x : Sd) : Prop where
  c0 : w.cell? ⟨b, o, none⟩ = some (.int .i64 x.kind)
  c1 : w.cell? ⟨b, o + 1, none⟩ = some (.int .i64 x.pid)
  t : RepT 0 w x.t b (o + 2)
theorem repT_below {w w' : World} {t : Tm} {b o : Nat} (h : RepT 0 w t b o) (hb : Below w.heap.size w w') : RepT 0 w' t b o := by
  obtain ⟨k, n, s, l⟩ := t
  rw [RepT] at h ⊢
  obtain ⟨h0, h1, h2, hs, ao, cap, h3, hl, hc, hr⟩ := h
  exact ⟨keepA hb h0, keepA hb h1, keepA hb h2, hs, ao, cap, keepA hb h3, hl, hc, (Keeps.below hb 0).repL _ _ hr⟩
theorem BxS.below {w w' : World} {b o : Nat} {x : Sd} (h : BxS w b o x) (hb : Below w.heap.size w w') : BxS w' b o x :=
  ⟨keepA hb h.c0, keepA hb h.c1, repT_below h.t hb⟩
/-- What was said stands one behind the other from ao on. -/
def RowS (w : World) (ao : Option Addr) (l : List Sd) : Prop := l = [] ∨ ∃ b o, ao = some ⟨b, o, none⟩ ∧ ∀ j (hj : j < l.length), BxS w b (o + j * 6) l[j]
theorem RowS.below {w w' : World} {ao : Option Addr} {l : List Sd} (h : RowS w ao l) (hb : Below w.heap.size w w') : RowS w' ao l := by
  rcases h with h | ⟨b, o, h1, h2⟩
  · exact .inl h
  · exact .inr ⟨b, o, h1, fun j hj => (h2 j hj).below hb⟩
structure Pl where
  code : List I
  acts : List Ac
  next : Int
  out : List Sd
/-- Where its three lists stand. -/
structure Pw where
  ca : Option Addr
  cc : Nat
  aa : Option Addr
  ac : Nat
  oa : Option Addr
  oc : Nat
structure PlR (w : World) (p : Pl) (h : Pw) : Prop where
  code : RowI w h.ca p.code
  acts : RowA w h.aa p.acts
  out : RowS w h.oa p.out
  sm : SmI maxLen p.code
  c1 : p.code.length ≤ maxLen
  a1 : p.acts.length ≤ maxLen
  o1 : p.out.length ≤ maxLen
abbrev plV (p : Pl) (h : Pw) : Value := .agg #[.slice h.ca p.code.length h.cc, .slice h.aa p.acts.length h.ac, .int .i64 p.next, .slice h.oa p.out.length h.oc]
theorem PlR.below {w w' : World} {p : Pl} {h : Pw} (x : PlR w p h) (hb : Below w.heap.size w w') : PlR w' p h :=
  ⟨x.code.below hb, x.acts.below hb, x.out.below hb, x.sm, x.c1, x.a1, x.o1⟩

/-! ### What is owned -/
/-- N numbers in a block of their own. -/
def OwnN (w : World) (N : Nat) (f : Nat → Int) (bs : List Nat) (ao : Option Addr) : Prop :=
  (N = 0 ∧ bs = []) ∨ (N ≠ 0 ∧ ∃ g o, bs = [g] ∧ ao = some ⟨g, o, none⟩ ∧ (∀ x, w.frozen? ⟨g, x, none⟩ = false) ∧ ∀ j, j < N → w.cell? ⟨g, o + j, none⟩ = some (.int .i64 (f j)))
theorem OwnN.rdI {w : World} {N : Nat} {f : Nat → Int} {bs : List Nat} {ao : Option Addr} (h : OwnN w N f bs ao) : RdI w ao N f := fun hn => by
  rcases h with ⟨h0, _⟩ | ⟨_, g, o, _, e, _, hc⟩
  · exact absurd h0 hn
  · exact ⟨g, o, e, hc⟩
theorem OwnN.lt {w : World} {N : Nat} {f : Nat → Int} {bs : List Nat} {ao : Option Addr} (h : OwnN w N f bs ao) : ∀ x ∈ bs, x < w.heap.size := by
  rcases h with ⟨_, h0⟩ | ⟨hn, g, o, e, _, _, hc⟩
  · intro x hx; rw [h0] at hx; cases hx
  · intro x hx
    rw [e] at hx
    obtain rfl := List.mem_singleton.1 hx
    exact World.block_lt_of_cell? w _ (hc 0 (by omega))
theorem OwnN.keep {w w' : World} {N : Nat} {f : Nat → Int} {bs : List Nat} {ao : Option Addr} (hk : ∀ x ∈ bs, x < w.heap.size → w'.heap[x]? = w.heap[x]?) (h : OwnN w N f bs ao) : OwnN w' N f bs ao := by
  have hlt := h.lt
  rcases h with h | ⟨hn, g, o, e, ea, hf, hc⟩
  · exact .inl h
  · have hg := hk g (by rw [e]; simp) (hlt g (by rw [e]; simp))
    exact .inr ⟨hn, g, o, e, ea, fun x => by rw [World.frozen?_of_block (w := w) hg]; exact hf x, fun j hj => by rw [World.cell?_of_block (w := w) hg]; exact hc j hj⟩
/-- The three lists of an actor in blocks of their own. -/
structure AqP (w : World) (a : Ac) (h : Wh) (b1 b2 b3 : List Nat) : Prop where
  regs : OsL w a.regs b1 h.ra
  box : OsL w a.box b2 h.ba
  links : OwnN w a.N a.f b3 h.la
  r1 : a.regs.length ≤ h.rc
  r2 : h.rc ≤ maxLen
  x1 : a.box.length ≤ h.bc
  x2 : h.bc ≤ maxLen
  l1 : a.N ≤ h.lc
  l2 : h.lc ≤ maxLen
def AqO (w : World) (a : Ac) (h : Wh) (bs : List Nat) : Prop := ∃ b1 b2 b3, bs = b1 ++ (b2 ++ b3) ∧ AqP w a h b1 b2 b3
theorem AqO.acR {w : World} {a : Ac} {h : Wh} {bs : List Nat} (x : AqO w a h bs) : AcR w a h := by
  obtain ⟨b1, b2, b3, _, y⟩ := x
  exact ⟨OsL.rep _ _ _ y.regs, OsL.rep _ _ _ y.box, y.links.rdI, y.r1, y.r2, y.x1, y.x2, y.l1, y.l2⟩
theorem AqO.lt {w : World} {a : Ac} {h : Wh} {bs : List Nat} (x : AqO w a h bs) : ∀ b ∈ bs, b < w.heap.size := by
  obtain ⟨b1, b2, b3, e, y⟩ := x
  intro b hb
  rw [e] at hb
  rcases List.mem_append.1 hb with hb | hb
  · exact OsL.lt _ _ _ y.regs b hb
  · rcases List.mem_append.1 hb with hb | hb
    · exact OsL.lt _ _ _ y.box b hb
    · exact y.links.lt b hb
theorem AqO.keep {w w' : World} {a : Ac} {h : Wh} {bs : List Nat} (hk : ∀ x ∈ bs, x < w.heap.size → w'.heap[x]? = w.heap[x]?) (x : AqO w a h bs) : AqO w' a h bs := by
  obtain ⟨b1, b2, b3, e, y⟩ := x
  subst e
  exact ⟨b1, b2, b3, rfl, OsL.keep _ _ _ (fun z hz => hk z (by simp [hz])) y.regs, OsL.keep _ _ _ (fun z hz => hk z (by simp [hz])) y.box, y.links.keep (fun z hz => hk z (by simp [hz])), y.r1, y.r2, y.x1, y.x2, y.l1, y.l2⟩
theorem AqO.below {w w' : World} {a : Ac} {h : Wh} {bs : List Nat} (hb : Below w.heap.size w w') (x : AqO w a h bs) : AqO w' a h bs := x.keep (fun z _ hz => hb.block z hz)
def eltA : Elt Ac where
  s := 5
  E := fun w a bs b off => ∃ h, Bx5 w b off a h ∧ AqO w a h bs
  pos := by omega
  keep := fun hk hc ⟨h, x, y⟩ => ⟨h, ⟨hc 0 _ (by omega) x.c0, hc 1 _ (by omega) x.c1, hc 2 _ (by omega) x.c2, hc 3 _ (by omega) x.c3, hc 4 _ (by omega) x.c4⟩, y.keep hk⟩
  lt := fun ⟨h, x, y⟩ => y.lt
  head := fun ⟨h, x, y⟩ => ⟨_, x.c0⟩
def eltS : Elt Sd where
  s := 6
  E := fun w x bs b off => w.cell? ⟨b, off, none⟩ = some (.int .i64 x.kind) ∧ w.cell? ⟨b, off + 1, none⟩ = some (.int .i64 x.pid) ∧ OsT w x.t bs b (off + 2)
  pos := by omega
  keep := fun hk hc ⟨h0, h1, h2⟩ => ⟨hc 0 _ (by omega) h0, hc 1 _ (by omega) h1, OsT.keep _ _ _ _ hk (fun j v hj hv => by rw [Nat.add_assoc] at hv ⊢; exact hc (2 + j) v (by omega) hv) h2⟩
  lt := fun ⟨h0, h1, h2⟩ => OsT.lt _ _ _ _ h2
  head := fun ⟨h0, h1, h2⟩ => ⟨_, h0⟩
def eltI : Elt I where
  s := 6
  E := fun w x bs b off => bs = [] ∧ Bx6 w b off x
  pos := by omega
  keep := fun hk hc ⟨h0, x⟩ => ⟨h0, ⟨hc 0 _ (by omega) x.c0, hc 1 _ (by omega) x.c1, hc 2 _ (by omega) x.c2, hc 3 _ (by omega) x.c3, hc 4 _ (by omega) x.c4, hc 5 _ (by omega) x.c5⟩⟩
  lt := fun ⟨h0, x⟩ b hb => by rw [h0] at hb; cases hb
  head := fun ⟨h0, x⟩ => ⟨_, x.c0⟩
theorem GL.rowA {w : World} {l : List Ac} {bs : List Nat} {ao : Option Addr} (h : GL eltA w l bs ao) : RowA w ao l := by
  rcases h with h | ⟨hl, g, o, b, _, e2, _, hr⟩
  · exact .inl h.1
  · refine .inr ⟨g, o, e2, fun j hj => ?_⟩
    obtain ⟨bt, _, k, x, y⟩ := hr.at j hj
    exact ⟨k, x, y.acR⟩
theorem GL.rowS {w : World} {l : List Sd} {bs : List Nat} {ao : Option Addr} (h : GL eltS w l bs ao) : RowS w ao l := by
  rcases h with h | ⟨hl, g, o, b, _, e2, _, hr⟩
  · exact .inl h.1
  · refine .inr ⟨g, o, e2, fun j hj => ?_⟩
    obtain ⟨bt, _, x, y, z⟩ := hr.at j hj
    exact ⟨x, y, OsT.rep _ _ _ _ z⟩
theorem GL.rowI {w : World} {l : List I} {bs : List Nat} {ao : Option Addr} (h : GL eltI w l bs ao) : RowI w ao l := by
  rcases h with h | ⟨hl, g, o, b, _, e2, _, hr⟩
  · exact .inl h.1
  · refine .inr ⟨g, o, e2, fun j hj => ?_⟩
    obtain ⟨bt, _, x, y⟩ := hr.at j hj
    exact y
/-- A system in blocks of its own. -/
structure PlQ (w : World) (p : Pl) (h : Pw) (b1 b2 b3 : List Nat) : Prop where
  code : GL eltI w p.code b1 h.ca
  acts : GL eltA w p.acts b2 h.aa
  out : GL eltS w p.out b3 h.oa
  sm : SmI maxLen p.code
  c1 : p.code.length ≤ maxLen
  a1 : p.acts.length ≤ maxLen
  o1 : p.out.length ≤ maxLen
def PlO (w : World) (p : Pl) (h : Pw) (bs : List Nat) : Prop := ∃ b1 b2 b3, bs = b1 ++ (b2 ++ b3) ∧ PlQ w p h b1 b2 b3
theorem PlO.plR {w : World} {p : Pl} {h : Pw} {bs : List Nat} (x : PlO w p h bs) : PlR w p h := by
  obtain ⟨b1, b2, b3, _, y⟩ := x
  exact ⟨y.code.rowI, y.acts.rowA, y.out.rowS, y.sm, y.c1, y.a1, y.o1⟩
theorem PlO.lt {w : World} {p : Pl} {h : Pw} {bs : List Nat} (x : PlO w p h bs) : ∀ b ∈ bs, b < w.heap.size := by
  obtain ⟨b1, b2, b3, e, y⟩ := x
  intro b hb
  rw [e] at hb
  rcases List.mem_append.1 hb with hb | hb
  · exact y.code.lt b hb
  · rcases List.mem_append.1 hb with hb | hb
    · exact y.acts.lt b hb
    · exact y.out.lt b hb
theorem PlO.keep {w w' : World} {p : Pl} {h : Pw} {bs : List Nat} (hk : ∀ x ∈ bs, x < w.heap.size → w'.heap[x]? = w.heap[x]?) (x : PlO w p h bs) : PlO w' p h bs := by
  obtain ⟨b1, b2, b3, e, y⟩ := x
  subst e
  exact ⟨b1, b2, b3, rfl, y.code.keep (fun z hz => hk z (by simp [hz])), y.acts.keep (fun z hz => hk z (by simp [hz])), y.out.keep (fun z hz => hk z (by simp [hz])), y.sm, y.c1, y.a1, y.o1⟩
theorem PlO.below {w w' : World} {p : Pl} {h : Pw} {bs : List Nat} (hb : Below w.heap.size w w') (x : PlO w p h bs) : PlO w' p h bs := x.keep (fun z _ hz => hb.block z hz)
end Go.Proofs.Ytdglefedbkgghaa
