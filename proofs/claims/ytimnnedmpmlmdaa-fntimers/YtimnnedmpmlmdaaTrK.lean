/-
  Timers parted into those of which something holds and the others: the program's split.
-/
import Derived.Test.YtimnnedmpmlmdaaTrJ
import Derived.Test.YtimnnedmpmlmdaaRwC
namespace Go.Proofs.Ytimnnedmpmlmdaa.Tr
open Go.RowKit Atom
set_option linter.unusedVariables false

/-- The cells of a timer. -/
theorem ve_timer {w : World} {x : Sd} {va vb : Int} {vc : ByteArray} {vd : Option Addr} {ve vf : Nat} {bs : List Nat} (hv : OsV w bs x.t (.agg #[.int .i64 va, .int .i64 vb, .string vc, .slice vd ve vf])) : VE eltS w x [.int .i64 x.kind, .int .i64 x.pid, .int .i64 va, .int .i64 vb, .string vc, .slice vd ve vf] bs :=
  ⟨rfl, osV_lt hv, fun w' b off hc hk => by
    have hv' := osV_keep hv (fun b hb _ => hk b hb)
    refine ⟨hc 0 _ rfl, hc 1 _ rfl, ?_⟩
    obtain ⟨kind, pid, t⟩ := x
    obtain ⟨k, m, s, l⟩ := t
    obtain ⟨ao, cp, e, q1, q2, q3, q4⟩ := hv'
    simp only [Value.agg.injEq, Array.mk.injEq, List.cons.injEq, Value.int.injEq, Value.string.injEq, true_and, and_true] at e
    show OsT w' (.mk k m s l) bs b (off + 2)
    rw [OsT]
    refine ⟨?_, ?_, ?_, q1, ao, cp, ?_, q2, q3, q4⟩
    · rw [← e.1]; exact hc 2 _ rfl
    · rw [← e.2.1]; exact hc 3 _ rfl
    · rw [← e.2.2.1]; exact hc 4 _ rfl
    · rw [← e.2.2.2]; exact hc 5 _ rfl⟩
/-- Two rows so far; what stands in them leads to blocks of the list D, the rows themselves stand from B on and not in D. -/
structure Two (e : Elt Sd) (B : Nat) (D : List Nat) (wr : World) (u1 u2 : Value) (l1 l2 : List Sd) (x1 x2 : List Value) (b1 b2 : List Nat) : Prop where
  r1 : wr.ownsRow B 32 e.s u1 l1.length x1
  r2 : wr.ownsRow B 32 e.s u2 l2.length x2
  v1 : VL e wr l1 x1 b1
  v2 : VL e wr l2 x2 b2
  dl : ∀ b ∈ D, b < wr.heap.size
  i1 : ∀ b ∈ b1, b ∈ D
  i2 : ∀ b ∈ b2, b ∈ D
  n1 : ∀ g, u1.ownBlock = some g → g ∉ D
  n2 : ∀ g, u2.ownBlock = some g → g ∉ D
  nd : (b1 ++ b2).Nodup
  ne : ∀ g, u1.ownBlock = some g → u2.ownBlock ≠ some g
variable {e : Elt Sd} {B : Nat} {D : List Nat}
theorem Two.nil (w : World) (hD : ∀ b ∈ D, b < w.heap.size) : Two e B D w (.slice none 0 0) (.slice none 0 0) [] [] [] [] [] [] :=
  ⟨World.ownsRow_nil _ _ _ _, World.ownsRow_nil _ _ _ _, ⟨rfl, rfl⟩, ⟨rfl, rfl⟩, hD, (fun b hb => by cases hb), (fun b hb => by cases hb), (fun g hg => by cases hg), (fun g hg => by cases hg), List.nodup_nil, fun g hg => by cases hg⟩
theorem nodup_swap {a b : List Nat} (h : (a ++ b).Nodup) : (b ++ a).Nodup := by
  obtain ⟨h1, h2, h3⟩ := List.nodup_append.1 h
  exact List.nodup_append.2 ⟨h2, h1, fun x hx y hy q => h3 y hy x hx q.symm⟩
theorem Two.swap {wr : World} {u1 u2 : Value} {l1 l2 : List Sd} {x1 x2 : List Value} {b1 b2 : List Nat} (h : Two e B D wr u1 u2 l1 l2 x1 x2 b1 b2) : Two e B D wr u2 u1 l2 l1 x2 x1 b2 b1 :=
  ⟨h.r2, h.r1, h.v2, h.v1, h.dl, h.i2, h.i1, h.n2, h.n1, nodup_swap h.nd, fun g hg q => h.ne g q hg⟩
theorem Two.form1 {wr : World} {u1 u2 : Value} {l1 l2 : List Sd} {x1 x2 : List Value} {b1 b2 : List Nat} (h : Two e B D wr u1 u2 l1 l2 x1 x2 b1 b2) : ∃ a c, u1 = .slice a l1.length c := by
  rcases h.r1.2 with ⟨rfl, h0⟩ | ⟨g, cap, cur, rfl, _⟩
  · exact ⟨none, 0, by rw [h0]⟩
  · exact ⟨_, _, rfl⟩
theorem Two.call {wr w5 : World} {u1 u2 : Value} {l1 l2 : List Sd} {x1 x2 : List Value} {b1 b2 : List Nat} (h : Two e B D wr u1 u2 l1 l2 x1 x2 b1 b2) (hb : Below wr.heap.size wr w5) : Two e B D w5 u1 u2 l1 l2 x1 x2 b1 b2 := by
  have hg : wr.grownBy w5 none := ⟨hb.os, hb.tape, hb.output, hb.size, fun k hk _ => hb.block k hk⟩
  exact ⟨h.r1.kept hg (by cases u1.ownBlock <;> simp), h.r2.kept hg (by cases u2.ownBlock <;> simp), VL.keep hb.size h.v1 (fun x hx => hb.block x (h.dl x (h.i1 x hx))), VL.keep hb.size h.v2 (fun x hx => hb.block x (h.dl x (h.i2 x hx))), fun b hb' => Nat.lt_of_lt_of_le (h.dl b hb') hb.size, h.i1, h.i2, h.n1, h.n2, h.nd, h.ne⟩
/-- One more in the first row. -/
theorem Two.more {w5 w6 : World} {u1 u2 v' : Value} {l1 l2 : List Sd} {x1 x2 vs : List Value} {b1 b2 b' : List Nat} {a : Sd} (h : Two e B D w5 u1 u2 l1 l2 x1 x2 b1 b2) (hve : VE e w5 a vs b') (hd : ∀ b ∈ b', b ∈ D) (hnd : (b' ++ (b1 ++ b2)).Nodup)
    (hown : w6.ownsRow B 32 e.s v' (l1.length + 1) (x1 ++ vs)) (hgr : w5.grownBy w6 u1.ownBlock) (hat : v'.ownBlock = u1.ownBlock ∨ v'.ownBlock = some w5.heap.size) : Two e B D w6 v' u2 (l1 ++ [a]) l2 (x1 ++ vs) x2 (b1 ++ b') b2 := by
  have k6 : ∀ b ∈ D, w6.heap[b]? = w5.heap[b]? := fun b hb => hgr.block b (h.dl b hb) (fun q => h.n1 b q.symm hb)
  refine ⟨by rw [List.length_append]; exact hown, h.r2.kept hgr ?_, VL.snoc (hve.keep hgr.size (fun x hx => k6 x (hd x hx))) (VL.keep hgr.size h.v1 (fun x hx => k6 x (h.i1 x hx))), VL.keep hgr.size h.v2 (fun x hx => k6 x (h.i2 x hx)), fun b hb => Nat.lt_of_lt_of_le (h.dl b hb) hgr.size, fun b hb => ?_, h.i2, fun g hg => ?_, h.n2, ?_, fun g hg q => ?_⟩
  · cases hq : u2.ownBlock with
    | none => exact .inl rfl
    | some g => exact .inr (fun q => h.ne g q.symm hq)
  · rcases List.mem_append.1 hb with hb | hb
    · exact h.i1 b hb
    · exact hd b hb
  · rcases hat with ha | ha
    · exact h.n1 g (by rw [← ha]; exact hg)
    · rw [ha] at hg
      simp only [Option.some.injEq] at hg
      intro hm
      have := h.dl g hm
      omega
  · obtain ⟨n1, n2, n3⟩ := List.nodup_append.1 hnd
    obtain ⟨m1, m2, m3⟩ := List.nodup_append.1 h.nd
    rw [List.append_assoc]
    refine List.nodup_append.2 ⟨m1, List.nodup_append.2 ⟨n1, m2, fun x hx y hy q => n3 x hx y (by simp [hy]) q⟩, fun x hx y hy q => ?_⟩
    rcases List.mem_append.1 hy with hy | hy
    · exact n3 y hy x (by simp [hx]) q.symm
    · exact m3 x hx y hy q
  · rcases hat with ha | ha
    · exact h.ne g (by rw [← ha]; exact hg) q
    · rw [ha] at hg
      simp only [Option.some.injEq] at hg
      have := (own_base h.r2 q).2
      omega
/-- Both rows are lists of their own. -/
theorem Two.done {w : World} {u1 u2 : Value} {l1 l2 : List Sd} {x1 x2 : List Value} {b1 b2 : List Nat} (h : Two e B D w u1 u2 l1 l2 x1 x2 b1 b2) :
    ∃ a1 c1 a2 c2 e1 e2, u1 = .slice a1 l1.length c1 ∧ u2 = .slice a2 l2.length c2 ∧ GL e w l1 e1 a1 ∧ GL e w l2 e2 a2 ∧ (e1 ++ e2).Nodup ∧ (∀ b ∈ e1, b ∈ b1 ∨ B ≤ b) ∧ (∀ b ∈ e2, b ∈ b2 ∨ B ≤ b) := by
  obtain ⟨m1, m2, m3⟩ := List.nodup_append.1 h.nd
  obtain ⟨a1, c1, f1, _, _, e1, g1, j1, n1⟩ := VL.gl h.v1 h.r1
  obtain ⟨a2, c2, f2, _, _, e2, g2, j2, n2⟩ := VL.gl h.v2 h.r2
  refine ⟨a1, c1, a2, c2, e1, e2, f1, f2, g1, g2, List.nodup_append.2 ⟨n1 m1 (fun b hb q => h.n1 b q (h.i1 b hb)), n2 m2 (fun b hb q => h.n2 b q (h.i2 b hb)), fun x hx y hy q => ?_⟩, fun b hb => ?_, fun b hb => ?_⟩
  · subst q
    rcases j1 x hx with p1 | p1 <;> rcases j2 x hy with p2 | p2
    · exact m3 x p1 x p2 rfl
    · exact h.n2 x p2 (h.i1 x p1)
    · exact h.n1 x p1 (h.i2 x p2)
    · exact h.ne x p1 p2
  · rcases j1 b hb with p | p
    · exact .inl p
    · exact .inr (own_base h.r1 p).1
  · rcases j2 b hb with p | p
    · exact .inl p
    · exact .inr (own_base h.r2 p).1
theorem sixCells {w : World} {a b c d e f : Value} {t : TypeId} : ∀ j u, [a, b, c, d, e, f][j]? = some u → (w.alloc (.cells #[a, b, c, d, e, f] t)).cell? ((⟨w.heap.size, 0, none⟩ : Addr).add j) = some u := fun j u h => by
  rw [Addr.add_lit, Nat.zero_add, World.cell?_alloc_new]
  simpa using h
theorem sixOne {a b k n : Int} {s : ByteArray} {ao : Option Addr} {len cap : Nat} : ∀ v ∈ ([.int .i64 a, .int .i64 b, .int .i64 k, .int .i64 n, .string s, .slice ao len cap] : List Value), v.oneCell' = true := fun v hv => by
  simp at hv
  rcases hv with rfl | rfl | rfl | rfl | rfl | rfl <;> rfl
theorem take_filter {l : List Sd} {k : Nat} (h : k < l.length) (P : Sd → Bool) : (l.take (k + 1)).filter P = (l.take k).filter P ++ (if P l[k] = true then [l[k]] else []) := by
  rw [List.take_succ_eq_append_getElem h, List.filter_append]
  congr 1
  cases hp : P l[k] <;> simp [hp]
theorem hid {p : Prop} (h : p) : Hid p := h
def dueB (now : Int) (x : Sd) : Bool := decide (x.kind ≤ now)
def ofB (pid : Int) (x : Sd) : Bool := x.pid == pid
def notB (P : Sd → Bool) (x : Sd) : Bool := !P x

theorem drop1_any (a p k n : Int) (s : ByteArray) (ao : Option Addr) (len cap : Nat) (z : Int) (nb : Nat) (w : World) (hc : w.cell? ⟨nb, 0, none⟩ = some (.int .i64 z)) :
    Calls Try.prog 20 #[sdV a p k n s ao len cap, .pointer (some ⟨nb, 0, none⟩)] w fun e w' => e = .returned (.bool (p == z)) ∧ Below w.heap.size w w' := by
  have hlt := World.block_lt_of_cell? w _ hc
  have hlt' : nb < w.heap.size := hlt
  clear hlt
  go_enter Try.func20, Try.ntmps20
  go_wp2_with fail
  go_ret
  exact ⟨rfl, (Below.refl _ _).alloc (Nat.le_refl _) _⟩

set_option maxHeartbeats 4000000 in
set_option maxRecDepth 100000 in
theorem splitDrop_any (l : List Sd) (bs0 : List Nat) (ao : Option Addr) (cap : Nat) (z : Int) (nb : Nat) (w : World) (hr : GL eltS w l bs0 ao) (hnd0 : bs0.Nodup) (hl : l.length ≤ 1048576) (hc : w.cell? ⟨nb, 0, none⟩ = some (.int .i64 z)) :
    Calls Try.prog 19 #[.slice ao l.length cap, .func (.func 20) #[] #[.pointer (some ⟨nb, 0, none⟩)]] w fun e w' => ∃ a1 c1 a2 c2 e1 e2, e = .returned (.tuple #[.slice a1 (l.filter (ofB z)).length c1, .slice a2 (l.filter (notB (ofB z))).length c2]) ∧ GL eltS w' (l.filter (ofB z)) e1 a1 ∧ GL eltS w' (l.filter (notB (ofB z))) e2 a2 ∧ (e1 ++ e2).Nodup ∧ (∀ b ∈ e1 ++ e2, b ∈ bs0 ∨ w.heap.size ≤ b) ∧ Below w.heap.size w w' := by
  obtain ⟨g, o, b0, hao, hr0, hnd, hsub⟩ : ∃ g o b0, (l ≠ [] → ao = some ⟨g, o, none⟩) ∧ GR eltS w l b0 g o ∧ b0.Nodup ∧ ∀ b ∈ b0, b ∈ bs0 := by
    rcases hr with h | ⟨h1, g, o, b, e1, e2, _, hr⟩
    · refine ⟨0, 0, [], fun h' => absurd h.1 h', ?_, List.nodup_nil, fun b hb => by cases hb⟩
      rw [h.1, GR]
    · rw [e1, List.nodup_cons] at hnd0
      exact ⟨g, o, b, fun _ => e2, hr, hnd0.2, fun x hx => by rw [e1]; simp [hx]⟩
  have HAO : Hid (l ≠ [] → ao = some ⟨g, o, none⟩) := hao
  have HND : Hid (b0.Nodup) := hnd
  have HSUB : Hid (∀ b ∈ b0, b ∈ bs0) := hsub
  have HR0 : Hid (GR eltS w l b0 g o) := hr0
  have HLT : Hid (∀ b ∈ b0, b < w.heap.size) := hr0.lt
  have HC : Hid (w.cell? ⟨nb, 0, none⟩ = some (.int .i64 z)) := hc
  obtain ⟨i0, hi, hzz⟩ := Option.map_eq_some_iff.1 infoTimer
  simp only [Prod.mk.injEq] at hzz
  have HI : Hid (Try.prog.info? 32 = some i0 ∧ i0.zero = some (.agg #[.int .i64 0, .int .i64 0, .int .i64 0, .int .i64 0, .string ⟨#[]⟩, .slice none 0 0]) ∧ i0.size = 6 ∧ i0.bytes = 72) := ⟨hi, hzz⟩
  clear hao hnd hsub hr0 hc hr hnd0 hi hzz
  go_enter Try.func19, Try.ntmps19
  go_wp2_with fail
  go_loopw [6, 7, 12] (fun u1 u2 i wr => ∃ (k : Nat) (x1 x2 : List Value) (b1 b2 ba br : List Nat), k ≤ l.length ∧ i = .int .i64 k ∧ b0 = ba ++ br ∧ GR eltS w (l.drop k) br g (o + k * 6) ∧ (∀ b ∈ b1 ++ b2, b ∈ ba) ∧ Two eltS w.heap.size b0 wr u1 u2 ((l.take k).filter (ofB z)) ((l.take k).filter (notB (ofB z))) x1 x2 b1 b2 ∧ Below w.heap.size w wr) (fun _ _ i _ => l.length - (intOf i).toNat)
  case atStart => exact ⟨0, [], [], [], [], [], b0, Nat.zero_le _, rfl, rfl, by simpa using HR0.out, (fun b hb => by cases hb), Two.nil _ HLT.out, Below.refl _ _⟩
  case round =>
    obtain ⟨k, x1, x2, b1, b2, ba, br, hk, rfl, eb, hgr, hmem, htw, hbe⟩ := hrel
    obtain ⟨ua, uc, rfl⟩ := htw.form1
    obtain ⟨va, vc, rfl⟩ := htw.swap.form1
    have HTW : Hid (Two eltS w.heap.size b0 wr (.slice ua ((l.take k).filter (ofB z)).length uc) (.slice va ((l.take k).filter (notB (ofB z))).length vc) ((l.take k).filter (ofB z)) ((l.take k).filter (notB (ofB z))) x1 x2 b1 b2) := htw
    have HBE : Hid (Below w.heap.size w wr) := hbe
    have HMEM : Hid (b0 = ba ++ br ∧ ∀ b ∈ b1 ++ b2, b ∈ ba) := ⟨eb, hmem⟩
    clear htw hbe hmem eb
    by_cases hlt : k < l.length
    · obtain rfl := HAO.out (fun h => by rw [h] at hlt; simp at hlt)
      rw [List.drop_eq_getElem_cons hlt, GR] at hgr
      obtain ⟨bt, bn, ebr, hE, hgn⟩ := hgr
      have HNX : Hid (b0 = (ba ++ bt) ++ bn ∧ GR eltS w (l.drop (k + 1)) bn g (o + (k + 1) * 6)) := by
        refine ⟨by rw [HMEM.out.1, ebr, List.append_assoc], ?_⟩
        have e6 : o + k * 6 + eltS.s = o + (k + 1) * 6 := by show o + k * 6 + 6 = _; omega
        rw [← e6]; exact hgn
      have HBT : Hid ((∀ b ∈ bt, b < w.heap.size) ∧ (bt ++ (b1 ++ b2)).Nodup ∧ ∀ b ∈ bt, b ∈ b0) := by
        have hn := HND.out
        rw [HMEM.out.1, ebr] at hn
        have h0 := HLT.out
        rw [HMEM.out.1, ebr] at h0
        refine ⟨fun b hb => h0 b (by simp [hb]), ?_, fun b hb => by rw [HMEM.out.1, ebr]; simp [hb]⟩
        obtain ⟨n1, n2, n3⟩ := List.nodup_append.1 hn
        refine List.nodup_append.2 ⟨(List.nodup_append.1 n2).1, HTW.out.nd, fun x hx y hy q => n3 y (HMEM.out.2 y hy) x (by simp [hx]) q.symm⟩
      have HF1 : Hid ((l.take (k + 1)).filter (ofB z) = (l.take k).filter (ofB z) ++ (if ofB z l[k] = true then [l[k]] else [])) := take_filter hlt _
      have HF2 : Hid ((l.take (k + 1)).filter (notB (ofB z)) = (l.take k).filter (notB (ofB z)) ++ (if notB (ofB z) l[k] = true then [l[k]] else [])) := take_filter hlt _
      have HL1 : Hid (((l.take k).filter (ofB z)).length ≤ k ∧ ((l.take k).filter (notB (ofB z))).length ≤ k) := by
        have h1 := List.length_filter_le (ofB z) (l.take k)
        have h2 := List.length_filter_le (notB (ofB z)) (l.take k)
        rw [List.length_take] at h1 h2
        exact ⟨by omega, by omega⟩
      have HEW : Hid (∀ wc, Below w.heap.size w wc → eltS.E wc l[k] bt g (o + k * 6)) := fun wc hb => eltS.keep (fun x hx hlt => hb.block x hlt) (fun j v hj hv => by rw [hb.cell (p := ⟨g, o + k * 6 + j, none⟩) (World.block_lt_of_cell? w ⟨g, o + k * 6 + j, none⟩ hv)]; exact hv) hE
      have hE' := HEW.out wr HBE.out
      clear hE hgn ebr
      generalize hx : l[k] = x at hE' HEW HF1 HF2
      clear hx
      obtain ⟨ta, tp, t⟩ := x
      obtain ⟨tk, tn, ts, tl⟩ := t
      obtain ⟨d0, d1, hOT⟩ := hE'
      rw [OsT] at hOT
      obtain ⟨d2, d3, d4, hs4, tao, tcap, d5, hl5, hc5, hr5⟩ := hOT
      dsimp only at d0 d1
      obtain ⟨wa, hwa⟩ : ∃ wa, wa = wr.alloc (.cells #[.int .i64 ta, .int .i64 tp, .int .i64 tk, .int .i64 tn, .string ts, .slice tao tl.length tcap] 32) := ⟨_, rfl⟩
      have hba : Below wr.heap.size wr wa := by rw [hwa]; exact (Below.refl _ _).alloc (Nat.le_refl _) _
      have HBA : Hid (Below wr.heap.size wr wa ∧ Below w.heap.size w wa) := ⟨hba, HBE.out.trans (hba.mono HBE.out.size)⟩
      have qa : ∀ x, wa.cell? ⟨wr.heap.size, x, none⟩ = (#[.int .i64 ta, .int .i64 tp, .int .i64 tk, .int .i64 tn, .string ts, .slice tao tl.length tcap] : Array Value)[x]? := fun x => by rw [hwa, World.cell?_alloc_new]
      have HQ : Hid (∀ wc, Below wa.heap.size wa wc → wc.cell? ⟨wr.heap.size, 0, none⟩ = some (.int .i64 ta) ∧ wc.cell? ⟨wr.heap.size, 1, none⟩ = some (.int .i64 tp) ∧ wc.cell? ⟨wr.heap.size, 2, none⟩ = some (.int .i64 tk) ∧ wc.cell? ⟨wr.heap.size, 3, none⟩ = some (.int .i64 tn) ∧ wc.cell? ⟨wr.heap.size, 4, none⟩ = some (.string ts) ∧ wc.cell? ⟨wr.heap.size, 5, none⟩ = some (.slice tao tl.length tcap)) := fun wc hb =>
        ⟨keepOt hb (qa 0), keepOt hb (qa 1), keepOt hb (qa 2), keepOt hb (qa 3), keepOt hb (qa 4), keepOt hb (qa 5)⟩
      have HCL : Hid (Calls Try.prog 20 #[sdV ta tp tk tn ts tao tl.length tcap, .pointer (some ⟨nb, 0, none⟩)] wa fun e w' => e = .returned (.bool (ofB z ⟨ta, tp, .mk tk tn ts tl⟩)) ∧ Below wa.heap.size wa w') := drop1_any ta tp tk tn ts tao tl.length tcap z nb wa (by have h := HC.out; rw [HBA.out.2.cell (p := ⟨nb, 0, none⟩) (World.block_lt_of_cell? w ⟨nb, 0, none⟩ h)]; exact h)
      have HVE : Hid (∀ wc, Below w.heap.size w wc → VE eltS wc ⟨ta, tp, .mk tk tn ts tl⟩ [.int .i64 ta, .int .i64 tp, .int .i64 tk, .int .i64 tn, .string ts, .slice tao tl.length tcap] bt) := fun wc hb => by
        refine ve_timer (x := ⟨ta, tp, .mk tk tn ts tl⟩) ⟨tao, tcap, rfl, hs4, hl5, hc5, OsL.keep _ _ _ (fun x hx hlx => ?_) hr5⟩
        rw [hb.block x (HBT.out.1 x hx), HBE.out.block x (HBT.out.1 x hx)]
      clear hba qa hs4 hl5 hc5 hr5
      generalize hq : ofB z ⟨ta, tp, .mk tk tn ts tl⟩ = q at HCL
      have HQQ : Hid (ofB z ⟨ta, tp, .mk tk tn ts tl⟩ = q) := hq
      clear hq
      go_wp2_with (go_at_call 20; fail)
      rw [← hwa]
      clear hwa
      refine HCL.out.mono ?_
      rintro e w3 ⟨rfl, hb3⟩
      obtain ⟨c0, c1, c2, c3, c4, c5⟩ := HQ.out w3 hb3
      have HB3 : Hid (Below w.heap.size w w3) := HBA.out.2.trans (hb3.mono HBA.out.2.size)
      have hb3' : Below wr.heap.size wr w3 := HBA.out.1.trans (hb3.mono HBA.out.1.size)
      have HT3 : Hid (Two eltS w.heap.size b0 (w3.alloc (.cells #[.int .i64 ta, .int .i64 tp, .int .i64 tk, .int .i64 tn, .string ts, .slice tao tl.length tcap] 32)) (.slice ua ((l.take k).filter (ofB z)).length uc) (.slice va ((l.take k).filter (notB (ofB z))).length vc) ((l.take k).filter (ofB z)) ((l.take k).filter (notB (ofB z))) x1 x2 b1 b2) :=
        (HTW.out.call hb3').call ((Below.refl _ _).alloc (Nat.le_refl _) _)
      have HB4 : Hid (Below w.heap.size w (w3.alloc (.cells #[.int .i64 ta, .int .i64 tp, .int .i64 tk, .int .i64 tn, .string ts, .slice tao tl.length tcap] 32))) := HB3.out.alloc HB3.out.size _
      clear hb3 hb3' d0 d1 d2 d3 d4 d5
      have C31 : Hid (((l.take k).filter (ofB z)).length + 1 ≤ maxLen) := by have := HL1.out.1; show _ ≤ _; unfold maxLen; omega
      have C41 : Hid ((((l.take k).filter (ofB z)).length + 1) * 72 ≤ 140737488355328) := by have := HL1.out.1; show _ ≤ _; omega
      have C32 : Hid (((l.take k).filter (notB (ofB z))).length + 1 ≤ maxLen) := by have := HL1.out.2; show _ ≤ _; unfold maxLen; omega
      have C42 : Hid ((((l.take k).filter (notB (ofB z))).length + 1) * 72 ≤ 140737488355328) := by have := HL1.out.2; show _ ≤ _; omega
      cases q
      · have HE1 : Hid ((l.take (k + 1)).filter (ofB z) = (l.take k).filter (ofB z) ∧ (l.take (k + 1)).filter (notB (ofB z)) = (l.take k).filter (notB (ofB z)) ++ [⟨ta, tp, .mk tk tn ts tl⟩]) := by
          refine ⟨?_, ?_⟩
          · rw [HF1.out, HQQ.out]; simp
          · rw [HF2.out]; unfold notB; rw [HQQ.out]; simp
        have HFIN : Hid (∀ v' w6, w6.ownsRow w.heap.size 32 6 v' (((l.take k).filter (notB (ofB z))).length + 1) (x2 ++ [.int .i64 ta, .int .i64 tp, .int .i64 tk, .int .i64 tn, .string ts, .slice tao tl.length tcap]) → (w3.alloc (.cells #[.int .i64 ta, .int .i64 tp, .int .i64 tk, .int .i64 tn, .string ts, .slice tao tl.length tcap] 32)).grownBy w6 (Value.slice va ((l.take k).filter (notB (ofB z))).length vc).ownBlock → (v'.ownBlock = (Value.slice va ((l.take k).filter (notB (ofB z))).length vc).ownBlock ∨ v'.ownBlock = some (w3.alloc (.cells #[.int .i64 ta, .int .i64 tp, .int .i64 tk, .int .i64 tn, .string ts, .slice tao tl.length tcap] 32)).heap.size) → Two eltS w.heap.size b0 w6 (.slice ua ((l.take k).filter (ofB z)).length uc) v' ((l.take (k + 1)).filter (ofB z)) ((l.take (k + 1)).filter (notB (ofB z))) x1 (x2 ++ [.int .i64 ta, .int .i64 tp, .int .i64 tk, .int .i64 tn, .string ts, .slice tao tl.length tcap]) b1 (b2 ++ bt) ∧ Below w.heap.size w w6) := fun v' w6 h1 h2 h3 => by
          rw [HE1.out.1, HE1.out.2]
          refine ⟨(HT3.out.swap.more (HVE.out _ HB4.out) HBT.out.2.2 ?_ h1 h2 h3).swap, ?_⟩
          · obtain ⟨n1, n2, n3⟩ := List.nodup_append.1 HBT.out.2.1
            exact List.nodup_append.2 ⟨n1, nodup_swap n2, fun x hx y hy q => n3 x hx y (by rcases List.mem_append.1 hy with h | h <;> simp [h]) q⟩
          · exact ⟨h2.os.trans HB4.out.os, h2.tape.trans HB4.out.tape, h2.output.trans HB4.out.output, Nat.le_trans HB4.out.size h2.size, fun b hb => (h2.block b (Nat.lt_of_lt_of_le hb HB4.out.size) (fun q => by have := (own_base HT3.out.r2 q.symm).1; omega)).trans (HB4.out.block b hb)⟩
        go_wp2_with (at_builtin; refine wpList_append_own_at _ rfl _ _ 44 rfl w.heap.size 32 i0 (.agg #[.int .i64 0, .int .i64 0, .int .i64 0, .int .i64 0, .string ⟨#[]⟩, .slice none 0 0]) 6 72 undQ HI.out.1 HI.out.2.1 HI.out.2.2.1 HI.out.2.2.2 rfl (by decide) (.slice va ((l.take k).filter (notB (ofB z))).length vc) ((l.take k).filter (notB (ofB z))).length x2 rfl HT3.out.r2 ⟨w3.heap.size, 0, none⟩ 1 1 [.int .i64 ta, .int .i64 tp, .int .i64 tk, .int .i64 tn, .string ts, .slice tao tl.length tcap] rfl rfl sixCells sixOne C32.out C42.out HB4.out.size ?_; intro v6 w6 hown6 hgr6 hnn6 hat6; have HG6 := hid (HFIN.out v6 w6 hown6 hgr6 hat6); clear hown6 hgr6 hnn6 hat6)
        go_roundw
        case rel => exact ⟨k + 1, x1, _, b1, b2 ++ bt, ba ++ bt, bn, by omega, by go_num, HNX.out.1, HNX.out.2, fun b hb => (by
          rcases List.mem_append.1 hb with h | h
          · exact List.mem_append_left _ (HMEM.out.2 b (by simp [h]))
          · rcases List.mem_append.1 h with h | h
            · exact List.mem_append_left _ (HMEM.out.2 b (by simp [h]))
            · exact List.mem_append_right _ h), HG6.out.1, HG6.out.2⟩
        case measure => simp [intOf]; omega
      · have HE1 : Hid ((l.take (k + 1)).filter (ofB z) = (l.take k).filter (ofB z) ++ [⟨ta, tp, .mk tk tn ts tl⟩] ∧ (l.take (k + 1)).filter (notB (ofB z)) = (l.take k).filter (notB (ofB z))) := by
          refine ⟨?_, ?_⟩
          · rw [HF1.out, HQQ.out]; simp
          · rw [HF2.out]; unfold notB; rw [HQQ.out]; simp
        have HFIN : Hid (∀ v' w6, w6.ownsRow w.heap.size 32 6 v' (((l.take k).filter (ofB z)).length + 1) (x1 ++ [.int .i64 ta, .int .i64 tp, .int .i64 tk, .int .i64 tn, .string ts, .slice tao tl.length tcap]) → (w3.alloc (.cells #[.int .i64 ta, .int .i64 tp, .int .i64 tk, .int .i64 tn, .string ts, .slice tao tl.length tcap] 32)).grownBy w6 (Value.slice ua ((l.take k).filter (ofB z)).length uc).ownBlock → (v'.ownBlock = (Value.slice ua ((l.take k).filter (ofB z)).length uc).ownBlock ∨ v'.ownBlock = some (w3.alloc (.cells #[.int .i64 ta, .int .i64 tp, .int .i64 tk, .int .i64 tn, .string ts, .slice tao tl.length tcap] 32)).heap.size) → Two eltS w.heap.size b0 w6 v' (.slice va ((l.take k).filter (notB (ofB z))).length vc) ((l.take (k + 1)).filter (ofB z)) ((l.take (k + 1)).filter (notB (ofB z))) (x1 ++ [.int .i64 ta, .int .i64 tp, .int .i64 tk, .int .i64 tn, .string ts, .slice tao tl.length tcap]) x2 (b1 ++ bt) b2 ∧ Below w.heap.size w w6) := fun v' w6 h1 h2 h3 => by
          rw [HE1.out.1, HE1.out.2]
          refine ⟨HT3.out.more (HVE.out _ HB4.out) HBT.out.2.2 HBT.out.2.1 h1 h2 h3, ?_⟩
          exact ⟨h2.os.trans HB4.out.os, h2.tape.trans HB4.out.tape, h2.output.trans HB4.out.output, Nat.le_trans HB4.out.size h2.size, fun b hb => (h2.block b (Nat.lt_of_lt_of_le hb HB4.out.size) (fun q => by have := (own_base HT3.out.r1 q.symm).1; omega)).trans (HB4.out.block b hb)⟩
        go_wp2_with (at_builtin; refine wpList_append_own_at _ rfl _ _ 44 rfl w.heap.size 32 i0 (.agg #[.int .i64 0, .int .i64 0, .int .i64 0, .int .i64 0, .string ⟨#[]⟩, .slice none 0 0]) 6 72 undQ HI.out.1 HI.out.2.1 HI.out.2.2.1 HI.out.2.2.2 rfl (by decide) (.slice ua ((l.take k).filter (ofB z)).length uc) ((l.take k).filter (ofB z)).length x1 rfl HT3.out.r1 ⟨w3.heap.size, 0, none⟩ 1 1 [.int .i64 ta, .int .i64 tp, .int .i64 tk, .int .i64 tn, .string ts, .slice tao tl.length tcap] rfl rfl sixCells sixOne C31.out C41.out HB4.out.size ?_; intro v6 w6 hown6 hgr6 hnn6 hat6; have HG6 := hid (HFIN.out v6 w6 hown6 hgr6 hat6); clear hown6 hgr6 hnn6 hat6)
        go_roundw
        case rel => exact ⟨k + 1, _, x2, b1 ++ bt, b2, ba ++ bt, bn, by omega, by go_num, HNX.out.1, HNX.out.2, fun b hb => (by
          rcases List.mem_append.1 hb with h | h
          · rcases List.mem_append.1 h with h | h
            · exact List.mem_append_left _ (HMEM.out.2 b (by simp [h]))
            · exact List.mem_append_right _ h
          · exact List.mem_append_left _ (HMEM.out.2 b (by simp [h]))), HG6.out.1, HG6.out.2⟩
        case measure => simp [intOf]; omega
    · have hkl : l.take k = l := List.take_of_length_le (by omega)
      have htw := HTW.out
      rw [hkl] at htw ⊢
      obtain ⟨a1, c1, a2, c2, e1, e2, h1, h2, h3, h4, h5, h6, h7⟩ := htw.done
      have HF : Hid (GL eltS wr (l.filter (ofB z)) e1 a1 ∧ GL eltS wr (l.filter (notB (ofB z))) e2 a2 ∧ (e1 ++ e2).Nodup ∧ (∀ b ∈ e1 ++ e2, b ∈ bs0 ∨ w.heap.size ≤ b)) := ⟨h3, h4, h5, fun b hb => by
        have hin : ∀ b ∈ b1 ++ b2, b ∈ bs0 := fun b hb => HSUB.out b (by rw [HMEM.out.1]; exact List.mem_append_left _ (HMEM.out.2 b hb))
        rcases List.mem_append.1 hb with h | h
        · rcases h6 b h with h | h
          · exact .inl (hin b (by simp [h]))
          · exact .inr h
        · rcases h7 b h with h | h
          · exact .inl (hin b (by simp [h]))
          · exact .inr h⟩
      rw [h1, h2]
      clear h1 h2 h3 h4 h5 h6 h7 htw hkl hgr
      go_wp2_with fail
      exact bodyPost_ret (v := .tuple #[.slice a1 (l.filter (ofB z)).length c1, .slice a2 (l.filter (notB (ofB z))).length c2]) (by simp [results, Try.results19, go_sem]) rfl ⟨a1, c1, a2, c2, e1, e2, rfl, HF.out.1, HF.out.2.1, HF.out.2.2.1, HF.out.2.2.2, HBE.out⟩
end Go.Proofs.Ytimnnedmpmlmdaa.Tr
