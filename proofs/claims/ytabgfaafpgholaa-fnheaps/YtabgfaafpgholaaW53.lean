/-
  An append, guarded, at a step of a region that draws its order; rows of numbers of the call's own.
  (Ahead of it, in this text: DrawReadTerm; the law FnHeapRead, walked. The law FnHeapOk, walked. A term that was put on a drawn heap: what it has in hand; rows that are alike.)
-/
import Derived.Test.YtabgfaafpgholaaW26
import Derived.Test.YtabgfaafpgholaaW48
import Derived.Test.YtabgfaafpgholaaW52
import Derived.Deep.AppendLies
namespace Go.Proofs.Ytabgfaafpgholaa
open Go.RowKit
set_option linter.unusedVariables false

theorem natOf5 {x : Int} (h : 0 ≤ x) : ∃ k : Nat, x = k := ⟨x.toNat, by omega⟩
theorem root_of {w : World} {p : Option Addr} {b r : Nat} {xs : List Int} {ga : Nat} {A : List ByteArray} {gr : Nat} {ws : List Int} (h : Hp5 w p b r xs ga A gr ws) {k : Nat} (hk : (k : Int) < (ws.length : Int)) : ∃ y, w.cell? ⟨gr, k, none⟩ = some (.int .i64 y) ∧ y ∈ ws := ⟨_, h.rt k (by omega), List.getElem_mem _⟩
theorem root_set {w w4 : World} {gr k : Nat} {v : Value} (h : w4.cell? ⟨gr, k, none⟩ = some v) (hn : w.heap.size < gr) : ∀ u, (w4.setCell ⟨w.heap.size, 0, none⟩ u).cell? ⟨gr, k, none⟩ = some v := fun u => by
  rw [World.cell?_setCell_other (h := fun e => by simp only [Addr.mk.injEq] at e; omega)]; exact h
theorem keep4t {w w' : World} (h : Below w.heap.size w w') {b : Nat} {x y z t : Value} (hc : ∀ o, w.cell? ⟨b, o, none⟩ = (#[x, y, z, t] : Array Value)[o]?) : ∀ o, w'.cell? ⟨b, o, none⟩ = (#[x, y, z, t] : Array Value)[o]? := fun o => by
  have h0 : w.cell? ⟨b, 0, none⟩ = some x := hc 0
  rw [h.cell (p := ⟨b, o, none⟩) (by have := World.block_lt_of_cell? w _ h0; exact this)]; exact hc o
theorem readT_ok {H : Hp} {x : Int} {t : Tm} (h : readT H x = some t) : (look t 6 100).isSome = true := by
  unfold readT at h
  obtain ⟨⟨t', y⟩, h1, h2⟩ := Option.map_eq_some_iff.1 h
  have h2 : t' = t := h2
  subst h2
  rw [rT_look 6 x 100 t' y h1]
  rfl
end Go.Proofs.Ytabgfaafpgholaa
namespace Go.Proofs.Ytabgfaafpgholaa
open Go.RowKit
set_option linter.unusedVariables false

theorem keep4n {wr w5 : World} {a b c d : Value} {t : TypeId} (hb : Below (wr.alloc (.cells #[a, b, c, d] t)).drew.heap.size (wr.alloc (.cells #[a, b, c, d] t)).drew w5) :
    (∀ o, w5.cell? ⟨wr.heap.size, o, none⟩ = (#[a, b, c, d] : Array Value)[o]?) ∧ (∀ o, w5.frozen? ⟨wr.heap.size, o, none⟩ = false) := by
  have hs : (wr.alloc (.cells #[a, b, c, d] t)).drew.heap.size = wr.heap.size + 1 := World.size_alloc _ _
  refine ⟨fun o => ?_, fun o => ?_⟩
  · rw [hb.cell (p := ⟨wr.heap.size, o, none⟩) (by show wr.heap.size < _; omega)]
    exact World.cell?_alloc_new wr _ _ o
  · rw [hb.frozen (p := ⟨wr.heap.size, o, none⟩) (by show wr.heap.size < _; omega)]
    exact World.frozen?_alloc_new wr _ _ o
theorem below_set4 {w3 wr w5 : World} (h : Below w3.heap.size w3 w5) (hr : w3.heap.size ≤ wr.heap.size) (a b c d : Value) :
    Below w3.heap.size w3 ((((w5.setCell ⟨wr.heap.size, 0, none⟩ a).setCell ⟨wr.heap.size, 1, none⟩ b).setCell ⟨wr.heap.size, 2, none⟩ c).setCell ⟨wr.heap.size, 3, none⟩ d) :=
  (((h.setCell hr _).setCell hr _).setCell hr _).setCell hr _
end Go.Proofs.Ytabgfaafpgholaa
namespace Go.Proofs.Ytabgfaafpgholaa
open Go.RowKit
set_option linter.unusedVariables false

/-! ### Blocks that are not frozen -/
mutual
theorem osT_nf {w : World} : ∀ (t : Tm) (bs : List Nat) (b off : Nat), OsT w t bs b off → RpT (Nf w) w t b off
  | .mk k n s l, bs, b, off, h => by
    rw [OsT] at h
    rw [RpT]
    obtain ⟨h0, h1, h2, hs, ao, cap, h3, hl, hc, hr⟩ := h
    exact ⟨h0, h1, h2, by unfold maxLen; omega, ao, cap, h3, hl, hc, osL_nf l bs ao hr⟩
theorem osR_nf {w : World} : ∀ (l : List Tm) (bs : List Nat) (g off : Nat), Nf w g → OsR w l bs g off → RpL (Nf w) w l (some ⟨g, off, none⟩)
  | [], bs, g, off, _, _ => by rw [RpL]; trivial
  | t :: r, bs, g, off, hg, h => by
    rw [OsR] at h
    rw [RpL]
    obtain ⟨b1, b2, _, h4, h5⟩ := h
    exact ⟨g, off, rfl, hg, osT_nf t b1 g off h4, osR_nf r b2 g (off + 4) hg h5⟩
theorem osL_nf {w : World} : ∀ (l : List Tm) (bs : List Nat) (ao : Option Addr), OsL w l bs ao → RpL (Nf w) w l ao
  | [], _, _, _ => by rw [RpL]; trivial
  | t :: r, bs, ao, h => by
    rw [OsL] at h
    rw [RpL]
    obtain ⟨g, o, b1, b2, _, e2, hf, h4, h5⟩ := h
    exact ⟨g, o, e2, hf, osT_nf t b1 g o h4, osR_nf r b2 g (o + 4) hf h5⟩
end
theorem osV_nf {w : World} {bs : List Nat} {t : Tm} {v : Value} (h : OsV w bs t v) : RpV (Nf w) w t v := by
  obtain ⟨k, n, s, l⟩ := t
  obtain ⟨ao, cap, e, hs, hl, hc, hr⟩ := h
  exact ⟨ao, cap, e, by unfold maxLen; omega, hl, hc, osL_nf l bs ao hr⟩
mutual
theorem OwT.nf {w : World} {B : Nat} : ∀ (t : Tm) (a m b off : Nat), B ≤ a → OwT w t a m b off → RpT (fun x => B ≤ x ∧ Nf w x) w t b off
  | .mk k n s l, a, m, b, off, hB, h => by
    rw [OwT] at h
    rw [RpT]
    obtain ⟨h0, h1, h2, hs, ao, cap, h3, hl, hcp, hr⟩ := h
    exact ⟨h0, h1, h2, hs, ao, cap, h3, hl, hcp, OwL.nf l a m ao hB hr⟩
theorem OwR.nf {w : World} {B : Nat} : ∀ (l : List Tm) (g lo hi off : Nat), B ≤ g ∧ Nf w g → B ≤ lo → OwR w l g lo hi off → RpL (fun x => B ≤ x ∧ Nf w x) w l (some ⟨g, off, none⟩)
  | [], g, lo, hi, off, _, _, h => by rw [RpL]; trivial
  | t :: r, g, lo, hi, off, hg, hB, h => by
    rw [OwR] at h
    rw [RpL]
    obtain ⟨a, m, h1, h2, h3, h4, h5⟩ := h
    exact ⟨g, off, rfl, hg, OwT.nf t a m g off (by omega) h4, OwR.nf r g m hi (off + 4) hg (by omega) h5⟩
theorem OwL.nf {w : World} {B : Nat} : ∀ (l : List Tm) (lo hi : Nat) (ao : Option Addr), B ≤ lo → OwL w l lo hi ao → RpL (fun x => B ≤ x ∧ Nf w x) w l ao
  | [], _, _, _, _, _ => by rw [RpL]; trivial
  | t :: r, lo, hi, ao, hB, h => by
    rw [OwL] at h
    rw [RpL]
    obtain ⟨g, lo1, hi1, e, a1, a2, a3, a4, af, a, m, h1, h2, h3, h4, h5⟩ := h
    exact ⟨g, 0, e, ⟨by omega, af⟩, OwT.nf t a m g 0 (by omega) h4, OwR.nf r g m hi1 4 ⟨by omega, af⟩ (by omega) h5⟩
end
theorem OwE.nf {w : World} {lo hi : Nat} {t : Tm} {v : Value} (h : OwE w lo hi t v) : RpV (fun x => lo ≤ x ∧ Nf w x) w t v := by
  obtain ⟨k, n, s, l⟩ := t
  obtain ⟨ao, cap, e, b1, b2, b3, b4⟩ := h
  exact ⟨ao, cap, e, b1, b2, b3, OwL.nf _ _ _ _ (Nat.le_refl _) b4⟩
theorem rp_nf {S : Nat → Prop} {w : World} {t : Tm} {v : Value} (h : RpV (fun x => S x ∧ Nf w x) w t v) : RpV (Nf w) w t v :=
  Moves.repV (fun b o v hb hc => ⟨hb.2, hc⟩) h
theorem rp_keepN {w w' : World} {lo : Nat} {t : Tm} {v : Value} (h : RpV (fun x => lo ≤ x ∧ Nf w x) w t v) (hk : ∀ x, lo ≤ x → w'.heap[x]? = w.heap[x]?) : RpV (Nf w') w' t v :=
  Moves.repV (fun x o u hx hc => ⟨hx.2.blk (hk x hx.1), by rw [World.cell?_of_block (w := w) (hk x hx.1)]; exact hc⟩) h
theorem heap_set4 {w w' : World} {k x : Nat} {a b c d : Value} (e : w' = (((w.setCell ⟨k, 0, none⟩ a).setCell ⟨k, 1, none⟩ b).setCell ⟨k, 2, none⟩ c).setCell ⟨k, 3, none⟩ d) (hn : x ≠ k) : w'.heap[x]? = w.heap[x]? := by
  rw [e, Below.heap_setCell _ ⟨k, 3, none⟩ _ x hn, Below.heap_setCell _ ⟨k, 2, none⟩ _ x hn, Below.heap_setCell _ ⟨k, 1, none⟩ _ x hn, Below.heap_setCell _ ⟨k, 0, none⟩ _ x hn]
/-- Cells of a block below turn. -/
theorem rp_set4 {w w' : World} {lo k : Nat} {t : Tm} {v a b c d : Value} (h : RpV (fun x => lo ≤ x ∧ Nf w x) w t v) (hk : k < lo) (e : w' = (((w.setCell ⟨k, 0, none⟩ a).setCell ⟨k, 1, none⟩ b).setCell ⟨k, 2, none⟩ c).setCell ⟨k, 3, none⟩ d) : RpV (Nf w') w' t v :=
  rp_keepN h (fun x hx => heap_set4 e (by omega))
theorem cells_set4 {w : World} {k : Nat} {z : Array Value} (hq : ∀ o, w.cell? ⟨k, o, none⟩ = z[o]?) (hz : z.size = 4) (a b c d : Value) :
    ∀ o, ((((w.setCell ⟨k, 0, none⟩ a).setCell ⟨k, 1, none⟩ b).setCell ⟨k, 2, none⟩ c).setCell ⟨k, 3, none⟩ d).cell? ⟨k, o, none⟩ = (#[a, b, c, d] : Array Value)[o]? := fun o => by
  have ne : ∀ {i j : Nat}, i ≠ j → (⟨k, i, none⟩ : Addr) ≠ ⟨k, j, none⟩ := fun h e => h (by simp only [Addr.mk.injEq, and_true, true_and] at e; exact e)
  have ex : ∀ i, i < 4 → ∃ u, w.cell? ⟨k, i, none⟩ = some u := fun i hi => ⟨z[i]'(by omega), by rw [hq i]; exact Array.getElem?_eq_getElem (by omega)⟩
  obtain ⟨u0, x0⟩ := ex 0 (by omega)
  obtain ⟨u1, x1⟩ := ex 1 (by omega)
  obtain ⟨u2, x2⟩ := ex 2 (by omega)
  obtain ⟨u3, x3⟩ := ex 3 (by omega)
  rcases o with _ | _ | _ | _ | o
  · rw [World.cell?_setCell_other (h := ne (by omega)), World.cell?_setCell_other (h := ne (by omega)), World.cell?_setCell_other (h := ne (by omega)), World.cell?_setCell_same _ _ _ x0]; rfl
  · rw [World.cell?_setCell_other (h := ne (by omega)), World.cell?_setCell_other (h := ne (by omega)), World.cell?_setCell_same _ _ _ (by rw [World.cell?_setCell_other (h := ne (by omega))]; exact x1)]; rfl
  · rw [World.cell?_setCell_other (h := ne (by omega)), World.cell?_setCell_same _ _ _ (by rw [World.cell?_setCell_other (h := ne (by omega)), World.cell?_setCell_other (h := ne (by omega))]; exact x2)]; rfl
  · rw [World.cell?_setCell_same _ _ _ (by rw [World.cell?_setCell_other (h := ne (by omega)), World.cell?_setCell_other (h := ne (by omega)), World.cell?_setCell_other (h := ne (by omega))]; exact x3)]; rfl
  · rw [World.cell?_setCell_other (h := ne (by omega)), World.cell?_setCell_other (h := ne (by omega)), World.cell?_setCell_other (h := ne (by omega)), World.cell?_setCell_other (h := ne (by omega)), hq]
    rw [Array.getElem?_eq_none (by omega), Array.getElem?_eq_none (by show 4 ≤ _; omega)]
mutual
theorem cnt_nT : ∀ t : Tm, cntT t = nT t
  | .mk k n s l => by rw [cntT, nT, cnt_nL l]
theorem cnt_nL : ∀ l : List Tm, cntL l = nL l
  | [] => by rw [cntL, nL]
  | t :: r => by rw [cntL, nL, cnt_nT t, cnt_nL r]
end
theorem look_cnt {t : Tm} (h : (look t 6 100).isSome = true) : cntT t ≤ 1000000000 := by
  rw [cnt_nT]
  have := (look_b h).2.1
  omega
/-- One term in two places. -/
theorem same_two {w : World} {t : Tm} {v v' : Value} (h : RpV (Nf w) w t v) (h' : RpV (Nf w) w t v') (hc : cntT t ≤ 1000000000) :
    Calls Try.prog 29 #[v, v'] w fun e w' => e = .returned (.bool true) ∧ Below w.heap.size w w' :=
  sameI_nf (fun b hb => hb) (fun b hb => hb) h h' hc true ⟨fun _ => cmpT_self t, fun _ => rfl⟩

/-! ### Rows that are alike -/
def RowN (w : World) (ao : Option Addr) (xs : List Int) : Prop := xs.length ≠ 0 → ∃ b, ao = some ⟨b, 0, none⟩ ∧ ∀ j (h : j < xs.length), w.cell? ⟨b, j, none⟩ = some (.int .i64 xs[j])
theorem RowN.below {w w' : World} {ao : Option Addr} {xs : List Int} (h : RowN w ao xs) (hb : Below w.heap.size w w') : RowN w' ao xs := fun hn => by
  obtain ⟨b, e, hc⟩ := h hn
  exact ⟨b, e, fun j hj => by rw [hb.cell (p := ⟨b, j, none⟩) (World.block_lt_of_cell? w _ (hc j hj))]; exact hc j hj⟩
set_option maxHeartbeats 1000000 in
theorem sameIntsL (ao bo : Option Addr) (ca cb : Nat) (xs : List Int) (w : World) (ha : RowN w ao xs) (hb : RowN w bo xs) (hN : xs.length ≤ 1048576) :
    Calls Try.prog 26 #[.slice ao xs.length ca, .slice bo xs.length cb] w fun e w' => e = .returned (.bool true) ∧ Below w.heap.size w w' := by
  have HA : Hid (RowN w ao xs) := ha
  have HB : Hid (RowN w bo xs) := hb
  clear ha hb
  go_enter Try.func26, Try.ntmps26
  go_wp2_with fail
  go_loopw [5] (fun i w' => ∃ m : Nat, m ≤ xs.length ∧ i = .int .i64 m ∧ Below w.heap.size w w') (fun i _ => xs.length - (intOf i).toNat)
  case atStart => exact ⟨0, Nat.zero_le _, by simp, Below.refl _ _⟩
  case round =>
    obtain ⟨m, hm, rfl, hbl⟩ := hrel
    have HBL : Hid (Below w.heap.size w wr) := hbl
    by_cases hlt : m < xs.length
    · obtain ⟨b1, rfl, c1⟩ := HA.out.below hbl (by omega)
      obtain ⟨b2, rfl, c2⟩ := HB.out.below hbl (by omega)
      have q1 := c1 m hlt
      have q2 := c2 m hlt
      clear c1 c2 hbl
      generalize xs[m] = x at *
      go_wp2_with fail
      go_quiet (fail)
      go_wp2_with fail
      go_roundw
      case rel => exact ⟨m + 1, by omega, by go_num, by first | exact HBL.out.drew | exact below_drewN HBL.out _⟩
      case measure => simp [intOf]; omega
    · clear hbl
      go_wp2_with fail
      go_ret
      exact ⟨rfl, HBL.out⟩
set_option maxHeartbeats 1000000 in
theorem sameTextsL (ao bo : Nat) (ca cb : Nat) (L : List ByteArray) (w : World) (ha : Txt w ao 0 L) (hb : Txt w bo 0 L) (hN : L.length ≤ 1048577) :
    Calls Try.prog 27 #[.slice (some ⟨ao, 0, none⟩) L.length ca, .slice (some ⟨bo, 0, none⟩) L.length cb] w fun e w' => e = .returned (.bool true) ∧ Below w.heap.size w w' := by
  have HA : Hid (Txt w ao 0 L) := ha
  have HB : Hid (Txt w bo 0 L) := hb
  clear ha hb
  go_enter Try.func27, Try.ntmps27
  go_wp2_with fail
  go_loopw [5] (fun i w' => ∃ m : Nat, m ≤ L.length ∧ i = .int .i64 m ∧ Below w.heap.size w w') (fun i _ => L.length - (intOf i).toNat)
  case atStart => exact ⟨0, Nat.zero_le _, by simp, Below.refl _ _⟩
  case round =>
    obtain ⟨m, hm, rfl, hbl⟩ := hrel
    have HBL : Hid (Below w.heap.size w wr) := hbl
    by_cases hlt : m < L.length
    · have q1 := HA.out.below hbl m hlt
      have q2 := HB.out.below hbl m hlt
      rw [Nat.zero_add] at q1 q2
      clear hbl
      generalize L[m] = x at *
      go_wp2_with fail
      go_quiet (fail)
      go_wp2_with fail
      go_roundw
      case rel => exact ⟨m + 1, by omega, by go_num, by first | exact HBL.out.drew | exact below_drewN HBL.out _⟩
      case measure => simp [intOf]; omega
    · clear hbl
      go_wp2_with fail
      go_ret
      exact ⟨rfl, HBL.out⟩

/-! ### Behind what was put -/
theorem Hw5.row {w : World} {p : Option Addr} {b r : Nat} {xs : List Int} {ga : Nat} {A : List ByteArray} {gr : Nat} {ws : List Int} (h : Hw5 w p b r xs ga A gr ws) : RowN w p xs := fun hn => by
  rcases h.hp.lst with ⟨e, _⟩ | ⟨_, e, _⟩
  · exact ⟨b, e, h.hp.wc⟩
  · exact absurd e hn
theorem PEnd.row {w w' : World} {h0 : Value} {ao : Option Addr} {ys : List Int} {ga : Nat} {B : List ByteArray} (h : PEnd w w' h0 ao ys ga B) : RowN w' ao ys := fun hn => by
  obtain ⟨g, e, _, _, _, h5⟩ := h.wr (.inl hn)
  refine ⟨g, e, fun j hj => ?_⟩
  have h9 := h5.cell j hj
  rw [Nat.zero_add, lfI_get ys j hj] at h9
  exact h9
/-- What a heap is behind a term that was put on it. -/
structure Put5 (w : World) (ao : Option Addr) (g cap : Nat) (xs ys : List Int) (ga : Nat) (A B : List ByteArray) (gr : Nat) (ws : List Int) (t : Tm) (x : Int) : Prop where
  e : ao = some ⟨g, 0, none⟩
  hw : Hw5 w (some ⟨g, 0, none⟩) g cap ys ga B gr ws
  bw : BW ys B (ws ++ [x])
  rd : RDH ys B (ws ++ [x])
  new : readT (hpL ys B) x = some t
  old : ∀ y u, readT (hpL xs A) y = some u → readT (hpL ys B) y = some u
theorem Hw5.put {w w' : World} {p : Option Addr} {b r : Nat} {xs : List Int} {ga : Nat} {A : List ByteArray} {gr : Nat} {ws : List Int} {h0 : Value} {ao : Option Addr} {cap : Nat} {ns : List Int} {ga' : Nat} {B : List ByteArray} {t : Tm} {x : Int}
    (h : Hw5 w p b r xs ga A gr ws) (hp : PEnd w w' (hok true h0) ao (xs ++ ns) ga' B) (hcap : (xs ++ ns).length ≤ cap) (hR : PtR t xs A = some (ns, B, x)) :
    ∃ g, Put5 w' ao g cap xs (xs ++ ns) ga' A B gr ws t x := by
  obtain ⟨g, e1, e2, e3, e4, e5⟩ := hp.wr (.inr (by unfold hok; exact fun h => by cases h))
  have hA : A.length ≤ 200 := by
    have := h.rd.1
    unfold atomsB at this
    rw [Bool.and_eq_true, decide_eq_true_eq] at this
    exact this.1
  obtain ⟨r1, r2, r3, r4⟩ := put_reads hR (by omega)
  have hbw := h.hp.bw.put hR
  have hrd := h.rd.put hR
  have hb := hp.be
  have h6 := h.below hb
  refine ⟨g, e1, ⟨⟨.inl ⟨rfl, hcap⟩, fun j hj => ?_, hp.ar.txt, h6.hp.rt, r4, by omega, h.hp.wl, h.hp.wn, ⟨hbw.1, hbw.2.1, fun y hy => hbw.2.2 y (List.mem_append_left _ hy)⟩⟩, fun _ => e3, hp.at', ⟨hrd.1, fun y hy => hrd.2 y (List.mem_append_left _ hy)⟩⟩, hbw, hrd, r1, fun y u hu => ext_readT r2 hu⟩
  have h9 := e5.cell j hj
  rw [Nat.zero_add, lfI_get _ j hj] at h9
  exact h9
theorem heap_true {xs : List Int} {A : List ByteArray} {ws : List Int} (hx : xs.length ≤ 2000) (h : RDH xs A ws) : heapB (hpL xs A) ws = true := by
  unfold heapB
  rw [Bool.and_eq_true, Bool.and_eq_true, List.all_eq_true]
  refine ⟨⟨decide_eq_true hx, h.1⟩, fun y hy => ?_⟩
  obtain ⟨u, hu⟩ := h.2 y hy
  rw [hu]; rfl
/-- The heap is one. -/
theorem Hw5.ok {w : World} {p : Option Addr} {b r : Nat} {xs : List Int} {ga : Nat} {A : List ByteArray} {gr : Nat} {ws : List Int} (h : Hw5 w p b r xs ga A gr ws) (ca cr : Nat) :
    Calls Try.prog 25 #[.agg #[.slice p xs.length r], .slice (some ⟨ga, 0, none⟩) A.length ca, .slice (some ⟨gr, 0, none⟩) ws.length cr] w fun e w' => e = .returned (.bool true) ∧ Below w.heap.size w w' := by
  have hk : Calls Try.prog 25 #[.agg #[.slice p xs.length r], .slice (some ⟨ga, 0, none⟩) A.length ca, .slice (some ⟨gr, 0, none⟩) ws.length cr] w fun e w' => e = .returned (.bool (heapB (env5 p b r xs ga ca A).H ws)) ∧ Below w.heap.size w w' :=
    implHeapOk_any (env5 p b r xs ga ca A) w (h.hp.src ca) h.hp.lst (some ⟨gr, 0, none⟩) cr ws h.hp.roots (by have := h.hp.wl; omega) h.hp.big
  have e : heapB (env5 p b r xs ga ca A).H ws = true := heap_true h.hp.xl h.rd
  rw [e] at hk
  exact hk
/-- What reads is read. -/
theorem Hw5.read {w : World} {p : Option Addr} {b r : Nat} {xs : List Int} {ga : Nat} {A : List ByteArray} {gr : Nat} {ws : List Int} (h : Hw5 w p b r xs ga A gr ws) (ca : Nat) (x : Int) (hx : x ≤ 32000006) {t : Tm} (ht : readT (hpL xs A) x = some t) :
    Calls Try.prog 28 #[.agg #[.slice p xs.length r], .slice (some ⟨ga, 0, none⟩) A.length ca, .int .i64 x] w fun e w' => ∃ a b c d e' f, e = .returned (.tuple #[.agg #[.int .i64 a, .int .i64 b, .string c, .slice d e' f], .bool true]) ∧ RpV (fun y => w.heap.size ≤ y ∧ Nf w' y) w' t (.agg #[.int .i64 a, .int .i64 b, .string c, .slice d e' f]) ∧ Below w.heap.size w w' := by
  have hk : Calls Try.prog 28 #[.agg #[.slice p xs.length r], .slice (some ⟨ga, 0, none⟩) A.length ca, .int .i64 x] w fun e w' => Below w.heap.size w w' ∧
      ((∃ t v, readT (env5 p b r xs ga ca A).H x = some t ∧ e = .returned (.tuple #[v, .bool true]) ∧ OwE w' (w.heap.size) w'.heap.size t v) ∨ (readT (env5 p b r xs ga ca A).H x = none ∧ e = .returned (.tuple #[zT, .bool false]))) :=
    Gn.implRead_any (env5 p b r xs ga ca A) w (h.hp.src ca) h.hp.lst x (by omega)
  refine hk.mono ?_
  rintro e w' ⟨hb, ⟨t', v, h1, rfl, h3⟩ | ⟨h1, _⟩⟩
  · have h1 : readT (hpL xs A) x = some t' := h1
    rw [ht] at h1
    injection h1 with h1
    subst h1
    obtain ⟨a, b', c, d, e', f, rfl⟩ := h3.form
    exact ⟨a, b', c, d, e', f, rfl, h3.nf, hb⟩
  · have h1 : readT (hpL xs A) x = none := h1
    rw [ht] at h1; cases h1
end Go.Proofs.Ytabgfaafpgholaa
namespace Go.Proofs.Ytabgfaafpgholaa
open Go.RowKit
set_option linter.unusedVariables false

section
variable {P : Program} (w : World)
theorem step_append_g {ops : Array Oper} {o : Oper} {a : Act} {K : Act → World → Prop} {Q : Exit → Act → World → Prop} {E : Prop} (hw : Region.wanted o (yielded ops a.tmps) = true) (s x : Operand) (t : TypeId)
    (ho : o.op = .call { callee := .builtin .append, args := #[s, x], argTypes := #[t, t] })
    (base : Nat) (e : TypeId) (i : TypeInfo) (z : Value) (size bytes : Nat) (ht : P.underlying t = some (.slice e)) (hi : P.info? e = some i) (hz : i.zero = some z)
    (hsize : i.size = size) (hby : i.bytes = bytes) (hzs : z.cells.size = size) (hsz : 0 < size)
    (v : Value) (n : Nat) (xs : List Value) (hs : a.eval s = v) (hown : w.ownsRow base e size v n xs)
    (ad : Addr) (m c : Nat) (news : List Value) (hx : a.eval x = .slice (some ad) m c) (hl : news.length = m * size) (hnews : ∀ j u, news[j]? = some u → w.cell? (ad.add j) = some u) (h1 : ∀ u ∈ news, u.oneCell' = true)
    (hm : 0 < m) (N : Nat) (hN : n + m = N) (h63 : N ≤ maxLen) (hbytes : N * bytes ≤ 140737488355328) (hbase : base ≤ w.heap.size)
    (h : ∀ g cap w', w'.ownsRow base e size (.slice (some ⟨g, 0, none⟩) N cap) N (xs ++ news) → w.grownBy w' v.ownBlock → g < w'.heap.size → K (a.put o.dst (.slice (some ⟨g, 0, none⟩) N cap)) w') :
    if Region.wanted o (yielded ops a.tmps) = true then Oper.wp P o a w K Q else E := by
  subst hN
  rw [if_pos hw]
  exact wp_append_lies w s x t ho base e i z size bytes ht hi hz hsize hby hzs hsz v n xs hs hown ad m c news hx hl hnews h1 hm h63 hbytes hbase _ rfl fun g cap w' h2 h3 _ h5 => h g cap w' h2 h3 h5
end
/-- An empty row of one's own. -/
theorem ownNil {wr w : World} (hb : Below wr.heap.size wr w) : (w.alloc (.cells #[] 3)).ownsRow wr.heap.size 3 1 (.slice (some ⟨w.heap.size, 0, none⟩) 0 0) 0 [] := by
  have h := World.ownsRow_made (e := 3) (size := 1) w #[] 0 (Nat.le_refl _) (Nat.zero_le _) rfl
  exact own_low' h hb.size
theorem ownNil_s {wr w : World} (hb : Below wr.heap.size wr w) (o : Obj) : ((w.alloc o).alloc (.cells #[] 3)).ownsRow wr.heap.size 3 1 (.slice (some ⟨w.heap.size + 1, 0, none⟩) 0 0) 0 [] := by
  have h := ownNil (wr := wr) (w := w.alloc o) (hb.alloc hb.size o)
  rw [World.size_alloc] at h
  exact h
theorem belG {wr w w' : World} {d : Nat} (hb : Below wr.heap.size wr w) (hg : w.grownBy w' (some d)) (hd : wr.heap.size ≤ d) : Below wr.heap.size wr w' :=
  ⟨hg.os.trans hb.os, hg.tape.trans hb.tape, hg.output.trans hb.output, Nat.le_trans hb.size hg.size, fun k hk => (hg.block k (Nat.lt_of_lt_of_le hk hb.size) (fun e => by injection e with e; omega)).trans (hb.block k hk)⟩
/-- The roots, as they are appended. -/
theorem rootsAt {wr w : World} {gr : Nat} {ws : List Int} (h : ∀ j (h : j < ws.length), wr.cell? ⟨gr, j, none⟩ = some (.int .i64 ws[j])) (hb : Below wr.heap.size wr w) : ∀ j u, (ws.map (Value.int .i64))[j]? = some u → w.cell? ((⟨gr, 0, none⟩ : Addr).add j) = some u :=
  srcW (fun j hj => by rw [hb.cell (p := ⟨gr, j, none⟩) (World.block_lt_of_cell? _ _ (h j hj))]; exact h j hj)
theorem onesW (ws : List Int) : ∀ u ∈ ws.map (Value.int .i64), u.oneCell' = true := fun u hu => by
  obtain ⟨y, _, rfl⟩ := List.mem_map.1 hu
  rfl
/-- One number, where it stands. -/
theorem oneAt {w : World} {s : Nat} {x : Int} (h : w.cell? ⟨s, 0, none⟩ = some (.int .i64 x)) : ∀ j u, [Value.int .i64 x][j]? = some u → w.cell? ((⟨s, 0, none⟩ : Addr).add j) = some u := fun j u hu => by
  rw [Addr.add_lit, Nat.zero_add]
  match j, hu with
  | 0, hu =>
    simp at hu
    rw [h, hu]
theorem far_one {w w' : World} {d s : Nat} {v : Value} (hg : w.grownBy w' (some d)) (hs : w.cell? ⟨s, 0, none⟩ = some v) (hn : s ≠ d) : w'.cell? ⟨s, 0, none⟩ = some v := by
  rw [World.cell?_of_block (hg.block s (World.block_lt_of_cell? _ _ hs) (fun e => by injection e with e; exact hn e))]; exact hs
theorem rows_app {w : World} {base g c : Nat} {ws : List Int} {x : Int} (h : w.ownsRow base 3 1 (.slice (some ⟨g, 0, none⟩) (ws.length + 1) c) (ws.length + 1) (ws.map (Value.int .i64) ++ [.int .i64 x])) : ∀ j (h : j < (ws ++ [x]).length), w.cell? ⟨g, j, none⟩ = some (.int .i64 (ws ++ [x])[j]) := by
  have e : (ws.map (Value.int .i64) ++ [.int .i64 x]) = (ws ++ [x]).map (Value.int .i64) := by rw [List.map_append]; rfl
  have el : ws.length + 1 = (ws ++ [x]).length := by rw [List.length_append]; rfl
  rw [e, el] at h
  exact own_ints h
theorem cellS (w : World) (v : Value) (t : TypeId) (o : Obj) : ((w.alloc (.cells #[v] t)).alloc o).cell? ⟨w.heap.size, 0, none⟩ = some v := by
  have h : (w.alloc (.cells #[v] t)).cell? ⟨w.heap.size, 0, none⟩ = some v := World.cell?_alloc_new w _ _ 0
  have hl := World.block_lt_of_cell? _ _ h
  rw [World.cell?_alloc_lt (h := hl)]
  exact h
end Go.Proofs.Ytabgfaafpgholaa
