/-
  A copy of a term: what toTerm and toTermS answer.
-/
import Derived.Test.YtabgfaafpgholaaW1
import Derived.Deep.OwnRows
namespace Go.Proofs.Ytabgfaafpgholaa
open Go.RowKit

def ToT (t : Tm) : Prop := ∀ (B : Nat) (w : World) (v : Value), RepV B w t v →
  Calls Try.prog 12 #[v] w fun e w' => ∃ v', e = .returned v' ∧ Below w.heap.size w w' ∧ RepV w.heap.size w' t v'
def ToS (l : List Tm) : Prop := ∀ (B : Nat) (w : World) (ao : Option Addr) (cap : Nat), RepL B w l ao → l.length ≤ cap → cap ≤ maxLen →
  Calls Try.prog 44 #[.slice ao l.length cap] w fun e w' => ∃ ao', e = .returned (.slice ao' l.length l.length) ∧ Below w.heap.size w w' ∧ RepL w.heap.size w' l ao'

theorem cell_of {w : World} {b o : Nat} {c : Array Value} {t : TypeId} {f : Nat × Nat} (h : w.heap[b]? = some (.cells c t f)) : w.cell? ⟨b, o, none⟩ = c[o]? := by
  unfold World.cell?
  rw [h]
  rfl
theorem frozen_of {w : World} {b o : Nat} {c : Array Value} {t : TypeId} (h : w.heap[b]? = some (.cells c t (0, 0))) : w.frozen? ⟨b, o, none⟩ = false := by
  unfold World.frozen?
  rw [h]
  simp
/-- What stands in three new blocks behind a call that lets them be. -/
theorem three_new {w w1 : World} {c1 c2 c3 : Array Value} {t1 t2 t3 : TypeId}
    (hb : Below (((w.alloc (.cells c1 t1)).alloc (.cells c2 t2)).alloc (.cells c3 t3)).heap.size (((w.alloc (.cells c1 t1)).alloc (.cells c2 t2)).alloc (.cells c3 t3)) w1) :
    w.heap.size + 3 ≤ w1.heap.size ∧ (∀ o, w1.cell? ⟨w.heap.size + 1, o, none⟩ = c2[o]?) ∧ (∀ o, w1.cell? ⟨w.heap.size + 1 + 1, o, none⟩ = c3[o]?) ∧
      (∀ o, w1.frozen? ⟨w.heap.size + 1, o, none⟩ = false) ∧ (∀ o, w1.frozen? ⟨w.heap.size + 1 + 1, o, none⟩ = false) := by
  have e2 : (((w.alloc (.cells c1 t1)).alloc (.cells c2 t2)).alloc (.cells c3 t3)).heap[w.heap.size + 1]? = some (.cells c2 t2 (0, 0)) := by
    show (((w.heap.push _).push _).push _)[w.heap.size + 1]? = _
    rw [Array.getElem?_push, if_neg (by simp), Array.getElem?_push, if_pos (by simp)]
  have e3 : (((w.alloc (.cells c1 t1)).alloc (.cells c2 t2)).alloc (.cells c3 t3)).heap[w.heap.size + 1 + 1]? = some (.cells c3 t3 (0, 0)) := by
    show (((w.heap.push _).push _).push _)[w.heap.size + 1 + 1]? = _
    rw [Array.getElem?_push, if_pos (by simp)]
  have hs : (((w.alloc (.cells c1 t1)).alloc (.cells c2 t2)).alloc (.cells c3 t3)).heap.size = w.heap.size + 3 := by
    show (((w.heap.push _).push _).push _).size = _
    simp
  refine ⟨by have := hb.size; omega, fun o => ?_, fun o => ?_, fun o => ?_, fun o => ?_⟩
  · rw [hb.cell (p := ⟨w.heap.size + 1, o, none⟩) (by show w.heap.size + 1 < _; omega)]; exact cell_of e2
  · rw [hb.cell (p := ⟨w.heap.size + 1 + 1, o, none⟩) (by show w.heap.size + 1 + 1 < _; omega)]; exact cell_of e3
  · rw [hb.frozen (p := ⟨w.heap.size + 1, o, none⟩) (by show w.heap.size + 1 < _; omega)]; exact frozen_of e2
  · rw [hb.frozen (p := ⟨w.heap.size + 1 + 1, o, none⟩) (by show w.heap.size + 1 + 1 < _; omega)]; exact frozen_of e3

set_option maxHeartbeats 400000 in
theorem toT_of (k n : Int) (s : ByteArray) (l : List Tm) (h : ToS l) : ToT (.mk k n s l) := by
  intro B w v hv
  obtain ⟨ao, cap, rfl, hs, hl, hc, hr⟩ := hv
  have HS : Hid (ToS l) := h
  have HR : Hid (RepL B w l ao) := hr
  have HC : Hid (s.size ≤ maxLen ∧ l.length ≤ cap ∧ cap ≤ maxLen) := ⟨hs, hl, hc⟩
  clear h hr hs hl hc
  go_enter Try.func12, Try.ntmps12
  go_wp2_with fail
  refine (HS.out B _ _ _ ((Keeps.below ?_ B).repL _ _ HR.out) HC.out.2.1 HC.out.2.2).mono ?_
  · exact (((Below.refl _ _).alloc (Nat.le_refl _) _).alloc (by simp) _).alloc (by simp; omega) _
  rintro e w1 ⟨ao', rfl, hb1, hr1⟩
  obtain ⟨hz, q2, q3, f2, f3⟩ := three_new hb1
  have HB1 : Hid (Below w.heap.size w w1) := ((((Below.refl _ _).alloc (Nat.le_refl _) _).alloc (by simp) _).alloc (by simp; omega) _).trans (hb1.mono (by simp; omega))
  have HR1 : Hid (RepL (w.heap.size + 3) w1 l ao') := RepL.mono (by simp) l ao' hr1
  clear hb1 hr1
  go_wp2_with fail
  refine bodyPost_ret (v := .agg #[.int .i64 k, .int .i64 n, .string s, .slice ao' l.length l.length]) (by simp [results, Try.results12, go_sem, q2]) rfl ⟨_, rfl, ?_, ?_⟩
  · exact ((((HB1.out.setCell (by show w.heap.size ≤ w.heap.size + 1 + 1; omega) _).setCell (by show w.heap.size ≤ w.heap.size + 1; omega) _).setCell (by show w.heap.size ≤ w.heap.size + 1; omega) _).setCell (by show w.heap.size ≤ w.heap.size + 1; omega) _).setCell (by show w.heap.size ≤ w.heap.size + 1; omega) _
  · have hk : Keeps (w.heap.size + 3) w1 _ := ((((Keeps.set w1 (a := ⟨w.heap.size + 1 + 1, 3, none⟩) (by show w.heap.size + 1 + 1 < _; omega) (Value.slice ao' l.length l.length)).trans
      (Keeps.set _ (a := ⟨w.heap.size + 1, 0, none⟩) (by show w.heap.size + 1 < _; omega) (.int .i64 k))).trans (Keeps.set _ (a := ⟨w.heap.size + 1, 1, none⟩) (by show w.heap.size + 1 < _; omega) (.int .i64 n))).trans
      (Keeps.set _ (a := ⟨w.heap.size + 1, 2, none⟩) (by show w.heap.size + 1 < _; omega) (.string s))).trans (Keeps.set _ (a := ⟨w.heap.size + 1, 3, none⟩) (by show w.heap.size + 1 < _; omega) (.slice ao' l.length l.length))
    exact ⟨ao', l.length, rfl, HC.out.1, Nat.le_refl _, Nat.le_trans HC.out.2.1 HC.out.2.2, RepL.mono (by omega) l ao' (hk.repL _ _ HR1.out)⟩

theorem Keeps.repT {B : Nat} {w w' : World} (hk : Keeps B w w') {t : Tm} {b off : Nat} (htop : ∀ j v, j < 4 → w.cell? ⟨b, off + j, none⟩ = some v → w'.cell? ⟨b, off + j, none⟩ = some v) (h : RepT B w t b off) : RepT B w' t b off := by
  obtain ⟨k, n, s, l⟩ := t
  rw [RepT] at h ⊢
  obtain ⟨h0, h1, h2, hs, ao, cap, h3, hl, hc, hr⟩ := h
  exact ⟨htop 0 _ (by omega) h0, htop 1 _ (by omega) h1, htop 2 _ (by omega) h2, hs, ao, cap, htop 3 _ (by omega) h3, hl, hc, hk.repL _ _ hr⟩

/-- A list that is being made in the block g: k of its terms stand. -/
structure Made (w wr : World) (g : Nat) (l : List Tm) (k : Nat) : Prop where
  below : Below w.heap.size w wr
  lt : g < wr.heap.size
  some : ∀ j, j < l.length * 4 → (wr.cell? ⟨g, j, none⟩).isSome = true
  free : ∀ o, wr.frozen? ⟨g, o, none⟩ = false
  rep : ∀ i (hi : i < l.length), i < k → RepT (g + 1) wr l[i] g (i * 4)

theorem Made.call {w wr w1 : World} {g : Nat} {l : List Tm} {k : Nat} (h : Made w wr g l k) (hb : Below wr.heap.size wr w1) : Made w w1 g l k where
  below := h.below.trans (hb.mono h.below.size)
  lt := Nat.lt_of_lt_of_le h.lt hb.size
  some := fun j hj => by rw [hb.cell (p := ⟨g, j, none⟩) h.lt]; exact h.some j hj
  free := fun o => by rw [hb.frozen (p := ⟨g, o, none⟩) h.lt]; exact h.free o
  rep := fun i hi hik => (Keeps.below hb (g + 1)).repT (fun j v _ hc => by rw [hb.cell (p := ⟨g, i * 4 + j, none⟩) h.lt]; exact hc) (h.rep i hi hik)

def set4 (w : World) (g o : Nat) (a b c d : Value) : World := (((w.setCell ⟨g, o, none⟩ a).setCell ⟨g, o + 1, none⟩ b).setCell ⟨g, o + 2, none⟩ c).setCell ⟨g, o + 3, none⟩ d
theorem set4_far {w : World} {g o : Nat} {a b c d : Value} {p : Addr} (h : p.block ≠ g ∨ p.off < o ∨ o + 3 < p.off) : (set4 w g o a b c d).cell? p = w.cell? p := by
  unfold set4
  rw [World.cell?_setCell_other, World.cell?_setCell_other, World.cell?_setCell_other, World.cell?_setCell_other]
  all_goals intro e; subst e; simp at h; try omega
theorem set4_in {w : World} {g o : Nat} {a b c d : Value} (h : ∀ j, j < 4 → (w.cell? ⟨g, o + j, none⟩).isSome = true) :
    (set4 w g o a b c d).cell? ⟨g, o, none⟩ = some a ∧ (set4 w g o a b c d).cell? ⟨g, o + 1, none⟩ = some b ∧ (set4 w g o a b c d).cell? ⟨g, o + 2, none⟩ = some c ∧ (set4 w g o a b c d).cell? ⟨g, o + 3, none⟩ = some d := by
  have n01 : (⟨g, o + 1, none⟩ : Addr) ≠ ⟨g, o, none⟩ := by simp
  have n02 : (⟨g, o + 2, none⟩ : Addr) ≠ ⟨g, o, none⟩ := by simp
  have n03 : (⟨g, o + 3, none⟩ : Addr) ≠ ⟨g, o, none⟩ := by simp
  have n12 : (⟨g, o + 2, none⟩ : Addr) ≠ ⟨g, o + 1, none⟩ := by simp
  have n13 : (⟨g, o + 3, none⟩ : Addr) ≠ ⟨g, o + 1, none⟩ := by simp
  have n23 : (⟨g, o + 3, none⟩ : Addr) ≠ ⟨g, o + 2, none⟩ := by simp
  have i0 := h 0 (by omega)
  have i1 := h 1 (by omega)
  have i2 := h 2 (by omega)
  have i3 := h 3 (by omega)
  rw [Nat.add_zero] at i0
  unfold set4
  refine ⟨?_, ?_, ?_, ?_⟩
  · rw [World.cell?_setCell_other (h := n03), World.cell?_setCell_other (h := n02), World.cell?_setCell_other (h := n01), World.cell?_setCell_same' _ _ _ i0]
  · rw [World.cell?_setCell_other (h := n13), World.cell?_setCell_other (h := n12), World.cell?_setCell_same']
    rw [World.cell?_setCell_other (h := n01.symm)]; exact i1
  · rw [World.cell?_setCell_other (h := n23), World.cell?_setCell_same']
    rw [World.cell?_setCell_other (h := n12.symm), World.cell?_setCell_other (h := n02.symm)]; exact i2
  · rw [World.cell?_setCell_same']
    rw [World.cell?_setCell_other (h := n23.symm), World.cell?_setCell_other (h := n13.symm), World.cell?_setCell_other (h := n03.symm)]; exact i3
theorem set4_frozen {w : World} {g o : Nat} {a b c d : Value} (p : Addr) : (set4 w g o a b c d).frozen? p = w.frozen? p := by
  unfold set4
  simp
theorem set4_size {w : World} {g o : Nat} {a b c d : Value} : (set4 w g o a b c d).heap.size = w.heap.size := by
  unfold set4
  simp

theorem Made.store {w wr : World} {g : Nat} {l : List Tm} {k : Nat} (h : Made w wr g l k) (hg : w.heap.size ≤ g) (hk : k < l.length) {a b c d : Value} (hv : RepV (g + 1) wr l[k] (.agg #[a, b, c, d])) : Made w (set4 wr g (k * 4) a b c d) g l (k + 1) := by
  have hin := set4_in (w := wr) (g := g) (o := k * 4) (a := a) (b := b) (c := c) (d := d) (fun j hj => h.some (k * 4 + j) (by omega))
  have hkeep : Keeps (g + 1) wr (set4 wr g (k * 4) a b c d) := fun x o v hx hc => by
    rw [set4_far (p := ⟨x, o, none⟩) (Or.inl (by show x ≠ g; omega))]; exact hc
  refine ⟨?_, by rw [set4_size]; exact h.lt, ?_, fun o => by rw [set4_frozen]; exact h.free o, ?_⟩
  · exact ((((h.below.setCell (p := ⟨g, k * 4, none⟩) hg _).setCell (p := ⟨g, k * 4 + 1, none⟩) hg _).setCell (p := ⟨g, k * 4 + 2, none⟩) hg _).setCell (p := ⟨g, k * 4 + 3, none⟩) hg _)
  · intro j hj
    by_cases hj1 : j < k * 4 ∨ k * 4 + 3 < j
    · rw [set4_far (p := ⟨g, j, none⟩) (Or.inr hj1)]; exact h.some j hj
    · have : j = k * 4 ∨ j = k * 4 + 1 ∨ j = k * 4 + 2 ∨ j = k * 4 + 3 := by omega
      rcases this with rfl | rfl | rfl | rfl
      · rw [hin.1]; rfl
      · rw [hin.2.1]; rfl
      · rw [hin.2.2.1]; rfl
      · rw [hin.2.2.2]; rfl
  · intro i hi hik
    by_cases hlast : i = k
    · subst hlast
      revert hv
      generalize l[i] = t
      intro hv
      obtain ⟨k', n', s', l'⟩ := t
      obtain ⟨ao, cap, e, hs, hl, hc, hr⟩ := hv
      simp only [Value.agg.injEq, Array.mk.injEq, List.cons.injEq, and_true] at e
      obtain ⟨rfl, rfl, rfl, rfl⟩ := e
      rw [RepT]
      exact ⟨hin.1, hin.2.1, hin.2.2.1, hs, ao, cap, hin.2.2.2, hl, hc, hkeep.repL _ _ hr⟩
    · exact hkeep.repT (fun j v hj hc => by rw [set4_far (p := ⟨g, i * 4 + j, none⟩) (Or.inr (by show i * 4 + j < k * 4 ∨ _; omega))]; exact hc) (h.rep i hi (by omega))

theorem info26 : (Try.prog.info? 39).map (fun i => (i.zero, i.size, i.bytes)) = some (some (.agg #[.int .i64 0, .int .i64 0, .string ⟨#[]⟩, .slice none 0 0]), 4, 56) := by kernel_rfl
theorem underlying24 : Try.prog.underlying 37 = some (.slice 39) := by kernel_rfl

theorem RepV.mono {B B' : Nat} {w : World} (hB : B' ≤ B) {t : Tm} {v : Value} (h : RepV B w t v) : RepV B' w t v := by
  obtain ⟨k, n, s, l⟩ := t
  obtain ⟨ao, cap, e, h1, h2, h3, h4⟩ := h
  exact ⟨ao, cap, e, h1, h2, h3, RepL.mono hB l ao h4⟩

/-- The cells of a list of n zero terms. -/
def zeros (n : Nat) : Array Value := madeCells #[.int .i64 0, .int .i64 0, .string ⟨#[]⟩, .slice none 0 0] (n * 4)
theorem run_zeros (n : Nat) (hn : n ≤ 1048576) (w : World) :
    (Instr.makeSlice 37 (.int .i64 (n : Int)) (.int .i64 (n : Int))).run Try.prog w = .ok (.slice (some ⟨w.heap.size, 0, none⟩) n n) (w.alloc (.cells (zeros n) 39)) := by
  obtain ⟨i, hi, hzz⟩ := Option.map_eq_some_iff.1 info26
  simp only [Prod.mk.injEq] at hzz
  obtain ⟨hz, hs, hb⟩ := hzz
  have hr := run_make (P := Try.prog) w 37 39 i _ underlying24 hi hz .i64 .i64 n n (by omega) (Int.le_refl _) (by rw [hb]; omega) (by omega)
  rw [hs] at hr
  simp only [Int.toNat_natCast] at hr
  exact hr

theorem made_start (w : World) (l : List Tm) : Made w (w.alloc (.cells (zeros l.length) 39)) w.heap.size l 0 where
  below := (Below.refl _ _).alloc (Nat.le_refl _) _
  lt := by show w.heap.size < (w.heap.push _).size; simp
  some := fun j hj => by
    have e : (w.alloc (.cells (zeros l.length) 39)).heap[w.heap.size]? = some (.cells (zeros l.length) 39 (0, 0)) := by
      show (w.heap.push _)[w.heap.size]? = _; simp
    rw [cell_of e]
    have : j < (zeros l.length).size := by unfold zeros; rw [size_madeCells]; exact hj
    simp [this]
  free := fun o => by
    have e : (w.alloc (.cells (zeros l.length) 39)).heap[w.heap.size]? = some (.cells (zeros l.length) 39 (0, 0)) := by
      show (w.heap.push _)[w.heap.size]? = _; simp
    exact frozen_of e
  rep := fun i _ h => absurd h (Nat.not_lt_zero _)

set_option maxHeartbeats 400000 in
theorem toS_of (l : List Tm) (hsm : l.length ≤ 1048576) (ih : ∀ t, t ∈ l → ToT t) : ToS l := by
  intro B w ao cap hr hl hc
  have IH : Hid (∀ t, t ∈ l → ToT t) := ih
  have HR : Hid (RepL B w l ao) := hr
  have HC : Hid (cap ≤ maxLen) := hc
  clear ih hr hc
  have hmk := run_zeros l.length hsm
  go_enter Try.func44, Try.ntmps44
  go_wp2_with fail
  clear hmk
  go_loopw [4] (fun i w' => ∃ k : Nat, k ≤ l.length ∧ i = .int .i64 k ∧ Made w w' w.heap.size l k) (fun i _ => l.length - (intOf i).toNat)
  case atStart => exact ⟨0, Nat.zero_le _, rfl, made_start w l⟩
  case round =>
    obtain ⟨k, hk, rfl, hm⟩ := hrel
    have HM : Hid (Made w wr w.heap.size l k) := hm
    clear hm
    by_cases hlt : k < l.length
    · obtain ⟨b, off, rfl, hB, ht⟩ := RepL.at l ao ((Keeps.below HM.out.below B).repL _ _ HR.out) k hlt
      obtain ⟨tk, tn, ts, tao, tlen, tcap, c0, c1, c2, c3, hv⟩ := ht.cells
      have HV : Hid (RepV B wr l[k] (.agg #[.int .i64 tk, .int .i64 tn, .string ts, .slice tao tlen tcap])) := hv
      have HT : Hid (ToT l[k]) := IH.out _ (List.getElem_mem hlt)
      clear hv ht
      go_wp2_with fail
      refine (HT.out B _ _ HV.out).mono ?_
      rintro e w1 ⟨v', rfl, hb1, hv1⟩
      have HM1 : Hid (Made w w1 w.heap.size l k) := HM.out.call hb1
      have hv2 : ∃ a b c d e f, v' = .agg #[.int .i64 a, .int .i64 b, .string c, .slice d e f] := by
        revert hv1
        generalize l[k] = t
        intro hv1
        obtain ⟨k', n', s', l'⟩ := t
        obtain ⟨ao', cap', e', _⟩ := hv1
        exact ⟨_, _, _, _, _, _, e'⟩
      obtain ⟨va, vb, vc, vd, ve, vf, rfl⟩ := hv2
      have HV1 : Hid (RepV wr.heap.size w1 l[k] (.agg #[.int .i64 va, .int .i64 vb, .string vc, .slice vd ve vf])) := hv1
      have hf := HM1.out.free
      obtain ⟨x0, hs0⟩ := Option.isSome_iff_exists.1 (HM1.out.some (k * 4) (by omega))
      obtain ⟨x1, hs1⟩ := Option.isSome_iff_exists.1 (HM1.out.some (k * 4 + 1) (by omega))
      obtain ⟨x2, hs2⟩ := Option.isSome_iff_exists.1 (HM1.out.some (k * 4 + 2) (by omega))
      obtain ⟨x3, hs3⟩ := Option.isSome_iff_exists.1 (HM1.out.some (k * 4 + 3) (by omega))
      clear hb1 hv1 c0 c1 c2 c3
      go_wp2_with fail
      have HM2 := HM1.out.store (Nat.le_refl _) hlt (RepV.mono (Nat.succ_le_of_lt HM.out.lt) HV1.out)
      go_roundw
      case rel => exact ⟨k + 1, by omega, by go_num, HM2⟩
      case measure => simp [intOf]; omega
    · go_wp2_with fail
      go_ret
      have hkl : k = l.length := by omega
      subst hkl
      have hm := HM.out
      exact ⟨_, rfl, hm.below, RepL.mk (Nat.le_refl _) l 0 (fun i hi => by rw [Nat.zero_add]; exact RepT.mono (by omega) _ _ _ (hm.rep i hi hi))⟩

theorem toT_all : ∀ t, SmallT t → ToT t := Tm.ind fun k n s l ih h => by
  rw [SmallT] at h
  exact toT_of k n s l (toS_of l h.1 fun t ht => ih t ht (h.2 t ht))
end Go.Proofs.Ytabgfaafpgholaa
