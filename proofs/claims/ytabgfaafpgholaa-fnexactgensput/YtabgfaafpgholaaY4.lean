/-
  Copies that the laws make of terms: each list in a block of its own.
-/
import Derived.Test.YtabgfaafpgholaaW28
namespace Go.Proofs.Ytabgfaafpgholaa
open Go.RowKit
set_option linter.unusedVariables false

/-- Texts and lists in it have at most so many. -/
def StS : Tm → Prop
  | .mk _ _ s l => s.size ≤ 1048576 ∧ l.length ≤ 1048576 ∧ ∀ t, t ∈ l → StS t
theorem sz_sts : ∀ (t : Tm) (a : Int), 0 ≤ a → a ≤ 1048576 → 0 ≤ szT t a → StS t := by
  refine Tm.ind ?_
  intro k n s l ih a ha hm h
  rw [szT] at h
  rw [StS]
  split at h
  · omega
  · split at h
    · omega
    · refine ⟨by omega, by omega, ?_⟩
      have go : ∀ (m : List Tm) (c : Int), (∀ t, t ∈ m → t ∈ l) → 0 ≤ c → c ≤ 1048576 → 0 ≤ szGo m c → ∀ t, t ∈ m → StS t := by
        intro m
        induction m with
        | nil => intro c _ _ _ _ t ht; cases ht
        | cons x r ihr =>
          intro c hsub h0 h1 hz t ht
          rw [szGo] at hz
          have hx := szT_le x c h0
          split at hz
          · omega
          · rcases List.mem_cons.1 ht with rfl | ht
            · exact ih t (hsub t (by simp)) c h0 h1 (by omega)
            · exact ihr (szT x c) (fun y hy => hsub y (by simp [hy])) (by omega) (by omega) hz t ht
      exact go l _ (fun t h => h) (by omega) (by omega) h
/-- What is counted. -/
theorem szGo_nt : ∀ (l : List Tm) (a : Int), 0 ≤ a → 0 ≤ szGo l a → szGo l a + (inL l : Int) ≤ a
  | [], a, h0, h => by rw [szGo, inL]; omega
  | .mk k n s l :: r, a, h0, h => by
    rw [szGo] at h ⊢
    have hx := szT_le (.mk k n s l) a h0
    split at h
    · omega
    · rename_i hq
      rw [if_neg hq]
      have h1 := szGo_nt r (szT (.mk k n s l) a) (by omega) h
      have h2 : szT (.mk k n s l) a + (ntL l : Int) ≤ a := by
        rw [szT] at hq ⊢
        split
        · rename_i h3; rw [if_pos h3] at hq; omega
        · rename_i h3
          rw [if_neg h3] at hq
          split
          · rename_i h4; rw [if_pos h4] at hq; omega
          · rename_i h4
            rw [if_neg h4] at hq
            have h5 := szGo_nt l (a - s.size - l.length) (by omega) (by omega)
            have h6 := ntL_eq l
            omega
      rw [inL]
      omega
theorem szT_nt (k n : Int) (s : ByteArray) (l : List Tm) (a : Int) (h0 : 0 ≤ a) (h : 0 ≤ szT (.mk k n s l) a) : (ntL l : Int) ≤ a := by
  rw [szT] at h
  split at h
  · omega
  · split at h
    · omega
    · have h5 := szGo_nt l (a - s.size - l.length) (by omega) h
      have h6 := ntL_eq l
      omega

structure MadeO (w wr : World) (g : Nat) (l : List Tm) (k : Nat) (bs : List Nat) : Prop where
  below : Below w.heap.size w wr
  lt : g < wr.heap.size
  some : ∀ j, j < l.length * 4 → (wr.cell? ⟨g, j, none⟩).isSome = true
  free : ∀ o, wr.frozen? ⟨g, o, none⟩ = false
  row : OsR wr (l.take k) bs g 0
  nd : (g :: bs).Nodup
  lo : ∀ b ∈ bs, w.heap.size ≤ b
theorem MadeO.call {w wr w1 : World} {g : Nat} {l : List Tm} {k : Nat} {bs : List Nat} (h : MadeO w wr g l k bs) (hb : Below wr.heap.size wr w1) : MadeO w w1 g l k bs where
  below := h.below.trans (hb.mono h.below.size)
  lt := Nat.lt_of_lt_of_le h.lt hb.size
  some := fun j hj => by rw [hb.cell (p := ⟨g, j, none⟩) h.lt]; exact h.some j hj
  free := fun o => by rw [hb.frozen (p := ⟨g, o, none⟩) h.lt]; exact h.free o
  row := OsR.keep _ _ _ _ (fun x _ hx => hb.block x hx) (fun o v _ _ hv => by rw [hb.cell (p := ⟨g, o, none⟩) h.lt]; exact hv) h.row
  nd := h.nd
  lo := h.lo
theorem set4_blk {w : World} {g o x : Nat} {a b c d : Value} (h : x ≠ g) : (set4 w g o a b c d).heap[x]? = w.heap[x]? := by
  unfold set4
  rw [Below.heap_setCell _ ⟨g, o + 3, none⟩ _ x h, Below.heap_setCell _ ⟨g, o + 2, none⟩ _ x h, Below.heap_setCell _ ⟨g, o + 1, none⟩ _ x h, Below.heap_setCell _ ⟨g, o, none⟩ _ x h]
theorem MadeO.store {w wr : World} {g : Nat} {l : List Tm} {k B : Nat} {bs bt : List Nat} (h : MadeO w wr g l k bs) (hg : w.heap.size ≤ g) (hk : k < l.length) {a b c d : Value} (hv : OsV wr bt l[k] (.agg #[a, b, c, d])) (hnt : bt.Nodup) (hB : ∀ x ∈ bt, B ≤ x) (hold : ∀ x ∈ bs, x < B) (hgB : g < B) : MadeO w (set4 wr g (k * 4) a b c d) g l (k + 1) (bs ++ (bt ++ [])) := by
  have hin := set4_in (w := wr) (g := g) (o := k * 4) (a := a) (b := b) (c := c) (d := d) (fun j hj => h.some (k * 4 + j) (by omega))
  have hlen : (l.take k).length = k := by simp; omega
  have hwg : ∀ x ∈ bs, x ≠ g := fun x hx e => (List.nodup_cons.1 h.nd).1 (by rw [← e]; exact hx)
  refine ⟨?_, by rw [set4_size]; exact h.lt, ?_, fun o => by rw [set4_frozen]; exact h.free o, ?_, ?_, fun x hx => ?_⟩
  · exact ((((h.below.setCell (p := ⟨g, k * 4, none⟩) hg _).setCell (p := ⟨g, k * 4 + 1, none⟩) hg _).setCell (p := ⟨g, k * 4 + 2, none⟩) hg _).setCell (p := ⟨g, k * 4 + 3, none⟩) hg _)
  · intro j hj
    by_cases hj1 : j < k * 4 ∨ k * 4 + 3 < j
    · rw [set4_far (p := ⟨g, j, none⟩) (Or.inr hj1)]; exact h.some j hj
    · have : j = k * 4 ∨ j = k * 4 + 1 ∨ j = k * 4 + 2 ∨ j = k * 4 + 3 := by omega
      rcases this with rfl | rfl | rfl | rfl
      · rw [hin.1]; rfl
      · rw [hin.2.1]; rfl
      · rw [hin.2.2.1]; rfl
      · rw [hin.2.2.2]; rfl
  · rw [List.take_succ_eq_append_getElem hk]
    revert hv
    generalize l[k] = t
    intro hv
    obtain ⟨k', n', s', l'⟩ := t
    obtain ⟨ao, cap, e, hs, hl, hc, hr⟩ := hv
    simp only [Value.agg.injEq, Array.mk.injEq, List.cons.injEq, and_true] at e
    obtain ⟨rfl, rfl, rfl, rfl⟩ := e
    refine OsR.join (OsR.keep _ _ _ _ (fun x hx _ => set4_blk (hwg x hx)) (fun o v _ ho hv => ?_) h.row) ?_ (by rw [OsR])
    · rw [hlen] at ho
      rw [set4_far (p := ⟨g, o, none⟩) (Or.inr (by show o < k * 4 ∨ _; omega))]; exact hv
    · rw [hlen, Nat.zero_add, OsT]
      exact ⟨hin.1, hin.2.1, hin.2.2.1, hs, ao, cap, hin.2.2.2, hl, hc, OsL.keep _ _ _ (fun x hx _ => set4_blk (by have := hB x hx; omega)) hr⟩
  · rw [List.append_nil, List.nodup_cons]
    obtain ⟨n1, n2⟩ := List.nodup_cons.1 h.nd
    refine ⟨fun hm => ?_, List.nodup_append.2 ⟨n2, hnt, fun x hx y hy e => ?_⟩⟩
    · rcases List.mem_append.1 hm with h1 | h1
      · exact n1 h1
      · have := hB g h1; omega
    · have h1 := hold x hx
      have h2 := hB y hy
      omega
  · rw [List.append_nil] at hx
    rcases List.mem_append.1 hx with h1 | h1
    · exact h.lo x h1
    · have := hB x h1; omega
def ToOT (t : Tm) : Prop := ∀ (B : Nat) (w : World) (v : Value), RepV B w t v →
  Calls Try.prog 12 #[v] w fun e w' => ∃ v' bs, e = .returned v' ∧ Below w.heap.size w w' ∧ OsV w' bs t v' ∧ bs.Nodup ∧ ∀ b ∈ bs, w.heap.size ≤ b
def ToOS (l : List Tm) : Prop := ∀ (B : Nat) (w : World) (ao : Option Addr) (cap : Nat), RepL B w l ao → l.length ≤ cap → cap ≤ maxLen →
  Calls Try.prog 44 #[.slice ao l.length cap] w fun e w' => ∃ ao' bs, e = .returned (.slice ao' l.length l.length) ∧ Below w.heap.size w w' ∧ OsL w' l bs ao' ∧ bs.Nodup ∧ ∀ b ∈ bs, w.heap.size ≤ b

theorem madeO_start (w : World) (l : List Tm) : MadeO w (w.alloc (.cells (zeros l.length) 39)) w.heap.size l 0 [] := by
  have h := made_start w l
  exact ⟨h.below, h.lt, h.some, h.free, by simp [OsR], by simp, fun b hb => by cases hb⟩

set_option maxHeartbeats 400000 in
theorem toOS_of (l : List Tm) (hsm : l.length ≤ 1048576) (ih : ∀ t, t ∈ l → ToOT t) : ToOS l := by
  intro B w ao cap hr hl hc
  have IH : Hid (∀ t, t ∈ l → ToOT t) := ih
  have HR : Hid (RepL B w l ao) := hr
  have HC : Hid (cap ≤ maxLen) := hc
  clear ih hr hc
  have hmk := run_zeros l.length hsm
  go_enter Try.func44, Try.ntmps44
  go_wp2_with fail
  clear hmk
  go_loopw [4] (fun i w' => ∃ (k : Nat) (bs : List Nat), k ≤ l.length ∧ i = .int .i64 k ∧ MadeO w w' w.heap.size l k bs) (fun i _ => l.length - (intOf i).toNat)
  case atStart => exact ⟨0, [], Nat.zero_le _, rfl, madeO_start w l⟩
  case round =>
    obtain ⟨k, bs, hk, rfl, hm⟩ := hrel
    have HM : Hid (MadeO w wr w.heap.size l k bs) := hm
    clear hm
    by_cases hlt : k < l.length
    · obtain ⟨b, off, rfl, hB, ht⟩ := RepL.at l ao ((Keeps.below HM.out.below B).repL _ _ HR.out) k hlt
      obtain ⟨tk, tn, ts, tao, tlen, tcap, c0, c1, c2, c3, hv⟩ := ht.cells
      have HV : Hid (RepV B wr l[k] (.agg #[.int .i64 tk, .int .i64 tn, .string ts, .slice tao tlen tcap])) := hv
      have HT : Hid (ToOT l[k]) := IH.out _ (List.getElem_mem hlt)
      clear hv ht
      go_wp2_with fail
      refine (HT.out B _ _ HV.out).mono ?_
      rintro e w1 ⟨v', bt, rfl, hb1, hv1, hnt, hlo⟩
      have HM1 : Hid (MadeO w w1 w.heap.size l k bs) := HM.out.call hb1
      obtain ⟨va, vb, vc, vd, ve, vf, rfl⟩ := hv1.form
      have HV1 : Hid (OsV w1 bt l[k] (.agg #[.int .i64 va, .int .i64 vb, .string vc, .slice vd ve vf]) ∧ bt.Nodup ∧ ∀ b ∈ bt, wr.heap.size ≤ b) := ⟨hv1, hnt, hlo⟩
      have HOLD : Hid (∀ x ∈ bs, x < wr.heap.size) := OsR.lt _ _ _ _ HM.out.row
      have hf := HM1.out.free
      obtain ⟨x0, hs0⟩ := Option.isSome_iff_exists.1 (HM1.out.some (k * 4) (by omega))
      obtain ⟨x1, hs1⟩ := Option.isSome_iff_exists.1 (HM1.out.some (k * 4 + 1) (by omega))
      obtain ⟨x2, hs2⟩ := Option.isSome_iff_exists.1 (HM1.out.some (k * 4 + 2) (by omega))
      obtain ⟨x3, hs3⟩ := Option.isSome_iff_exists.1 (HM1.out.some (k * 4 + 3) (by omega))
      clear hb1 hv1 hnt hlo c0 c1 c2 c3
      go_wp2_with fail
      have HM2 := HM1.out.store (Nat.le_refl _) hlt HV1.out.1 HV1.out.2.1 HV1.out.2.2 HOLD.out HM.out.lt
      go_roundw
      case rel => exact ⟨k + 1, _, by omega, by go_num, HM2⟩
      case measure => simp [intOf]; omega
    · go_wp2_with fail
      go_ret
      have hkl : k = l.length := by omega
      subst hkl
      have hm := HM.out
      have hrow := hm.row
      rw [List.take_of_length_le (Nat.le_refl _)] at hrow
      by_cases hnil : l = []
      · subst hnil
        exact ⟨_, [], rfl, hm.below, by rw [OsL], by simp, fun b hb => by cases hb⟩
      · exact ⟨_, w.heap.size :: bs, rfl, hm.below, (OsL.iff hnil).2 ⟨w.heap.size, 0, bs, rfl, rfl, hm.free, hrow⟩, hm.nd, fun b hb => by
          rcases List.mem_cons.1 hb with rfl | hb
          · exact Nat.le_refl _
          · exact hm.lo b hb⟩

set_option maxHeartbeats 400000 in
theorem toOT_of (k n : Int) (s : ByteArray) (l : List Tm) (hsz : s.size ≤ 1048576) (h : ToOS l) : ToOT (.mk k n s l) := by
  intro B w v hv
  obtain ⟨ao, cap, rfl, hs, hl, hc, hr⟩ := hv
  have HS : Hid (ToOS l) := h
  have HR : Hid (RepL B w l ao) := hr
  have HC : Hid (s.size ≤ 1048576 ∧ l.length ≤ cap ∧ cap ≤ maxLen) := ⟨hsz, hl, hc⟩
  clear h hr hs hl hc hsz
  go_enter Try.func12, Try.ntmps12
  go_wp2_with fail
  refine (HS.out B _ _ _ ((Keeps.below ?_ B).repL _ _ HR.out) HC.out.2.1 HC.out.2.2).mono ?_
  · exact (((Below.refl _ _).alloc (Nat.le_refl _) _).alloc (by simp) _).alloc (by simp; omega) _
  rintro e w1 ⟨ao', bs, rfl, hb1, hr1, hnd, hlo⟩
  obtain ⟨hz, q2, q3, f2, f3⟩ := three_new hb1
  have HB1 : Hid (Below w.heap.size w w1) := ((((Below.refl _ _).alloc (Nat.le_refl _) _).alloc (by simp) _).alloc (by simp; omega) _).trans (hb1.mono (by simp; omega))
  have HR1 : Hid (OsL w1 l bs ao' ∧ bs.Nodup ∧ ∀ b ∈ bs, w.heap.size + 3 ≤ b) := ⟨hr1, hnd, fun b hb => by have := hlo b hb; simp at this; omega⟩
  clear hb1 hr1 hnd hlo
  go_wp2_with fail
  refine bodyPost_ret (v := .agg #[.int .i64 k, .int .i64 n, .string s, .slice ao' l.length l.length]) (by simp [results, Try.results12, go_sem, q2]) rfl ⟨_, bs, rfl, ?_, ?_, HR1.out.2.1, fun b hb => by have := HR1.out.2.2 b hb; omega⟩
  · exact ((((HB1.out.setCell (by show w.heap.size ≤ w.heap.size + 1 + 1; omega) _).setCell (by show w.heap.size ≤ w.heap.size + 1; omega) _).setCell (by show w.heap.size ≤ w.heap.size + 1; omega) _).setCell (by show w.heap.size ≤ w.heap.size + 1; omega) _).setCell (by show w.heap.size ≤ w.heap.size + 1; omega) _
  · refine ⟨ao', l.length, rfl, HC.out.1, Nat.le_refl _, Nat.le_trans HC.out.2.1 HC.out.2.2, OsL.keep _ _ _ (fun x hx _ => ?_) HR1.out.1⟩
    have hx3 := HR1.out.2.2 x hx
    rw [Below.heap_setCell _ ⟨w.heap.size + 1, 3, none⟩ _ x (by show x ≠ w.heap.size + 1; omega), Below.heap_setCell _ ⟨w.heap.size + 1, 2, none⟩ _ x (by show x ≠ w.heap.size + 1; omega), Below.heap_setCell _ ⟨w.heap.size + 1, 1, none⟩ _ x (by show x ≠ w.heap.size + 1; omega), Below.heap_setCell _ ⟨w.heap.size + 1, 0, none⟩ _ x (by show x ≠ w.heap.size + 1; omega), Below.heap_setCell _ ⟨w.heap.size + 1 + 1, 3, none⟩ _ x (by show x ≠ w.heap.size + 1 + 1; omega)]
theorem toOT_all : ∀ t, StS t → ToOT t := Tm.ind fun k n s l ih h => by
  rw [StS] at h
  exact toOT_of k n s l h.1 (toOS_of l h.2.1 fun t ht => ih t ht (h.2.2 t ht))
end Go.Proofs.Ytabgfaafpgholaa
