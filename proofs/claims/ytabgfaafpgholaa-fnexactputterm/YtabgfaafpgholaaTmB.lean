/-
  The size of a term: what szTerm and szTermS answer.
-/
import Derived.Test.YtabgfaafpgholaaGuA
import Derived.Test.YtabgfaafpgholaaTmA
import Derived.WalkKit
import Derived.ProofKit
import Derived.Outline
namespace Go.Proofs.Ytabgfaafpgholaa
open Go.RowKit

theorem bcell {W w1 : World} (hb : Below W.heap.size W w1) : (∀ b o, b < W.heap.size → w1.cell? ⟨b, o, none⟩ = W.cell? ⟨b, o, none⟩) ∧ (∀ b o, b < W.heap.size → w1.frozen? ⟨b, o, none⟩ = W.frozen? ⟨b, o, none⟩) :=
  ⟨fun b o h => hb.cell (p := ⟨b, o, none⟩) h, fun b o h => hb.frozen (p := ⟨b, o, none⟩) h⟩
def SzT (t : Tm) : Prop := ∀ (B : Nat) (w : World) (v : Value) (left : Int), RepV B w t v → 0 ≤ left → left ≤ 1048576 →
  Calls Try.prog 8 #[v, .int .i64 left] w fun e w' => e = .returned (.int .i64 (szT t left)) ∧ Below w.heap.size w w'
def SzS (l : List Tm) : Prop := ∀ (B : Nat) (w : World) (ao : Option Addr) (cap : Nat) (left : Int), RepL B w l ao → l.length ≤ cap → cap ≤ maxLen → 0 ≤ left → left ≤ 1048576 →
  Calls Try.prog 38 #[.slice ao l.length cap, .int .i64 left] w fun e w' => e = .returned (.int .i64 (if left - l.length < 0 then -1 else szGo l (left - l.length))) ∧ Below w.heap.size w w'

/-- The four cells, and the value that they are. -/
theorem RepT.cells {B : Nat} {w : World} {t : Tm} {b off : Nat} (h : RepT B w t b off) :
    ∃ k n s ao len cap, w.cell? ⟨b, off, none⟩ = some (.int .i64 k) ∧ w.cell? ⟨b, off + 1, none⟩ = some (.int .i64 n) ∧ w.cell? ⟨b, off + 2, none⟩ = some (.string s) ∧ w.cell? ⟨b, off + 3, none⟩ = some (.slice ao len cap) ∧
      RepV B w t (.agg #[.int .i64 k, .int .i64 n, .string s, .slice ao len cap]) := by
  obtain ⟨k, n, s, l⟩ := t
  rw [RepT] at h
  obtain ⟨h0, h1, h2, hs, ao, cap, h3, hl, hc, hr⟩ := h
  exact ⟨k, n, s, ao, l.length, cap, h0, h1, h2, h3, ao, cap, rfl, hs, hl, hc, hr⟩

theorem drop_go (l : List Tm) (k : Nat) (h : k < l.length) (c : Int) : szGo (l.drop k) c = if szT l[k] c < 0 then -1 else szGo (l.drop (k + 1)) (szT l[k] c) := by
  rw [List.drop_eq_getElem_cons h, szGo]

set_option maxHeartbeats 400000 in
theorem szS_of (l : List Tm) (ih : ∀ t, t ∈ l → SzT t) : SzS l := by
  intro B w ao cap left hr hl hc h0 hm
  have IH : Hid (∀ t, t ∈ l → SzT t) := ih
  have HR : Hid (RepL B w l ao) := hr
  clear ih hr
  unfold maxLen at hc
  by_cases hn : left - l.length < 0
  · go_enter Try.func38, Try.ntmps38
    go_wp2_with fail
    go_ret
    exact ⟨rfl, Below.refl _ _⟩
  · go_enter Try.func38, Try.ntmps38
    go_wp2_with fail
    go_loopw [1, 5] (fun a i w' => ∃ (k : Nat) (c : Int), k ≤ l.length ∧ i = .int .i64 k ∧ a = .int .i64 c ∧ 0 ≤ c ∧ c ≤ left ∧ Below w.heap.size w w' ∧ szGo (l.drop k) c = szGo l (left - l.length)) (fun _ i _ => l.length - (intOf i).toNat)
    case atStart => exact ⟨0, left - l.length, Nat.zero_le _, rfl, rfl, by omega, by omega, Below.refl _ _, rfl⟩
    case round =>
      obtain ⟨k, c, hk, rfl, rfl, hc0, hcl, hb, hz⟩ := hrel
      have HZ : Hid (szGo (l.drop k) c = szGo l (left - l.length)) := hz
      have HB : Hid (Below w.heap.size w wr) := hb
      clear hz hb
      by_cases hlt : k < l.length
      · obtain ⟨b, off, rfl, hB, ht⟩ := RepL.at l ao ((Keeps.below HB.out B).repL _ _ HR.out) k hlt
        obtain ⟨tk, tn, ts, tao, tlen, tcap, c0, c1, c2, c3, hv⟩ := ht.cells
        have HV : Hid (RepV B wr l[k] (.agg #[.int .i64 tk, .int .i64 tn, .string ts, .slice tao tlen tcap])) := hv
        have HD : Hid (szGo (l.drop k) c = if szT l[k] c < 0 then -1 else szGo (l.drop (k + 1)) (szT l[k] c)) := drop_go l k hlt c
        have hle := szT_le l[k] c hc0
        have HT : Hid (SzT l[k]) := IH.out _ (List.getElem_mem hlt)
        clear hv ht
        go_wp2_with fail
        refine (HT.out B _ _ c HV.out hc0 (by omega)).mono ?_
        rintro e w1 ⟨rfl, hb1⟩
        have HB1 : Hid (Below w.heap.size w w1) := HB.out.trans (hb1.mono HB.out.size)
        clear hb1
        generalize hg : szT l[k] c = x at *
        have HG : Hid (szT l[k] c = x) := hg
        clear hg
        by_cases hx : x < 0
        · go_wp2_with fail
          go_ret
          exact ⟨ret_int (by rw [← HZ.out, HD.out, if_pos hx]), HB1.out⟩
        · go_wp2_with fail
          go_roundw
          case rel => exact ⟨k + 1, x, by omega, by go_num, rfl, by omega, by omega, HB1.out, by rw [← HZ.out, HD.out, if_neg (by omega)]⟩
          case measure => simp [intOf]; omega
      · go_wp2_with fail
        go_ret
        have hkl : k = l.length := by omega
        have h := HZ.out
        rw [hkl, List.drop_length, szGo] at h
        exact ⟨ret_int h, HB.out⟩

set_option maxHeartbeats 400000 in
theorem szT_of (k n : Int) (s : ByteArray) (l : List Tm) (h : SzS l) : SzT (.mk k n s l) := by
  intro B w v left hv h0 hm
  obtain ⟨ao, cap, rfl, hs, hl, hc, hr⟩ := hv
  have HS : Hid (SzS l) := h
  have HR : Hid (RepL B w l ao) := hr
  have HE : Hid (szT (.mk k n s l) left = if left - s.size < 0 then -1 else if left - s.size - l.length < 0 then -1 else szGo l (left - s.size - l.length)) := by
    show szT _ _ = _; rw [szT]
  clear h hr
  have HC : Hid (cap ≤ maxLen) := hc
  unfold maxLen at hc hs
  by_cases hn : left - s.size < 0
  · go_enter Try.func8, Try.ntmps8
    go_wp2_with fail
    go_ret
    exact ⟨ret_int (by rw [HE.out, if_pos (by omega)]), (Below.refl _ _).alloc (Nat.le_refl _) _⟩
  · go_enter Try.func8, Try.ntmps8
    go_wp2_with fail
    refine (HS.out B _ _ _ (left - s.size) ((Keeps.below ((Below.refl _ _).alloc (Nat.le_refl _) _) B).repL _ _ HR.out) hl HC.out (by omega) (by omega)).mono ?_
    rintro e w1 ⟨rfl, hb1⟩
    have HB1 : Hid (Below w.heap.size w w1) := ((Below.refl _ _).alloc (Nat.le_refl _) _).trans (hb1.mono (by simp))
    clear hb1
    have HL := szGo_le l (left - s.size - l.length)
    generalize hg : (if left - ↑s.size - ↑l.length < 0 then (-1 : Int) else szGo l (left - ↑s.size - ↑l.length)) = x at *
    have hx1 : -1 ≤ x ∧ x ≤ left := by
      rw [← hg]; split
      · omega
      · have := HL (by omega); omega
    have HX : Hid (szT (.mk k n s l) left = x) := by
      have := HE.out; rw [if_neg (by omega)] at this; exact this
    clear HL hg HE
    by_cases hx : x < 0
    · go_wp2_with fail
      go_ret
      exact ⟨ret_int (by rw [HX.out]; omega), HB1.out⟩
    · go_wp2_with fail
      go_ret
      exact ⟨ret_int HX.out.symm, HB1.out⟩

theorem szT_all : ∀ t, SzT t := Tm.ind fun k n s l ih => szT_of k n s l (szS_of l ih)
end Go.Proofs.Ytabgfaafpgholaa
