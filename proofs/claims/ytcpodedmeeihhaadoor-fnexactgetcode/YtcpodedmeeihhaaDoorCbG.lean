/-
  Code read of bytes: what the program's GetCode answers.
-/
import Derived.Test.YtcpodedmeeihhaaDoorCbF
import Derived.Test.YtcpodedmeeihhaaDoorCkB
import Derived.Test.YtcpodedmeeihhaaDoorCkC
namespace Go.Proofs.YtcpodedmeeihhaaDoor.Cb
open Go.RowKit
open Go.Proofs.YtcpodedmeeihhaaDoor.By
open Go.Proofs.YtcpodedmeeihhaaDoor.Code (I codeB specOk RowI SmI Bx6 zeroI insL)
set_option linter.unusedVariables false

/-- A row of n instructions of one's own that is being filled: the first ones are l. -/
structure Fl (w wr : World) (g n : Nat) (l : List I) : Prop where
  below : Below w.heap.size w wr
  lt : g < wr.heap.size
  ge : w.heap.size ≤ g
  full : ∀ j, j < n * 6 → ∃ v, wr.cell? ⟨g, j, none⟩ = some v
  free : ∀ o, wr.frozen? ⟨g, o, none⟩ = false
  rep : ∀ i (hi : i < l.length), Bx6 wr g (i * 6) l[i]
theorem Fl.call {w wr w' : World} {g n : Nat} {l : List I} (h : Fl w wr g n l) (hb : Below wr.heap.size wr w') : Fl w w' g n l :=
  ⟨h.below.trans (hb.mono h.below.size), Nat.lt_of_lt_of_le h.lt hb.size, h.ge, fun j hj => by rw [hb.cell (p := ⟨g, j, none⟩) h.lt]; exact h.full j hj,
    fun o => by rw [hb.frozen (p := ⟨g, o, none⟩) h.lt]; exact h.free o, fun i hi => (h.rep i hi).below hb⟩
theorem six_other {w : World} {g j o : Nat} {a b c d e f : Value} (h : o < j * 6 ∨ j * 6 + 6 ≤ o) :
    ((((((w.setCell ⟨g, j * 6, none⟩ a).setCell ⟨g, j * 6 + 1, none⟩ b).setCell ⟨g, j * 6 + 2, none⟩ c).setCell ⟨g, j * 6 + 3, none⟩ d).setCell ⟨g, j * 6 + 4, none⟩ e).setCell ⟨g, j * 6 + 5, none⟩ f).cell? ⟨g, o, none⟩ = w.cell? ⟨g, o, none⟩ := by
  rw [World.cell?_setCell_other (h := by simp <;> omega), World.cell?_setCell_other (h := by simp <;> omega), World.cell?_setCell_other (h := by simp <;> omega), World.cell?_setCell_other (h := by simp <;> omega), World.cell?_setCell_other (h := by simp <;> omega), World.cell?_setCell_other (h := by simp <;> omega)]
theorem six_same {w : World} {g j : Nat} {x : I} (hs : ∀ k, k < 6 → ∃ v, w.cell? ⟨g, j * 6 + k, none⟩ = some v) :
    Bx6 ((((((w.setCell ⟨g, j * 6, none⟩ (.int .i64 x.op)).setCell ⟨g, j * 6 + 1, none⟩ (.int .i64 x.a)).setCell ⟨g, j * 6 + 2, none⟩ (.int .i64 x.b)).setCell ⟨g, j * 6 + 3, none⟩ (.int .i64 x.c)).setCell ⟨g, j * 6 + 4, none⟩ (.int .i64 x.n)).setCell ⟨g, j * 6 + 5, none⟩ (.string x.s)) g (j * 6) x := by
  obtain ⟨v0, h0⟩ := hs 0 (by decide)
  obtain ⟨v1, h1⟩ := hs 1 (by decide)
  obtain ⟨v2, h2⟩ := hs 2 (by decide)
  obtain ⟨v3, h3⟩ := hs 3 (by decide)
  obtain ⟨v4, h4⟩ := hs 4 (by decide)
  obtain ⟨v5, h5⟩ := hs 5 (by decide)
  have o : ∀ {w : World} {p q : Nat} {v : Value}, p ≠ q → (w.setCell ⟨g, p, none⟩ v).cell? ⟨g, q, none⟩ = w.cell? ⟨g, q, none⟩ := fun {w p q v} h => World.cell?_setCell_other w ⟨g, p, none⟩ ⟨g, q, none⟩ v (by simp <;> exact h)
  rw [Nat.add_zero] at h0
  refine ⟨?_, ?_, ?_, ?_, ?_, ?_⟩
  · rw [o (by omega), o (by omega), o (by omega), o (by omega), o (by omega)]; exact World.cell?_setCell_same _ _ _ h0
  · rw [o (by omega), o (by omega), o (by omega), o (by omega)]; exact World.cell?_setCell_same _ _ _ (by rw [o (by omega)]; exact h1)
  · rw [o (by omega), o (by omega), o (by omega)]; exact World.cell?_setCell_same _ _ _ (by rw [o (by omega), o (by omega)]; exact h2)
  · rw [o (by omega), o (by omega)]; exact World.cell?_setCell_same _ _ _ (by rw [o (by omega), o (by omega), o (by omega)]; exact h3)
  · rw [o (by omega)]; exact World.cell?_setCell_same _ _ _ (by rw [o (by omega), o (by omega), o (by omega), o (by omega)]; exact h4)
  · exact World.cell?_setCell_same _ _ _ (by rw [o (by omega), o (by omega), o (by omega), o (by omega), o (by omega)]; exact h5)
theorem Fl.put {w wr : World} {g n : Nat} {l : List I} (h : Fl w wr g n l) (hl : l.length < n) (x : I) :
    Fl w ((((((wr.setCell ⟨g, l.length * 6, none⟩ (.int .i64 x.op)).setCell ⟨g, l.length * 6 + 1, none⟩ (.int .i64 x.a)).setCell ⟨g, l.length * 6 + 2, none⟩ (.int .i64 x.b)).setCell ⟨g, l.length * 6 + 3, none⟩ (.int .i64 x.c)).setCell ⟨g, l.length * 6 + 4, none⟩ (.int .i64 x.n)).setCell ⟨g, l.length * 6 + 5, none⟩ (.string x.s)) g n (l ++ [x]) := by
  have hge := h.ge
  have hbx := six_same (w := wr) (g := g) (j := l.length) (x := x) (fun k hk => h.full _ (by omega))
  refine ⟨((((((h.below.setCell hge _).setCell hge _).setCell hge _).setCell hge _).setCell hge _).setCell hge _), by simp only [World.size_setCell]; exact h.lt, hge, fun j hj => ?_, fun o => by simp only [World.frozen?_setCell]; exact h.free o, fun i hi => ?_⟩
  · by_cases hin : j < l.length * 6 ∨ l.length * 6 + 6 ≤ j
    · rw [six_other hin]; exact h.full j hj
    · rcases (show j = l.length * 6 ∨ j = l.length * 6 + 1 ∨ j = l.length * 6 + 2 ∨ j = l.length * 6 + 3 ∨ j = l.length * 6 + 4 ∨ j = l.length * 6 + 5 by omega) with rfl | rfl | rfl | rfl | rfl | rfl
      · exact ⟨_, hbx.c0⟩
      · exact ⟨_, hbx.c1⟩
      · exact ⟨_, hbx.c2⟩
      · exact ⟨_, hbx.c3⟩
      · exact ⟨_, hbx.c4⟩
      · exact ⟨_, hbx.c5⟩
  · by_cases e : i = l.length
    · subst e
      rw [List.getElem_append_right (Nat.le_refl _)]
      simp only [Nat.sub_self, List.getElem_cons_zero]
      exact hbx
    · have hi2 : i < l.length := by simp at hi; omega
      rw [List.getElem_append_left hi2]
      have hb := h.rep i hi2
      have k : ∀ m, m < 6 → i * 6 + m < l.length * 6 ∨ l.length * 6 + 6 ≤ i * 6 + m := fun m hm => by omega
      have k0 := k 0 (by decide)
      rw [Nat.add_zero] at k0
      exact ⟨by rw [six_other k0]; exact hb.c0, by rw [six_other (k 1 (by decide))]; exact hb.c1, by rw [six_other (k 2 (by decide))]; exact hb.c2, by rw [six_other (k 3 (by decide))]; exact hb.c3, by rw [six_other (k 4 (by decide))]; exact hb.c4, by rw [six_other (k 5 (by decide))]; exact hb.c5⟩
theorem fl_start (w w0 : World) (n : Nat) (hb : Below w.heap.size w w0) : Fl w (w0.alloc (.cells (Code.zeros6 n) 42)) w0.heap.size n [] where
  below := hb.alloc hb.size _
  lt := by rw [World.size_alloc]; omega
  ge := hb.size
  full := fun j hj => by
    rw [World.cell?_alloc_new]
    have hs : (Code.zeros6 n).size = n * 6 := by unfold Code.zeros6; exact size_madeCells _ _
    exact ⟨_, Array.getElem?_eq_getElem (by rw [hs]; exact hj)⟩
  free := fun o => World.frozen?_alloc_new w0 _ _ o
  rep := fun i hi => by simp at hi
theorem Fl.row {w wr : World} {g : Nat} {l : List I} (h : Fl w wr g l.length l) : RowI wr (some ⟨g, 0, none⟩) l := .inr ⟨g, 0, rfl, fun j hj => by rw [Nat.zero_add]; exact h.rep j hj⟩

/-- What GetCode answers: a row of one's own, or nothing. -/
def GcP (L : List UInt8) (w : World) (e : Ending) (w' : World) : Prop :=
  (∃ l g, getC L = some l ∧ e = .returned (.tuple #[.slice (some ⟨g, 0, none⟩) l.length l.length, .bool true]) ∧ Fl w w' g l.length l) ∨
  (getC L = none ∧ ∃ g, e = .returned (.tuple #[.slice (some ⟨g, 0, none⟩) 0 0, .bool false]) ∧ Below w.heap.size w w')

set_option maxHeartbeats 2000000 in
set_option maxRecDepth 100000 in
theorem implGetC_any (ao : Option Addr) (cap : Nat) (L : List UInt8) (w : World) (hr : RdB w ao L) (hN : L.length ≤ 1048600) (hcap : L.length ≤ cap) (hS : Code.Shp w) (hP : Code.Pow w) (hE : Es.Ety w) :
    Calls Tryd.prog 16 #[.slice ao L.length cap] w fun e w' => GcP L w e w' := by
  have HR : Hid (RdB w ao L) := hr
  have HG : Hid (Code.Shp w ∧ Code.Pow w ∧ Es.Ety w) := ⟨hS, hP, hE⟩
  have HGA : Hid (getCm L (L.length + 100) = getC L) := get_any L _ (by omega) (Int.le_refl _)
  clear hr hS hP hE
  go_enter Tryd.func16, Tryd.ntmps16
  go_wp2_with fail
  refine (implGet_any ao cap L 0 w HR.out hN hcap).mono ?_
  rintro e w1 ⟨rfl, hw1⟩
  obtain rfl := hw1.symm
  clear hw1
  cases hg : getB L 0 with
  | none =>
    have HNO : Hid (getC L = none) := by show _ = _; rw [← HGA.out]; unfold getCm; rw [hg]
    rw [show ansN none = .tuple #[.int .i64 0, .int .i64 0, .bool false] from rfl]
    clear hg
    go_wp2_with fail
    refine bodyPost_ret (v := .tuple #[.slice (some ⟨w.heap.size, 0, none⟩) 0 0, .bool false]) (by simp [results, Tryd.results16, go_sem]) rfl (.inr ⟨HNO.out, _, rfl, (Below.refl _ _).alloc (Nat.le_refl _) _⟩)
  | some p =>
    obtain ⟨n, e0⟩ := p
    rw [show ansN (some (n, e0)) = .tuple #[.int .i64 n, .int .i64 e0, .bool true] from rfl]
    by_cases hn : 1 ≤ n ∧ n ≤ 200
    · have hget : getC L = okC L (rdIs L (L.length + 100) n.toNat e0) := by rw [← HGA.out]; unfold getCm; rw [hg]; simp only; rw [if_pos hn]
      obtain ⟨k, rfl⟩ : ∃ k : Nat, n = k := ⟨n.toNat, by omega⟩
      rw [Int.toNat_natCast] at hget
      have HGET : Hid (getC L = okC L (rdIs L (L.length + 100) k e0)) := hget
      have hk1 : 1 ≤ k := by omega
      have hk2 : k ≤ 200 := by omega
      have hmk := Code.run_zeros6 k (by omega)
      have HF0 : Hid (Fl w (w.alloc (.cells (Code.zeros6 k) 42)) w.heap.size k []) := fl_start w w k (Below.refl _ _)
      have HA0 : Hid (addIs [] (rdIs L (L.length + 100) (k - ([] : List I).length) e0) = rdIs L (L.length + 100) k e0) := addIs_nil _
      clear hg hn hget
      go_wp2_with fail
      clear hmk
      go_loopw [5, 6, 8, 30] (fun ev _ _ iv wr => ∃ (l : List I) (e : Int), l.length ≤ k ∧ iv = .int .i64 l.length ∧ ev = .int .i64 e ∧ addIs l (rdIs L (L.length + 100) (k - l.length) e) = rdIs L (L.length + 100) k e0 ∧ Fl w wr w.heap.size k l) (fun _ _ _ iv _ => k - (intOf iv).toNat)
      case atStart => exact ⟨[], e0, Nat.zero_le _, rfl, rfl, HA0.out, HF0.out⟩
      case round =>
        obtain ⟨l, e, hl, rfl, rfl, hE, hf⟩ := hrel
        have HE : Hid (addIs l (rdIs L (L.length + 100) (k - l.length) e) = rdIs L (L.length + 100) k e0) := hE
        have HF : Hid (Fl w wr w.heap.size k l) := hf
        clear hE hf
        by_cases hlt : l.length < k
        · go_wp2_with fail
          refine (getIns_any ao cap L e wr (HR.out.below HF.out.below) hN hcap).mono ?_
          rintro e' w2 ⟨rfl, hb2⟩
          have HF2 : Hid (Fl w w2 w.heap.size k l) := HF.out.call hb2
          clear hb2
          obtain ⟨x0, hs0⟩ := HF2.out.full (l.length * 6) (by omega)
          obtain ⟨x1, hs1⟩ := HF2.out.full (l.length * 6 + 1) (by omega)
          obtain ⟨x2, hs2⟩ := HF2.out.full (l.length * 6 + 2) (by omega)
          obtain ⟨x3, hs3⟩ := HF2.out.full (l.length * 6 + 3) (by omega)
          obtain ⟨x4, hs4⟩ := HF2.out.full (l.length * 6 + 4) (by omega)
          obtain ⟨x5, hs5⟩ := HF2.out.full (l.length * 6 + 5) (by omega)
          have hfz := HF2.out.free
          cases hri : rdI L (L.length + 100) e with
          | none =>
            have HNO : Hid (getC L = none) := by
              show _ = _
              rw [HGET.out, ← HE.out, show k - l.length = (k - l.length - 1) + 1 by omega, addIs_none L _ l _ e hri]; rfl
            have HB : Hid (Below w.heap.size w ((((((w2.setCell ⟨w.heap.size, l.length * 6, none⟩ (.int .i64 0)).setCell ⟨w.heap.size, l.length * 6 + 1, none⟩ (.int .i64 0)).setCell ⟨w.heap.size, l.length * 6 + 2, none⟩ (.int .i64 0)).setCell ⟨w.heap.size, l.length * 6 + 3, none⟩ (.int .i64 0)).setCell ⟨w.heap.size, l.length * 6 + 4, none⟩ (.int .i64 0)).setCell ⟨w.heap.size, l.length * 6 + 5, none⟩ (.string ⟨#[]⟩))) := (HF2.out.put hlt ⟨0, 0, 0, 0, 0, ⟨#[]⟩⟩).below
            rw [show ansI none = .tuple #[.agg #[.int .i64 0, .int .i64 0, .int .i64 0, .int .i64 0, .int .i64 0, .string ⟨#[]⟩], .int .i64 0, .bool false] from rfl]
            clear hri
            go_wp2_with fail
            refine bodyPost_ret (v := .tuple #[.slice (some ⟨w2.heap.size, 0, none⟩) 0 0, .bool false]) (by simp [results, Tryd.results16, go_sem]) rfl (.inr ⟨HNO.out, _, rfl, HB.out.alloc HB.out.size _⟩)
          | some q =>
            obtain ⟨x, e2⟩ := q
            have HE2 : Hid (addIs (l ++ [x]) (rdIs L (L.length + 100) (k - (l ++ [x]).length) e2) = rdIs L (L.length + 100) k e0) := by
              show _ = _
              rw [← HE.out, show k - l.length = (k - l.length - 1) + 1 by omega, addIs_step L _ l _ e e2 x hri]
              congr 2
              rw [List.length_append]
              simp
              try omega
            have HL2 : Hid ((l ++ [x]).length = l.length + 1) := by show _ = _; simp
            have HF3 := HF2.out.put hlt x
            have HFF : Hid (Fl w _ w.heap.size k (l ++ [x])) := HF3
            rw [show ansI (some (x, e2)) = .tuple #[.agg #[.int .i64 x.op, .int .i64 x.a, .int .i64 x.b, .int .i64 x.c, .int .i64 x.n, .string x.s], .int .i64 e2, .bool true] from rfl]
            clear hri HF3
            go_wp2_with fail
            go_roundw
            case rel => exact ⟨l ++ [x], e2, by rw [HL2.out]; omega, by rw [HL2.out]; go_num, rfl, HE2.out, HFF.out⟩
            case measure => simp [intOf]; omega
        · have hlk : l.length = k := by omega
          subst hlk
          have hEE : rdIs L (L.length + 100) l.length e0 = some (l, e) := by
            rw [← HE.out, Nat.sub_self]; simp [rdIs, addIs]
          have HSM : Hid (SmI maxLen l) := fun x hx => by
            have := rdIs_small hEE x hx
            unfold maxLen; omega
          have HGT : Hid (getC L = okC L (some (l, e))) := by show _ = _; rw [HGET.out, hEE]
          clear hEE
          by_cases he : e = (L.length : Int)
          · subst he
            have HCO : Hid (∀ w', w' = wr → Calls Tryd.prog 22 #[.slice (some ⟨w.heap.size, 0, none⟩) l.length l.length] w' fun e w'' => e = .returned (.bool (codeB l)) ∧ Below w'.heap.size w' w'') := fun w' h => by
              subst h
              exact Code.implCode_any l (some ⟨w.heap.size, 0, none⟩) l.length w' HF.out.row HSM.out (by omega) (HG.out.1.below HF.out.below) (HG.out.2.1.below HF.out.below) (HG.out.2.2.below HF.out.below)
            cases hcb : codeB l with
            | true =>
              have HY : Hid (getC L = some l) := by show _ = _; rw [HGT.out]; exact okC_of hcb
              rw [hcb] at HCO
              clear hcb
              go_wp2_with (go_at_call 22; refine (HCO.out _ rfl).mono ?_; rintro e w3 ⟨rfl, hb3⟩; have HF3 : Hid (Fl w w3 w.heap.size l.length l) := HF.out.call hb3; clear hb3)
              refine bodyPost_ret (v := .tuple #[.slice (some ⟨w.heap.size, 0, none⟩) l.length l.length, .bool true]) (by simp [results, Tryd.results16, go_sem]) rfl (.inl ⟨l, _, HY.out, rfl, HF3.out⟩)
            | false =>
              have HNO : Hid (getC L = none) := by
                show _ = _
                rw [HGT.out]; unfold okC; simp only; rw [if_neg (by rw [hcb]; simp)]
              rw [hcb] at HCO
              clear hcb
              go_wp2_with (go_at_call 22; refine (HCO.out _ rfl).mono ?_; rintro e w3 ⟨rfl, hb3⟩; have HF3 : Hid (Fl w w3 w.heap.size l.length l) := HF.out.call hb3; clear hb3)
              refine bodyPost_ret (v := .tuple #[.slice (some ⟨w3.heap.size, 0, none⟩) 0 0, .bool false]) (by simp [results, Tryd.results16, go_sem]) rfl (.inr ⟨HNO.out, _, rfl, HF3.out.below.alloc HF3.out.below.size _⟩)
          · have HNO : Hid (getC L = none) := by
              show _ = _
              rw [HGT.out]; unfold okC; simp only; rw [if_neg (fun h => he h.1)]
            have hne : (e != (L.length : Int)) = true := by simpa using he
            clear he
            go_wp2_with fail
            refine bodyPost_ret (v := .tuple #[.slice (some ⟨wr.heap.size, 0, none⟩) 0 0, .bool false]) (by simp [results, Tryd.results16, go_sem]) rfl (.inr ⟨HNO.out, _, rfl, HF.out.below.alloc HF.out.below.size _⟩)
    · have HNO : Hid (getC L = none) := by show _ = _; rw [← HGA.out]; unfold getCm; rw [hg]; simp only; rw [if_neg hn]
      clear hg
      by_cases h1 : n < 1
      · clear hn
        go_wp2_with fail
        refine bodyPost_ret (v := .tuple #[.slice (some ⟨w.heap.size, 0, none⟩) 0 0, .bool false]) (by simp [results, Tryd.results16, go_sem]) rfl (.inr ⟨HNO.out, _, rfl, (Below.refl _ _).alloc (Nat.le_refl _) _⟩)
      · have h2 : 200 < n := by omega
        clear hn
        go_wp2_with fail
        refine bodyPost_ret (v := .tuple #[.slice (some ⟨w.heap.size, 0, none⟩) 0 0, .bool false]) (by simp [results, Tryd.results16, go_sem]) rfl (.inr ⟨HNO.out, _, rfl, (Below.refl _ _).alloc (Nat.le_refl _) _⟩)
end Go.Proofs.YtcpodedmeeihhaaDoor.Cb
