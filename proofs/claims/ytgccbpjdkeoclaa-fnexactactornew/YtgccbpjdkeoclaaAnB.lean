/-
  A new actor, the program's.
-/
import Derived.Test.YtgccbpjdkeoclaaAnA
namespace Go.Proofs.Ytgccbpjdkeoclaa
open Go.RowKit Atom
set_option linter.unusedVariables false

def e0T : Tm := .mk 1 0 ⟨#[]⟩ []
def seven : List Tm := List.replicate 7 e0T
def nwB (pid pc : Int) (t : Tm) : Bool := pidB pid && (decide (0 ≤ pc) && okT t)
def nwR (pid pc : Int) (t : Tm) : List Tm := if nwB pid pc t = true then t :: seven else []
def nwI (pid pc : Int) (t : Tm) (x : Int) : Int := if nwB pid pc t = true then x else 0
theorem nw_no {pid pc : Int} {t : Tm} (h : nwB pid pc t = false) : nwR pid pc t = [] ∧ ∀ x, nwI pid pc t x = 0 := by
  unfold nwR nwI; rw [h]; simp
theorem nw_yes {pid pc : Int} {t : Tm} (h : nwB pid pc t = true) : nwR pid pc t = t :: seven ∧ ∀ x, nwI pid pc t x = x := by
  unfold nwR nwI; rw [h]; simp
theorem rep_at : ∀ (n j i : Nat) (v : Value), j < n → eV[i]? = some v → (List.replicate n eV).flatten[4 * j + i]? = some v
  | 0, j, i, v, h, _ => absurd h (Nat.not_lt_zero _)
  | n + 1, 0, i, v, _, hv => by
    rw [List.replicate_succ, List.flatten_cons, Nat.mul_zero, Nat.zero_add, List.getElem?_append_left (List.getElem?_eq_some_iff.1 hv).1]; exact hv
  | n + 1, j + 1, i, v, h, hv => by
    have hl : eV.length = 4 := rfl
    rw [List.replicate_succ, List.flatten_cons, List.getElem?_append_right (by rw [hl]; omega), hl, show 4 * (j + 1) + i - 4 = 4 * j + i by omega]
    exact rep_at n j i v (by omega) hv
theorem rowA8_at {j i : Nat} {v : Value} (hj : j < 8) (hv : eV[i]? = some v) : (rowA 8)[4 * j + i]? = some v := rowA_at (rep_at 8 j i v hj hv)
theorem e0_row {w : World} {g : Nat} : ∀ (n off : Nat), (∀ j i v, j < n → eV[i]? = some v → w.cell? ⟨g, off + (4 * j + i), none⟩ = some v) → OsR w (List.replicate n e0T) [] g off
  | 0, off, _ => by rw [List.replicate_zero, OsR]
  | n + 1, off, h => by
    rw [List.replicate_succ, OsR]
    refine ⟨[], [], rfl, ?_, e0_row n (off + 4) (fun j i v hj hv => ?_)⟩
    · have c0 := h 0 0 _ (by omega) rfl
      have c1 := h 0 1 _ (by omega) rfl
      have c2 := h 0 2 _ (by omega) rfl
      have c3 := h 0 3 _ (by omega) rfl
      rw [e0T, OsT]
      exact ⟨c0, c1, c2, by show 0 ≤ 1048576; omega, none, 0, c3, Nat.le_refl _, Nat.zero_le _, by rw [OsL]⟩
    · have := h (j + 1) i v (by omega) hv
      rw [show off + 4 + (4 * j + i) = off + (4 * (j + 1) + i) by omega]; exact this

theorem five_set {w : World} {R : Nat} {z0 z1 z2 z3 z4 : Value} (h : ∀ o, w.cell? ⟨R, o, none⟩ = (#[z0, z1, z2, z3, z4] : Array Value)[o]?) : w.cell? ⟨R, 0, none⟩ = some z0 ∧ w.cell? ⟨R, 1, none⟩ = some z1 ∧ w.cell? ⟨R, 2, none⟩ = some z2 ∧ w.cell? ⟨R, 3, none⟩ = some z3 ∧ w.cell? ⟨R, 4, none⟩ = some z4 := ⟨h 0, h 1, h 2, h 3, h 4⟩

def set5 (w : World) (R : Nat) (a b c d e : Value) : World := ((((w.setCell ⟨R, 0, none⟩ a).setCell ⟨R, 1, none⟩ b).setCell ⟨R, 2, none⟩ c).setCell ⟨R, 3, none⟩ d).setCell ⟨R, 4, none⟩ e
theorem set5_blk {w : World} {R x : Nat} {a b c d e : Value} (h : x ≠ R) : (set5 w R a b c d e).heap[x]? = w.heap[x]? := by
  unfold set5
  rw [Below.heap_setCell _ ⟨R, 4, none⟩ _ x h, Below.heap_setCell _ ⟨R, 3, none⟩ _ x h, Below.heap_setCell _ ⟨R, 2, none⟩ _ x h, Below.heap_setCell _ ⟨R, 1, none⟩ _ x h, Below.heap_setCell _ ⟨R, 0, none⟩ _ x h]
theorem set4_blk9 {w : World} {g o x : Nat} {a b c d : Value} (h : x ≠ g) : (set4 w g o a b c d).heap[x]? = w.heap[x]? := by
  unfold set4
  rw [Below.heap_setCell _ ⟨g, o + 3, none⟩ _ x h, Below.heap_setCell _ ⟨g, o + 2, none⟩ _ x h, Below.heap_setCell _ ⟨g, o + 1, none⟩ _ x h, Below.heap_setCell _ ⟨g, o, none⟩ _ x h]
theorem new_done {w3 : World} {g R : Nat} {t : Tm} {bs : List Nat} {a b c d r0 r1 r2 r3 r4 : Value} (hg : w3.heap[g]? = some (.cells (rowA 8).toArray 32 (0, 0))) (hv : OsV w3 bs t (.agg #[a, b, c, d])) (h1 : ∀ x ∈ bs, x ≠ g) (h2 : ∀ x ∈ bs, x ≠ R) (h3 : g ≠ R) :
    OsL (set5 (set4 w3 g 0 a b c d) R r0 r1 r2 r3 r4) (t :: seven) (g :: (bs ++ [])) (some ⟨g, 0, none⟩) := by
  have hcell : ∀ z, w3.cell? ⟨g, z, none⟩ = (rowA 8)[z]? := fun z => by simp [World.cell?, hg]
  have hX : ∀ z, (set5 (set4 w3 g 0 a b c d) R r0 r1 r2 r3 r4).cell? ⟨g, z, none⟩ = (set4 w3 g 0 a b c d).cell? ⟨g, z, none⟩ := fun z => World.cell?_of_block (set5_blk h3)
  have hin := set4_in (w := w3) (g := g) (o := 0) (a := a) (b := b) (c := c) (d := d) (fun j hj => by
    rw [Nat.zero_add, hcell]
    match j, hj with
    | 0, _ => rfl
    | 1, _ => rfl
    | 2, _ => rfl
    | 3, _ => rfl)
  obtain ⟨k, n, s, l⟩ := t
  obtain ⟨ao, cap, e, hs, hl, hc, hr⟩ := hv
  simp only [Value.agg.injEq, Array.mk.injEq, List.cons.injEq, and_true] at e
  obtain ⟨rfl, rfl, rfl, rfl⟩ := e
  rw [OsL]
  refine ⟨g, 0, bs, [], rfl, rfl, fun x => ?_, ?_, ?_⟩
  · rw [World.frozen?_of_block (w := set4 w3 g 0 (.int .i64 k) (.int .i64 n) (.string s) (.slice ao l.length cap)) (set5_blk h3), set4_frozen]
    simp [World.frozen?, hg]
  · rw [OsT]
    refine ⟨(hX _).trans hin.1, (hX _).trans hin.2.1, (hX _).trans hin.2.2.1, hs, ao, cap, (hX _).trans hin.2.2.2, hl, hc, OsL.keep _ _ _ (fun x hx _ => ?_) hr⟩
    rw [set5_blk (h2 x hx), set4_blk9 (h1 x hx)]
  · refine e0_row 7 (0 + 4) (fun j i v hj hv => ?_)
    rw [hX, set4_far (p := ⟨g, 0 + 4 + (4 * j + i), none⟩) (Or.inr (Or.inr (by show 0 + 3 < 0 + 4 + (4 * j + i); omega))), hcell, show 0 + 4 + (4 * j + i) = 4 * (j + 1) + i by omega]
    exact rowA8_at (by omega) hv

set_option maxHeartbeats 2000000 in
set_option maxRecDepth 100000 in
theorem implNew_any (pid pc : Int) (t : Tm) (bs : List Nat) (v : Value) (w : World) (h : OsV w bs t v) (hnd : bs.Nodup) (hn : ntL [t] ≤ 4194304) :
    Calls Try.prog 7 #[.int .i64 pid, .int .i64 pc, v] w fun e w' => ∃ ra rc bs', e = .returned (.agg #[.int .i64 (nwI pid pc t pid), .int .i64 (nwI pid pc t pc), .slice ra (nwR pid pc t).length rc, .slice none 0 0, .slice none 0 0]) ∧ (nwR pid pc t).length ≤ rc ∧ rc ≤ maxLen ∧ OsL w' (nwR pid pc t) bs' ra ∧ bs'.Nodup ∧ (∀ b ∈ bs', w.heap.size ≤ b) ∧ Below w.heap.size w w' := by
  have hrep := h.rep
  obtain ⟨va, vb, vc, vd, ve, vf, rfl⟩ := h.form
  obtain ⟨W, hW⟩ : ∃ W, W = (w.alloc (.cells #[.int .i64 va, .int .i64 vb, .string vc, .slice vd ve vf] 32)).alloc (.cells #[.int .i64 0, .int .i64 0, .slice none 0 0, .slice none 0 0, .slice none 0 0] 29) := ⟨_, rfl⟩
  have hbW : Below w.heap.size w W := by rw [hW]; exact ((Below.refl _ _).alloc (Nat.le_refl _) _).alloc (by simp) _
  have hzW : W.heap.size = w.heap.size + 2 := by rw [hW]; simp
  have qa : ∀ o, W.cell? ⟨w.heap.size, o, none⟩ = (#[.int .i64 va, .int .i64 vb, .string vc, .slice vd ve vf] : Array Value)[o]? := fun o => by
    rw [hW, World.cell?_alloc_lt (h := by simp), World.cell?_alloc_new]
  have qr : ∀ o, W.cell? ⟨w.heap.size + 1, o, none⟩ = (#[.int .i64 0, .int .i64 0, .slice none 0 0, .slice none 0 0, .slice none 0 0] : Array Value)[o]? := fun o => by
    have e1 : (w.alloc (.cells #[.int .i64 va, .int .i64 vb, .string vc, .slice vd ve vf] 32)).heap.size = w.heap.size + 1 := by simp
    rw [hW, ← e1, World.cell?_alloc_new]
  have fr : ∀ o, W.frozen? ⟨w.heap.size + 1, o, none⟩ = false := fun o => by
    have e1 : (w.alloc (.cells #[.int .i64 va, .int .i64 vb, .string vc, .slice vd ve vf] 32)).heap.size = w.heap.size + 1 := by simp
    rw [hW, ← e1, World.frozen?_alloc_new]
  have HV : Hid (OsV w bs t (.agg #[.int .i64 va, .int .i64 vb, .string vc, .slice vd ve vf]) ∧ bs.Nodup) := ⟨h, hnd⟩
  have HR : Hid (RepV 0 w t (.agg #[.int .i64 va, .int .i64 vb, .string vc, .slice vd ve vf])) := hrep
  have HBW : Hid (Below w.heap.size w W) := hbW
  have HN : Hid (ntL [t] ≤ 4194304) := hn
  have HQ : Hid (∀ w1, Below W.heap.size W w1 → (∀ o, w1.cell? ⟨w.heap.size, o, none⟩ = (#[.int .i64 va, .int .i64 vb, .string vc, .slice vd ve vf] : Array Value)[o]?) ∧ (∀ o, w1.cell? ⟨w.heap.size + 1, o, none⟩ = (#[.int .i64 0, .int .i64 0, .slice none 0 0, .slice none 0 0, .slice none 0 0] : Array Value)[o]?) ∧ (∀ o, w1.frozen? ⟨w.heap.size + 1, o, none⟩ = false)) := fun w1 hb =>
    ⟨fun o => by rw [hb.cell (p := ⟨w.heap.size, o, none⟩) (by show w.heap.size < _; omega)]; exact qa o, fun o => by rw [hb.cell (p := ⟨w.heap.size + 1, o, none⟩) (by show w.heap.size + 1 < _; omega)]; exact qr o, fun o => by rw [hb.frozen (p := ⟨w.heap.size + 1, o, none⟩) (by show w.heap.size + 1 < _; omega)]; exact fr o⟩
  have HOK : Hid (∀ w1, Below W.heap.size W w1 → Calls Try.prog 20 #[.agg #[.int .i64 va, .int .i64 vb, .string vc, .slice vd ve vf]] w1 fun e w2 => e = .returned (.bool (okT t)) ∧ Below W.heap.size W w2) := fun w1 hb =>
    (implOk_any t 0 w1 _ ((Keeps.below (hbW.trans (hb.mono hbW.size)) 0).repV hrep)).mono fun e w2 ⟨h1, h2⟩ => ⟨h1, hb.trans (h2.mono hb.size)⟩
  have HZW : Hid (W.heap.size = w.heap.size + 2) := hzW
  clear h hnd hn hrep hbW hzW qa qr fr
  have HFIN : Hid (∀ w1 a b c, Below W.heap.size W w1 → Below w.heap.size w (((((w1.setCell ⟨w.heap.size + 1, 0, none⟩ a).setCell ⟨w.heap.size + 1, 1, none⟩ b).setCell ⟨w.heap.size + 1, 2, none⟩ c).setCell ⟨w.heap.size + 1, 3, none⟩ (.slice none 0 0)).setCell ⟨w.heap.size + 1, 4, none⟩ (.slice none 0 0))) := fun w1 a b c hb =>
    (((((HBW.out.trans (hb.mono HBW.out.size)).setCell (by show w.heap.size ≤ w.heap.size + 1; omega) _).setCell (by show w.heap.size ≤ w.heap.size + 1; omega) _).setCell (by show w.heap.size ≤ w.heap.size + 1; omega) _).setCell (by show w.heap.size ≤ w.heap.size + 1; omega) _).setCell (by show w.heap.size ≤ w.heap.size + 1; omega) _
  go_enter Try.func7, Try.ntmps7
  go_wp2_with (go_at_call 19; fail)
  rw [← hW]
  clear hW
  refine (isPid_any _ _).mono ?_
  rintro e w' ⟨rfl, hw'⟩
  obtain rfl := hw'.symm
  obtain ⟨qa, qr, fr⟩ := HQ.out W (Below.refl _ _)
  cases hp : pidB pid
  · have hno : nwB pid pc t = false := by unfold nwB; rw [hp]; rfl
    obtain ⟨n1, n2⟩ := nw_no hno
    go_wp2_with fail
    refine bodyPost_ret (v := .agg #[.int .i64 0, .int .i64 0, .slice none 0 0, .slice none 0 0, .slice none 0 0]) (by simp [results, Try.results7, go_sem, qr]) rfl ?_
    rw [n1, n2, n2]
    exact ⟨none, 0, [], rfl, Nat.le_refl _, Nat.zero_le _, by rw [OsL], by simp, (fun b hb => by cases hb), HFIN.out W _ _ _ (Below.refl _ _)⟩
  · by_cases hpc : pc < 0
    · have hno : nwB pid pc t = false := by unfold nwB; rw [decide_eq_false (by omega)]; simp
      obtain ⟨n1, n2⟩ := nw_no hno
      go_wp2_with fail
      refine bodyPost_ret (v := .agg #[.int .i64 0, .int .i64 0, .slice none 0 0, .slice none 0 0, .slice none 0 0]) (by simp [results, Try.results7, go_sem, qr]) rfl ?_
      rw [n1, n2, n2]
      exact ⟨none, 0, [], rfl, Nat.le_refl _, Nat.zero_le _, by rw [OsL], by simp, (fun b hb => by cases hb), HFIN.out W _ _ _ (Below.refl _ _)⟩
    · go_wp2_with (go_at_call 20; fail)
      refine (HOK.out W (Below.refl _ _)).mono ?_
      rintro e w1 ⟨he, hb1⟩
      have HB1 : Hid (Below W.heap.size W w1) := hb1
      clear qa qr fr
      obtain ⟨qa, qr, fr⟩ := HQ.out w1 hb1
      clear hb1
      cases hok : okT t
      · rw [hok] at he
        subst he
        have hno : nwB pid pc t = false := by unfold nwB; rw [hok]; simp
        obtain ⟨n1, n2⟩ := nw_no hno
        go_wp2_with fail
        refine bodyPost_ret (v := .agg #[.int .i64 0, .int .i64 0, .slice none 0 0, .slice none 0 0, .slice none 0 0]) (by simp [results, Try.results7, go_sem, qr]) rfl ?_
        rw [n1, n2, n2]
        exact ⟨none, 0, [], rfl, Nat.le_refl _, Nat.zero_le _, by rw [OsL], by simp, (fun b hb => by cases hb), HFIN.out w1 _ _ _ HB1.out⟩
      · rw [hok] at he
        subst he
        have hyes : nwB pid pc t = true := by unfold nwB; rw [hp, hok, decide_eq_true (by omega)]; rfl
        obtain ⟨n1, n2⟩ := nw_yes hyes
        have HN1 : Hid (nwR pid pc t = t :: seven ∧ ∀ x, nwI pid pc t x = x) := ⟨n1, n2⟩
        clear hok hyes n1 n2
        have hx1 : ∀ j, (w1.alloc (.cells #[.int .i64 1, .int .i64 0, .string ⟨#[]⟩, .slice none 0 0] 32)).cell? ⟨w1.heap.size, j, none⟩ = eV.toArray[j]? := fun j => World.cell?_alloc_new w1 _ _ j
        have HRP : Hid (Calls Try.prog 21 #[.slice (some ⟨w1.heap.size, 0, none⟩) 1 1, .int .i64 8] (w1.alloc (.cells #[.int .i64 1, .int .i64 0, .string ⟨#[]⟩, .slice none 0 0] 32)) fun e w2 => ∃ g, e = .returned (.slice (some ⟨g, 0, none⟩) 8 8) ∧ w1.heap.size ≤ g ∧ w2.heap[g]? = some (.cells (rowA 8).toArray 32 (0, 0)) ∧ Below w1.heap.size w1 w2) := by
          refine (repeat8_any w1.heap.size _ hx1).mono ?_
          rintro e w2 ⟨g, h1, h2, h3, h4⟩
          have hb0 : Below w1.heap.size w1 (w1.alloc (.cells #[.int .i64 1, .int .i64 0, .string ⟨#[]⟩, .slice none 0 0] 32)) := (Below.refl _ _).alloc (Nat.le_refl _) _
          exact ⟨g, h1, by have := hb0.size; omega, h3, hb0.trans (h4.mono hb0.size)⟩
        clear hx1
        go_wp2_with (go_at_call 21; fail)
        refine HRP.out.mono ?_
        rintro e w2 ⟨g, rfl, hg1, hg2, hb2⟩
        have HB2 : Hid (Below W.heap.size W w2) := HB1.out.trans (hb2.mono HB1.out.size)
        have HG2 : Hid (w2.heap[g]? = some (.cells (rowA 8).toArray 32 (0, 0)) ∧ W.heap.size ≤ g) := ⟨hg2, Nat.le_trans HB1.out.size hg1⟩
        have HOT : Hid (∀ w3, Below W.heap.size W w3 → Calls Try.prog 22 #[.agg #[.int .i64 va, .int .i64 vb, .string vc, .slice vd ve vf]] w3 fun e w4 => ∃ v' bs', e = .returned v' ∧ OsV w4 bs' t v' ∧ bs'.Nodup ∧ (∀ b ∈ bs', w3.heap.size ≤ b) ∧ Below w3.heap.size w3 w4) := fun w3 hb =>
          ownTerm_any t bs _ w3 (OsV.below (HBW.out.trans (hb.mono HBW.out.size)) HV.out.1) HV.out.2 HN.out
        clear qa qr fr
        obtain ⟨qa, qr, fr⟩ := HQ.out w2 HB2.out
        clear hg1 hg2 hb2
        go_wp2_with (go_at_call 22; fail)
        refine (HOT.out w2 HB2.out).mono ?_
        rintro e w3 ⟨v', bs', rfl, hv3, hnd3, hlo3, hb3⟩
        obtain ⟨a3, b3, c3, d3, e3, f3, rfl⟩ := hv3.form
        have HB3 : Hid (Below W.heap.size W w3) := HB2.out.trans (hb3.mono HB2.out.size)
        have hgl : g < w2.heap.size := by
          rcases Nat.lt_or_ge g w2.heap.size with h | h
          · exact h
          · have := HG2.out.1; rw [Array.getElem?_eq_none h] at this; cases this
        have hg3 : w3.heap[g]? = some (.cells (rowA 8).toArray 32 (0, 0)) := (hb3.block g hgl).trans HG2.out.1
        have HG3 : Hid (w3.heap[g]? = some (.cells (rowA 8).toArray 32 (0, 0))) := hg3
        have HV3 : Hid (OsV w3 bs' t (.agg #[.int .i64 a3, .int .i64 b3, .string c3, .slice d3 e3 f3]) ∧ bs'.Nodup ∧ (∀ b ∈ bs', w2.heap.size ≤ b) ∧ g < w2.heap.size) := ⟨hv3, hnd3, hlo3, hgl⟩
        have hcg : ∀ z, w3.cell? ⟨g, z, none⟩ = (rowA 8)[z]? := fun z => by simp [World.cell?, hg3]
        have g0 : w3.cell? ⟨g, 0, none⟩ = some (.int .i64 1) := (hcg 0).trans rfl
        have g1 : w3.cell? ⟨g, 1, none⟩ = some (.int .i64 0) := (hcg 1).trans rfl
        have g2 : w3.cell? ⟨g, 2, none⟩ = some (.string ⟨#[]⟩) := (hcg 2).trans rfl
        have g3 : w3.cell? ⟨g, 3, none⟩ = some (.slice none 0 0) := (hcg 3).trans rfl
        have gf : ∀ z, w3.frozen? ⟨g, z, none⟩ = false := fun z => by simp [World.frozen?, hg3]
        clear qa qr fr
        obtain ⟨qa, qr, fr⟩ := HQ.out w3 HB3.out
        have hne : ¬ w.heap.size + 1 = g := by have := HG2.out.2; have := HZW.out; omega
        have hne2 : ¬ g = w.heap.size + 1 := fun e => hne e.symm
        clear hv3 hnd3 hlo3 hb3 hg3 hgl hcg qa
        obtain ⟨z0, z1, z2, z3, z4⟩ := five_set qr
        clear qr
        go_wp2_with fail
        have hzz := HZW.out
        have hw2 := HB2.out.size
        have hdone := new_done (R := w.heap.size + 1) (r0 := .int .i64 pid) (r1 := .int .i64 pc) (r2 := .slice (some ⟨g, 0, none⟩) 8 8) (r3 := .slice none 0 0) (r4 := .slice none 0 0) HG3.out HV3.out.1 (fun x hx => by have := HV3.out.2.2.1 x hx; have := HV3.out.2.2.2; omega) (fun x hx => by have := HV3.out.2.2.1 x hx; omega) hne2
        refine bodyPost_ret (v := .agg #[.int .i64 pid, .int .i64 pc, .slice (some ⟨g, 0, none⟩) 8 8, .slice none 0 0, .slice none 0 0]) ?_ rfl ?_
        · simp [results, Try.results7, go_sem, z0, z1, z2, z3, z4]
        rw [HN1.out.1, HN1.out.2, HN1.out.2]
        refine ⟨some ⟨g, 0, none⟩, 8, g :: (bs' ++ []), rfl, Nat.le_refl _, by unfold maxLen; omega, hdone, ?_, fun b hb => ?_, ?_⟩
        · rw [List.append_nil, List.nodup_cons]
          exact ⟨fun hm => by have := HV3.out.2.2.1 g hm; have := HV3.out.2.2.2; omega, HV3.out.2.1⟩
        · rw [List.append_nil] at hb
          have hg0 := HG2.out.2
          rcases List.mem_cons.1 hb with rfl | hb
          · omega
          · have := HV3.out.2.2.1 b hb; omega
        · have hg0 := HG2.out.2
          have hBB : Below w.heap.size w w3 := HBW.out.trans (HB3.out.mono HBW.out.size)
          exact ((((((((hBB.setCell (by show w.heap.size ≤ g; omega) _).setCell (by show w.heap.size ≤ g; omega) _).setCell (by show w.heap.size ≤ g; omega) _).setCell (by show w.heap.size ≤ g; omega) _).setCell (by show w.heap.size ≤ w.heap.size + 1; omega) _).setCell (by show w.heap.size ≤ w.heap.size + 1; omega) _).setCell (by show w.heap.size ≤ w.heap.size + 1; omega) _).setCell (by show w.heap.size ≤ w.heap.size + 1; omega) _).setCell (by show w.heap.size ≤ w.heap.size + 1; omega) _
end Go.Proofs.Ytgccbpjdkeoclaa
