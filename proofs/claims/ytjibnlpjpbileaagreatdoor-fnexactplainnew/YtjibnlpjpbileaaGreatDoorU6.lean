/-
  A crowd says something.
  (Ahead of it, in this text: A new actor, the program's. What a turn of one block leaves. Terms that are drawn: how they lie in memory while more are drawn. A copy of a term: what l1Copy answers, at every term.)
-/
import Derived.Test.YtjibnlpjpbileaaGreatDoorU5
import Derived.Test.YtjibnlpjpbileaaGreatDoorCurA
import Derived.Deep.OwnRows
import Derived.Test.YtjibnlpjpbileaaGreatDoorTmC
import Derived.Deep.AppendLies
import Derived.Deep.Onto
import Derived.Test.YtjibnlpjpbileaaGreatDoorU3
import Derived.Test.YtjibnlpjpbileaaGreatDoorTmD
import Derived.Deep.RegionLaw
namespace Go.Proofs.YtjibnlpjpbileaaGreatDoor
open Go.RowKit Atom
set_option linter.unusedVariables false

def e0T : Tm := .mk 1 0 ⟨#[]⟩ []
def seven : List Tm := List.replicate 7 e0T
def nwB (pid pc : Int) (t : Tm) : Bool := pidB pid && (decide (0 ≤ pc) && okT t)
def nwR (pid pc : Int) (t : Tm) : List Tm := if nwB pid pc t = true then t :: seven else []
def nwI (pid pc : Int) (t : Tm) (x : Int) : Int := if nwB pid pc t = true then x else 0
theorem nw_no {pid pc : Int} {t : Tm} (h : nwB pid pc t = false) : nwR pid pc t = [] ∧ ∀ x, nwI pid pc t x = 0 := by
  unfold nwR nwI; rw [h]; simp
theorem nw_yes {pid pc : Int} {t : Tm} (h : nwB pid pc t = true) : nwR pid pc t = t :: seven ∧ ∀ x, nwI pid pc t x = x := by
  unfold nwR nwI; rw [h]; simp
theorem rep_at : ∀ (n j i : Nat) (v : Value), j < n → eV[i]? = some v → (List.replicate n eV).flatten[4 * j + i]? = some v
  | 0, j, i, v, h, _ => absurd h (Nat.not_lt_zero _)
  | n + 1, 0, i, v, _, hv => by
    rw [List.replicate_succ, List.flatten_cons, Nat.mul_zero, Nat.zero_add, List.getElem?_append_left (List.getElem?_eq_some_iff.1 hv).1]; exact hv
  | n + 1, j + 1, i, v, h, hv => by
    have hl : eV.length = 4 := rfl
    rw [List.replicate_succ, List.flatten_cons, List.getElem?_append_right (by rw [hl]; omega), hl, show 4 * (j + 1) + i - 4 = 4 * j + i by omega]
    exact rep_at n j i v (by omega) hv
theorem rowA8_at {j i : Nat} {v : Value} (hj : j < 8) (hv : eV[i]? = some v) : (rowA 8)[4 * j + i]? = some v := rowA_at (rep_at 8 j i v hj hv)
theorem e0_row {w : World} {g : Nat} : ∀ (n off : Nat), (∀ j i v, j < n → eV[i]? = some v → w.cell? ⟨g, off + (4 * j + i), none⟩ = some v) → OsR w (List.replicate n e0T) [] g off
  | 0, off, _ => by rw [List.replicate_zero, OsR]
  | n + 1, off, h => by
    rw [List.replicate_succ, OsR]
    refine ⟨[], [], rfl, ?_, e0_row n (off + 4) (fun j i v hj hv => ?_)⟩
    · have c0 := h 0 0 _ (by omega) rfl
      have c1 := h 0 1 _ (by omega) rfl
      have c2 := h 0 2 _ (by omega) rfl
      have c3 := h 0 3 _ (by omega) rfl
      rw [e0T, OsT]
      exact ⟨c0, c1, c2, by show 0 ≤ 1048576; omega, none, 0, c3, Nat.le_refl _, Nat.zero_le _, by rw [OsL]⟩
    · have := h (j + 1) i v (by omega) hv
      rw [show off + 4 + (4 * j + i) = off + (4 * (j + 1) + i) by omega]; exact this

theorem five_set {w : World} {R : Nat} {z0 z1 z2 z3 z4 : Value} (h : ∀ o, w.cell? ⟨R, o, none⟩ = (#[z0, z1, z2, z3, z4] : Array Value)[o]?) : w.cell? ⟨R, 0, none⟩ = some z0 ∧ w.cell? ⟨R, 1, none⟩ = some z1 ∧ w.cell? ⟨R, 2, none⟩ = some z2 ∧ w.cell? ⟨R, 3, none⟩ = some z3 ∧ w.cell? ⟨R, 4, none⟩ = some z4 := ⟨h 0, h 1, h 2, h 3, h 4⟩

def set5 (w : World) (R : Nat) (a b c d e : Value) : World := ((((w.setCell ⟨R, 0, none⟩ a).setCell ⟨R, 1, none⟩ b).setCell ⟨R, 2, none⟩ c).setCell ⟨R, 3, none⟩ d).setCell ⟨R, 4, none⟩ e
theorem set5_blk {w : World} {R x : Nat} {a b c d e : Value} (h : x ≠ R) : (set5 w R a b c d e).heap[x]? = w.heap[x]? := by
  unfold set5
  rw [Below.heap_setCell _ ⟨R, 4, none⟩ _ x h, Below.heap_setCell _ ⟨R, 3, none⟩ _ x h, Below.heap_setCell _ ⟨R, 2, none⟩ _ x h, Below.heap_setCell _ ⟨R, 1, none⟩ _ x h, Below.heap_setCell _ ⟨R, 0, none⟩ _ x h]
theorem set4_blk9 {w : World} {g o x : Nat} {a b c d : Value} (h : x ≠ g) : (set4 w g o a b c d).heap[x]? = w.heap[x]? := by
  unfold set4
  rw [Below.heap_setCell _ ⟨g, o + 3, none⟩ _ x h, Below.heap_setCell _ ⟨g, o + 2, none⟩ _ x h, Below.heap_setCell _ ⟨g, o + 1, none⟩ _ x h, Below.heap_setCell _ ⟨g, o, none⟩ _ x h]
theorem new_done {w3 : World} {g R : Nat} {t : Tm} {bs : List Nat} {a b c d r0 r1 r2 r3 r4 : Value} (hg : w3.heap[g]? = some (.cells (rowA 8).toArray 38 (0, 0))) (hv : OsV w3 bs t (.agg #[a, b, c, d])) (h1 : ∀ x ∈ bs, x ≠ g) (h2 : ∀ x ∈ bs, x ≠ R) (h3 : g ≠ R) :
    OsL (set5 (set4 w3 g 0 a b c d) R r0 r1 r2 r3 r4) (t :: seven) (g :: (bs ++ [])) (some ⟨g, 0, none⟩) := by
  have hcell : ∀ z, w3.cell? ⟨g, z, none⟩ = (rowA 8)[z]? := fun z => by simp [World.cell?, hg]
  have hX : ∀ z, (set5 (set4 w3 g 0 a b c d) R r0 r1 r2 r3 r4).cell? ⟨g, z, none⟩ = (set4 w3 g 0 a b c d).cell? ⟨g, z, none⟩ := fun z => World.cell?_of_block (set5_blk h3)
  have hin := set4_in (w := w3) (g := g) (o := 0) (a := a) (b := b) (c := c) (d := d) (fun j hj => by
    rw [Nat.zero_add, hcell]
    match j, hj with
    | 0, _ => rfl
    | 1, _ => rfl
    | 2, _ => rfl
    | 3, _ => rfl)
  obtain ⟨k, n, s, l⟩ := t
  obtain ⟨ao, cap, e, hs, hl, hc, hr⟩ := hv
  simp only [Value.agg.injEq, Array.mk.injEq, List.cons.injEq, and_true] at e
  obtain ⟨rfl, rfl, rfl, rfl⟩ := e
  rw [OsL]
  refine ⟨g, 0, bs, [], rfl, rfl, fun x => ?_, ?_, ?_⟩
  · rw [World.frozen?_of_block (w := set4 w3 g 0 (.int .i64 k) (.int .i64 n) (.string s) (.slice ao l.length cap)) (set5_blk h3), set4_frozen]
    simp [World.frozen?, hg]
  · rw [OsT]
    refine ⟨(hX _).trans hin.1, (hX _).trans hin.2.1, (hX _).trans hin.2.2.1, hs, ao, cap, (hX _).trans hin.2.2.2, hl, hc, OsL.keep _ _ _ (fun x hx _ => ?_) hr⟩
    rw [set5_blk (h2 x hx), set4_blk9 (h1 x hx)]
  · refine e0_row 7 (0 + 4) (fun j i v hj hv => ?_)
    rw [hX, set4_far (p := ⟨g, 0 + 4 + (4 * j + i), none⟩) (Or.inr (Or.inr (by show 0 + 3 < 0 + 4 + (4 * j + i); omega))), hcell, show 0 + 4 + (4 * j + i) = 4 * (j + 1) + i by omega]
    exact rowA8_at (by omega) hv

set_option maxHeartbeats 2000000 in
set_option maxRecDepth 100000 in
theorem implNew_any (pid pc : Int) (t : Tm) (bs : List Nat) (v : Value) (w : World) (h : OsV w bs t v) (hnd : bs.Nodup) (hn : ntL [t] ≤ 4194304) :
    Calls Tryz.prog 71 #[.int .i64 pid, .int .i64 pc, v] w fun e w' => ∃ ra rc bs', e = .returned (.agg #[.int .i64 (nwI pid pc t pid), .int .i64 (nwI pid pc t pc), .slice ra (nwR pid pc t).length rc, .slice none 0 0, .slice none 0 0]) ∧ (nwR pid pc t).length ≤ rc ∧ rc ≤ maxLen ∧ OsL w' (nwR pid pc t) bs' ra ∧ bs'.Nodup ∧ (∀ b ∈ bs', w.heap.size ≤ b) ∧ Below w.heap.size w w' := by
  have hrep := h.rep
  obtain ⟨va, vb, vc, vd, ve, vf, rfl⟩ := h.form
  obtain ⟨W, hW⟩ : ∃ W, W = (w.alloc (.cells #[.int .i64 va, .int .i64 vb, .string vc, .slice vd ve vf] 38)).alloc (.cells #[.int .i64 0, .int .i64 0, .slice none 0 0, .slice none 0 0, .slice none 0 0] 61) := ⟨_, rfl⟩
  have hbW : Below w.heap.size w W := by rw [hW]; exact ((Below.refl _ _).alloc (Nat.le_refl _) _).alloc (by simp) _
  have hzW : W.heap.size = w.heap.size + 2 := by rw [hW]; simp
  have qa : ∀ o, W.cell? ⟨w.heap.size, o, none⟩ = (#[.int .i64 va, .int .i64 vb, .string vc, .slice vd ve vf] : Array Value)[o]? := fun o => by
    rw [hW, World.cell?_alloc_lt (h := by simp), World.cell?_alloc_new]
  have qr : ∀ o, W.cell? ⟨w.heap.size + 1, o, none⟩ = (#[.int .i64 0, .int .i64 0, .slice none 0 0, .slice none 0 0, .slice none 0 0] : Array Value)[o]? := fun o => by
    have e1 : (w.alloc (.cells #[.int .i64 va, .int .i64 vb, .string vc, .slice vd ve vf] 38)).heap.size = w.heap.size + 1 := by simp
    rw [hW, ← e1, World.cell?_alloc_new]
  have fr : ∀ o, W.frozen? ⟨w.heap.size + 1, o, none⟩ = false := fun o => by
    have e1 : (w.alloc (.cells #[.int .i64 va, .int .i64 vb, .string vc, .slice vd ve vf] 38)).heap.size = w.heap.size + 1 := by simp
    rw [hW, ← e1, World.frozen?_alloc_new]
  have HV : Hid (OsV w bs t (.agg #[.int .i64 va, .int .i64 vb, .string vc, .slice vd ve vf]) ∧ bs.Nodup) := ⟨h, hnd⟩
  have HR : Hid (RepV 0 w t (.agg #[.int .i64 va, .int .i64 vb, .string vc, .slice vd ve vf])) := hrep
  have HBW : Hid (Below w.heap.size w W) := hbW
  have HN : Hid (ntL [t] ≤ 4194304) := hn
  have HQ : Hid (∀ w1, Below W.heap.size W w1 → (∀ o, w1.cell? ⟨w.heap.size, o, none⟩ = (#[.int .i64 va, .int .i64 vb, .string vc, .slice vd ve vf] : Array Value)[o]?) ∧ (∀ o, w1.cell? ⟨w.heap.size + 1, o, none⟩ = (#[.int .i64 0, .int .i64 0, .slice none 0 0, .slice none 0 0, .slice none 0 0] : Array Value)[o]?) ∧ (∀ o, w1.frozen? ⟨w.heap.size + 1, o, none⟩ = false)) := fun w1 hb =>
    ⟨fun o => by rw [hb.cell (p := ⟨w.heap.size, o, none⟩) (by show w.heap.size < _; omega)]; exact qa o, fun o => by rw [hb.cell (p := ⟨w.heap.size + 1, o, none⟩) (by show w.heap.size + 1 < _; omega)]; exact qr o, fun o => by rw [hb.frozen (p := ⟨w.heap.size + 1, o, none⟩) (by show w.heap.size + 1 < _; omega)]; exact fr o⟩
  have HOK : Hid (∀ w1, Below W.heap.size W w1 → Calls Tryz.prog 90 #[.agg #[.int .i64 va, .int .i64 vb, .string vc, .slice vd ve vf]] w1 fun e w2 => e = .returned (.bool (okT t)) ∧ Below W.heap.size W w2) := fun w1 hb =>
    (implOk_any t 0 w1 _ ((Keeps.below (hbW.trans (hb.mono hbW.size)) 0).repV hrep)).mono fun e w2 ⟨h1, h2⟩ => ⟨h1, hb.trans (h2.mono hb.size)⟩
  have HZW : Hid (W.heap.size = w.heap.size + 2) := hzW
  clear h hnd hn hrep hbW hzW qa qr fr
  have HFIN : Hid (∀ w1 a b c, Below W.heap.size W w1 → Below w.heap.size w (((((w1.setCell ⟨w.heap.size + 1, 0, none⟩ a).setCell ⟨w.heap.size + 1, 1, none⟩ b).setCell ⟨w.heap.size + 1, 2, none⟩ c).setCell ⟨w.heap.size + 1, 3, none⟩ (.slice none 0 0)).setCell ⟨w.heap.size + 1, 4, none⟩ (.slice none 0 0))) := fun w1 a b c hb =>
    (((((HBW.out.trans (hb.mono HBW.out.size)).setCell (by show w.heap.size ≤ w.heap.size + 1; omega) _).setCell (by show w.heap.size ≤ w.heap.size + 1; omega) _).setCell (by show w.heap.size ≤ w.heap.size + 1; omega) _).setCell (by show w.heap.size ≤ w.heap.size + 1; omega) _).setCell (by show w.heap.size ≤ w.heap.size + 1; omega) _
  go_enter Tryz.func71, Tryz.ntmps71
  go_wp2_with (go_at_call 103; fail)
  rw [← hW]
  clear hW
  refine (isPid_any _ _).mono ?_
  rintro e w' ⟨rfl, hw'⟩
  obtain rfl := hw'.symm
  obtain ⟨qa, qr, fr⟩ := HQ.out W (Below.refl _ _)
  cases hp : pidB pid
  · have hno : nwB pid pc t = false := by unfold nwB; rw [hp]; rfl
    obtain ⟨n1, n2⟩ := nw_no hno
    go_wp2_with fail
    refine bodyPost_ret (v := .agg #[.int .i64 0, .int .i64 0, .slice none 0 0, .slice none 0 0, .slice none 0 0]) (by simp [results, Tryz.results71, go_sem, qr]) rfl ?_
    rw [n1, n2, n2]
    exact ⟨none, 0, [], rfl, Nat.le_refl _, Nat.zero_le _, by rw [OsL], by simp, (fun b hb => by cases hb), HFIN.out W _ _ _ (Below.refl _ _)⟩
  · by_cases hpc : pc < 0
    · have hno : nwB pid pc t = false := by unfold nwB; rw [decide_eq_false (by omega)]; simp
      obtain ⟨n1, n2⟩ := nw_no hno
      go_wp2_with fail
      refine bodyPost_ret (v := .agg #[.int .i64 0, .int .i64 0, .slice none 0 0, .slice none 0 0, .slice none 0 0]) (by simp [results, Tryz.results71, go_sem, qr]) rfl ?_
      rw [n1, n2, n2]
      exact ⟨none, 0, [], rfl, Nat.le_refl _, Nat.zero_le _, by rw [OsL], by simp, (fun b hb => by cases hb), HFIN.out W _ _ _ (Below.refl _ _)⟩
    · go_wp2_with (go_at_call 90; fail)
      refine (HOK.out W (Below.refl _ _)).mono ?_
      rintro e w1 ⟨he, hb1⟩
      have HB1 : Hid (Below W.heap.size W w1) := hb1
      clear qa qr fr
      obtain ⟨qa, qr, fr⟩ := HQ.out w1 hb1
      clear hb1
      cases hok : okT t
      · rw [hok] at he
        subst he
        have hno : nwB pid pc t = false := by unfold nwB; rw [hok]; simp
        obtain ⟨n1, n2⟩ := nw_no hno
        go_wp2_with fail
        refine bodyPost_ret (v := .agg #[.int .i64 0, .int .i64 0, .slice none 0 0, .slice none 0 0, .slice none 0 0]) (by simp [results, Tryz.results71, go_sem, qr]) rfl ?_
        rw [n1, n2, n2]
        exact ⟨none, 0, [], rfl, Nat.le_refl _, Nat.zero_le _, by rw [OsL], by simp, (fun b hb => by cases hb), HFIN.out w1 _ _ _ HB1.out⟩
      · rw [hok] at he
        subst he
        have hyes : nwB pid pc t = true := by unfold nwB; rw [hp, hok, decide_eq_true (by omega)]; rfl
        obtain ⟨n1, n2⟩ := nw_yes hyes
        have HN1 : Hid (nwR pid pc t = t :: seven ∧ ∀ x, nwI pid pc t x = x) := ⟨n1, n2⟩
        clear hok hyes n1 n2
        have hx1 : ∀ j, (w1.alloc (.cells #[.int .i64 1, .int .i64 0, .string ⟨#[]⟩, .slice none 0 0] 38)).cell? ⟨w1.heap.size, j, none⟩ = eV.toArray[j]? := fun j => World.cell?_alloc_new w1 _ _ j
        have HRP : Hid (Calls Tryz.prog 104 #[.slice (some ⟨w1.heap.size, 0, none⟩) 1 1, .int .i64 8] (w1.alloc (.cells #[.int .i64 1, .int .i64 0, .string ⟨#[]⟩, .slice none 0 0] 38)) fun e w2 => ∃ g, e = .returned (.slice (some ⟨g, 0, none⟩) 8 8) ∧ w1.heap.size ≤ g ∧ w2.heap[g]? = some (.cells (rowA 8).toArray 38 (0, 0)) ∧ Below w1.heap.size w1 w2) := by
          refine (repeat8_any w1.heap.size _ hx1).mono ?_
          rintro e w2 ⟨g, h1, h2, h3, h4⟩
          have hb0 : Below w1.heap.size w1 (w1.alloc (.cells #[.int .i64 1, .int .i64 0, .string ⟨#[]⟩, .slice none 0 0] 38)) := (Below.refl _ _).alloc (Nat.le_refl _) _
          exact ⟨g, h1, by have := hb0.size; omega, h3, hb0.trans (h4.mono hb0.size)⟩
        clear hx1
        go_wp2_with (go_at_call 104; fail)
        refine HRP.out.mono ?_
        rintro e w2 ⟨g, rfl, hg1, hg2, hb2⟩
        have HB2 : Hid (Below W.heap.size W w2) := HB1.out.trans (hb2.mono HB1.out.size)
        have HG2 : Hid (w2.heap[g]? = some (.cells (rowA 8).toArray 38 (0, 0)) ∧ W.heap.size ≤ g) := ⟨hg2, Nat.le_trans HB1.out.size hg1⟩
        have HOT : Hid (∀ w3, Below W.heap.size W w3 → Calls Tryz.prog 91 #[.agg #[.int .i64 va, .int .i64 vb, .string vc, .slice vd ve vf]] w3 fun e w4 => ∃ v' bs', e = .returned v' ∧ OsV w4 bs' t v' ∧ bs'.Nodup ∧ (∀ b ∈ bs', w3.heap.size ≤ b) ∧ Below w3.heap.size w3 w4) := fun w3 hb =>
          ownTerm_any t bs _ w3 (OsV.below (HBW.out.trans (hb.mono HBW.out.size)) HV.out.1) HV.out.2 HN.out
        clear qa qr fr
        obtain ⟨qa, qr, fr⟩ := HQ.out w2 HB2.out
        clear hg1 hg2 hb2
        go_wp2_with (go_at_call 91; fail)
        refine (HOT.out w2 HB2.out).mono ?_
        rintro e w3 ⟨v', bs', rfl, hv3, hnd3, hlo3, hb3⟩
        obtain ⟨a3, b3, c3, d3, e3, f3, rfl⟩ := hv3.form
        have HB3 : Hid (Below W.heap.size W w3) := HB2.out.trans (hb3.mono HB2.out.size)
        have hgl : g < w2.heap.size := by
          rcases Nat.lt_or_ge g w2.heap.size with h | h
          · exact h
          · have := HG2.out.1; rw [Array.getElem?_eq_none h] at this; cases this
        have hg3 : w3.heap[g]? = some (.cells (rowA 8).toArray 38 (0, 0)) := (hb3.block g hgl).trans HG2.out.1
        have HG3 : Hid (w3.heap[g]? = some (.cells (rowA 8).toArray 38 (0, 0))) := hg3
        have HV3 : Hid (OsV w3 bs' t (.agg #[.int .i64 a3, .int .i64 b3, .string c3, .slice d3 e3 f3]) ∧ bs'.Nodup ∧ (∀ b ∈ bs', w2.heap.size ≤ b) ∧ g < w2.heap.size) := ⟨hv3, hnd3, hlo3, hgl⟩
        have hcg : ∀ z, w3.cell? ⟨g, z, none⟩ = (rowA 8)[z]? := fun z => by simp [World.cell?, hg3]
        have g0 : w3.cell? ⟨g, 0, none⟩ = some (.int .i64 1) := (hcg 0).trans rfl
        have g1 : w3.cell? ⟨g, 1, none⟩ = some (.int .i64 0) := (hcg 1).trans rfl
        have g2 : w3.cell? ⟨g, 2, none⟩ = some (.string ⟨#[]⟩) := (hcg 2).trans rfl
        have g3 : w3.cell? ⟨g, 3, none⟩ = some (.slice none 0 0) := (hcg 3).trans rfl
        have gf : ∀ z, w3.frozen? ⟨g, z, none⟩ = false := fun z => by simp [World.frozen?, hg3]
        clear qa qr fr
        obtain ⟨qa, qr, fr⟩ := HQ.out w3 HB3.out
        have hne : ¬ w.heap.size + 1 = g := by have := HG2.out.2; have := HZW.out; omega
        have hne2 : ¬ g = w.heap.size + 1 := fun e => hne e.symm
        clear hv3 hnd3 hlo3 hb3 hg3 hgl hcg qa
        obtain ⟨z0, z1, z2, z3, z4⟩ := five_set qr
        clear qr
        go_wp2_with fail
        have hzz := HZW.out
        have hw2 := HB2.out.size
        have hdone := new_done (R := w.heap.size + 1) (r0 := .int .i64 pid) (r1 := .int .i64 pc) (r2 := .slice (some ⟨g, 0, none⟩) 8 8) (r3 := .slice none 0 0) (r4 := .slice none 0 0) HG3.out HV3.out.1 (fun x hx => by have := HV3.out.2.2.1 x hx; have := HV3.out.2.2.2; omega) (fun x hx => by have := HV3.out.2.2.1 x hx; omega) hne2
        refine bodyPost_ret (v := .agg #[.int .i64 pid, .int .i64 pc, .slice (some ⟨g, 0, none⟩) 8 8, .slice none 0 0, .slice none 0 0]) ?_ rfl ?_
        · simp [results, Tryz.results71, go_sem, z0, z1, z2, z3, z4]
        rw [HN1.out.1, HN1.out.2, HN1.out.2]
        refine ⟨some ⟨g, 0, none⟩, 8, g :: (bs' ++ []), rfl, Nat.le_refl _, by unfold maxLen; omega, hdone, ?_, fun b hb => ?_, ?_⟩
        · rw [List.append_nil, List.nodup_cons]
          exact ⟨fun hm => by have := HV3.out.2.2.1 g hm; have := HV3.out.2.2.2; omega, HV3.out.2.1⟩
        · rw [List.append_nil] at hb
          have hg0 := HG2.out.2
          rcases List.mem_cons.1 hb with rfl | hb
          · omega
          · have := HV3.out.2.2.1 b hb; omega
        · have hg0 := HG2.out.2
          have hBB : Below w.heap.size w w3 := HBW.out.trans (HB3.out.mono HBW.out.size)
          exact ((((((((hBB.setCell (by show w.heap.size ≤ g; omega) _).setCell (by show w.heap.size ≤ g; omega) _).setCell (by show w.heap.size ≤ g; omega) _).setCell (by show w.heap.size ≤ g; omega) _).setCell (by show w.heap.size ≤ w.heap.size + 1; omega) _).setCell (by show w.heap.size ≤ w.heap.size + 1; omega) _).setCell (by show w.heap.size ≤ w.heap.size + 1; omega) _).setCell (by show w.heap.size ≤ w.heap.size + 1; omega) _).setCell (by show w.heap.size ≤ w.heap.size + 1; omega) _
end Go.Proofs.YtjibnlpjpbileaaGreatDoor
namespace Go.Proofs.YtjibnlpjpbileaaGreatDoor
open Go.RowKit
set_option linter.unusedVariables false

theorem Turn.grown {cb : Nat} {w w' : World} (t : Turn cb w w') : w.grownBy w' (some cb) := ⟨t.os, t.tape, t.output, t.size, fun k hk hn => t.block k hk (fun e => hn (by rw [e]))⟩


theorem Cur.same {cb : Nat} {ao : Option Addr} {len cap : Nat} {zs : List Int} {w w' : World} (h : Cur cb ao len cap zs w) (hs : ∀ b, b ≤ cb → w'.heap[b]? = w.heap[b]?) : Cur cb ao len cap zs w' := by
  have e : ∀ b o, b ≤ cb → w'.cell? ⟨b, o, none⟩ = w.cell? ⟨b, o, none⟩ := fun b o hb => World.cell?_of_block (w := w) (hs b hb)
  obtain ⟨i, hi, h1⟩ := h.c1
  obtain ⟨x, h2⟩ := h.c2
  refine ⟨by rw [e _ _ (Nat.le_refl _)]; exact h.c0, ⟨i, hi, by rw [e _ _ (Nat.le_refl _)]; exact h1⟩, ⟨x, by rw [e _ _ (Nat.le_refl _)]; exact h2⟩, fun o => by rw [World.frozen?_of_block (w := w) (hs cb (Nat.le_refl _))]; exact h.free o, fun hn => ?_, h.rng, h.small⟩
  obtain ⟨b, off, e1, e2, e3⟩ := h.code hn
  exact ⟨b, off, e1, e2, fun j hj => by rw [e _ _ (Nat.le_of_lt e2)]; exact e3 j hj⟩


end Go.Proofs.YtjibnlpjpbileaaGreatDoor
namespace Go.Proofs.YtjibnlpjpbileaaGreatDoor
open Go.RowKit
set_option linter.unusedVariables false

mutual
/-- The four cells from off on in the block b are the term t; all blocks that it leads to are of S. -/
def RpT (S : Nat → Prop) (w : World) : Tm → Nat → Nat → Prop
  | .mk k n s l, b, off => w.cell? ⟨b, off, none⟩ = some (.int .i64 k) ∧ w.cell? ⟨b, off + 1, none⟩ = some (.int .i64 n) ∧ w.cell? ⟨b, off + 2, none⟩ = some (.string s) ∧ s.size ≤ maxLen ∧
      ∃ ao cap, w.cell? ⟨b, off + 3, none⟩ = some (.slice ao l.length cap) ∧ l.length ≤ cap ∧ cap ≤ maxLen ∧ RpL S w l ao
def RpL (S : Nat → Prop) (w : World) : List Tm → Option Addr → Prop
  | [], _ => True
  | t :: r, ao => ∃ b off, ao = some ⟨b, off, none⟩ ∧ S b ∧ RpT S w t b off ∧ RpL S w r (some ⟨b, off + 4, none⟩)
end
def RpV (S : Nat → Prop) (w : World) : Tm → Value → Prop
  | .mk k n s l, v => ∃ ao cap, v = .agg #[.int .i64 k, .int .i64 n, .string s, .slice ao l.length cap] ∧ s.size ≤ maxLen ∧ l.length ≤ cap ∧ cap ≤ maxLen ∧ RpL S w l ao

/-- What of the blocks of S held something holds it still, and these blocks are of S'. -/
def Moves (S S' : Nat → Prop) (w w' : World) : Prop := ∀ b o v, S b → w.cell? ⟨b, o, none⟩ = some v → S' b ∧ w'.cell? ⟨b, o, none⟩ = some v

theorem RpT.head {S : Nat → Prop} {w : World} {t : Tm} {b off : Nat} (h : RpT S w t b off) : ∃ v, w.cell? ⟨b, off, none⟩ = some v := by
  obtain ⟨k, n, s, l⟩ := t
  rw [RpT] at h
  exact ⟨_, h.1⟩
theorem Moves.repL {S S' : Nat → Prop} {w w' : World} (hk : Moves S S' w w') : ∀ (l : List Tm) (ao : Option Addr), RpL S w l ao → RpL S' w' l ao := by
  have ht : ∀ t : Tm, ∀ b off, S b → RpT S w t b off → RpT S' w' t b off := by
    refine Tm.ind ?_
    intro k n s l ih b off hb h
    rw [RpT] at h ⊢
    obtain ⟨h0, h1, h2, hs, ao, cap, h3, hl, hc, hr⟩ := h
    refine ⟨(hk _ _ _ hb h0).2, (hk _ _ _ hb h1).2, (hk _ _ _ hb h2).2, hs, ao, cap, (hk _ _ _ hb h3).2, hl, hc, ?_⟩
    clear h0 h1 h2 h3 hl hc
    induction l generalizing ao with
    | nil => rw [RpL]; trivial
    | cons t r ihr =>
      rw [RpL] at hr ⊢
      obtain ⟨b', off', e, hb', htt, hrr⟩ := hr
      obtain ⟨v, hv⟩ := htt.head
      exact ⟨b', off', e, (hk _ _ _ hb' hv).1, ih t (List.mem_cons_self ..) b' off' hb' htt, ihr (fun x hx => ih x (List.mem_cons_of_mem _ hx)) _ hrr⟩
  intro l
  induction l with
  | nil => intro ao _; rw [RpL]; trivial
  | cons t r ih =>
    intro ao h
    rw [RpL] at h ⊢
    obtain ⟨b', off', e, hb', htt, hrr⟩ := h
    obtain ⟨v, hv⟩ := htt.head
    exact ⟨b', off', e, (hk _ _ _ hb' hv).1, ht t b' off' hb' htt, ih _ hrr⟩
theorem Moves.repV {S S' : Nat → Prop} {w w' : World} (hk : Moves S S' w w') {t : Tm} {v : Value} (h : RpV S w t v) : RpV S' w' t v := by
  obtain ⟨k, n, s, l⟩ := t
  obtain ⟨ao, cap, e, h1, h2, h3, h4⟩ := h
  exact ⟨ao, cap, e, h1, h2, h3, hk.repL _ _ h4⟩
theorem Moves.turn {S : Nat → Prop} {cb : Nat} {w w' : World} (hn : ∀ b, S b → b ≠ cb) (t : Turn cb w w') : Moves S S w w' := fun b o v hb hc => ⟨hb, t.cell (hn b hb) hc⟩
theorem Moves.sub {S S' : Nat → Prop} {w : World} (h : ∀ b, S b → S' b) : Moves S S' w w := fun b o v hb hc => ⟨h b hb, hc⟩
theorem Moves.below {S : Nat → Prop} {w w' : World} (h : Below w.heap.size w w') : Moves S S w w' := fun b o v hb hc => ⟨hb, by
  rw [h.cell (p := ⟨b, o, none⟩) (World.block_lt_of_cell? w _ hc)]; exact hc⟩

mutual
theorem RpT.rep {S : Nat → Prop} {w : World} : ∀ (t : Tm) (b off : Nat), RpT S w t b off → RepT 0 w t b off
  | .mk k n s l, b, off, h => by
    rw [RpT] at h
    rw [RepT]
    obtain ⟨h0, h1, h2, hs, ao, cap, h3, hl, hc, hr⟩ := h
    exact ⟨h0, h1, h2, hs, ao, cap, h3, hl, hc, RpL.rep l ao hr⟩
theorem RpL.rep {S : Nat → Prop} {w : World} : ∀ (l : List Tm) (ao : Option Addr), RpL S w l ao → RepL 0 w l ao
  | [], _, _ => by rw [RepL]; trivial
  | t :: r, ao, h => by
    rw [RpL] at h
    rw [RepL]
    obtain ⟨b, off, e, hb, ht, hr⟩ := h
    exact ⟨b, off, e, Nat.zero_le _, RpT.rep t b off ht, RpL.rep r _ hr⟩
end
theorem RpV.rep {S : Nat → Prop} {w : World} {t : Tm} {v : Value} (h : RpV S w t v) : RepV 0 w t v := by
  obtain ⟨k, n, s, l⟩ := t
  obtain ⟨ao, cap, e, h1, h2, h3, h4⟩ := h
  exact ⟨ao, cap, e, h1, h2, h3, RpL.rep _ _ h4⟩
theorem RpV.form {S : Nat → Prop} {w : World} {t : Tm} {v : Value} (h : RpV S w t v) : ∃ a b c d e f, v = .agg #[.int .i64 a, .int .i64 b, .string c, .slice d e f] := by
  obtain ⟨k, n, s, l⟩ := t
  obtain ⟨ao, cap, e, _⟩ := h
  exact ⟨_, _, _, _, _, _, e⟩

theorem RpL.mk {S : Nat → Prop} {w : World} {b : Nat} (hb : S b) : ∀ (l : List Tm) (off : Nat), (∀ i (hi : i < l.length), RpT S w l[i] b (off + i * 4)) → RpL S w l (some ⟨b, off, none⟩)
  | [], _, _ => by rw [RpL]; trivial
  | t :: r, off, h => by
    rw [RpL]
    refine ⟨b, off, rfl, hb, by have := h 0 (Nat.zero_lt_succ _); rw [List.getElem_cons_zero, Nat.zero_mul, Nat.add_zero] at this; exact this, RpL.mk hb r (off + 4) (fun i hi => ?_)⟩
    have := h (i + 1) (by simpa using hi)
    rw [show off + 4 + i * 4 = off + (i + 1) * 4 by omega]
    simpa using this

/-- From the place o on the cells xs hold the term. -/
def RowT (S : Nat → Prop) (w : World) (xs : List Value) (o : Nat) : Tm → Prop
  | .mk k n s l => xs[o]? = some (.int .i64 k) ∧ xs[o + 1]? = some (.int .i64 n) ∧ xs[o + 2]? = some (.string s) ∧ s.size ≤ maxLen ∧
      ∃ ao cap, xs[o + 3]? = some (.slice ao l.length cap) ∧ l.length ≤ cap ∧ cap ≤ maxLen ∧ RpL S w l ao
/-- The cells xs hold the terms of l. -/
def Row (S : Nat → Prop) (w : World) (l : List Tm) (xs : List Value) : Prop := xs.length = l.length * 4 ∧ ∀ i (hi : i < l.length), RowT S w xs (i * 4) l[i]

theorem RowT.move {S S' : Nat → Prop} {w w' : World} (hk : Moves S S' w w') {xs : List Value} {o : Nat} {t : Tm} (h : RowT S w xs o t) : RowT S' w' xs o t := by
  obtain ⟨k, n, s, l⟩ := t
  obtain ⟨h0, h1, h2, hs, ao, cap, h3, hl, hc, hr⟩ := h
  exact ⟨h0, h1, h2, hs, ao, cap, h3, hl, hc, hk.repL _ _ hr⟩
theorem RowT.app {S : Nat → Prop} {w : World} {xs ys : List Value} {o : Nat} {t : Tm} (h : RowT S w xs o t) : RowT S w (xs ++ ys) o t := by
  have e : ∀ j v, xs[j]? = some v → (xs ++ ys)[j]? = some v := fun j v hj => by
    rw [List.getElem?_append_left (List.getElem?_eq_some_iff.1 hj).1]; exact hj
  obtain ⟨k, n, s, l⟩ := t
  obtain ⟨h0, h1, h2, hs, ao, cap, h3, hl, hc, hr⟩ := h
  exact ⟨e _ _ h0, e _ _ h1, e _ _ h2, hs, ao, cap, e _ _ h3, hl, hc, hr⟩
theorem Row.nil (S : Nat → Prop) (w : World) : Row S w [] [] := ⟨rfl, fun i hi => absurd hi (Nat.not_lt_zero _)⟩
theorem Row.snoc {S S' : Nat → Prop} {w w' : World} (hk : Moves S S' w w') {l : List Tm} {xs : List Value} (h : Row S w l xs) {t : Tm} {a b c d : Value} (hv : RpV S' w' t (.agg #[a, b, c, d])) :
    Row S' w' (l ++ [t]) (xs ++ [a, b, c, d]) := by
  refine ⟨by simp [h.1]; omega, fun i hi => ?_⟩
  by_cases hl : i < l.length
  · rw [List.getElem_append_left hl]
    exact ((h.2 i hl).move hk).app
  · have hil : i = l.length := by simp at hi; omega
    subst hil
    rw [List.getElem_append_right (Nat.le_refl _)]
    simp only [Nat.sub_self, List.getElem_cons_zero]
    have e : ∀ j, (xs ++ [a, b, c, d])[l.length * 4 + j]? = ([a, b, c, d] : List Value)[j]? := fun j => by
      rw [List.getElem?_append_right (by rw [h.1]; omega)]; congr 1; rw [h.1]; omega
    obtain ⟨k, n, s, m⟩ := t
    obtain ⟨ao, cap, e1, hs, hl', hc, hr⟩ := hv
    simp only [Value.agg.injEq, Array.mk.injEq, List.cons.injEq, and_true] at e1
    obtain ⟨rfl, rfl, rfl, rfl⟩ := e1
    exact ⟨e 0, e 1, e 2, hs, ao, cap, e 3, hl', hc, hr⟩
/-- A row in a block of its own is a list. -/
theorem Row.repL {S S' : Nat → Prop} {w : World} {l : List Tm} {xs : List Value} (h : Row S w l xs) (hS : ∀ b, S b → S' b) {base : Nat} {u : Value} (ho : w.ownsRow base 38 4 u l.length xs) (hu : ∀ g, u.ownBlock = some g → S' g) :
    ∃ ao cap, u = .slice ao l.length cap ∧ l.length ≤ cap ∧ cap ≤ maxLen ∧ RpL S' w l ao := by
  obtain ⟨hlen, hcase⟩ := id ho
  rcases hcase with ⟨rfl, h0⟩ | ⟨g, cap, cur, rfl, hb, hg, hn, hc, hsz, htake⟩
  · have : l = [] := List.eq_nil_of_length_eq_zero h0
    subst this
    exact ⟨none, 0, rfl, Nat.le_refl _, Nat.zero_le _, by rw [RpL]; trivial⟩
  · refine ⟨some ⟨g, 0, none⟩, cap, rfl, hn, hc, RpL.mk (hu g rfl) l 0 (fun i hi => ?_)⟩
    have e : ∀ j v, xs[j]? = some v → w.cell? ⟨g, j, none⟩ = some v := fun j v hj => by
      rw [ho.cellAt j (by have := (List.getElem?_eq_some_iff.1 hj).1; omega)]; exact hj
    have ht := (h.2 i hi).move (Moves.sub hS)
    revert ht
    generalize l[i] = t
    intro ht
    obtain ⟨k, n, s, m⟩ := t
    obtain ⟨h0, h1, h2, hs, ao, cap', h3, hl', hc', hr⟩ := ht
    rw [RpT, Nat.zero_add]
    exact ⟨e _ _ h0, e _ _ h1, e _ _ h2, hs, ao, cap', e _ _ h3, hl', hc', hr⟩

def drawnAtoms : List ByteArray := [⟨#[111, 107]⟩, ⟨#[97]⟩, ⟨#[115, 116, 111, 112]⟩, ⟨#[104, 105, 50]⟩]
/-- What a kind does not name is nothing. -/
def WfT : Tm → Prop
  | .mk k n s l => (k = 1 ∧ s = ByteArray.empty ∧ l = [] ∧ -1000000 ≤ n ∧ n ≤ 1000000 ∨ k = 2 ∧ n = 0 ∧ l = [] ∧ s ∈ drawnAtoms ∨ k = 3 ∧ s = ByteArray.empty ∧ l = [] ∧ 0 ≤ n ∧ n ≤ 3 ∨ (k = 4 ∨ k = 5) ∧ n = 0 ∧ s = ByteArray.empty ∨ k = 6 ∧ n = 0 ∧ l = [] ∧ s.size ≤ 5) ∧ l.length ≤ 3 ∧ ∀ t, t ∈ l → WfT t
/-- No deeper than so much below the first. -/
def DpT : Nat → Tm → Prop
  | 0, .mk _ _ _ l => l = []
  | d + 1, .mk _ _ _ l => ∀ t, t ∈ l → DpT d t
def RtT (d : Nat) (t : Tm) : Prop := WfT t ∧ DpT d t

/-- A list that is gathered in the variable tb, while the terms in it are drawn. -/
structure Gath (cb : Nat) (ao : Option Addr) (len cap : Nat) (zs : List Int) (w wr : World) (tb : Nat) (K N : Int) (s : ByteArray) (l : List Tm) (u : Value) (xs : List Value) : Prop where
  drawn : Drawn cb ao len cap zs w wr
  old : cb < w.heap.size
  up : w.heap.size < tb
  lt : tb < wr.heap.size
  t0 : wr.cell? ⟨tb, 0, none⟩ = some (.int .i64 K)
  t1 : wr.cell? ⟨tb, 1, none⟩ = some (.int .i64 N)
  t2 : wr.cell? ⟨tb, 2, none⟩ = some (.string s)
  t3 : wr.cell? ⟨tb, 3, none⟩ = some u
  tf : ∀ o, wr.frozen? ⟨tb, o, none⟩ = false
  r : ∀ j, j < 4 → ∃ v, wr.cell? ⟨w.heap.size, j, none⟩ = some v
  rf : ∀ o, wr.frozen? ⟨w.heap.size, o, none⟩ = false
  own : wr.ownsRow (tb + 1) 38 4 u l.length xs
  row : Row (fun b => tb + 1 ≤ b ∧ u.ownBlock ≠ some b) wr l xs
  wf : ∀ t, t ∈ l → WfT t

theorem Gath.turn {cb : Nat} {ao : Option Addr} {len cap : Nat} {zs : List Int} {w wr w1 : World} {tb : Nat} {K N : Int} {s : ByteArray} {l : List Tm} {u : Value} {xs : List Value}
    (h : Gath cb ao len cap zs w wr tb K N s l u xs) (hd : Drawn cb ao len cap zs wr w1) : Gath cb ao len cap zs w w1 tb K N s l u xs := by
  have hne : tb ≠ cb := by have := h.old; have := h.up; omega
  have hnr : w.heap.size ≠ cb := by have := h.old; omega
  have t := hd.2
  refine ⟨⟨hd.1, h.drawn.2.trans t⟩, h.old, h.up, Nat.lt_of_lt_of_le h.lt t.size, t.cell hne h.t0, t.cell hne h.t1, t.cell hne h.t2, t.cell hne h.t3, fun o => ?_, fun j hj => ?_, fun o => ?_, ?_, ?_, h.wf⟩
  · rw [t.frozen hne h.lt]; exact h.tf o
  · obtain ⟨v, hv⟩ := h.r j hj
    exact ⟨v, t.cell hnr hv⟩
  · rw [t.frozen hnr (Nat.lt_trans h.up h.lt)]; exact h.rf o
  · refine h.own.kept t.grown (Or.inr (fun e => ?_))
    have := (h.own.lt cb e).1
    have := h.old; have := h.up; omega
  · exact ⟨h.row.1, fun i hi => (h.row.2 i hi).move (Moves.turn (fun b hb e => by have := h.old; have := h.up; have := hb.1; omega) t)⟩

/-- One more is drawn, laid down in a block, appended, and the variable turned. -/
theorem Gath.more {cb : Nat} {ao : Option Addr} {len cap : Nat} {zs : List Int} {w wr w1 w2 : World} {tb : Nat} {K N : Int} {s : ByteArray} {l : List Tm} {u : Value} {xs : List Value}
    (h : Gath cb ao len cap zs w wr tb K N s l u xs) (hd : Drawn cb ao len cap zs wr w1) {t : Tm} {a b c d : Value} (hv : RpV (fun b => wr.heap.size ≤ b) w1 t (.agg #[a, b, c, d])) (hw : WfT t) {o : Obj}
    {g cap' : Nat} (hown : w2.ownsRow (tb + 1) 38 4 (.slice (some ⟨g, 0, none⟩) (l.length + 1) cap') (l.length + 1) (xs ++ [a, b, c, d])) (hgrow : (w1.alloc o).grownBy w2 u.ownBlock) (hat : u.ownBlock = some g ∨ g = w1.heap.size + 1) (hlt : g < w2.heap.size) :
    Gath cb ao len cap zs w (w2.setCell ⟨tb, 3, none⟩ (.slice (some ⟨g, 0, none⟩) (l.length + 1) cap')) tb K N s (l ++ [t]) (.slice (some ⟨g, 0, none⟩) (l.length + 1) cap') (xs ++ [a, b, c, d]) := by
  have h1 := h.turn hd
  have hne : tb ≠ cb := by have := h.old; have := h.up; omega
  have hs1 : (w1.alloc o).heap.size = w1.heap.size + 1 := World.size_alloc _ _
  have hun : ∀ k, k < tb + 1 → some k ≠ u.ownBlock := fun k hk e => by have := (h.own.lt k e.symm).1; omega
  have hcell : ∀ p o' v, some p ≠ u.ownBlock → w1.cell? ⟨p, o', none⟩ = some v → w2.cell? ⟨p, o', none⟩ = some v := fun p o' v hp hc => by
    have hpl := World.block_lt_of_cell? w1 _ hc
    rw [hgrow.cell_far ⟨p, o', none⟩ (by rw [hs1]; exact Nat.lt_succ_of_lt hpl) hp, World.cell?_alloc_lt (h := hpl)]; exact hc
  have hfroz : ∀ p o', p < w1.heap.size → some p ≠ u.ownBlock → w2.frozen? ⟨p, o', none⟩ = w1.frozen? ⟨p, o', none⟩ := fun p o' hpl hp => by
    rw [hgrow.frozen_far ⟨p, o', none⟩ (by rw [hs1]; exact Nat.lt_succ_of_lt hpl) hp, World.frozen?_alloc_old (h := by show p ≠ _; omega)]
  have hset : ∀ p o' v, (p ≠ tb ∨ o' ≠ 3) → w2.cell? ⟨p, o', none⟩ = some v → (w2.setCell ⟨tb, 3, none⟩ (.slice (some ⟨g, 0, none⟩) (l.length + 1) cap')).cell? ⟨p, o', none⟩ = some v := fun p o' v hp hc => by
    rw [World.cell?_setCell_other (h := fun e => by simp at e; omega)]; exact hc
  have hgb : tb + 1 ≤ g := (hown.lt g rfl).1
  have hself : ∀ p, p < tb + 1 → some p ≠ u.ownBlock := hun
  have hll : (l ++ [t]).length = l.length + 1 := by simp
  have hul : tb < w1.heap.size := h1.lt
  have hwl : w.heap.size < w1.heap.size := Nat.lt_trans h.up hul
  have hk : ∀ k, k < tb → (w2.setCell ⟨tb, 3, none⟩ (.slice (some ⟨g, 0, none⟩) (l.length + 1) cap')).heap[k]? = w1.heap[k]? := fun k hkt => by
    rw [Below.heap_setCell w2 ⟨tb, 3, none⟩ _ k (by show k ≠ tb; omega), hgrow.block k (by rw [hs1]; omega) (hun k (by omega))]
    show (w1.heap.push _)[k]? = _
    rw [Array.getElem?_push, if_neg (by omega)]
  have hsz : (w2.setCell ⟨tb, 3, none⟩ (.slice (some ⟨g, 0, none⟩) (l.length + 1) cap')).heap.size = w2.heap.size := World.size_setCell ..
  have hsz2 : w1.heap.size + 1 ≤ w2.heap.size := by rw [← hs1]; exact hgrow.size
  have htb : some tb ≠ u.ownBlock := hun tb (by omega)
  have hrb : some w.heap.size ≠ u.ownBlock := hun _ (by have := h.up; omega)
  have hup := h.up
  have hold := h.old
  have hmv : Moves (fun b => tb + 1 ≤ b ∧ u.ownBlock ≠ some b) (fun b => tb + 1 ≤ b ∧ (Value.slice (some ⟨g, 0, none⟩) (l.length + 1) cap').ownBlock ≠ some b) w1 (w2.setCell ⟨tb, 3, none⟩ (.slice (some ⟨g, 0, none⟩) (l.length + 1) cap')) := fun p o' v hp hc => by
    have hpl := World.block_lt_of_cell? w1 _ hc
    refine ⟨⟨hp.1, fun e => ?_⟩, hset p o' v (Or.inl (by have := hp.1; omega)) (hcell p o' v (fun e => hp.2 e.symm) hc)⟩
    simp only [Value.ownBlock, Option.some.injEq] at e
    subst e
    rcases hat with hat | hat
    · exact hp.2 hat
    · have : g < w1.heap.size := hpl
      omega
  have hmn : Moves (fun b => wr.heap.size ≤ b) (fun b => tb + 1 ≤ b ∧ (Value.slice (some ⟨g, 0, none⟩) (l.length + 1) cap').ownBlock ≠ some b) w1 (w2.setCell ⟨tb, 3, none⟩ (.slice (some ⟨g, 0, none⟩) (l.length + 1) cap')) := fun p o' v hp hc => by
    have hpl : p < w1.heap.size := World.block_lt_of_cell? w1 _ hc
    have hpo : some p ≠ u.ownBlock := fun e => by have := (h.own.lt p e.symm).2; omega
    refine ⟨⟨by have := h.lt; omega, fun e => ?_⟩, hset p o' v (Or.inl (by have := h.lt; omega)) (hcell p o' v hpo hc)⟩
    simp only [Value.ownBlock, Option.some.injEq] at e
    subst e
    rcases hat with hat | hat
    · exact hpo hat.symm
    · omega
  refine ⟨⟨hd.1.same (fun b hb => hk b (by omega)), ?_⟩, hold, hup, by rw [hsz]; omega, hset _ _ _ (Or.inr (by omega)) (hcell _ _ _ htb h1.t0), hset _ _ _ (Or.inr (by omega)) (hcell _ _ _ htb h1.t1), hset _ _ _ (Or.inr (by omega)) (hcell _ _ _ htb h1.t2), World.cell?_setCell_same w2 _ _ (hcell _ _ _ htb h1.t3), fun o' => ?_, fun j hj => ?_, fun o' => ?_, ?_, ?_, ?_⟩
  · have t := h1.drawn.2
    exact ⟨hgrow.os.trans t.os, hgrow.tape.trans t.tape, hgrow.output.trans t.output, by rw [hsz]; omega, fun k hkl hkn => (hk k (by omega)).trans (t.block k hkl hkn)⟩
  · rw [World.frozen?_setCell, hfroz tb o' hul htb]; exact h1.tf o'
  · obtain ⟨v, hv'⟩ := h1.r j hj
    exact ⟨v, hset _ _ _ (Or.inl (by omega)) (hcell _ _ _ hrb hv')⟩
  · rw [World.frozen?_setCell, hfroz _ o' hwl hrb]; exact h1.rf o'
  · rw [hll]; exact ownsRow_setCell_below hown (by show tb < tb + 1; omega) _
  · exact Row.snoc hmv h1.row (hmn.repV hv)
  · intro x hx
    rcases List.mem_append.1 hx with hx | hx
    · exact h.wf x hx
    · have : x = t := by simpa using hx
      subst this; exact hw
end Go.Proofs.YtjibnlpjpbileaaGreatDoor
namespace Go.Proofs.YtjibnlpjpbileaaGreatDoor
open Go.RowKit
set_option linter.unusedVariables false

theorem four_news {w : World} {a b c d : Value} {t : TypeId} : ∀ j u, [a, b, c, d][j]? = some u → (w.alloc (.cells #[a, b, c, d] t)).cell? ((⟨w.heap.size, 0, none⟩ : Addr).add j) = some u := fun j u hu =>
  World.news_of_block (w := w.alloc (.cells #[a, b, c, d] t)) (B := w.heap.size) (cs := #[a, b, c, d]) (t := t) (fr := (0, 0)) (by show (w.heap.push _)[w.heap.size]? = _; simp) j u hu
structure Gz (w wr : World) (tb : Nat) (K N : Int) (s : ByteArray) (l : List Tm) (u : Value) (xs : List Value) : Prop where
  be : Below w.heap.size w wr
  up : w.heap.size < tb
  lt : tb < wr.heap.size
  t0 : wr.cell? ⟨tb, 0, none⟩ = some (.int .i64 K)
  t1 : wr.cell? ⟨tb, 1, none⟩ = some (.int .i64 N)
  t2 : wr.cell? ⟨tb, 2, none⟩ = some (.string s)
  t3 : wr.cell? ⟨tb, 3, none⟩ = some u
  tf : ∀ o, wr.frozen? ⟨tb, o, none⟩ = false
  r : ∀ j, j < 4 → ∃ v, wr.cell? ⟨w.heap.size, j, none⟩ = some v
  rf : ∀ o, wr.frozen? ⟨w.heap.size, o, none⟩ = false
  own : wr.ownsRow (tb + 1) 38 4 u l.length xs
  row : Row (fun b => tb + 1 ≤ b ∧ u.ownBlock ≠ some b) wr l xs
theorem Gz.call {w wr w1 : World} {tb : Nat} {K N : Int} {s : ByteArray} {l : List Tm} {u : Value} {xs : List Value} (h : Gz w wr tb K N s l u xs) (hd : Below wr.heap.size wr w1) : Gz w w1 tb K N s l u xs := by
  have hg : wr.grownBy w1 none := ⟨hd.os, hd.tape, hd.output, hd.size, fun k hk _ => hd.block k hk⟩
  have hup := h.up
  have hlt := h.lt
  have cc : ∀ b o v, wr.cell? ⟨b, o, none⟩ = some v → w1.cell? ⟨b, o, none⟩ = some v := fun b o v hv => by rw [hd.cell (p := ⟨b, o, none⟩) (World.block_lt_of_cell? wr _ hv)]; exact hv
  exact ⟨h.be.trans (hd.mono h.be.size), h.up, Nat.lt_of_lt_of_le h.lt hd.size, cc _ _ _ h.t0, cc _ _ _ h.t1, cc _ _ _ h.t2, cc _ _ _ h.t3, fun o => by rw [hd.frozen (p := ⟨tb, o, none⟩) h.lt]; exact h.tf o, fun j hj => by obtain ⟨v, hv⟩ := h.r j hj; exact ⟨v, cc _ _ _ hv⟩, fun o => by rw [hd.frozen (p := ⟨w.heap.size, o, none⟩) (by show w.heap.size < _; omega)]; exact h.rf o, h.own.kept hg (by by_cases e : u.ownBlock = none; exact Or.inl e; exact Or.inr e), ⟨h.row.1, fun i hi => (h.row.2 i hi).move (Moves.below hd)⟩⟩
theorem Gz.form {w wr : World} {tb : Nat} {K N : Int} {s : ByteArray} {l : List Tm} {u : Value} {xs : List Value} (h : Gz w wr tb K N s l u xs) : ∃ a c, u = .slice a l.length c := by
  obtain ⟨_, hh | ⟨g, c, cur, e1, _⟩⟩ := h.own
  · exact ⟨none, 0, by rw [hh.1, hh.2]⟩
  · exact ⟨_, c, e1⟩
/-- One more is drawn, laid down in a block, appended, and the variable turned. -/
theorem Gz.more {w wr w1 w2 : World} {tb : Nat} {K N : Int} {s : ByteArray} {l : List Tm} {u : Value} {xs : List Value}
    (h : Gz w wr tb K N s l u xs) (hd : Below wr.heap.size wr w1) {t : Tm} {a b c d : Value} (hv : RpV (fun b => wr.heap.size ≤ b) w1 t (.agg #[a, b, c, d])) {o : Obj}
    {g cap' : Nat} (hown : w2.ownsRow (tb + 1) 38 4 (.slice (some ⟨g, 0, none⟩) (l.length + 1) cap') (l.length + 1) (xs ++ [a, b, c, d])) (hgrow : (w1.alloc o).grownBy w2 u.ownBlock) (hat : u.ownBlock = some g ∨ g = w1.heap.size + 1) (hlt : g < w2.heap.size) :
    Gz w (w2.setCell ⟨tb, 3, none⟩ (.slice (some ⟨g, 0, none⟩) (l.length + 1) cap')) tb K N s (l ++ [t]) (.slice (some ⟨g, 0, none⟩) (l.length + 1) cap') (xs ++ [a, b, c, d]) := by
  have h1 := h.call hd
  have hs1 : (w1.alloc o).heap.size = w1.heap.size + 1 := World.size_alloc _ _
  have hun : ∀ k, k < tb + 1 → some k ≠ u.ownBlock := fun k hk e => by have := (h.own.lt k e.symm).1; omega
  have hcell : ∀ p o' v, some p ≠ u.ownBlock → w1.cell? ⟨p, o', none⟩ = some v → w2.cell? ⟨p, o', none⟩ = some v := fun p o' v hp hc => by
    have hpl := World.block_lt_of_cell? w1 _ hc
    rw [hgrow.cell_far ⟨p, o', none⟩ (by rw [hs1]; exact Nat.lt_succ_of_lt hpl) hp, World.cell?_alloc_lt (h := hpl)]; exact hc
  have hfroz : ∀ p o', p < w1.heap.size → some p ≠ u.ownBlock → w2.frozen? ⟨p, o', none⟩ = w1.frozen? ⟨p, o', none⟩ := fun p o' hpl hp => by
    rw [hgrow.frozen_far ⟨p, o', none⟩ (by rw [hs1]; exact Nat.lt_succ_of_lt hpl) hp, World.frozen?_alloc_old (h := by show p ≠ _; omega)]
  have hset : ∀ p o' v, (p ≠ tb ∨ o' ≠ 3) → w2.cell? ⟨p, o', none⟩ = some v → (w2.setCell ⟨tb, 3, none⟩ (.slice (some ⟨g, 0, none⟩) (l.length + 1) cap')).cell? ⟨p, o', none⟩ = some v := fun p o' v hp hc => by
    rw [World.cell?_setCell_other (h := fun e => by simp at e; omega)]; exact hc
  have hgb : tb + 1 ≤ g := (hown.lt g rfl).1
  have hself : ∀ p, p < tb + 1 → some p ≠ u.ownBlock := hun
  have hll : (l ++ [t]).length = l.length + 1 := by simp
  have hul : tb < w1.heap.size := h1.lt
  have hwl : w.heap.size < w1.heap.size := Nat.lt_trans h.up hul
  have hk : ∀ k, k < tb → (w2.setCell ⟨tb, 3, none⟩ (.slice (some ⟨g, 0, none⟩) (l.length + 1) cap')).heap[k]? = w1.heap[k]? := fun k hkt => by
    rw [Below.heap_setCell w2 ⟨tb, 3, none⟩ _ k (by show k ≠ tb; omega), hgrow.block k (by rw [hs1]; omega) (hun k (by omega))]
    show (w1.heap.push _)[k]? = _
    rw [Array.getElem?_push, if_neg (by omega)]
  have hsz : (w2.setCell ⟨tb, 3, none⟩ (.slice (some ⟨g, 0, none⟩) (l.length + 1) cap')).heap.size = w2.heap.size := World.size_setCell ..
  have hsz2 : w1.heap.size + 1 ≤ w2.heap.size := by rw [← hs1]; exact hgrow.size
  have htb : some tb ≠ u.ownBlock := hun tb (by omega)
  have hrb : some w.heap.size ≠ u.ownBlock := hun _ (by have := h.up; omega)
  have hup := h.up
  have hmv : Moves (fun b => tb + 1 ≤ b ∧ u.ownBlock ≠ some b) (fun b => tb + 1 ≤ b ∧ (Value.slice (some ⟨g, 0, none⟩) (l.length + 1) cap').ownBlock ≠ some b) w1 (w2.setCell ⟨tb, 3, none⟩ (.slice (some ⟨g, 0, none⟩) (l.length + 1) cap')) := fun p o' v hp hc => by
    have hpl := World.block_lt_of_cell? w1 _ hc
    refine ⟨⟨hp.1, fun e => ?_⟩, hset p o' v (Or.inl (by have := hp.1; omega)) (hcell p o' v (fun e => hp.2 e.symm) hc)⟩
    simp only [Value.ownBlock, Option.some.injEq] at e
    subst e
    rcases hat with hat | hat
    · exact hp.2 hat
    · have : g < w1.heap.size := hpl
      omega
  have hmn : Moves (fun b => wr.heap.size ≤ b) (fun b => tb + 1 ≤ b ∧ (Value.slice (some ⟨g, 0, none⟩) (l.length + 1) cap').ownBlock ≠ some b) w1 (w2.setCell ⟨tb, 3, none⟩ (.slice (some ⟨g, 0, none⟩) (l.length + 1) cap')) := fun p o' v hp hc => by
    have hpl : p < w1.heap.size := World.block_lt_of_cell? w1 _ hc
    have hpo : some p ≠ u.ownBlock := fun e => by have := (h.own.lt p e.symm).2; omega
    refine ⟨⟨by have := h.lt; omega, fun e => ?_⟩, hset p o' v (Or.inl (by have := h.lt; omega)) (hcell p o' v hpo hc)⟩
    simp only [Value.ownBlock, Option.some.injEq] at e
    subst e
    rcases hat with hat | hat
    · exact hpo hat.symm
    · omega
  refine ⟨?_, hup, by rw [hsz]; omega, hset _ _ _ (Or.inr (by omega)) (hcell _ _ _ htb h1.t0), hset _ _ _ (Or.inr (by omega)) (hcell _ _ _ htb h1.t1), hset _ _ _ (Or.inr (by omega)) (hcell _ _ _ htb h1.t2), World.cell?_setCell_same w2 _ _ (hcell _ _ _ htb h1.t3), fun o' => ?_, fun j hj => ?_, fun o' => ?_, ?_, ?_⟩
  · have t := h1.be
    exact ⟨hgrow.os.trans t.os, hgrow.tape.trans t.tape, hgrow.output.trans t.output, by rw [hsz]; omega, fun k hkl => (hk k (by omega)).trans (t.block k hkl)⟩
  · rw [World.frozen?_setCell, hfroz tb o' hul htb]; exact h1.tf o'
  · obtain ⟨v, hv'⟩ := h1.r j hj
    exact ⟨v, hset _ _ _ (Or.inl (by omega)) (hcell _ _ _ hrb hv')⟩
  · rw [World.frozen?_setCell, hfroz _ o' hwl hrb]; exact h1.rf o'
  · rw [hll]; exact ownsRow_setCell_below hown (by show tb < tb + 1; omega) _
  · exact Row.snoc hmv h1.row (hmn.repV hv)
theorem Gz.grown {w w1 w2 : World} {tb : Nat} {K N : Int} {s : ByteArray} {l : List Tm} {u : Value} {xs : List Value}
    (h : Gz w w1 tb K N s l u xs) {o : Obj} (hgrow : (w1.alloc o).grownBy w2 u.ownBlock) : w2.cell? ⟨tb, 3, none⟩ = some u ∧ w2.frozen? ⟨tb, 3, none⟩ = false := by
  have hs1 : (w1.alloc o).heap.size = w1.heap.size + 1 := World.size_alloc _ _
  have hl := h.lt
  have hne : some tb ≠ u.ownBlock := fun e => by have := (h.own.lt tb e.symm).1; omega
  rw [hgrow.cell_far ⟨tb, 3, none⟩ (by rw [hs1]; exact Nat.lt_succ_of_lt hl) hne, hgrow.frozen_far ⟨tb, 3, none⟩ (by rw [hs1]; exact Nat.lt_succ_of_lt hl) hne, World.cell?_alloc_lt (h := hl), World.frozen?_alloc_old (h := by show tb ≠ _; omega)]
  exact ⟨h.t3, h.tf 3⟩
theorem Gath.form {w wr : World} {tb : Nat} {K N : Int} {s : ByteArray} {l : List Tm} {u : Value} {xs : List Value}
    (h : Gz w wr tb K N s l u xs) : ∃ ua uc, u = .slice ua l.length uc := by
  rcases h.own.2 with ⟨rfl, h0⟩ | ⟨g, cap, cur, rfl, _⟩
  · exact ⟨none, 0, by rw [h0]⟩
  · exact ⟨_, _, rfl⟩

theorem Gz.done {w wr : World} {tb : Nat} {K N : Int} {s : ByteArray} {l : List Tm} {u : Value} {xs : List Value} (h : Gz w wr tb K N s l u xs) (hs : s.size ≤ maxLen) (v0 v1 v2 v3 : Value) :
    RpV (fun b => w.heap.size ≤ b) ((((wr.setCell ⟨w.heap.size, 0, none⟩ v0).setCell ⟨w.heap.size, 1, none⟩ v1).setCell ⟨w.heap.size, 2, none⟩ v2).setCell ⟨w.heap.size, 3, none⟩ v3) (.mk K N s l) (.agg #[.int .i64 K, .int .i64 N, .string s, u]) ∧
      Below w.heap.size w ((((wr.setCell ⟨w.heap.size, 0, none⟩ v0).setCell ⟨w.heap.size, 1, none⟩ v1).setCell ⟨w.heap.size, 2, none⟩ v2).setCell ⟨w.heap.size, 3, none⟩ v3) := by
  obtain ⟨ao', cap', rfl, hl, hc, hr⟩ := h.row.repL (S' := fun b => tb + 1 ≤ b) (fun b hb => hb.1) h.own (fun g hg => (h.own.lt g hg).1)
  refine ⟨⟨ao', cap', rfl, hs, hl, hc, ?_⟩, (((h.be.setCell (Nat.le_refl _) _).setCell (Nat.le_refl _) _).setCell (Nat.le_refl _) _).setCell (Nat.le_refl _) _⟩
  refine Moves.repL (S := fun b => tb + 1 ≤ b) (fun b o v hb hv => ⟨by have := h.up; omega, ?_⟩) _ _ hr
  have hup := h.up
  have hne : ∀ j, (⟨w.heap.size, j, none⟩ : Addr) ≠ ⟨b, o, none⟩ := fun j e => by
    simp only [Addr.mk.injEq] at e
    have : tb + 1 ≤ b := hb
    omega
  rw [World.cell?_setCell_other (h := hne 3), World.cell?_setCell_other (h := hne 2), World.cell?_setCell_other (h := hne 1), World.cell?_setCell_other (h := hne 0)]
  exact hv
theorem bundrewZ {W w3 : World} (hb : Below W.drew.heap.size W.drew w3) : Below W.heap.size W w3 := ⟨hb.os, hb.tape, hb.output, hb.size, hb.block⟩
theorem own_lenZ {w : World} {B e z : Nat} {v : Value} {n k : Nat} {xs : List Value} (h : w.ownsRow B e z v n xs) (hn : n = k) : w.ownsRow B e z v k xs := by subst hn; exact h
theorem Gz.begin (w : World) (c : Array Value) (hc : c.size = 4) (K N : Int) (s : ByteArray) :
    Gz w (((w.alloc (.cells c 38)).alloc (.cells #[.int .i64 K, .int .i64 N, .string s, .slice (some ⟨w.heap.size + 1 + 1, 0, none⟩) 0 0] 38)).alloc (.cells #[] 38)) (w.heap.size + 1) K N s [] (.slice (some ⟨w.heap.size + 1 + 1, 0, none⟩) 0 0) [] := by
  have hb := three_new (w := w) (c1 := c) (c2 := #[.int .i64 K, .int .i64 N, .string s, .slice (some ⟨w.heap.size + 1 + 1, 0, none⟩) 0 0]) (c3 := #[]) (t1 := 38) (t2 := 38) (t3 := 38) (Below.refl _ _)
  obtain ⟨hz, q2, q3, f2, f3⟩ := hb
  have e1 : (((w.alloc (.cells c 38)).alloc (.cells #[.int .i64 K, .int .i64 N, .string s, .slice (some ⟨w.heap.size + 1 + 1, 0, none⟩) 0 0] 38)).alloc (.cells #[] 38)).heap[w.heap.size]? = some (.cells c 38 (0, 0)) := by
    show (((w.heap.push _).push _).push _)[w.heap.size]? = _
    rw [Array.getElem?_push, if_neg (by simp; omega), Array.getElem?_push, if_neg (by simp), Array.getElem?_push, if_pos (by simp)]
  have e3 : (((w.alloc (.cells c 38)).alloc (.cells #[.int .i64 K, .int .i64 N, .string s, .slice (some ⟨w.heap.size + 1 + 1, 0, none⟩) 0 0] 38)).alloc (.cells #[] 38)).heap[w.heap.size + 1 + 1]? = some (.cells #[] 38 (0, 0)) := by
    show (((w.heap.push _).push _).push _)[w.heap.size + 1 + 1]? = _
    rw [Array.getElem?_push, if_pos (by simp)]
  refine ⟨(((Below.refl _ _).alloc (Nat.le_refl _) _).alloc (by simp) _).alloc (by simp; omega) _, by omega, by omega, q2 0, q2 1, q2 2, q2 3, f2, fun j hj => ?_, fun o => frozen_of e1, ⟨rfl, Or.inr ⟨w.heap.size + 1 + 1, 0, #[], rfl, Nat.le_refl _, e3, Nat.le_refl _, Nat.zero_le _, rfl, rfl⟩⟩, Row.nil _ _⟩
  rw [cell_of e1]
  exact ⟨c[j], Array.getElem?_eq_getElem (by omega)⟩

def CzT (t : Tm) : Prop := ∀ (w : World) (v : Value), RepV 0 w t v → StS t →
  Calls Tryz.prog 61 #[v] w fun e w' => ∃ v', e = .returned v' ∧ RpV (fun b => w.heap.size ≤ b) w' t v' ∧ Below w.heap.size w w'

set_option maxRecDepth 100000 in
set_option maxHeartbeats 4000000 in
theorem czT_of (K N : Int) (s : ByteArray) (m : List Tm) (ih : ∀ t, t ∈ m → CzT t) : CzT (.mk K N s m) := by
  intro w v hv hw
  obtain ⟨so, scap, rfl, hss, hl, hcap, hr⟩ := hv
  rw [StS] at hw
  have IH : Hid (∀ t, t ∈ m → CzT t) := ih
  have HR : Hid (RepL 0 w m so) := hr
  have HW : Hid (∀ t, t ∈ m → StS t) := hw.2.2
  have hm : m.length ≤ 1048576 := hw.2.1
  have HM : Hid (s.size ≤ maxLen) := hss
  clear ih hr hw hss
  unfold maxLen at hcap
  go_enter Tryz.func61, Tryz.ntmps61
  go_wp2_with fail
  obtain ⟨W0, hW⟩ : ∃ W0, W0 = w.alloc (.cells #[.int .i64 K, .int .i64 N, .string s, .slice so m.length scap] 38) := ⟨_, rfl⟩
  have hs0 : W0.heap.size = w.heap.size + 1 := by rw [hW, World.size_alloc]
  have hg0 := Gz.begin W0 #[.int .i64 0, .int .i64 0, .string ⟨#[]⟩, .slice none 0 0] rfl K N s
  rw [hs0] at hg0
  have HDW : Hid (Below w.heap.size w W0) := by rw [hW]; exact (Below.refl _ _).alloc (Nat.le_refl _) _
  have HQ0 : Hid (W0.cell? ⟨w.heap.size, 3, none⟩ = some (.slice so m.length scap)) := by show _ = _; rw [hW, World.cell?_alloc_new]; rfl
  rw [← hW]
  have HG0 : Hid (Gz W0 _ (w.heap.size + 1 + 1) K N s [] _ []) := hg0
  have HS0 : Hid (W0.heap.size = w.heap.size + 1) := hs0
  clear hg0 hs0 hW
  obtain ⟨i0, hi, hzz⟩ := Option.map_eq_some_iff.1 info26
  simp only [Prod.mk.injEq] at hzz
  obtain ⟨hzz0, hzz1, hzz2⟩ := hzz
  go_loopw [4] (fun i w' => ∃ (k : Nat) (u : Value) (xs : List Value), i = .int .i64 k ∧ k ≤ m.length ∧ Gz W0 w' (w.heap.size + 1 + 1) K N s (m.take k) u xs) (fun i _ => m.length - (intOf i).toNat)
  case atStart => exact ⟨0, _, _, rfl, Nat.zero_le _, HG0.out⟩
  case round =>
    obtain ⟨k, u, xs, rfl, hk, hg⟩ := hrel
    obtain ⟨ua, uc, rfl⟩ := hg.form
    have hlen : (m.take k).length = k := by rw [List.length_take]; omega
    rw [hlen] at hg
    have HG : Hid (Gz W0 wr (w.heap.size + 1 + 1) K N s (m.take k) (.slice ua k uc) xs) := hg
    have t0 := hg.t0
    have t1 := hg.t1
    have t2 := hg.t2
    have t3 := hg.t3
    have tf := hg.tf
    have htl := hg.lt
    have hqr : wr.cell? ⟨w.heap.size, 3, none⟩ = some (.slice so m.length scap) := by
      have hz := HS0.out
      rw [hg.be.cell (p := ⟨w.heap.size, 3, none⟩) (by show w.heap.size < _; omega)]; exact HQ0.out
    have hrr := hg.r
    have hrf := hg.rf
    rw [HS0.out] at hrr hrf
    obtain ⟨r0, hr0⟩ := hrr 0 (by decide)
    obtain ⟨r1, hr1⟩ := hrr 1 (by decide)
    obtain ⟨r2, hr2⟩ := hrr 2 (by decide)
    obtain ⟨r3, hr3⟩ := hrr 3 (by decide)
    have HDR : Hid (Below w.heap.size w wr) := by
      have hz := HS0.out
      exact HDW.out.trans (hg.be.mono (by omega))
    clear hg hrr
    by_cases hlt : k < m.length
    · have HRr : Hid (RepL 0 wr m so) := (Keeps.below HDR.out 0).repL _ _ HR.out
      obtain ⟨b, off, rfl, _, ht⟩ := RepL.at m so HRr.out k hlt
      obtain ⟨tk, tn, ts, tao, tlen, tcap, c0, c1, c2, c3, hv⟩ := ht.cells
      have HV : Hid (RepV 0 wr m[k] (.agg #[.int .i64 tk, .int .i64 tn, .string ts, .slice tao tlen tcap])) := hv
      have HT : Hid (CzT m[k]) := IH.out _ (List.getElem_mem hlt)
      clear hv ht
      go_wp2_with fail
      go_region_law (first
        | (refine step_append_lies _ rfl (.tmp 16) (.tmp 23) 36 rfl (w.heap.size + 1 + 1 + 1) 38 i0 (.agg #[.int .i64 0, .int .i64 0, .string ⟨#[]⟩, .slice none 0 0]) 4 56 underlying24 hi hzz0 hzz1 hzz2 rfl (by decide) (.slice ua k uc) k xs (by simp [Act.eval]) (HO1.out.alloc _) ⟨w5.heap.size, 0, none⟩ 1 1 [.int .i64 va, .int .i64 vb, .string vc, .slice vd ve vf] (by simp [Act.eval]) rfl four_news (by intro u' hu'; simp at hu'; rcases hu' with rfl | rfl | rfl | rfl <;> rfl) (by decide) (by unfold maxLen; omega) (by omega) (by simp; omega) _ rfl ?_; intro g cap5 w6 hown6 hgrow6 hat6 hlt6; obtain ⟨t36, tf6⟩ := HG1.out.grown hgrow6)
        | (go_simp; go_wp2_with (go_at_call 61; refine (HT.out _ _ ?_ ?_).mono ?_; exact HV.out.drew; exact HW.out _ (List.getElem_mem hlt); rintro e w5 ⟨vv, rfl, hv5, hd5⟩; obtain ⟨va, vb, vc, vd, ve, vf, rfl⟩ := hv5.form; have hd5' : Below wr.heap.size wr w5 := bundrewZ hd5; have HG1 : Hid (Gz W0 w5 (w.heap.size + 1 + 1) K N s (m.take k) (.slice ua k uc) xs) := HG.out.call hd5'; have HO1 : Hid (w5.ownsRow (w.heap.size + 1 + 1 + 1) 38 4 (.slice ua k uc) k xs) := own_lenZ HG1.out.own hlen; have htl5 := HG1.out.lt; have t35 := HG1.out.t3; have tf5 := HG1.out.tf)))
      all_goals
        have HG2 := HG.out.more (g := g) (cap' := cap5) hd5' hv5 (by rw [hlen]; exact hown6) hgrow6 (by rw [World.size_alloc] at hat6; exact hat6) hlt6
        rw [hlen, ← List.take_succ_eq_append_getElem hlt] at HG2
        clear t36 tf6 hown6 hgrow6 hat6 hlt6 hv5 hd5 hd5' HG1 HO1 htl5 t35 tf5 c0 c1 c2 c3 hlen
        have HG3 : Hid (Gz W0 _ (w.heap.size + 1 + 1) K N s _ _ _) := HG2
        go_wp2_with fail
        go_roundw
        case rel =>
          refine ⟨k + 1, _, _, ?_, by omega, HG3.out⟩
          go_num
        case measure => simp [intOf]; omega
    · go_wp2_with fail
      have hkm : m.take k = m := List.take_of_length_le (by omega)
      have hd := HG.out.done HM.out (.int .i64 K) (.int .i64 N) (.string s) (.slice ua k uc)
      rw [HS0.out, hkm] at hd
      refine bodyPost_ret (v := .agg #[.int .i64 K, .int .i64 N, .string s, .slice ua k uc]) (by simp [results, Tryz.results61, go_sem, hr0, hr1, hr2, hr3]) rfl ⟨_, rfl, (Moves.sub (fun b hb => by omega)).repV hd.1, HDW.out.trans (hd.2.mono (by omega))⟩
theorem czT_all : ∀ t, CzT t := Tm.ind fun k n s l ih => czT_of k n s l ih
end Go.Proofs.YtjibnlpjpbileaaGreatDoor
namespace Go.Proofs.YtjibnlpjpbileaaGreatDoor
open Go.RowKit Atom
open Go.Proofs.YtjibnlpjpbileaaGreatDoor.Code
set_option linter.unusedVariables false

theorem six_news {w : World} {a b c d x y : Value} {t : TypeId} : ∀ j u, [a, b, c, d, x, y][j]? = some u → (w.alloc (.cells #[a, b, c, d, x, y] t)).cell? ((⟨w.heap.size, 0, none⟩ : Addr).add j) = some u := fun j u hu =>
  World.news_of_block (w := w.alloc (.cells #[a, b, c, d, x, y] t)) (B := w.heap.size) (cs := #[a, b, c, d, x, y]) (t := t) (fr := (0, 0)) (by show (w.heap.push _)[w.heap.size]? = _; simp) j u hu
/-- Only the crowd's variable, and the row of what was said, may have turned. -/
structure OutC (C : Nat) (row : Option Nat) (w w' : World) : Prop where
  os : w'.os = w.os
  tape : w'.tape = w.tape
  output : w'.output = w.output
  size : w.heap.size ≤ w'.heap.size
  block : ∀ b, b < w.heap.size → b ≠ C → some b ≠ row → w'.heap[b]? = w.heap[b]?

/-- What is left of it. -/
def SayP (C mb : Nat) (cv : Value) (next : Int) (u : Value) (n : Nat) (es : List (Int × Value)) (kind pid : Int) (t : Tm) (base : Nat) (xs : List Value) (w w' : World) : Prop := ∃ (g cap : Nat) (a b : Int) (s : ByteArray) (d : Option Addr) (ln cp : Nat) (bs' : List Nat), Crw w' C mb cv next (.slice (some ⟨g, 0, none⟩) (n + 1) cap) es ∧ w'.ownsRow base 96 6 (.slice (some ⟨g, 0, none⟩) (n + 1) cap) (n + 1) (xs ++ [.int .i64 kind, .int .i64 pid, .int .i64 a, .int .i64 b, .string s, .slice d ln cp]) ∧ OsV w' bs' t (.agg #[.int .i64 a, .int .i64 b, .string s, .slice d ln cp]) ∧ bs'.Nodup ∧ (∀ x ∈ bs', w.heap.size ≤ x) ∧ g ∉ bs' ∧ (u.ownBlock = some g ∨ w.heap.size ≤ g) ∧ OutC C u.ownBlock w w'
theorem say_done {C mb : Nat} {cv : Value} {next : Int} {u : Value} {n : Nat} {es : List (Int × Value)} {kind pid : Int} {t : Tm} {base : Nat} {xs : List Value} {w w5 w6 : World} {a5 b5 : Int} {s5 : ByteArray} {o5 : Option Addr} {l5 p5 : Nat} {bs5 : List Nat} {g cap5 : Nat}
    (h0 : Crw w C mb cv next u es) (hb5 : Below w.heap.size w w5) (how : w.ownsRow base 96 6 u n xs) (hC : u.ownBlock ≠ some C) (hM : u.ownBlock ≠ some mb) (hv5 : OsV w5 bs5 t (.agg #[.int .i64 a5, .int .i64 b5, .string s5, .slice o5 l5 p5])) (hnd5 : bs5.Nodup) (hlo5 : ∀ b ∈ bs5, w.heap.size + 1 ≤ b)
    (hown6 : w6.ownsRow base 96 6 (.slice (some ⟨g, 0, none⟩) (n + 1) cap5) (n + 1) (xs ++ [.int .i64 kind, .int .i64 pid, .int .i64 a5, .int .i64 b5, .string s5, .slice o5 l5 p5])) {o : Obj} (hgrow6 : (w5.alloc o).grownBy w6 u.ownBlock) (hat6 : u.ownBlock = some g ∨ g = (w5.alloc o).heap.size) :
    SayP C mb cv next u n es kind pid t base xs w (w6.setCell ⟨C, 3, none⟩ (.slice (some ⟨g, 0, none⟩) (n + 1) cap5)) := by
  have hs1 : (w5.alloc o).heap.size = w5.heap.size + 1 := World.size_alloc _ _
  have hCl := h0.lt
  have hml := h0.mp.lt
  have hz5 := hb5.size
  have hblk : ∀ x, x < w5.heap.size → some x ≠ u.ownBlock → w6.heap[x]? = w5.heap[x]? := fun x hx hne => by
    rw [hgrow6.block x (by rw [hs1]; omega) hne]
    show (w5.heap.push _)[x]? = _
    rw [Array.getElem?_push, if_neg (by omega)]
  have hgC : g ≠ C := fun q => by
    rcases hat6 with h | h
    · exact hC (by rw [h, q])
    · omega
  have h5 := h0.below hb5
  have h6 : Crw w6 C mb cv next u es := h5.keep (hblk C (by omega) (fun q => hC q.symm)) (hblk mb (by omega) (fun q => hM q.symm))
  have hlow : ∀ x, w.heap.size ≤ x → some x ≠ u.ownBlock := fun x hx q => by have := (how.lt x q.symm).2; omega
  have hbl5 : ∀ x ∈ bs5, x < w5.heap.size := by
    obtain ⟨k, m, s, l⟩ := t
    obtain ⟨ao, cap, e, _, _, _, h4⟩ := hv5
    exact OsL.lt _ _ _ h4
  refine ⟨g, cap5, a5, b5, s5, o5, l5, p5, bs5, h6.set3 _, ownsRow_set9 hown6 (fun q => hgC (by simpa [Value.ownBlock] using q)) _, hv5.keep (fun x hx _ => ?_), hnd5, fun x hx => by have := hlo5 x hx; omega, fun hm => ?_, ?_, ?_⟩
  · rw [Below.heap_setCell _ ⟨C, 3, none⟩ _ x (by show x ≠ C; have := hlo5 x hx; omega), hblk x (hbl5 x hx) (hlow x (by have := hlo5 x hx; omega))]
  · have h1 := hbl5 g hm
    have h2 := hlo5 g hm
    rcases hat6 with h | h
    · have := (how.lt g h).2; omega
    · omega
  · rcases hat6 with h | h
    · exact .inl h
    · exact .inr (by omega)
  · refine ⟨hgrow6.os.trans hb5.os, hgrow6.tape.trans hb5.tape, hgrow6.output.trans hb5.output, ?_, fun x hx h1 h2 => ?_⟩
    · rw [World.size_setCell]; have := hgrow6.size; omega
    · rw [Below.heap_setCell _ ⟨C, 3, none⟩ _ x h1, hblk x (by omega) h2, hb5.block x hx]

set_option maxHeartbeats 4000000 in
set_option maxRecDepth 100000 in
theorem say_any (C mb : Nat) (cv : Value) (next : Int) (ua : Option Addr) (n uc : Nat) (es : List (Int × Value)) (kind pid : Int) (t : Tm) (bs : List Nat) (v : Value) (base : Nat) (xs : List Value) (w : World) (h : Crw w C mb cv next (.slice ua n uc) es) (hown : w.ownsRow base 96 6 (.slice ua n uc) n xs) (hn : n < 500) (hb : base ≤ w.heap.size)
    (hC : (Value.slice ua n uc).ownBlock ≠ some C) (hM : (Value.slice ua n uc).ownBlock ≠ some mb) (hv : OsV w bs t v) (hnd : bs.Nodup) (hnt : ntL [t] ≤ 4194304) :
    Calls Tryz.prog 72 #[.pointer (some ⟨C, 0, none⟩), .int .i64 kind, .int .i64 pid, v] w fun e w' => e = .returned (.tuple #[]) ∧ SayP C mb cv next (.slice ua n uc) n es kind pid t base xs w w' := by
  obtain ⟨va, vb, vc, vd, ve, vf, rfl⟩ := hv.form
  obtain ⟨w0, hw0⟩ : ∃ w0, w0 = w.alloc (.cells #[.int .i64 va, .int .i64 vb, .string vc, .slice vd ve vf] 38) := ⟨_, rfl⟩
  have hb0 : Below w.heap.size w w0 := by rw [hw0]; exact (Below.refl _ _).alloc (Nat.le_refl _) _
  have hz0 : w0.heap.size = w.heap.size + 1 := by rw [hw0]; simp
  have q0 : ∀ x, w0.cell? ⟨w.heap.size, x, none⟩ = (#[.int .i64 va, .int .i64 vb, .string vc, .slice vd ve vf] : Array Value)[x]? := fun x => by rw [hw0, World.cell?_alloc_new]
  have HOT : Hid (Calls Tryz.prog 91 #[.agg #[.int .i64 va, .int .i64 vb, .string vc, .slice vd ve vf]] w0.drew fun e w' => ∃ v' bs', e = .returned v' ∧ OsV w' bs' t v' ∧ bs'.Nodup ∧ (∀ b ∈ bs', w0.drew.heap.size ≤ b) ∧ Below w0.drew.heap.size w0.drew w') := ownTerm_any t bs _ w0.drew ((hv.below hb0).below ((Below.refl _ _).drew)) hnd hnt
  have HC0 : Hid (Crw w C mb cv next (.slice ua n uc) es) := h
  have HB0 : Hid (Below w.heap.size w w0) := hb0
  have HOW : Hid (w.ownsRow base 96 6 (.slice ua n uc) n xs) := hown
  have HCM : Hid ((Value.slice ua n uc).ownBlock ≠ some C ∧ (Value.slice ua n uc).ownBlock ≠ some mb ∧ base ≤ w.heap.size) := ⟨hC, hM, hb⟩
  have c3 := (h.below hb0).c3
  have fz0 := (h.below hb0).fz
  have d0 : w0.cell? ⟨w.heap.size, 0, none⟩ = some (.int .i64 va) := q0 0
  have d1 : w0.cell? ⟨w.heap.size, 1, none⟩ = some (.int .i64 vb) := q0 1
  have d2 : w0.cell? ⟨w.heap.size, 2, none⟩ = some (.string vc) := q0 2
  have d3 : w0.cell? ⟨w.heap.size, 3, none⟩ = some (.slice vd ve vf) := q0 3
  obtain ⟨i0, hi, hzz0, hzz1, hzz2⟩ := infoParts9 infoSaid
  have hnI : (n : Int) < 500 := by omega
  have HZ0 : Hid (w0.heap.size = w.heap.size + 1) := hz0
  clear h hown hv hnd hnt hb0 q0 hC hM hb hz0
  rw [hw0] at c3
  go_enter Tryz.func72, Tryz.ntmps72
  go_wp2_with fail
  rw [← hw0] at c3 ⊢
  clear hw0
  go_region_law (first
    | (refine step_append_lies _ rfl (.tmp 18) (.tmp 24) 30 rfl base 96 i0 (.agg #[.int .i64 0, .int .i64 0, .int .i64 0, .int .i64 0, .string ⟨#[]⟩, .slice none 0 0]) 6 72 undSaidS hi hzz0 hzz1 hzz2 rfl (by decide) (.slice ua n uc) n xs (by simp [Act.eval]) (HO5.out.alloc _) ⟨w5.heap.size, 0, none⟩ 1 1 [.int .i64 kind, .int .i64 pid, .int .i64 a5, .int .i64 b5, .string s5, .slice o5 l5 p5] (by simp [Act.eval]) rfl six_news (by intro u' hu'; simp at hu'; rcases hu' with rfl | rfl | rfl | rfl | rfl | rfl <;> rfl) (by decide) (by unfold maxLen; omega) (by omega) (by simp; omega) _ rfl ?_; intro g cap5 w6 hown6 hgrow6 hat6 hlt6; obtain ⟨t36, tf6⟩ := HGR.out w6 hgrow6)
    | (go_simp; go_wp2_with (go_at_call 91; refine HOT.out.mono ?_; rintro e w5 ⟨v5, bs5, rfl, hv5, hnd5, hlo5, hb5⟩; obtain ⟨a5, b5, s5, o5, l5, p5, rfl⟩ := hv5.form; have hb5' : Below w0.heap.size w0 w5 := bundrewZ hb5; have hzb : base ≤ w5.heap.size := (by have h1 := hb5'.size; have h2 := HZ0.out; have h3 := HCM.out.2.2; omega); have HB5 : Hid (Below w.heap.size w w5) := HB0.out.trans (hb5'.mono HB0.out.size); have HC5 : Hid (Crw w5 C mb cv next (.slice ua n uc) es) := HC0.out.below HB5.out; have HO5 : Hid (w5.ownsRow base 96 6 (.slice ua n uc) n xs) := HOW.out.kept ⟨HB5.out.os, HB5.out.tape, HB5.out.output, HB5.out.size, fun k hk _ => HB5.out.block k hk⟩ (by by_cases e : (Value.slice ua n uc).ownBlock = none; exact Or.inl e; exact Or.inr e); have k3 := HC5.out.c3; have k3a : ∀ o, (w5.alloc o).cell? ⟨C, 3, none⟩ = some (.slice ua n uc) := (fun o => (HC5.out.below ((Below.refl _ _).alloc (Nat.le_refl _) o)).c3); have kf := HC5.out.fz; have HGR : Hid (∀ w6, (w5.alloc (.cells #[.int .i64 kind, .int .i64 pid, .int .i64 a5, .int .i64 b5, .string s5, .slice o5 l5 p5] 96)).grownBy w6 (Value.slice ua n uc).ownBlock → w6.cell? ⟨C, 3, none⟩ = some (.slice ua n uc) ∧ ∀ x, w6.frozen? ⟨C, x, none⟩ = false) := (fun w6 hg => by
        have hcA := HC5.out.below ((Below.refl _ _).alloc (Nat.le_refl _) (.cells #[.int .i64 kind, .int .i64 pid, .int .i64 a5, .int .i64 b5, .string s5, .slice o5 l5 p5] 96))
        have hbk := hg.block C hcA.lt (fun e => HCM.out.1 e.symm)
        exact ⟨(World.cell?_of_block hbk).trans hcA.c3, fun x => (World.frozen?_of_block hbk).trans (hcA.fz x)⟩))))
  all_goals
    have HFIN : Hid (SayP C mb cv next (.slice ua n uc) n es kind pid t base xs w (w6.setCell ⟨C, 3, none⟩ (.slice (some ⟨g, 0, none⟩) (n + 1) cap5))) := say_done HC0.out HB5.out HOW.out HCM.out.1 HCM.out.2.1 hv5 hnd5 (fun b hb => by have h1 : w0.heap.size ≤ b := hlo5 b hb; have h2 := HZ0.out; omega) hown6 hgrow6 hat6
    clear hv5 hnd5 hlo5 hb5 hb5' hzb hown6 hgrow6 hat6 hlt6 t36 tf6 k3 k3a kf c3 d0 d1 d2 d3 fz0
    go_wp2_with fail
    exact bodyPost_end (v := .tuple #[]) (by simp [results, Tryz.results72, go_sem]) rfl ⟨rfl, HFIN.out⟩
end Go.Proofs.YtjibnlpjpbileaaGreatDoor
