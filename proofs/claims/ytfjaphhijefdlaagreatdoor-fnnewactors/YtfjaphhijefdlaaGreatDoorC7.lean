/-
  Two terms held against each other, without what stands within: forms, and cmp.Compare.
  (Ahead of it, in this text: Timers drawn: what l14One and l14Draw answer stands in blocks of its own. Timers drawn, right or not: what l14Any and DrawDueTimers answer. The specification's copy of a term once more: its own list is a row that may be appended to. A term that is drawn and perhaps bent: what l1Bend and l1Any answer stands in blocks of its own. What l1Bend and l1Any answer. What l1Any answers: a term that is drawn, perhaps bent, in blocks of its own. A timer that is drawn, perhaps bent: what l14Bent answers. The order of terms, as reckoning: it is total.)
-/
import Derived.Test.YtfjaphhijefdlaaGreatDoorC6
import Derived.Test.YtfjaphhijefdlaaGreatDoorC5
import Derived.Deep.RegionLaw
import Derived.Test.YtfjaphhijefdlaaGreatDoorC12
import Derived.Test.YtfjaphhijefdlaaGreatDoorC1
namespace Go.Proofs.YtfjaphhijefdlaaGreatDoor.Tv
open Go.RowKit Atom
open Go.Proofs.YtfjaphhijefdlaaGreatDoor.Tr
set_option linter.unusedVariables false

def SdOk (x : Sd) : Prop := (0 ≤ x.kind ∧ x.kind ≤ 1000000000) ∧ (1 ≤ x.pid ∧ x.pid ≤ 3) ∧ RtT 1 x.t
theorem atoms_small : ∀ z ∈ drawnAtoms, z.size ≤ 1048576 := fun z hz => by
  simp only [drawnAtoms, List.mem_cons, List.not_mem_nil, or_false] at hz
  rcases hz with rfl | rfl | rfl | rfl <;> decide
theorem wf_sts : ∀ t : Tm, WfT t → StS t := by
  refine Tm.ind ?_
  intro k n s l ih h
  rw [WfT] at h
  rw [StS]
  refine ⟨?_, by have := h.2.1; omega, fun t ht => ih t ht (h.2.2 t ht)⟩
  rcases h.1 with ⟨_, rfl, _⟩ | ⟨_, _, _, h⟩ | ⟨_, rfl, _⟩ | ⟨_, _, rfl⟩ | ⟨_, _, _, h⟩
  · exact Nat.zero_le _
  · exact atoms_small s h
  · exact Nat.zero_le _
  · exact Nat.zero_le _
  · omega

def sixB : List Int := [0, 1, 2, 3, 9, 1000000000]
theorem addT_ok {l : List Sd} {x : Sd} (h : ∀ y ∈ l, SdOk y) (hx : SdOk x) : ∀ y ∈ addT l x, SdOk y := fun y hy => by
  unfold addT at hy
  split at hy
  · unfold insT putAt at hy
    rcases List.mem_append.1 hy with hy | hy
    · exact h y (List.mem_of_mem_take hy)
    · rcases List.mem_cons.1 hy with rfl | hy
      · exact hx
      · exact h y (List.mem_of_mem_drop hy)
  · exact h y hy
theorem addT_len (l : List Sd) (x : Sd) : (addT l x).length ≤ l.length + 1 := by
  unfold addT
  split
  · rw [insT_length]; exact Nat.le_refl _
  · omega
theorem vl_of {w : World} {g : Nat} : ∀ (l : List Sd) (bs : List Nat) (off : Nat) (xs : List Value), GR eltS w l bs g off → xs.length = l.length * 6 → (∀ j v, xs[j]? = some v → w.cell? ⟨g, off + j, none⟩ = some v) → VL eltS w l xs bs
  | [], bs, off, xs, h, hl, _ => by
    rw [GR] at h
    exact ⟨List.length_eq_zero_iff.1 (by simpa using hl), h⟩
  | x :: r, bs, off, xs, h, hl, hc => by
    rw [GR] at h
    obtain ⟨b1, b2, e, h1, h2⟩ := h
    rw [List.length_cons] at hl
    refine ⟨xs.take 6, xs.drop 6, b1, b2, (List.take_append_drop 6 xs).symm, e, ve_s h1 (xs.take 6) (by rw [List.length_take]; omega) (fun j v hj hv => ?_), vl_of r b2 (off + 6) (xs.drop 6) h2 (by rw [List.length_drop]; omega) (fun j v hj => ?_)⟩
    · have h3 : j < xs.length := by omega
      have h4 := hc j _ (List.getElem?_eq_getElem h3)
      have hv' : w.cell? ⟨g, off + j, none⟩ = some v := hv
      rw [h4] at hv'
      rw [List.getElem?_take, if_pos hj, List.getElem?_eq_getElem h3]; exact hv'
    · rw [List.getElem?_drop] at hj
      rw [Nat.add_assoc]; exact hc (6 + j) v hj
end Go.Proofs.YtfjaphhijefdlaaGreatDoor.Tv
namespace Go.Proofs.YtfjaphhijefdlaaGreatDoor.Tv
open Go.RowKit Atom
open Go.Proofs.YtfjaphhijefdlaaGreatDoor.Tr
set_option linter.unusedVariables false

def vLn : Value → Nat
  | .slice _ n _ => n
  | _ => 0
theorem l9Int_any (n : Int) (w : World) : Calls Tryz.prog 24 #[.int .i64 n] w fun e w' => e = .returned (.agg #[.int .i64 1, .int .i64 n, .string ⟨#[]⟩, .slice none 0 0]) ∧ Below w.heap.size w w' := by
  go_enter Tryz.func24, Tryz.ntmps24
  go_wp2_with fail
  refine bodyPost_ret (v := .agg #[.int .i64 1, .int .i64 n, .string ⟨#[]⟩, .slice none 0 0]) (by simp [results, Tryz.results24, go_sem]) rfl ⟨rfl, ?_⟩
  first | exact (Below.refl _ _).alloc (Nat.le_refl _) _ | exact ((((((Below.refl _ _).alloc (Nat.le_refl _) _).setCell (Nat.le_refl _) _).setCell (Nat.le_refl _) _).setCell (Nat.le_refl _) _).setCell (Nat.le_refl _) _)
theorem ok_more {l : List Sd} (h : ∀ x ∈ l, SdOk x) {y : Sd} (hy : SdOk y) : ∀ x ∈ l ++ [y], SdOk x := fun x hx => by
  rcases List.mem_append.1 hx with hx | hx
  · exact h x hx
  · have : x = y := by simpa using hx
    rw [this]; exact hy
theorem drawn_grown {cb : Nat} {ao : Option Addr} {len cap : Nat} {zs : List Int} {w w1 w2 : World} {o : Obj} {r : Option Nat} (h : Drawn cb ao len cap zs w w1) (hg : (w1.alloc o).grownBy w2 r) (hr : ∀ g, r = some g → w.heap.size ≤ g) (hcb : cb < w.heap.size) : Drawn cb ao len cap zs w w2 := by
  have hs1 : (w1.alloc o).heap.size = w1.heap.size + 1 := World.size_alloc _ _
  have hz := h.2.size
  have hk : ∀ k, k < w.heap.size → w2.heap[k]? = w1.heap[k]? := fun k hk => by
    rw [hg.block k (by rw [hs1]; omega) (fun q => by have := hr k q.symm; omega)]
    show (w1.heap.push o)[k]? = _
    rw [Array.getElem?_push, if_neg (by omega)]
  refine ⟨h.1.same (fun b hb => hk b (by omega)), hg.os.trans h.2.os, hg.tape.trans h.2.tape, hg.output.trans h.2.output, by have := hg.size; omega, fun k hkl hkn => (hk k hkl).trans (h.2.block k hkl hkn)⟩

def sevB : List Int := [0, 1, 2, 3, 9, -1, 1000000000]
end Go.Proofs.YtfjaphhijefdlaaGreatDoor.Tv
namespace Go.Proofs.YtfjaphhijefdlaaGreatDoor
open Go.RowKit
set_option linter.unusedVariables false

/-- The terms l stand in a row of one's own that begins at or behind lo, what they lead to in blocks of its own. -/
def TopO (w : World) (lo : Nat) (l : List Tm) (u : Value) : Prop := ∃ xs bs, w.ownsRow lo 26 4 u l.length xs ∧ VL eltT w l xs bs ∧ bs.Nodup ∧ ∀ b ∈ bs, lo ≤ b ∧ u.ownBlock ≠ some b
theorem TopO.low {w : World} {lo lo' : Nat} {l : List Tm} {u : Value} (h : TopO w lo l u) (hl : lo' ≤ lo) : TopO w lo' l u := by
  obtain ⟨xs, bs, h1, h2, h3, h4⟩ := h
  refine ⟨xs, bs, ⟨h1.1, ?_⟩, h2, h3, fun b hb => ⟨Nat.le_trans hl (h4 b hb).1, (h4 b hb).2⟩⟩
  rcases h1.2 with h | ⟨g, c, cur, a1, a2, a3⟩
  · exact .inl h
  · exact .inr ⟨g, c, cur, a1, Nat.le_trans hl a2, a3⟩
theorem TopO.keep {w w' : World} {lo : Nat} {l : List Tm} {u : Value} (h : TopO w lo l u) (hz : w.heap.size ≤ w'.heap.size) (hk : ∀ b, lo ≤ b → b < w.heap.size → w'.heap[b]? = w.heap[b]?) : TopO w' lo l u := by
  obtain ⟨xs, bs, h1, h2, h3, h4⟩ := h
  refine ⟨xs, bs, ⟨h1.1, ?_⟩, h2.keep hz (fun b hb => hk b (h4 b hb).1 (VL.lt h2 b hb)), h3, h4⟩
  rcases h1.2 with h | ⟨g, c, cur, a1, a2, a3, a4⟩
  · exact .inl h
  · exact .inr ⟨g, c, cur, a1, a2, (hk g a2 (Array.getElem?_eq_some_iff.1 a3).1).trans a3, a4⟩
theorem TopO.form {w : World} {lo : Nat} {l : List Tm} {u : Value} (h : TopO w lo l u) : ∃ ua uc, u = .slice ua l.length uc := by
  obtain ⟨xs, bs, h1, _⟩ := h
  rcases h1.2 with ⟨rfl, h0⟩ | ⟨g, cap, cur, rfl, _⟩
  · exact ⟨none, 0, by rw [h0]⟩
  · exact ⟨_, _, rfl⟩
/-- So it is a term in blocks of its own. -/
theorem TopO.own {w : World} {lo : Nat} {l : List Tm} {u : Value} {k n : Int} {s : ByteArray} (h : TopO w lo l u) (hs : s.size ≤ 1048576) : OwV w lo (.mk k n s l) (.agg #[.int .i64 k, .int .i64 n, .string s, u]) := by
  obtain ⟨xs, bs, h1, h2, h3, h4⟩ := h
  obtain ⟨ao', cap', rfl, hl, hc, bt, hg, hb, hn⟩ := h2.gl h1
  refine ⟨bt, ⟨ao', cap', rfl, hs, hl, hc, gl_osL hg⟩, hn h3 (fun b hbm => (h4 b hbm).2), fun b hbm => ?_⟩
  rcases hb b hbm with h9 | h9
  · exact (h4 b h9).1
  · exact (h1.lt b h9).1
theorem Gzo.top {w wr : World} {tb : Nat} {K N : Int} {s : ByteArray} {l : List Tm} {u : Value} {xs : List Value} {bs : List Nat}
    (h : Gzo w wr tb K N s l u xs bs) (v0 v1 v2 v3 : Value) :
    TopO ((((wr.setCell ⟨w.heap.size, 0, none⟩ v0).setCell ⟨w.heap.size, 1, none⟩ v1).setCell ⟨w.heap.size, 2, none⟩ v2).setCell ⟨w.heap.size, 3, none⟩ v3) (tb + 1) l u := by
  have hup := h.up
  have h0 : TopO wr (tb + 1) l u := ⟨xs, bs, h.own, h.row, h.nd, h.lo⟩
  refine h0.keep (by simp only [World.size_setCell]; exact Nat.le_refl _) (fun b hb _ => ?_)
  have hne : b ≠ w.heap.size := by omega
  rw [Below.heap_setCell _ ⟨w.heap.size, 3, none⟩ _ b hne, Below.heap_setCell _ ⟨w.heap.size, 2, none⟩ _ b hne, Below.heap_setCell _ ⟨w.heap.size, 1, none⟩ _ b hne, Below.heap_setCell _ ⟨w.heap.size, 0, none⟩ _ b hne]
theorem ret_len {k m : Nat} {K N : Int} {s : ByteArray} {ua : Option Addr} {uc : Nat} (h : k = m) : Ending.returned (Value.agg #[.int .i64 K, .int .i64 N, .string s, .slice ua k uc]) = .returned (.agg #[.int .i64 K, .int .i64 N, .string s, .slice ua m uc]) := by rw [h]
def CzP (t : Tm) : Prop := ∀ (w : World) (v : Value), RepV 0 w t v → StS t → ∀ K N s m, t = .mk K N s m →
  Calls Tryz.prog 23 #[v] w fun e w' => ∃ ua uc, e = .returned (.agg #[.int .i64 K, .int .i64 N, .string s, .slice ua m.length uc]) ∧ TopO w' w.heap.size m (.slice ua m.length uc) ∧ Below w.heap.size w w'

set_option maxRecDepth 100000 in
set_option maxHeartbeats 4000000 in
theorem czP_of (K N : Int) (s : ByteArray) (m : List Tm) (ih : ∀ t, t ∈ m → CzO t) : CzP (.mk K N s m) := by
  intro w v hv hw K0 N0 s0 m0 hE0
  cases hE0
  obtain ⟨so, scap, rfl, hss, hl, hcap, hr⟩ := hv
  rw [StS] at hw
  have IH : Hid (∀ t, t ∈ m → CzO t) := ih
  have HR : Hid (RepL 0 w m so) := hr
  have HW : Hid (∀ t, t ∈ m → StS t) := hw.2.2
  have hm : m.length ≤ 1048576 := hw.2.1
  have HM : Hid (s.size ≤ 1048576) := hw.1
  clear ih hr hw hss
  unfold maxLen at hcap
  go_enter Tryz.func23, Tryz.ntmps23
  go_wp2_with fail
  obtain ⟨W0, hW⟩ : ∃ W0, W0 = w.alloc (.cells #[.int .i64 K, .int .i64 N, .string s, .slice so m.length scap] 26) := ⟨_, rfl⟩
  have hs0 : W0.heap.size = w.heap.size + 1 := by rw [hW, World.size_alloc]
  have hg0 := Gzo.begin W0 #[.int .i64 0, .int .i64 0, .string ⟨#[]⟩, .slice none 0 0] rfl K N s
  rw [hs0] at hg0
  have HDW : Hid (Below w.heap.size w W0) := by rw [hW]; exact (Below.refl _ _).alloc (Nat.le_refl _) _
  have HQ0 : Hid (W0.cell? ⟨w.heap.size, 3, none⟩ = some (.slice so m.length scap)) := by show _ = _; rw [hW, World.cell?_alloc_new]; rfl
  rw [← hW]
  have HG0 : Hid (Gzo W0 _ (w.heap.size + 1 + 1) K N s [] _ [] []) := hg0
  have HS0 : Hid (W0.heap.size = w.heap.size + 1) := hs0
  clear hg0 hs0 hW
  obtain ⟨i0, hi, hzz⟩ := Option.map_eq_some_iff.1 info26
  simp only [Prod.mk.injEq] at hzz
  obtain ⟨hzz0, hzz1, hzz2⟩ := hzz
  go_loopw [4] (fun i w' => ∃ (k : Nat) (u : Value) (xs : List Value) (bs : List Nat), i = .int .i64 k ∧ k ≤ m.length ∧ Gzo W0 w' (w.heap.size + 1 + 1) K N s (m.take k) u xs bs) (fun i _ => m.length - (intOf i).toNat)
  case atStart => exact ⟨0, _, _, _, rfl, Nat.zero_le _, HG0.out⟩
  case round =>
    obtain ⟨k, u, xs, bs, rfl, hk, hg⟩ := hrel
    obtain ⟨ua, uc, rfl⟩ := hg.form
    have hlen : (m.take k).length = k := by rw [List.length_take]; omega
    rw [hlen] at hg
    have HG : Hid (Gzo W0 wr (w.heap.size + 1 + 1) K N s (m.take k) (.slice ua k uc) xs bs) := hg
    have t0 := hg.t0
    have t1 := hg.t1
    have t2 := hg.t2
    have t3 := hg.t3
    have tf := hg.tf
    have htl := hg.lt
    have hqr : wr.cell? ⟨w.heap.size, 3, none⟩ = some (.slice so m.length scap) := by
      have hz := HS0.out
      rw [hg.be.cell (p := ⟨w.heap.size, 3, none⟩) (by show w.heap.size < _; omega)]; exact HQ0.out
    have hrr := hg.r
    have hrf := hg.rf
    rw [HS0.out] at hrr hrf
    obtain ⟨r0, hr0⟩ := hrr 0 (by decide)
    obtain ⟨r1, hr1⟩ := hrr 1 (by decide)
    obtain ⟨r2, hr2⟩ := hrr 2 (by decide)
    obtain ⟨r3, hr3⟩ := hrr 3 (by decide)
    have HDR : Hid (Below w.heap.size w wr) := by
      have hz := HS0.out
      exact HDW.out.trans (hg.be.mono (by omega))
    clear hg hrr
    by_cases hlt : k < m.length
    · have HRr : Hid (RepL 0 wr m so) := (Keeps.below HDR.out 0).repL _ _ HR.out
      obtain ⟨b, off, rfl, _, ht⟩ := RepL.at m so HRr.out k hlt
      obtain ⟨tk, tn, ts, tao, tlen, tcap, c0, c1, c2, c3, hv⟩ := ht.cells
      have HV : Hid (RepV 0 wr m[k] (.agg #[.int .i64 tk, .int .i64 tn, .string ts, .slice tao tlen tcap])) := hv
      have HT : Hid (CzO m[k]) := IH.out _ (List.getElem_mem hlt)
      clear hv ht
      go_wp2_with fail
      go_region_law (first
        | (refine step_append_lies _ rfl (.tmp 16) (.tmp 23) 24 rfl (w.heap.size + 1 + 1 + 1) 26 i0 (.agg #[.int .i64 0, .int .i64 0, .string ⟨#[]⟩, .slice none 0 0]) 4 56 underlying24 hi hzz0 hzz1 hzz2 rfl (by decide) (.slice ua k uc) k xs (by simp [Act.eval]) (HO1.out.alloc _) ⟨w5.heap.size, 0, none⟩ 1 1 [.int .i64 va, .int .i64 vb, .string vc, .slice vd ve vf] (by simp [Act.eval]) rfl four_news (by intro u' hu'; simp at hu'; rcases hu' with rfl | rfl | rfl | rfl <;> rfl) (by decide) (by unfold maxLen; omega) (by omega) (by simp; omega) _ rfl ?_; intro g cap5 w6 hown6 hgrow6 hat6 hlt6; obtain ⟨t36, tf6⟩ := HG1.out.grown hgrow6)
        | (go_simp; go_wp2_with (go_at_call 23; refine (HT.out _ _ ?_ ?_).mono ?_; exact HV.out.drew; exact HW.out _ (List.getElem_mem hlt); rintro e w5 ⟨vv, rfl, ⟨bt, hv5, hn5, hl5⟩, hd5⟩; obtain ⟨va, vb, vc, vd, ve, vf, rfl⟩ := hv5.form; have hd5' : Below wr.heap.size wr w5 := bundrewO hd5; have HG1 : Hid (Gzo W0 w5 (w.heap.size + 1 + 1) K N s (m.take k) (.slice ua k uc) xs bs) := HG.out.call hd5'; have HO1 : Hid (w5.ownsRow (w.heap.size + 1 + 1 + 1) 26 4 (.slice ua k uc) k xs) := own_lenO HG1.out.own hlen; have htl5 := HG1.out.lt; have t35 := HG1.out.t3; have tf5 := HG1.out.tf)))
      all_goals
        have HG2 := HG.out.more (g := g) (cap' := cap5) hd5' hv5 hn5 hl5 (by rw [hlen]; exact hown6) hgrow6 (by rw [World.size_alloc] at hat6; exact hat6) hlt6
        rw [hlen, ← List.take_succ_eq_append_getElem hlt] at HG2
        clear t36 tf6 hown6 hgrow6 hat6 hlt6 hv5 hn5 hl5 hd5 hd5' HG1 HO1 htl5 t35 tf5 c0 c1 c2 c3 hlen
        have HG3 : Hid (Gzo W0 _ (w.heap.size + 1 + 1) K N s _ _ _ _) := HG2
        go_wp2_with fail
        go_roundw
        case rel =>
          refine ⟨k + 1, _, _, _, ?_, by omega, HG3.out⟩
          go_num
        case measure => simp [intOf]; omega
    · go_wp2_with fail
      have hkm : m.take k = m := List.take_of_length_le (by omega)
      have hd := HG.out.done HM.out (.int .i64 K) (.int .i64 N) (.string s) (.slice ua k uc)
      rw [HS0.out, hkm] at hd
      have hp := HG.out.top (.int .i64 K) (.int .i64 N) (.string s) (.slice ua k uc)
      rw [HS0.out, hkm] at hp
      have hkl : k = m.length := by omega
      have hu : (Value.slice ua m.length uc) = .slice ua k uc := by rw [hkl]
      refine bodyPost_ret (v := .agg #[.int .i64 K, .int .i64 N, .string s, .slice ua k uc]) (by simp [results, Tryz.results23, go_sem, hr0, hr1, hr2, hr3]) rfl ⟨ua, uc, ret_len hkl, ?_, HDW.out.trans (hd.2.mono (by omega))⟩
      rw [hu]
      refine hp.low ?_
      omega
end Go.Proofs.YtfjaphhijefdlaaGreatDoor
namespace Go.Proofs.YtfjaphhijefdlaaGreatDoor
open Go.RowKit
set_option linter.unusedVariables false

theorem hidB {p : Prop} (h : p) : Hid p := h
theorem TopO.set {w : World} {lo b o : Nat} {l : List Tm} {u v : Value} (h : TopO w lo l u) (hb : b < lo) : TopO (w.setCell ⟨b, o, none⟩ v) lo l u :=
  h.keep (by rw [World.size_setCell]; exact Nat.le_refl _) (fun x hx _ => Below.heap_setCell w ⟨b, o, none⟩ v x (by show x ≠ b; omega))
theorem TopO.nil {w : World} {lo : Nat} : TopO w lo [] (.slice none 0 0) := ⟨[], [], ⟨rfl, .inl ⟨rfl, rfl⟩⟩, ⟨rfl, rfl⟩, List.nodup_nil, fun b hb => by cases hb⟩
theorem ve_leaf {w : World} (k n : Int) (s : ByteArray) (hs : s.size ≤ 1048576) : VE eltT w (.mk k n s []) [.int .i64 k, .int .i64 n, .string s, .slice none 0 0] [] :=
  ve_term ⟨none, 0, rfl, hs, Nat.le_refl _, Nat.zero_le _, by rw [OsL]⟩
theorem TopO.more {w1 w2 : World} {lo : Nat} {m : List Tm} {u v' : Value} {xs : List Value} {bs : List Nat} {o : Obj} {k n : Int} {s : ByteArray} (hs : s.size ≤ 1048576)
    (h1 : w1.ownsRow lo 26 4 u m.length xs) (h2 : VL eltT w1 m xs bs) (h3 : bs.Nodup) (h4 : ∀ b ∈ bs, lo ≤ b ∧ u.ownBlock ≠ some b)
    (hown : w2.ownsRow lo 26 4 v' (m.length + 1) (xs ++ [.int .i64 k, .int .i64 n, .string s, .slice none 0 0])) (hgr : (w1.alloc o).grownBy w2 u.ownBlock) (hat : v'.ownBlock = u.ownBlock ∨ v'.ownBlock = some (w1.alloc o).heap.size) : TopO w2 lo (m ++ [.mk k n s []]) v' := by
  have hs1 : (w1.alloc o).heap.size = w1.heap.size + 1 := World.size_alloc _ _
  have hk : ∀ b, b < w1.heap.size → u.ownBlock ≠ some b → w2.heap[b]? = w1.heap[b]? := fun b hb hu => by
    rw [hgr.block b (by rw [hs1]; omega) (fun q => hu q.symm)]
    show (w1.heap.push o)[b]? = _
    rw [Array.getElem?_push, if_neg (by omega)]
  refine ⟨_, bs ++ [], by rw [List.length_append]; exact hown, (VL.snoc (ve_leaf k n s hs) h2).keep (by have := hgr.size; omega) (fun b hb => ?_), by rw [List.append_nil]; exact h3, fun b hb => ?_⟩
  · rw [List.append_nil] at hb
    exact hk b (VL.lt h2 b hb) (h4 b hb).2
  · rw [List.append_nil] at hb
    refine ⟨(h4 b hb).1, fun q => ?_⟩
    rcases hat with ha | ha
    · exact (h4 b hb).2 (by rw [← ha]; exact q)
    · rw [ha] at q
      injection q with q
      have := VL.lt h2 b hb
      omega
/-- A term in blocks of its own is the one element of a new row. -/
theorem TopO.one {w : World} {lo : Nat} {t : Tm} {a b : Int} {c : ByteArray} {d : Option Addr} {e f : Nat} (h : OwV w lo t (.agg #[.int .i64 a, .int .i64 b, .string c, .slice d e f])) (hlo : lo ≤ w.heap.size) :
    TopO (w.alloc (.cells #[.int .i64 a, .int .i64 b, .string c, .slice d e f] 26)) lo [t] (.slice (some ⟨w.heap.size, 0, none⟩) 1 1) := by
  obtain ⟨bs, h1, h2, h3⟩ := h
  have hb : Below w.heap.size w (w.alloc (.cells #[.int .i64 a, .int .i64 b, .string c, .slice d e f] 26)) := (Below.refl _ _).alloc (Nat.le_refl _) _
  refine ⟨[.int .i64 a, .int .i64 b, .string c, .slice d e f], bs, ⟨rfl, .inr ⟨w.heap.size, 1, #[.int .i64 a, .int .i64 b, .string c, .slice d e f], rfl, hlo, ?_, Nat.le_refl _, (by unfold maxLen; omega), rfl, rfl⟩⟩, ?_, h2, fun x hx => ⟨h3 x hx, fun q => ?_⟩⟩
  · show (w.heap.push _)[w.heap.size]? = _
    simp
  · refine ⟨_, [], bs, [], by simp, by simp, ve_term (h1.below hb), rfl, rfl⟩
  · have q1 : some w.heap.size = some x := q
    injection q1 with q1
    have := osV_lt h1 x hx
    omega

/-- The term's own box stands behind w, and the result's; what was drawn besides. -/
structure B0 (cb : Nat) (ao : Option Addr) (len cap : Nat) (zs : List Int) (w wr : World) : Prop where
  drawn : Drawn cb ao len cap zs w wr
  old : cb < w.heap.size
  sz : w.heap.size + 2 ≤ wr.heap.size
  a : ∀ j, j < 4 → ∃ v, wr.cell? ⟨w.heap.size, j, none⟩ = some v
  af : ∀ o, wr.frozen? ⟨w.heap.size, o, none⟩ = false
  r : ∀ j, j < 4 → ∃ v, wr.cell? ⟨w.heap.size + 1, j, none⟩ = some v
  rf : ∀ o, wr.frozen? ⟨w.heap.size + 1, o, none⟩ = false
theorem B0.turn {cb : Nat} {ao : Option Addr} {len cap : Nat} {zs : List Int} {w wr w1 : World} (h : B0 cb ao len cap zs w wr) (hd : Drawn cb ao len cap zs wr w1) : B0 cb ao len cap zs w w1 := by
  have ho := h.old
  have hz := h.sz
  refine ⟨h.drawn.trans hd, ho, Nat.le_trans hz hd.2.size, fun j hj => ?_, fun o => ?_, fun j hj => ?_, fun o => ?_⟩
  · obtain ⟨v, hv⟩ := h.a j hj
    exact ⟨v, hd.2.cell (by omega) hv⟩
  · rw [hd.2.frozen (by omega) (by omega)]; exact h.af o
  · obtain ⟨v, hv⟩ := h.r j hj
    exact ⟨v, hd.2.cell (by omega) hv⟩
  · rw [hd.2.frozen (by omega) (by omega)]; exact h.rf o
theorem B0.set {cb : Nat} {ao : Option Addr} {len cap : Nat} {zs : List Int} {w wr : World} (h : B0 cb ao len cap zs w wr) (j : Nat) (v : Value) : B0 cb ao len cap zs w (wr.setCell ⟨w.heap.size, j, none⟩ v) := by
  refine ⟨h.drawn.set h.old (Nat.le_refl _) j v, h.old, by rw [World.size_setCell]; exact h.sz, fun i hi => ?_, fun o => by rw [World.frozen?_setCell]; exact h.af o, fun i hi => ?_, fun o => by rw [World.frozen?_setCell]; exact h.rf o⟩
  · obtain ⟨x, hx⟩ := h.a i hi
    by_cases e : i = j
    · subst e; exact ⟨v, World.cell?_setCell_same wr _ _ hx⟩
    · exact ⟨x, by rw [World.cell?_setCell_other (h := fun q => by simp only [Addr.mk.injEq] at q; omega)]; exact hx⟩
  · obtain ⟨x, hx⟩ := h.r i hi
    exact ⟨x, by rw [World.cell?_setCell_other (h := fun q => by simp only [Addr.mk.injEq] at q; omega)]; exact hx⟩
theorem B0.grow {cb : Nat} {ao : Option Addr} {len cap : Nat} {zs : List Int} {w wr w2 : World} {o : Obj} {r : Option Nat} (h : B0 cb ao len cap zs w wr) (hg : (wr.alloc o).grownBy w2 r) (hr : ∀ g, r = some g → w.heap.size + 2 ≤ g) : B0 cb ao len cap zs w w2 := by
  have hs1 : (wr.alloc o).heap.size = wr.heap.size + 1 := World.size_alloc _ _
  have hz := h.sz
  have ho := h.old
  have hk : ∀ k, k < w.heap.size + 2 → w2.heap[k]? = wr.heap[k]? := fun k hk => by
    rw [hg.block k (by rw [hs1]; omega) (fun q => by have := hr k q.symm; omega)]
    show (wr.heap.push o)[k]? = _
    rw [Array.getElem?_push, if_neg (by omega)]
  refine ⟨⟨h.drawn.1.same (fun b hb => hk b (by omega)), hg.os.trans h.drawn.2.os, hg.tape.trans h.drawn.2.tape, hg.output.trans h.drawn.2.output, by have := hg.size; have := h.drawn.2.size; omega, fun k hkl hkn => (hk k (by omega)).trans (h.drawn.2.block k hkl hkn)⟩, ho, by have := hg.size; omega, fun j hj => ?_, fun o => ?_, fun j hj => ?_, fun o => ?_⟩
  · obtain ⟨v, hv⟩ := h.a j hj
    exact ⟨v, by rw [World.cell?_of_block (w := wr) (hk w.heap.size (by omega))]; exact hv⟩
  · rw [World.frozen?_of_block (w := wr) (hk w.heap.size (by omega))]; exact h.af o
  · obtain ⟨v, hv⟩ := h.r j hj
    exact ⟨v, by rw [World.cell?_of_block (w := wr) (hk (w.heap.size + 1) (by omega))]; exact hv⟩
  · rw [World.frozen?_of_block (w := wr) (hk (w.heap.size + 1) (by omega))]; exact h.rf o
theorem B0.alloc {cb : Nat} {ao : Option Addr} {len cap : Nat} {zs : List Int} {w wr : World} (h : B0 cb ao len cap zs w wr) (o : Obj) : B0 cb ao len cap zs w (wr.alloc o) :=
  h.turn ((Drawn.refl h.drawn.1).alloc o)
/-- So the term that is held in that box. -/
structure Bs (cb : Nat) (ao : Option Addr) (len cap : Nat) (zs : List Int) (w wr : World) (k n : Int) (s : ByteArray) (m : List Tm) (u : Value) : Prop where
  b : B0 cb ao len cap zs w wr
  a0 : wr.cell? ⟨w.heap.size, 0, none⟩ = some (.int .i64 k)
  a1 : wr.cell? ⟨w.heap.size, 1, none⟩ = some (.int .i64 n)
  a2 : wr.cell? ⟨w.heap.size, 2, none⟩ = some (.string s)
  a3 : wr.cell? ⟨w.heap.size, 3, none⟩ = some u
  top : TopO wr (w.heap.size + 2) m u
theorem Bs.turn {cb : Nat} {ao : Option Addr} {len cap : Nat} {zs : List Int} {w wr w1 : World} {k n : Int} {s : ByteArray} {m : List Tm} {u : Value} (h : Bs cb ao len cap zs w wr k n s m u) (hd : Drawn cb ao len cap zs wr w1) : Bs cb ao len cap zs w w1 k n s m u := by
  have ho := h.b.old
  exact ⟨h.b.turn hd, hd.2.cell (by omega) h.a0, hd.2.cell (by omega) h.a1, hd.2.cell (by omega) h.a2, hd.2.cell (by omega) h.a3, h.top.keep hd.2.size (fun b hb hl => hd.2.block b hl (by omega))⟩
theorem B0.put {cb : Nat} {ao : Option Addr} {len cap : Nat} {zs : List Int} {w wr : World} (h : B0 cb ao len cap zs w wr) {k n : Int} {s : ByteArray} {m : List Tm} {u : Value} (ht : TopO wr (w.heap.size + 2) m u) :
    Bs cb ao len cap zs w ((((wr.setCell ⟨w.heap.size, 0, none⟩ (.int .i64 k)).setCell ⟨w.heap.size, 1, none⟩ (.int .i64 n)).setCell ⟨w.heap.size, 2, none⟩ (.string s)).setCell ⟨w.heap.size, 3, none⟩ u) k n s m u := by
  obtain ⟨v0, h0⟩ := h.a 0 (by omega)
  obtain ⟨v1, h1⟩ := (h.set 0 (.int .i64 k)).a 1 (by omega)
  obtain ⟨v2, h2⟩ := ((h.set 0 (.int .i64 k)).set 1 (.int .i64 n)).a 2 (by omega)
  obtain ⟨v3, h3⟩ := (((h.set 0 (.int .i64 k)).set 1 (.int .i64 n)).set 2 (.string s)).a 3 (by omega)
  have o1 : ∀ (W : World) (i j : Nat) (x v : Value), i ≠ j → W.cell? ⟨w.heap.size, i, none⟩ = some x → (W.setCell ⟨w.heap.size, j, none⟩ v).cell? ⟨w.heap.size, i, none⟩ = some x := fun W i j x v hij hx => by
    rw [World.cell?_setCell_other (h := fun q => by simp only [Addr.mk.injEq] at q; omega)]; exact hx
  have ho := h.old
  refine ⟨(((h.set 0 _).set 1 _).set 2 _).set 3 _, o1 _ _ _ _ _ (by omega) (o1 _ _ _ _ _ (by omega) (o1 _ _ _ _ _ (by omega) (World.cell?_setCell_same _ _ _ h0))), o1 _ _ _ _ _ (by omega) (o1 _ _ _ _ _ (by omega) (World.cell?_setCell_same _ _ _ h1)), o1 _ _ _ _ _ (by omega) (World.cell?_setCell_same _ _ _ h2), World.cell?_setCell_same _ _ _ h3, ?_⟩
  exact (((ht.set (by omega)).set (by omega)).set (by omega)).set (by omega)
theorem Bs.set0 {cb : Nat} {ao : Option Addr} {len cap : Nat} {zs : List Int} {w wr : World} {k n : Int} {s : ByteArray} {m : List Tm} {u : Value} (h : Bs cb ao len cap zs w wr k n s m u) (k' : Int) : Bs cb ao len cap zs w (wr.setCell ⟨w.heap.size, 0, none⟩ (.int .i64 k')) k' n s m u := by
  have o1 : ∀ (i : Nat) (x : Value), i ≠ 0 → wr.cell? ⟨w.heap.size, i, none⟩ = some x → (wr.setCell ⟨w.heap.size, 0, none⟩ (.int .i64 k')).cell? ⟨w.heap.size, i, none⟩ = some x := fun i x hij hx => by
    rw [World.cell?_setCell_other (h := fun q => by simp only [Addr.mk.injEq] at q; omega)]; exact hx
  exact ⟨h.b.set 0 _, World.cell?_setCell_same _ _ _ h.a0, o1 1 _ (by omega) h.a1, o1 2 _ (by omega) h.a2, o1 3 _ (by omega) h.a3, h.top.set (by omega)⟩
theorem Bs.set1 {cb : Nat} {ao : Option Addr} {len cap : Nat} {zs : List Int} {w wr : World} {k n : Int} {s : ByteArray} {m : List Tm} {u : Value} (h : Bs cb ao len cap zs w wr k n s m u) (n' : Int) : Bs cb ao len cap zs w (wr.setCell ⟨w.heap.size, 1, none⟩ (.int .i64 n')) k n' s m u := by
  have o1 : ∀ (i : Nat) (x : Value), i ≠ 1 → wr.cell? ⟨w.heap.size, i, none⟩ = some x → (wr.setCell ⟨w.heap.size, 1, none⟩ (.int .i64 n')).cell? ⟨w.heap.size, i, none⟩ = some x := fun i x hij hx => by
    rw [World.cell?_setCell_other (h := fun q => by simp only [Addr.mk.injEq] at q; omega)]; exact hx
  exact ⟨h.b.set 1 _, o1 0 _ (by omega) h.a0, World.cell?_setCell_same _ _ _ h.a1, o1 2 _ (by omega) h.a2, o1 3 _ (by omega) h.a3, h.top.set (by omega)⟩
theorem Bs.set2 {cb : Nat} {ao : Option Addr} {len cap : Nat} {zs : List Int} {w wr : World} {k n : Int} {s : ByteArray} {m : List Tm} {u : Value} (h : Bs cb ao len cap zs w wr k n s m u) (s' : ByteArray) : Bs cb ao len cap zs w (wr.setCell ⟨w.heap.size, 2, none⟩ (.string s')) k n s' m u := by
  have o1 : ∀ (i : Nat) (x : Value), i ≠ 2 → wr.cell? ⟨w.heap.size, i, none⟩ = some x → (wr.setCell ⟨w.heap.size, 2, none⟩ (.string s')).cell? ⟨w.heap.size, i, none⟩ = some x := fun i x hij hx => by
    rw [World.cell?_setCell_other (h := fun q => by simp only [Addr.mk.injEq] at q; omega)]; exact hx
  exact ⟨h.b.set 2 _, o1 0 _ (by omega) h.a0, o1 1 _ (by omega) h.a1, World.cell?_setCell_same _ _ _ h.a2, o1 3 _ (by omega) h.a3, h.top.set (by omega)⟩
theorem Bs.set3 {cb : Nat} {ao : Option Addr} {len cap : Nat} {zs : List Int} {w wr w2 : World} {k n : Int} {s : ByteArray} {m m' : List Tm} {u u' : Value} {o : Obj} {r : Option Nat} (h : Bs cb ao len cap zs w wr k n s m u) (hg : (wr.alloc o).grownBy w2 r) (hr : ∀ g, r = some g → w.heap.size + 2 ≤ g) (ht : TopO w2 (w.heap.size + 2) m' u') : Bs cb ao len cap zs w (w2.setCell ⟨w.heap.size, 3, none⟩ u') k n s m' u' := by
  have hs1 : (wr.alloc o).heap.size = wr.heap.size + 1 := World.size_alloc _ _
  have hz := h.b.sz
  have hk : w2.heap[w.heap.size]? = wr.heap[w.heap.size]? := by
    rw [hg.block _ (by rw [hs1]; omega) (fun q => by have := hr _ q.symm; omega)]
    show (wr.heap.push o)[w.heap.size]? = _
    rw [Array.getElem?_push, if_neg (by omega)]
  have o1 : ∀ (i : Nat) (x : Value), i ≠ 3 → wr.cell? ⟨w.heap.size, i, none⟩ = some x → (w2.setCell ⟨w.heap.size, 3, none⟩ u').cell? ⟨w.heap.size, i, none⟩ = some x := fun i x hij hx => by
    rw [World.cell?_setCell_other (h := fun q => by simp only [Addr.mk.injEq] at q; omega), World.cell?_of_block (w := wr) hk]; exact hx
  exact ⟨(h.b.grow hg hr).set 3 _, o1 0 _ (by omega) h.a0, o1 1 _ (by omega) h.a1, o1 2 _ (by omega) h.a2, World.cell?_setCell_same _ _ _ (by rw [World.cell?_of_block (w := wr) hk]; exact h.a3), ht.set (by omega)⟩
theorem bs_more {cb : Nat} {ao : Option Addr} {len cap : Nat} {zs : List Int} {w wr w2 : World} {k n : Int} {s : ByteArray} {m : List Tm} {u v' : Value} {xs : List Value} {bs : List Nat} {o : Obj} (h : Bs cb ao len cap zs w wr k n s m u)
    (h1 : wr.ownsRow (w.heap.size + 2) 26 4 u m.length xs) (h2 : VL eltT wr m xs bs) (h3 : bs.Nodup) (h4 : ∀ b ∈ bs, w.heap.size + 2 ≤ b ∧ u.ownBlock ≠ some b)
    (hown : w2.ownsRow (w.heap.size + 2) 26 4 v' (m.length + 1) (xs ++ [.int .i64 1, .int .i64 4, .string ⟨#[]⟩, .slice none 0 0])) (hgr : (wr.alloc o).grownBy w2 u.ownBlock) (hat : v'.ownBlock = u.ownBlock ∨ v'.ownBlock = some (wr.alloc o).heap.size) :
    ∃ va vc, v' = .slice va (m.length + 1) vc ∧ (w2.cell? ⟨w.heap.size, 0, none⟩ = some (.int .i64 k) ∧ w2.cell? ⟨w.heap.size, 1, none⟩ = some (.int .i64 n) ∧ w2.cell? ⟨w.heap.size, 2, none⟩ = some (.string s) ∧ w2.cell? ⟨w.heap.size, 3, none⟩ = some u) ∧ (∀ o, w2.frozen? ⟨w.heap.size, o, none⟩ = false) ∧ B0 cb ao len cap zs w w2 ∧ Bs cb ao len cap zs w (w2.setCell ⟨w.heap.size, 3, none⟩ v') k n s (m ++ [.mk 1 4 ⟨#[]⟩ []]) v' := by
  have hto : TopO w2 (w.heap.size + 2) (m ++ [.mk 1 4 ⟨#[]⟩ []]) v' := TopO.more (Nat.zero_le _) h1 h2 h3 h4 hown hgr hat
  obtain ⟨va, vc, hv⟩ := hto.form
  have hz := h.b.sz
  have hne : some w.heap.size ≠ u.ownBlock := fun e => by have := (h1.lt _ e.symm).1; omega
  have hs1 : (wr.alloc o).heap.size = wr.heap.size + 1 := World.size_alloc _ _
  have kc : ∀ j x, wr.cell? ⟨w.heap.size, j, none⟩ = some x → w2.cell? ⟨w.heap.size, j, none⟩ = some x := fun j x hx => by
    rw [hgr.cell_far ⟨w.heap.size, j, none⟩ (by rw [hs1]; show w.heap.size < _; omega) hne, World.cell?_alloc_lt (h := by show w.heap.size < _; omega)]; exact hx
  refine ⟨va, vc, by rw [hv]; simp, ⟨kc 0 _ h.a0, kc 1 _ h.a1, kc 2 _ h.a2, kc 3 _ h.a3⟩, fun y => ?_, h.b.grow hgr (fun g hg => (h1.lt g hg).1), h.set3 hgr (fun g hg => (h1.lt g hg).1) hto⟩
  rw [hgr.frozen_far ⟨w.heap.size, y, none⟩ (by rw [hs1]; show w.heap.size < _; omega) hne, World.frozen?_alloc_old (h := by show w.heap.size ≠ _; omega)]; exact h.b.af y
/-- The end: the term is laid into the result's box. -/
theorem Bs.fin {cb : Nat} {ao : Option Addr} {len cap : Nat} {zs : List Int} {w wr : World} {k n : Int} {s : ByteArray} {m : List Tm} {u : Value} (h : Bs cb ao len cap zs w wr k n s m u) (hs : s.size ≤ 1048576) (v0 v1 v2 v3 : Value) :
    OwV ((((wr.setCell ⟨w.heap.size + 1, 0, none⟩ v0).setCell ⟨w.heap.size + 1, 1, none⟩ v1).setCell ⟨w.heap.size + 1, 2, none⟩ v2).setCell ⟨w.heap.size + 1, 3, none⟩ v3) w.heap.size (.mk k n s m) (.agg #[.int .i64 k, .int .i64 n, .string s, u]) ∧
      Drawn cb ao len cap zs w ((((wr.setCell ⟨w.heap.size + 1, 0, none⟩ v0).setCell ⟨w.heap.size + 1, 1, none⟩ v1).setCell ⟨w.heap.size + 1, 2, none⟩ v2).setCell ⟨w.heap.size + 1, 3, none⟩ v3) :=
  ⟨((((((h.top.set (by omega)).set (by omega)).set (by omega)).set (by omega)).low (Nat.le_add_right _ 2)).own hs), h.b.drawn.set4 h.b.old (Nat.le_succ _) _ _ _ _⟩
theorem Bs.owv {cb : Nat} {ao : Option Addr} {len cap : Nat} {zs : List Int} {w wr : World} {k n : Int} {s : ByteArray} {m : List Tm} {u : Value} (h : Bs cb ao len cap zs w wr k n s m u) (hs : s.size ≤ 1048576) : OwV wr (w.heap.size + 2) (.mk k n s m) (.agg #[.int .i64 k, .int .i64 n, .string s, u]) := h.top.own hs

def bendInts : List Int := [-1, 1000001, 100000, 3]
def bendStrs : List ByteArray := [⟨#[]⟩, ⟨#[65]⟩, ⟨#[120]⟩, ⟨#[116, 104, 105, 114, 116, 101, 101, 110, 98, 121, 116, 101, 115]⟩]
theorem ntL_one (k n : Int) (s : ByteArray) (m : List Tm) : ntL [.mk k n s m] = 1 + ntL m := by rw [ntL, ntL]; omega
theorem ntL_snoc : ∀ (m : List Tm) (t : Tm), ntL (m ++ [t]) = ntL m + ntL [t]
  | [], t => by rw [List.nil_append, ntL]; omega
  | .mk k n s l :: r, t => by rw [List.cons_append, ntL, ntL, ntL_snoc r t]; omega
theorem fourOneB {a b : Int} {s : ByteArray} {ao : Option Addr} {len cap : Nat} : ∀ v ∈ ([.int .i64 a, .int .i64 b, .string s, .slice ao len cap] : List Value), v.oneCell' = true := fun v hv => by
  simp at hv
  rcases hv with rfl | rfl | rfl | rfl <;> rfl
/-- What is asked of a bent term: its texts and lists are within limits, and it has no more than so many terms in it. -/
def BnT (M : Nat) (t : Tm) : Prop := StS t ∧ ntL [t] ≤ M
end Go.Proofs.YtfjaphhijefdlaaGreatDoor
namespace Go.Proofs.YtfjaphhijefdlaaGreatDoor
open Go.RowKit
set_option linter.unusedVariables false

set_option maxRecDepth 100000 in
set_option maxHeartbeats 4000000 in
theorem bend_any (cb : Nat) (ao : Option Addr) (len cap : Nat) (zs : List Int) (w : World) (hc : Cur cb ao len cap zs w) (k n : Int) (s : ByteArray) (m : List Tm) (so : Option Addr) (scap : Nat) (hv : RepV 0 w (.mk k n s m) (.agg #[.int .i64 k, .int .i64 n, .string s, .slice so m.length scap])) (M : Nat) (hM : M ≤ 1000000) (hb : BnT M (.mk k n s m)) :
    Calls Tryz.prog 33 #[.pointer (some ⟨cb, 0, none⟩), .agg #[.int .i64 k, .int .i64 n, .string s, .slice so m.length scap]] w fun e w' => ∃ t v, e = .returned v ∧ OwV w' w.heap.size t v ∧ BnT (M + 6) t ∧ Drawn cb ao len cap zs w w' := by
  have HC : Hid (Cur cb ao len cap zs w) := hc
  have HV : Hid (RepV 0 w (.mk k n s m) (.agg #[.int .i64 k, .int .i64 n, .string s, .slice so m.length scap])) := hv
  have HB : Hid (BnT M (.mk k n s m)) := hb
  have hS := hb.1
  rw [StS] at hS
  have HS : Hid (s.size ≤ 1048576 ∧ m.length ≤ 1048576 ∧ ∀ t, t ∈ m → StS t) := hS
  have hml : m.length ≤ 1048576 := hS.2.1
  have HN : Hid (1 + ntL m ≤ M) := by have := hb.2; rw [ntL_one] at this; exact this
  have hcb := hc.lt
  clear hc hv hb hS
  obtain ⟨i0, hi, hzz⟩ := Option.map_eq_some_iff.1 info26
  simp only [Prod.mk.injEq] at hzz
  obtain ⟨hzz0, hzz1, hzz2⟩ := hzz
  go_enter Tryz.func33, Tryz.ntmps33
  go_wp2_with (go_at_call 23; fail)
  obtain ⟨W0, hW0⟩ : ∃ W0, W0 = (w.alloc (.cells #[.int .i64 k, .int .i64 n, .string s, .slice so m.length scap] 26)).alloc (.cells #[.int .i64 0, .int .i64 0, .string ⟨#[]⟩, .slice none 0 0] 26) := ⟨_, rfl⟩
  have hb0 : Below w.heap.size w W0 := by rw [hW0]; exact ((Below.refl _ _).alloc (Nat.le_refl _) _).alloc (by simp) _
  have hs0 : W0.heap.size = w.heap.size + 2 := by rw [hW0]; simp
  have hB0 : B0 cb ao len cap zs w W0 := by
    have q : ∀ o, W0.cell? ⟨w.heap.size, o, none⟩ = (#[.int .i64 k, .int .i64 n, .string s, .slice so m.length scap] : Array Value)[o]? := fun o => by rw [hW0, World.cell?_alloc_lt (h := by simp), World.cell?_alloc_new]
    have qf : ∀ o, W0.frozen? ⟨w.heap.size, o, none⟩ = false := fun o => by
      rw [hW0, World.frozen?_alloc_old (h := by simp)]; exact World.frozen?_alloc_new w _ _ o
    have e1 : (w.alloc (.cells #[.int .i64 k, .int .i64 n, .string s, .slice so m.length scap] 26)).heap.size = w.heap.size + 1 := by simp
    have q' : ∀ o, W0.cell? ⟨w.heap.size + 1, o, none⟩ = (#[.int .i64 0, .int .i64 0, .string ⟨#[]⟩, .slice none 0 0] : Array Value)[o]? := fun o => by rw [hW0, ← e1, World.cell?_alloc_new]
    have qf' : ∀ o, W0.frozen? ⟨w.heap.size + 1, o, none⟩ = false := fun o => by rw [hW0, ← e1]; exact World.frozen?_alloc_new _ _ _ o
    refine ⟨by rw [hW0]; exact ((Drawn.refl HC.out).alloc _).alloc _, hcb, Nat.le_of_eq hs0.symm, fun j hj => ⟨_, (q j).trans (Array.getElem?_eq_getElem (by simpa using hj))⟩, qf, fun j hj => ⟨_, (q' j).trans (Array.getElem?_eq_getElem (by simpa using hj))⟩, qf'⟩
  rw [← hW0]
  clear hW0
  refine (Tm.ind (P := CzP) (fun k n s l ih => czP_of k n s l (fun t _ => czO_all t)) (.mk k n s m) W0 _ ((Keeps.below hb0 0).repV HV.out) HB.out.1 k n s m rfl).mono ?_
  rintro e w1 ⟨ua, uc, rfl, htop, hb1⟩
  rw [hs0] at htop
  have HB1 : Hid (B0 cb ao len cap zs w w1) := hB0.turn ⟨hB0.drawn.1.below hb1, Turn.of_below hb1⟩
  have HT1 : Hid (TopO w1 (w.heap.size + 2) m (.slice ua m.length uc)) := htop
  have HP := hidB (HB1.out.put (k := k) (n := n) (s := s) HT1.out)
  obtain ⟨x0, hx0⟩ := HB1.out.a 0 (by omega)
  obtain ⟨x1, hx1⟩ := HB1.out.a 1 (by omega)
  obtain ⟨x2, hx2⟩ := HB1.out.a 2 (by omega)
  obtain ⟨x3, hx3⟩ := HB1.out.a 3 (by omega)
  have xf := HB1.out.af
  clear hb0 hs0 hB0 htop hb1
  go_wp2_with (go_at_call 30; fail)
  obtain ⟨w2, hw2⟩ : ∃ w2, w2 = (((w1.setCell ⟨w.heap.size, 0, none⟩ (.int .i64 k)).setCell ⟨w.heap.size, 1, none⟩ (.int .i64 n)).setCell ⟨w.heap.size, 2, none⟩ (.string s)).setCell ⟨w.heap.size, 3, none⟩ (.slice ua m.length uc) := ⟨_, rfl⟩
  rw [← hw2] at HP ⊢
  have HP2 : Hid (Bs cb ao len cap zs w w2 k n s m (.slice ua m.length uc)) := HP.out
  clear hw2 HP HB1 HT1 hx0 hx1 hx2 hx3 xf HV HB
  refine (below_any cb ao len cap zs w2 HP2.out.b.drawn.1 6 (by decide) (by decide)).mono ?_
  rintro e w3 ⟨x, rfl, hxx0, hxx1, hd3⟩
  have HP3 : Hid (Bs cb ao len cap zs w w3 k n s m (.slice ua m.length uc)) := HP2.out.turn hd3
  clear hd3 HP2
  have FIN : Hid (∀ (W : World) (k' n' : Int) (s' : ByteArray) (m' : List Tm) (u' : Value), Bs cb ao len cap zs w W k' n' s' m' u' → s'.size ≤ 1048576 → m'.length ≤ 1048576 → (∀ t, t ∈ m' → StS t) → 1 + ntL m' ≤ M + 6 → ∀ v0 v1 v2 v3 : Value, ∃ t v, (Ending.returned (Value.agg #[.int .i64 k', .int .i64 n', .string s', u']) = .returned v) ∧ OwV ((((W.setCell ⟨w.heap.size + 1, 0, none⟩ v0).setCell ⟨w.heap.size + 1, 1, none⟩ v1).setCell ⟨w.heap.size + 1, 2, none⟩ v2).setCell ⟨w.heap.size + 1, 3, none⟩ v3) w.heap.size t v ∧ BnT (M + 6) t ∧ Drawn cb ao len cap zs w ((((W.setCell ⟨w.heap.size + 1, 0, none⟩ v0).setCell ⟨w.heap.size + 1, 1, none⟩ v1).setCell ⟨w.heap.size + 1, 2, none⟩ v2).setCell ⟨w.heap.size + 1, 3, none⟩ v3)) := fun W k' n' s' m' u' hP h1 h2 h3 h4 v0 v1 v2 v3 =>
    ⟨.mk k' n' s' m', _, rfl, (hP.fin h1 v0 v1 v2 v3).1, ⟨by rw [StS]; exact ⟨h1, h2, h3⟩, by rw [ntL_one]; exact h4⟩, (hP.fin h1 v0 v1 v2 v3).2⟩
  have hx : x = 0 ∨ x = 1 ∨ x = 2 ∨ x = 3 ∨ x = 4 ∨ x = 5 := by omega
  rcases hx with rfl | rfl | rfl | rfl | rfl | rfl
  · clear hxx0 hxx1
    go_wp2_with (go_at_call 30; fail)
    refine (below_any cb ao len cap zs w3 HP3.out.b.drawn.1 8 (by decide) (by decide)).mono ?_
    rintro e w4 ⟨y, rfl, _, _, hd4⟩
    have HP4 := hidB (HP3.out.turn hd4)
    have HP5 := hidB (HP4.out.set0 y)
    have xf := HP4.out.b.af
    obtain ⟨y0, hy0⟩ := HP4.out.b.a 0 (by omega)
    have c1 := HP5.out.a1
    have c2 := HP5.out.a2
    have c3 := HP5.out.a3
    obtain ⟨r0, hr0⟩ := HP5.out.b.r 0 (by omega)
    obtain ⟨r1, hr1⟩ := HP5.out.b.r 1 (by omega)
    obtain ⟨r2, hr2⟩ := HP5.out.b.r 2 (by omega)
    obtain ⟨r3, hr3⟩ := HP5.out.b.r 3 (by omega)
    have rf := HP5.out.b.rf
    have HL := hidB (FIN.out _ _ _ _ _ _ HP5.out HS.out.1 HS.out.2.1 HS.out.2.2 (by have := HN.out; omega) (.int .i64 y) (.int .i64 n) (.string s) (.slice ua m.length uc))
    clear hd4
    go_wp2_with fail
    exact bodyPost_ret (v := .agg #[.int .i64 y, .int .i64 n, .string s, .slice ua m.length uc]) (by simp [results, Tryz.results33, go_sem, hr0, hr1, hr2, hr3]) rfl HL.out
  · clear hxx0 hxx1
    go_wp2_with (go_at_call 13; fail)
    have hne : w3.heap.size ≠ cb := by have := HP3.out.b.sz; have := HP3.out.b.old; omega
    refine (int_any cb ao len cap zs _ (HP3.out.b.drawn.1.alloc _) w3.heap.size bendInts hne (by decide) (by decide) ?_).mono ?_
    · intro j hj
      have hj' : j < 4 := hj
      rw [World.cell?_alloc_new]
      have : j = 0 ∨ j = 1 ∨ j = 2 ∨ j = 3 := by omega
      rcases this with rfl | rfl | rfl | rfl <;> rfl
    rintro e w4 ⟨y, rfl, _, hd4⟩
    have HP4 := hidB (HP3.out.turn (((Drawn.refl HP3.out.b.drawn.1).alloc _).trans hd4))
    have HP5 := hidB (HP4.out.set1 y)
    have xf := HP4.out.b.af
    have y1 := HP4.out.a1
    have c0 := HP5.out.a0
    have c1 := HP5.out.a1
    have c2 := HP5.out.a2
    have c3 := HP5.out.a3
    obtain ⟨r0, hr0⟩ := HP5.out.b.r 0 (by omega)
    obtain ⟨r1, hr1⟩ := HP5.out.b.r 1 (by omega)
    obtain ⟨r2, hr2⟩ := HP5.out.b.r 2 (by omega)
    obtain ⟨r3, hr3⟩ := HP5.out.b.r 3 (by omega)
    have rf := HP5.out.b.rf
    have HL := hidB (FIN.out _ _ _ _ _ _ HP5.out HS.out.1 HS.out.2.1 HS.out.2.2 (by have := HN.out; omega) (.int .i64 k) (.int .i64 y) (.string s) (.slice ua m.length uc))
    clear hd4 hne c1
    go_wp2_with fail
    exact bodyPost_ret (v := .agg #[.int .i64 k, .int .i64 y, .string s, .slice ua m.length uc]) (by simp [results, Tryz.results33, go_sem, hr0, hr1, hr2, hr3]) rfl HL.out
  · clear hxx0 hxx1
    go_wp2_with (go_at_call 49; fail)
    have hne : w3.heap.size ≠ cb := by have := HP3.out.b.sz; have := HP3.out.b.old; omega
    refine (str_any cb ao len cap zs _ (HP3.out.b.drawn.1.alloc _) w3.heap.size bendStrs hne (by decide) (by decide) ?_).mono ?_
    · intro j hj
      have hj' : j < 4 := hj
      rw [World.cell?_alloc_new]
      have : j = 0 ∨ j = 1 ∨ j = 2 ∨ j = 3 := by omega
      rcases this with rfl | rfl | rfl | rfl <;> rfl
    rintro e w4 ⟨y, rfl, hy, hd4⟩
    have HY : Hid (y.size ≤ 1048576) := by
      show _ ≤ _
      simp only [bendStrs, List.mem_cons, List.not_mem_nil, or_false] at hy
      rcases hy with rfl | rfl | rfl | rfl <;> decide
    have HP4 := hidB (HP3.out.turn (((Drawn.refl HP3.out.b.drawn.1).alloc _).trans hd4))
    have HP5 := hidB (HP4.out.set2 y)
    have xf := HP4.out.b.af
    have y2 := HP4.out.a2
    have c0 := HP5.out.a0
    have c1 := HP5.out.a1
    have c2 := HP5.out.a2
    have c3 := HP5.out.a3
    obtain ⟨r0, hr0⟩ := HP5.out.b.r 0 (by omega)
    obtain ⟨r1, hr1⟩ := HP5.out.b.r 1 (by omega)
    obtain ⟨r2, hr2⟩ := HP5.out.b.r 2 (by omega)
    obtain ⟨r3, hr3⟩ := HP5.out.b.r 3 (by omega)
    have rf := HP5.out.b.rf
    have HL := hidB (FIN.out _ _ _ _ _ _ HP5.out HY.out HS.out.2.1 HS.out.2.2 (by have := HN.out; omega) (.int .i64 k) (.int .i64 n) (.string y) (.slice ua m.length uc))
    clear hd4 hne hy c2
    go_wp2_with fail
    exact bodyPost_ret (v := .agg #[.int .i64 k, .int .i64 n, .string y, .slice ua m.length uc]) (by simp [results, Tryz.results33, go_sem, hr0, hr1, hr2, hr3]) rfl HL.out
  · clear hxx0 hxx1
    have c30 := HP3.out.a3
    have xf := HP3.out.b.af
    obtain ⟨xs, bs, t1, t2, t3, t4⟩ := HP3.out.top
    have HT := hidB t1
    have HT2 : Hid (VL eltT w3 m xs bs ∧ bs.Nodup ∧ ∀ b ∈ bs, w.heap.size + 2 ≤ b ∧ (Value.slice ua m.length uc).ownBlock ≠ some b) := ⟨t2, t3, t4⟩
    have hz3 := HP3.out.b.sz
    clear t1 t2 t3 t4
    go_wp2_with (at_builtin; refine wpList_append_own_at _ rfl _ _ 24 rfl (w.heap.size + 2) 26 i0 (.agg #[.int .i64 0, .int .i64 0, .string ⟨#[]⟩, .slice none 0 0]) 4 56 underlying24 hi hzz0 hzz1 hzz2 rfl (by decide) (.slice ua m.length uc) m.length xs rfl (World.ownsRow.alloc HT.out _) ⟨w3.heap.size, 0, none⟩ 1 1 [.int .i64 1, .int .i64 4, .string ⟨#[]⟩, .slice none 0 0] rfl rfl four_news fourOneB (by unfold maxLen; omega) (by omega) (by rw [World.size_alloc]; omega) ?_; intro v8 w9 hown8 hgr8 hnn8 hat8; obtain ⟨va, vc, hv8, ⟨k90, k91, k92, k93⟩, f93, hb0, hb5⟩ := bs_more HP3.out HT.out HT2.out.1 HT2.out.2.1 HT2.out.2.2 hown8 hgr8 hat8; subst hv8; have HP5 := hidB hb5; obtain ⟨r0, hr0⟩ := hb0.r 0 (by omega); obtain ⟨r1, hr1⟩ := hb0.r 1 (by omega); obtain ⟨r2, hr2⟩ := hb0.r 2 (by omega); obtain ⟨r3, hr3⟩ := hb0.r 3 (by omega); have rf := hb0.rf; clear hown8 hgr8 hnn8 hat8 hb5 hb0)
    have hll : (m ++ [Tm.mk 1 4 ⟨#[]⟩ []]).length = m.length + 1 := by simp
    have HLN := hidB hll
    clear hll
    have HL := hidB (FIN.out _ _ _ _ _ _ HP5.out HS.out.1 (by rw [HLN.out]; have e1 := HN.out; have e2 := ntL_eq m; omega) (fun t ht => by rcases List.mem_append.1 ht with h | h; exact HS.out.2.2 t h; (have e : t = .mk 1 4 ⟨#[]⟩ [] := by simpa using h); rw [e, StS]; exact ⟨Nat.zero_le _, Nat.zero_le _, fun t ht => by cases ht⟩) (by have := HN.out; rw [ntL_snoc, ntL_one]; (have e : ntL [] = 0 := by rw [ntL]); rw [e]; omega) (.int .i64 k) (.int .i64 n) (.string s) (.slice va (m.length + 1) vc))
    clear HT HT2
    exact bodyPost_ret (v := .agg #[.int .i64 k, .int .i64 n, .string s, .slice va (m.length + 1) vc]) (by simp [results, Tryz.results33, go_sem, hr0, hr1, hr2, hr3]) rfl HL.out
  · clear hxx0 hxx1
    have HST : Hid (∃ (k' n' : Int) (s' : ByteArray) (m' : List Tm) (uo : Option Addr) (ucp : Nat), Bs cb ao len cap zs w w3 k' n' s' m' (.slice uo m'.length ucp) ∧ s'.size ≤ 1048576 ∧ m'.length ≤ 1048576 ∧ (∀ t, t ∈ m' → StS t) ∧ 1 + ntL m' ≤ M + 0) := ⟨k, n, s, m, ua, uc, HP3.out, HS.out.1, HS.out.2.1, HS.out.2.2, by have := HN.out; omega⟩
    clear HP3
    go_wp2_with fail
    go_loopw [5] (fun i wr => ∃ j : Nat, j ≤ 6 ∧ i = .int .i64 j ∧ ∃ (k' n' : Int) (s' : ByteArray) (m' : List Tm) (uo : Option Addr) (ucp : Nat), Bs cb ao len cap zs w wr k' n' s' m' (.slice uo m'.length ucp) ∧ s'.size ≤ 1048576 ∧ m'.length ≤ 1048576 ∧ (∀ t, t ∈ m' → StS t) ∧ 1 + ntL m' ≤ M + j) (fun i _ => 6 - (intOf i).toNat)
    case atStart => exact ⟨0, by omega, rfl, HST.out⟩
    case round =>
      obtain ⟨j, hj, rfl, k', n', s', m', uo, ucp, hp, h1, h2, h3, h4⟩ := hrel
      have HPR := hidB hp
      have HQ : Hid (s'.size ≤ 1048576 ∧ m'.length ≤ 1048576 ∧ (∀ t, t ∈ m' → StS t) ∧ 1 + ntL m' ≤ M + j) := ⟨h1, h2, h3, h4⟩
      clear hp h1 h2 h3 h4
      by_cases hlt : j < 6
      · have c0 := HPR.out.a0
        have c1 := HPR.out.a1
        have c2 := HPR.out.a2
        have c3 := HPR.out.a3
        have xf := HPR.out.b.af
        obtain ⟨wx, hwx⟩ : ∃ wx, wx = wr.alloc (.cells #[.int .i64 k', .int .i64 n', .string s', .slice uo m'.length ucp] 26) := ⟨_, rfl⟩
        have HPX : Hid (Bs cb ao len cap zs w wx k' n' s' m' (.slice uo m'.length ucp)) := by rw [hwx]; exact HPR.out.turn ((Drawn.refl HPR.out.b.drawn.1).alloc _)
        have HTX : Hid (TopO (wx.alloc (.cells #[.int .i64 k', .int .i64 n', .string s', .slice uo m'.length ucp] 26)) (w.heap.size + 2) [.mk k' n' s' m'] (.slice (some ⟨wx.heap.size, 0, none⟩) 1 1)) := TopO.one (HPX.out.owv HQ.out.1) HPX.out.b.sz
        have HBX : Hid (B0 cb ao len cap zs w (wx.alloc (.cells #[.int .i64 k', .int .i64 n', .string s', .slice uo m'.length ucp] 26))) := HPX.out.b.alloc _
        have HPN := hidB (HBX.out.put (k := 4) (n := 0) (s := ⟨#[]⟩) HTX.out)
        have hzr := HPR.out.b.sz
        have hn1 : ¬ w.heap.size = wr.heap.size := by omega
        have hn2 : ¬ w.heap.size = wr.heap.size + 1 := by omega
        rw [hwx] at HPN HBX
        clear hwx HPX HTX
        have xf2 := HBX.out.af
        obtain ⟨y0, hy0⟩ := HBX.out.a 0 (by omega)
        obtain ⟨y1, hy1⟩ := HBX.out.a 1 (by omega)
        obtain ⟨y2, hy2⟩ := HBX.out.a 2 (by omega)
        obtain ⟨y3, hy3⟩ := HBX.out.a 3 (by omega)
        simp only [World.size_alloc] at xf2 hy0 hy1 hy2 hy3 HPN
        clear HBX
        go_wp2_with fail
        go_roundw
        case rel => exact ⟨j + 1, by omega, by go_num, 4, 0, ⟨#[]⟩, [.mk k' n' s' m'], _, 1, HPN.out, Nat.zero_le _, by show 1 ≤ _; omega, (fun t ht => by obtain rfl := List.mem_singleton.1 ht; rw [StS]; exact ⟨HQ.out.1, HQ.out.2.1, HQ.out.2.2.1⟩), by rw [ntL_one]; have := HQ.out.2.2.2; omega⟩
        case measure => simp [intOf]; omega
      · have HJ : Hid (1 + ntL m' ≤ M + 6) := by have := HQ.out.2.2.2; show _ ≤ _; omega
        have c0 := HPR.out.a0
        have c1 := HPR.out.a1
        have c2 := HPR.out.a2
        have c3 := HPR.out.a3
        obtain ⟨r0, hr0⟩ := HPR.out.b.r 0 (by omega)
        obtain ⟨r1, hr1⟩ := HPR.out.b.r 1 (by omega)
        obtain ⟨r2, hr2⟩ := HPR.out.b.r 2 (by omega)
        obtain ⟨r3, hr3⟩ := HPR.out.b.r 3 (by omega)
        have rf := HPR.out.b.rf
        have HL := hidB (FIN.out _ _ _ _ _ _ HPR.out HQ.out.1 HQ.out.2.1 HQ.out.2.2.1 HJ.out (.int .i64 k') (.int .i64 n') (.string s') (.slice uo m'.length ucp))
        go_wp2_with fail
        exact bodyPost_ret (v := .agg #[.int .i64 k', .int .i64 n', .string s', .slice uo m'.length ucp]) (by simp [results, Tryz.results33, go_sem, hr0, hr1, hr2, hr3]) rfl HL.out
  · clear hxx0 hxx1
    have c0 := HP3.out.a0
    have c1 := HP3.out.a1
    have c2 := HP3.out.a2
    have c3 := HP3.out.a3
    obtain ⟨r0, hr0⟩ := HP3.out.b.r 0 (by omega)
    obtain ⟨r1, hr1⟩ := HP3.out.b.r 1 (by omega)
    obtain ⟨r2, hr2⟩ := HP3.out.b.r 2 (by omega)
    obtain ⟨r3, hr3⟩ := HP3.out.b.r 3 (by omega)
    have rf := HP3.out.b.rf
    have HL := hidB (FIN.out _ _ _ _ _ _ HP3.out HS.out.1 HS.out.2.1 HS.out.2.2 (by have := HN.out; omega) (.int .i64 k) (.int .i64 n) (.string s) (.slice ua m.length uc))
    go_wp2_with fail
    exact bodyPost_ret (v := .agg #[.int .i64 k, .int .i64 n, .string s, .slice ua m.length uc]) (by simp [results, Tryz.results33, go_sem, hr0, hr1, hr2, hr3]) rfl HL.out
end Go.Proofs.YtfjaphhijefdlaaGreatDoor
namespace Go.Proofs.YtfjaphhijefdlaaGreatDoor
open Go.RowKit
set_option linter.unusedVariables false

def bndN : Nat → Nat
  | 0 => 1
  | d + 1 => 1 + 3 * bndN d
theorem ntL_le {c : Nat} : ∀ l : List Tm, (∀ t, t ∈ l → ntL [t] ≤ c) → ntL l ≤ l.length * c
  | [], _ => by rw [ntL]; omega
  | t :: r, h => by
    have h1 := h t (List.mem_cons_self ..)
    have h2 := ntL_le r (fun x hx => h x (List.mem_cons_of_mem _ hx))
    obtain ⟨k, n, s, l⟩ := t
    rw [ntL_one] at h1
    rw [ntL, List.length_cons, Nat.add_mul]; omega
theorem nt_bndN : ∀ (d : Nat) (t : Tm), RtT d t → ntL [t] ≤ bndN d
  | 0, .mk k n s l, h => by
    have h2 := h.2
    rw [DpT] at h2
    subst h2
    rw [ntL_one, ntL, bndN]; omega
  | d + 1, .mk k n s l, h => by
    have h1 := h.1
    have h2 := h.2
    rw [DpT] at h2
    rw [WfT] at h1
    have h3 := ntL_le (c := bndN d) l (fun t ht => nt_bndN d t ⟨h1.2.2 t ht, h2 t ht⟩)
    have h4 : l.length * bndN d ≤ 3 * bndN d := Nat.mul_le_mul_right _ h1.2.1
    rw [ntL_one, bndN]; omega
theorem atoms_smallB : ∀ z ∈ drawnAtoms, z.size ≤ 1048576 := fun z hz => by
  simp only [drawnAtoms, List.mem_cons, List.not_mem_nil, or_false] at hz
  rcases hz with rfl | rfl | rfl | rfl <;> decide
theorem wf_stsB : ∀ t : Tm, WfT t → StS t := by
  refine Tm.ind ?_
  intro k n s l ih h
  rw [WfT] at h
  rw [StS]
  refine ⟨?_, by have := h.2.1; omega, fun t ht => ih t ht (h.2.2 t ht)⟩
  rcases h.1 with ⟨_, rfl, _⟩ | ⟨_, _, _, h⟩ | ⟨_, rfl, _⟩ | ⟨_, _, rfl⟩ | ⟨_, _, _, h⟩
  · exact Nat.zero_le _
  · exact atoms_smallB s h
  · exact Nat.zero_le _
  · exact Nat.zero_le _
  · omega
theorem bn_drawn {t : Tm} {d : Nat} (h : RtT d t) (hd : d ≤ 3) : BnT 40 t := ⟨wf_stsB t h.1, by
  have h1 := nt_bndN d t h
  have h2 : bndN d ≤ 40 := by
    have : d = 0 ∨ d = 1 ∨ d = 2 ∨ d = 3 := by omega
    rcases this with rfl | rfl | rfl | rfl <;> decide
  omega⟩
theorem BnT.mono {M N : Nat} {t : Tm} (h : BnT M t) (hm : M ≤ N) : BnT N t := ⟨h.1, Nat.le_trans h.2 hm⟩
theorem OwV.keepB {w w' : World} {lo : Nat} {t : Tm} {v : Value} (h : OwV w lo t v) (hk : ∀ b, lo ≤ b → b < w.heap.size → w'.heap[b]? = w.heap[b]?) : OwV w' lo t v := by
  obtain ⟨bs, h1, h2, h3⟩ := h
  exact ⟨bs, osV_keep h1 (fun b hb hl => hk b (h3 b hb) hl), h2, h3⟩
theorem OwV.lowB {w : World} {lo lo' : Nat} {t : Tm} {v : Value} (h : OwV w lo t v) (hl : lo' ≤ lo) : OwV w lo' t v := by
  obtain ⟨bs, h1, h2, h3⟩ := h
  exact ⟨bs, h1, h2, fun b hb => Nat.le_trans hl (h3 b hb)⟩
theorem OwV.repB {w : World} {lo : Nat} {t : Tm} {v : Value} (h : OwV w lo t v) : RepV 0 w t v := by
  obtain ⟨bs, h1, _, _⟩ := h
  exact h1.rep

set_option maxRecDepth 100000 in
set_option maxHeartbeats 4000000 in
theorem any_any (cb : Nat) (ao : Option Addr) (len cap : Nat) (zs : List Int) (w : World) (hc : Cur cb ao len cap zs w) :
    Calls Tryz.prog 14 #[.pointer (some ⟨cb, 0, none⟩)] w fun e w' => ∃ t v, e = .returned v ∧ OwV w' w.heap.size t v ∧ BnT 46 t ∧ Drawn cb ao len cap zs w w' := by
  have HC : Hid (Cur cb ao len cap zs w) := hc
  have hcb := hc.lt
  clear hc
  go_enter Tryz.func14, Tryz.ntmps14
  go_wp2_with (go_at_call 31; fail)
  refine (drO_all cb ao len cap zs 3 (by decide) _ (HC.out.alloc _)).mono ?_
  rintro e w1 ⟨t, v, rfl, how, hrt, hd1⟩
  obtain ⟨tk, tn, ts, tao, tlen, tcap, rfl⟩ := how.form
  rw [World.size_alloc] at how
  obtain ⟨hz1, q1, f1⟩ := turn_new hcb hd1.2
  have HD1 : Hid (Drawn cb ao len cap zs w w1) := ((Drawn.refl HC.out).alloc _).trans hd1
  have HOW : Hid (OwV w1 (w.heap.size + 1) t (.agg #[.int .i64 tk, .int .i64 tn, .string ts, .slice tao tlen tcap]) ∧ BnT 40 t) := ⟨how, bn_drawn hrt (Nat.le_refl _)⟩
  have HR1 : Hid ((∀ o, w1.cell? ⟨w.heap.size, o, none⟩ = (#[.int .i64 0, .int .i64 0, .string ⟨#[]⟩, .slice none 0 0] : Array Value)[o]?) ∧ ∀ o, w1.frozen? ⟨w.heap.size, o, none⟩ = false) := ⟨q1, f1⟩
  clear how hrt hd1 q1 f1
  go_wp2_with (go_at_call 32; fail)
  obtain ⟨w2, hw2⟩ : ∃ w2, w2 = w1.alloc (.cells #[.int .i64 tk, .int .i64 tn, .string ts, .slice tao tlen tcap] 26) := ⟨_, rfl⟩
  have HB2 : Hid (Below w1.heap.size w1 w2 ∧ w2.heap.size = w1.heap.size + 1 ∧ (∀ o, w2.cell? ⟨w1.heap.size, o, none⟩ = (#[.int .i64 tk, .int .i64 tn, .string ts, .slice tao tlen tcap] : Array Value)[o]?) ∧ ∀ o, w2.frozen? ⟨w1.heap.size, o, none⟩ = false) := by
    rw [hw2]
    exact ⟨(Below.refl _ _).alloc (Nat.le_refl _) _, World.size_alloc _ _, fun o => World.cell?_alloc_new _ _ _ o, fun o => World.frozen?_alloc_new _ _ _ o⟩
  rw [← hw2]
  clear hw2
  have HD2 : Hid (Drawn cb ao len cap zs w w2) := ⟨HD1.out.1.below HB2.out.1, HD1.out.2.trans (Turn.of_below HB2.out.1)⟩
  have HR2 : Hid ((∀ o, w2.cell? ⟨w.heap.size, o, none⟩ = (#[.int .i64 0, .int .i64 0, .string ⟨#[]⟩, .slice none 0 0] : Array Value)[o]?) ∧ ∀ o, w2.frozen? ⟨w.heap.size, o, none⟩ = false) :=
    ⟨fun o => by rw [HB2.out.1.cell (p := ⟨w.heap.size, o, none⟩) (by show w.heap.size < _; omega)]; exact HR1.out.1 o, fun o => by rw [HB2.out.1.frozen (p := ⟨w.heap.size, o, none⟩) (by show w.heap.size < _; omega)]; exact HR1.out.2 o⟩
  refine (once_any cb ao len cap zs w2 HD2.out.1 5 (by decide) (by decide)).mono ?_
  rintro e w3 ⟨x, rfl, hd3⟩
  have hX : w1.heap.size ≠ cb := by omega
  obtain ⟨q3, f3⟩ := hd3.2.kept hX (by have := HB2.out.2.1; omega) HB2.out.2.2.1 HB2.out.2.2.2
  obtain ⟨qr, fr⟩ := hd3.2.kept (W := w.heap.size) (by omega) (by have := HB2.out.2.1; omega) HR2.out.1 HR2.out.2
  have HD3 : Hid (Drawn cb ao len cap zs w w3) := HD2.out.trans hd3
  have HO3 : Hid (OwV w3 (w.heap.size + 1) t (.agg #[.int .i64 tk, .int .i64 tn, .string ts, .slice tao tlen tcap])) := HOW.out.1.keepB (fun b hb hl => by
    have hz := HB2.out.2.1
    rw [hd3.2.block b (by omega) (by omega), HB2.out.1.block b hl])
  have hz3 : w1.heap.size < w3.heap.size := by have := HB2.out.2.1; have := hd3.2.size; omega
  obtain ⟨X, hXX⟩ : ∃ X, X = w1.heap.size := ⟨_, rfl⟩
  rw [← hXX] at q3 f3 hX hz3 hz1 ⊢
  have HXS : Hid (w.heap.size + 1 ≤ X ∧ X < w3.heap.size) := ⟨hz1, hz3⟩
  have HQ3 : Hid ((∀ o, w3.cell? ⟨X, o, none⟩ = (#[.int .i64 tk, .int .i64 tn, .string ts, .slice tao tlen tcap] : Array Value)[o]?) ∧ (∀ o, w3.frozen? ⟨X, o, none⟩ = false) ∧ (∀ o, w3.cell? ⟨w.heap.size, o, none⟩ = (#[.int .i64 0, .int .i64 0, .string ⟨#[]⟩, .slice none 0 0] : Array Value)[o]?) ∧ ∀ o, w3.frozen? ⟨w.heap.size, o, none⟩ = false) := ⟨q3, f3, qr, fr⟩
  have hne : ¬ X = w.heap.size := by omega
  have hne2 : ¬ w.heap.size = X := by omega
  clear hd3 hXX HB2 HD2 HR1 HR2 HD1 hX
  cases x
  · have HF := hidB (And.intro (OwV.keepB (w' := (((w3.setCell ⟨w.heap.size, 0, none⟩ (.int .i64 tk)).setCell ⟨w.heap.size, 1, none⟩ (.int .i64 tn)).setCell ⟨w.heap.size, 2, none⟩ (.string ts)).setCell ⟨w.heap.size, 3, none⟩ (.slice tao tlen tcap)) HO3.out (fun b hb hl => by
      have n0 : b ≠ w.heap.size := by omega
      rw [Below.heap_setCell _ ⟨w.heap.size, 3, none⟩ _ b n0, Below.heap_setCell _ ⟨w.heap.size, 2, none⟩ _ b n0, Below.heap_setCell _ ⟨w.heap.size, 1, none⟩ _ b n0, Below.heap_setCell _ ⟨w.heap.size, 0, none⟩ _ b n0])) (HD3.out.set4 hcb (Nat.le_refl _) (.int .i64 tk) (.int .i64 tn) (.string ts) (.slice tao tlen tcap)))
    go_wp2_with fail
    exact bodyPost_ret (v := .agg #[.int .i64 tk, .int .i64 tn, .string ts, .slice tao tlen tcap]) (by simp [results, Tryz.results14, go_sem, qr]) rfl ⟨t, _, rfl, HF.out.1.lowB (Nat.le_succ _), HOW.out.2.mono (by omega), HF.out.2⟩
  · obtain ⟨k, n, s, m⟩ := t
    have hrep := HO3.out.repB
    obtain ⟨bs9, ⟨aox, capx, e9, _, _, _, _⟩, _, _⟩ := HO3.out
    simp only [Value.agg.injEq, Array.mk.injEq, List.cons.injEq, Value.int.injEq, Value.string.injEq, Value.slice.injEq, true_and, and_true] at e9
    obtain ⟨rfl, rfl, rfl, rfl, rfl, rfl⟩ := e9
    have HBE : Hid (Calls Tryz.prog 33 #[.pointer (some ⟨cb, 0, none⟩), .agg #[.int .i64 tk, .int .i64 tn, .string ts, .slice tao m.length tcap]] w3 fun e w' => ∃ t v, e = .returned v ∧ OwV w' w3.heap.size t v ∧ BnT (40 + 6) t ∧ Drawn cb ao len cap zs w3 w') := bend_any cb ao len cap zs w3 HD3.out.1 tk tn ts m tao tcap hrep 40 (by omega) HOW.out.2
    have b0 := q3 0
    have b1 := q3 1
    have b2 := q3 2
    have b3 := q3 3
    clear hrep q3 f3 qr fr
    go_wp2_with (go_at_call 33; fail)
    refine HBE.out.mono ?_
    rintro e w4 ⟨t4, v4, rfl, how4, hbn4, hd4⟩
    obtain ⟨ak, an, as', aao, alen, acap, rfl⟩ := how4.form
    have hX : X ≠ cb := by omega
    obtain ⟨q4, f4⟩ := hd4.2.kept hX hz3 HQ3.out.1 HQ3.out.2.1
    obtain ⟨qr, fr⟩ := hd4.2.kept (W := w.heap.size) (by omega) (by omega) HQ3.out.2.2.1 HQ3.out.2.2.2
    have HD4 := hidB (HD3.out.trans hd4)
    have HO4 := hidB how4
    have HN4 := hidB hbn4
    have hz4 := hd4.2.size
    have HF := hidB (And.intro (OwV.keepB (w' := (((((((w4.setCell ⟨X, 0, none⟩ (.int .i64 ak)).setCell ⟨X, 1, none⟩ (.int .i64 an)).setCell ⟨X, 2, none⟩ (.string as')).setCell ⟨X, 3, none⟩ (.slice aao alen acap)).setCell ⟨w.heap.size, 0, none⟩ (.int .i64 ak)).setCell ⟨w.heap.size, 1, none⟩ (.int .i64 an)).setCell ⟨w.heap.size, 2, none⟩ (.string as')).setCell ⟨w.heap.size, 3, none⟩ (.slice aao alen acap)) how4 (fun b hb hl => by
      have n0 : b ≠ w.heap.size := by omega
      have n1 : b ≠ X := by omega
      rw [Below.heap_setCell _ ⟨w.heap.size, 3, none⟩ _ b n0, Below.heap_setCell _ ⟨w.heap.size, 2, none⟩ _ b n0, Below.heap_setCell _ ⟨w.heap.size, 1, none⟩ _ b n0, Below.heap_setCell _ ⟨w.heap.size, 0, none⟩ _ b n0, Below.heap_setCell _ ⟨X, 3, none⟩ _ b n1, Below.heap_setCell _ ⟨X, 2, none⟩ _ b n1, Below.heap_setCell _ ⟨X, 1, none⟩ _ b n1, Below.heap_setCell _ ⟨X, 0, none⟩ _ b n1])) (((HD3.out.trans hd4).set4 hcb (Nat.le_trans (Nat.le_succ _) hz1) (.int .i64 ak) (.int .i64 an) (.string as') (.slice aao alen acap)).set4 hcb (Nat.le_refl _) (.int .i64 ak) (.int .i64 an) (.string as') (.slice aao alen acap)))
    clear how4 hbn4 hd4 b0 b1 b2 b3
    go_wp2_with fail
    exact bodyPost_ret (v := .agg #[.int .i64 ak, .int .i64 an, .string as', .slice aao alen acap]) (by simp [results, Tryz.results14, go_sem, qr]) rfl ⟨t4, _, rfl, HF.out.1.lowB (by omega), HN4.out, HF.out.2⟩
end Go.Proofs.YtfjaphhijefdlaaGreatDoor
namespace Go.Proofs.YtfjaphhijefdlaaGreatDoor.Tv
open Go.RowKit Atom
open Go.Proofs.YtfjaphhijefdlaaGreatDoor.Tr
set_option linter.unusedVariables false

def bentAt : List Int := [-1, 1000000001]
def bentPid : List Int := [0, 99999, 100000]
theorem set6 {w W : World} {cb : Nat} {ao : Option Addr} {len cap : Nat} {zs : List Int} (h : Drawn cb ao len cap zs w W) (hcb : cb < w.heap.size) {b : Nat} (hb : w.heap.size ≤ b) (v0 v1 v2 v3 v4 v5 : Value) :
    Drawn cb ao len cap zs w ((((((W.setCell ⟨b, 0, none⟩ v0).setCell ⟨b, 1, none⟩ v1).setCell ⟨b, 2, none⟩ v2).setCell ⟨b, 3, none⟩ v3).setCell ⟨b, 4, none⟩ v4).setCell ⟨b, 5, none⟩ v5) :=
  (((((h.set hcb hb 0 v0).set hcb hb 1 v1).set hcb hb 2 v2).set hcb hb 3 v3).set hcb hb 4 v4).set hcb hb 5 v5
theorem blk6 {W : World} {b x : Nat} (hx : x ≠ b) (v0 v1 v2 v3 v4 v5 : Value) : ((((((W.setCell ⟨b, 0, none⟩ v0).setCell ⟨b, 1, none⟩ v1).setCell ⟨b, 2, none⟩ v2).setCell ⟨b, 3, none⟩ v3).setCell ⟨b, 4, none⟩ v4).setCell ⟨b, 5, none⟩ v5).heap[x]? = W.heap[x]? := by
  rw [Below.heap_setCell _ ⟨b, 5, none⟩ _ x hx, Below.heap_setCell _ ⟨b, 4, none⟩ _ x hx, Below.heap_setCell _ ⟨b, 3, none⟩ _ x hx, Below.heap_setCell _ ⟨b, 2, none⟩ _ x hx, Below.heap_setCell _ ⟨b, 1, none⟩ _ x hx, Below.heap_setCell _ ⟨b, 0, none⟩ _ x hx]
theorem bnt_mono {M N : Nat} {t : Tm} (h : BnT M t) (hm : M ≤ N) : BnT N t := ⟨h.1, Nat.le_trans h.2 hm⟩

end Go.Proofs.YtfjaphhijefdlaaGreatDoor.Tv
namespace Go.Proofs.YtfjaphhijefdlaaGreatDoor
open Go.RowKit
set_option linter.unusedVariables false

def thenC (a b : Int) : Int := if a = 0 then b else a
def cmpI (x y : Int) : Int := if x < y then -1 else if y < x then 1 else 0
def cmpS (s t : ByteArray) : Int := if Op.bytesLess s.toList t.toList then -1 else if Op.bytesLess t.toList s.toList then 1 else 0
/-- What a kind names, but for what stands within. -/
def ownC (k n : Int) (s : ByteArray) (a : Nat) (n' : Int) (s' : ByteArray) (a' : Nat) : Int :=
  if k = 1 ∨ k = 3 then cmpI n n' else if k = 2 ∨ k = 6 then cmpS s s' else if k = 4 then cmpI a a' else 0
mutual
def cmpT : Tm → Tm → Int
  | .mk k n s l, .mk k' n' s' l' => thenC (cmpI k k') (thenC (ownC k n s l.length n' s' l'.length) (if k = 4 ∨ k = 5 then cmpL l l' else 0))
def cmpL : List Tm → List Tm → Int
  | [], [] => 0
  | [], _ :: _ => -1
  | _ :: _, [] => 1
  | x :: r, y :: s => thenC (cmpT x y) (cmpL r s)
end

/-! ### Bytes -/
theorem bl_irr : ∀ a : List UInt8, Op.bytesLess a a = false
  | [] => rfl
  | x :: r => by simp [Op.bytesLess, bl_irr r]
theorem bl_asym : ∀ a b : List UInt8, Op.bytesLess a b = true → Op.bytesLess b a = false
  | [], [], h => by simp [Op.bytesLess] at h
  | [], _ :: _, _ => by simp [Op.bytesLess]
  | _ :: _, [], h => by simp [Op.bytesLess] at h
  | x :: r, y :: s, h => by
    simp only [Op.bytesLess, Bool.or_eq_true, decide_eq_true_eq, Bool.and_eq_true, beq_iff_eq] at h
    simp only [Op.bytesLess, Bool.or_eq_false_iff, decide_eq_false_iff_not, Bool.and_eq_false_iff, beq_eq_false_iff_ne]
    rcases h with h | ⟨rfl, h⟩
    · exact ⟨fun h' => absurd (UInt8.lt_trans h h') (UInt8.lt_irrefl _), Or.inl (fun e => by subst e; exact UInt8.lt_irrefl _ h)⟩
    · exact ⟨UInt8.lt_irrefl _, Or.inr (bl_asym r s h)⟩
theorem bl_tot : ∀ a b : List UInt8, Op.bytesLess a b = false → Op.bytesLess b a = false → a = b
  | [], [], _, _ => rfl
  | [], _ :: _, h, _ => by simp [Op.bytesLess] at h
  | _ :: _, [], _, h => by simp [Op.bytesLess] at h
  | x :: r, y :: s, h, h' => by
    simp only [Op.bytesLess, Bool.or_eq_false_iff, decide_eq_false_iff_not, Bool.and_eq_false_iff, beq_eq_false_iff_ne] at h h'
    have e : x = y := by
      rcases UInt8.lt_or_lt_of_ne (a := x) (b := y) with h1
      by_cases e : x = y
      · exact e
      · rcases h1 e with h1 | h1
        · exact absurd h1 h.1
        · exact absurd h1 h'.1
    subst e
    have e2 := bl_tot r s (by rcases h.2 with h | h; exact absurd rfl h; exact h) (by rcases h'.2 with h | h; exact absurd rfl h; exact h)
    rw [e2]
theorem bl_trans : ∀ a b c : List UInt8, Op.bytesLess a b = true → Op.bytesLess b c = true → Op.bytesLess a c = true
  | [], [], _, h, _ => by simp [Op.bytesLess] at h
  | _ :: _, [], _, h, _ => by simp [Op.bytesLess] at h
  | _, _ :: _, [], _, h => by simp [Op.bytesLess] at h
  | [], _ :: _, _ :: _, _, _ => by simp [Op.bytesLess]
  | x :: r, y :: s, z :: t, h, h' => by
    simp only [Op.bytesLess, Bool.or_eq_true, decide_eq_true_eq, Bool.and_eq_true, beq_iff_eq] at h h' ⊢
    rcases h with h | ⟨rfl, h⟩
    · rcases h' with h' | ⟨rfl, h'⟩
      · exact Or.inl (UInt8.lt_trans h h')
      · exact Or.inl h
    · rcases h' with h' | ⟨rfl, h'⟩
      · exact Or.inl h'
      · exact Or.inr ⟨rfl, bl_trans r s t h h'⟩

/-! ### Three numbers of one order -/
/-- Of a to b, b to c and a to c. -/
def T3 (p q r : Int) : Prop := (p = 0 → r = q) ∧ (q = 0 → r = p) ∧ (p < 0 → q < 0 → r < 0)
theorem T3.lex {p q r p' q' r' : Int} (h : T3 p q r) (h' : p = 0 → q = 0 → T3 p' q' r') : T3 (thenC p p') (thenC q q') (thenC r r') := by
  obtain ⟨h1, h2, h3⟩ := h
  unfold thenC
  by_cases hp : p = 0
  · by_cases hq : q = 0
    · have hr : r = 0 := by rw [h1 hp, hq]
      rw [if_pos hp, if_pos hq, if_pos hr]
      exact h' hp hq
    · have hr : r = q := h1 hp
      rw [if_pos hp, if_neg hq, if_neg (by rw [hr]; exact hq)]
      exact ⟨fun _ => hr, fun e => absurd e hq, fun _ hlt => by omega⟩
  · by_cases hq : q = 0
    · have hr : r = p := h2 hq
      rw [if_neg hp, if_pos hq, if_neg (by rw [hr]; exact hp)]
      exact ⟨fun e => absurd e hp, fun _ => hr, fun hlt _ => by omega⟩
    · rw [if_neg hp, if_neg hq]
      refine ⟨fun e => absurd e hp, fun e => absurd e hq, fun hlt hlt' => ?_⟩
      have := h3 hlt hlt'
      rw [if_neg (by omega)]; exact this
theorem T3.zero : T3 0 0 0 := ⟨fun _ => rfl, fun _ => rfl, fun h => absurd h (by decide)⟩
theorem cmpI_t3 (x y z : Int) : T3 (cmpI x y) (cmpI y z) (cmpI x z) := by
  unfold T3 cmpI
  refine ⟨?_, ?_, ?_⟩ <;> repeat' split
  all_goals omega
theorem cmpI_zero (x y : Int) : cmpI x y = 0 ↔ x = y := by
  unfold cmpI; repeat' split
  all_goals omega
theorem cmpI_anti (x y : Int) : cmpI y x = - cmpI x y := by
  unfold cmpI; repeat' split
  all_goals omega
theorem cmpI_neg (x y : Int) : cmpI x y < 0 ↔ x < y := by
  unfold cmpI; repeat' split
  all_goals omega
theorem cmpS_zero (s t : ByteArray) : cmpS s t = 0 ↔ s.toList = t.toList := by
  unfold cmpS
  constructor
  · intro h
    cases h1 : Op.bytesLess s.toList t.toList <;> cases h2 : Op.bytesLess t.toList s.toList <;> simp [h1, h2] at h
    exact bl_tot _ _ h1 h2
  · intro h; rw [h, bl_irr]; rfl
theorem cmpS_anti (s t : ByteArray) : cmpS t s = - cmpS s t := by
  unfold cmpS
  cases h1 : Op.bytesLess s.toList t.toList <;> cases h2 : Op.bytesLess t.toList s.toList <;> simp
  have := bl_asym _ _ h1
  rw [h2] at this; exact absurd this (by simp)
theorem cmpS_neg (s t : ByteArray) : cmpS s t < 0 ↔ Op.bytesLess s.toList t.toList = true := by
  unfold cmpS
  cases h1 : Op.bytesLess s.toList t.toList <;> cases h2 : Op.bytesLess t.toList s.toList <;> simp
theorem cmpS_t3 (s t u : ByteArray) : T3 (cmpS s t) (cmpS t u) (cmpS s u) := by
  refine ⟨fun h => ?_, fun h => ?_, fun h h' => ?_⟩
  · have := (cmpS_zero s t).1 h
    unfold cmpS; rw [this]
  · have := (cmpS_zero t u).1 h
    unfold cmpS; rw [this]
  · exact (cmpS_neg s u).2 (bl_trans _ _ _ ((cmpS_neg s t).1 h) ((cmpS_neg t u).1 h'))
theorem own_t3 (k : Int) (n : Int) (s : ByteArray) (a : Nat) (n' : Int) (s' : ByteArray) (a' : Nat) (n'' : Int) (s'' : ByteArray) (a'' : Nat) :
    T3 (ownC k n s a n' s' a') (ownC k n' s' a' n'' s'' a'') (ownC k n s a n'' s'' a'') := by
  unfold ownC
  by_cases h1 : k = 1 ∨ k = 3
  · rw [if_pos h1, if_pos h1, if_pos h1]; exact cmpI_t3 _ _ _
  · rw [if_neg h1, if_neg h1, if_neg h1]
    by_cases h2 : k = 2 ∨ k = 6
    · rw [if_pos h2, if_pos h2, if_pos h2]; exact cmpS_t3 _ _ _
    · rw [if_neg h2, if_neg h2, if_neg h2]
      by_cases h3 : k = 4
      · rw [if_pos h3, if_pos h3, if_pos h3]; exact cmpI_t3 _ _ _
      · rw [if_neg h3, if_neg h3, if_neg h3]; exact T3.zero
theorem own_anti (k : Int) (n : Int) (s : ByteArray) (a : Nat) (n' : Int) (s' : ByteArray) (a' : Nat) : ownC k n' s' a' n s a = - ownC k n s a n' s' a' := by
  unfold ownC
  by_cases h1 : k = 1 ∨ k = 3
  · rw [if_pos h1, if_pos h1]; exact cmpI_anti _ _
  · rw [if_neg h1, if_neg h1]
    by_cases h2 : k = 2 ∨ k = 6
    · rw [if_pos h2, if_pos h2]; exact cmpS_anti _ _
    · rw [if_neg h2, if_neg h2]
      by_cases h3 : k = 4
      · rw [if_pos h3, if_pos h3]; exact cmpI_anti _ _
      · rw [if_neg h3, if_neg h3]; rfl
theorem thenC_neg (a b : Int) : thenC (-a) (-b) = - thenC a b := by
  unfold thenC
  by_cases h : a = 0
  · rw [if_pos h, if_pos (by omega)]
  · rw [if_neg h, if_neg (by omega)]

theorem cmpT_t3 : ∀ a b c : Tm, T3 (cmpT a b) (cmpT b c) (cmpT a c) := by
  refine Tm.ind ?_
  intro k n s l ih
  have hl : ∀ (r m o : List Tm), (∀ t, t ∈ r → t ∈ l) → T3 (cmpL r m) (cmpL m o) (cmpL r o) := by
    intro r
    induction r with
    | nil =>
      intro m o _
      cases m <;> cases o <;> simp [cmpL, T3]
    | cons x r ihr =>
      intro m o hr
      cases m with
      | nil => cases o <;> simp [cmpL, T3]
      | cons y m =>
        cases o with
        | nil =>
          have e1 : ∀ (a : Tm) (q : List Tm), cmpL (a :: q) [] = 1 := fun a q => by rw [cmpL]
          rw [e1, e1]
          exact ⟨fun _ => rfl, fun h => absurd h (by decide), fun _ h => absurd h (by decide)⟩
        | cons z o =>
          simp only [cmpL]
          exact T3.lex (ih x (hr x (List.mem_cons_self ..)) y z) (fun _ _ => ihr m o (fun t ht => hr t (List.mem_cons_of_mem _ ht)))
  rintro ⟨k', n', s', l'⟩ ⟨k'', n'', s'', l''⟩
  simp only [cmpT]
  refine T3.lex (cmpI_t3 _ _ _) (fun h1 h2 => ?_)
  have e1 := (cmpI_zero _ _).1 h1
  have e2 := (cmpI_zero _ _).1 h2
  subst e1
  subst e2
  refine T3.lex (own_t3 _ _ _ _ _ _ _ _ _ _) (fun _ _ => ?_)
  by_cases h : k = 4 ∨ k = 5
  · rw [if_pos h, if_pos h, if_pos h]; exact hl l l' l'' (fun t ht => ht)
  · rw [if_neg h, if_neg h, if_neg h]; exact T3.zero
theorem cmpT_anti : ∀ a b : Tm, cmpT b a = - cmpT a b := by
  refine Tm.ind ?_
  intro k n s l ih
  have hl : ∀ (r m : List Tm), (∀ t, t ∈ r → t ∈ l) → cmpL m r = - cmpL r m := by
    intro r
    induction r with
    | nil => intro m _; cases m <;> simp [cmpL]
    | cons x r ihr =>
      intro m hr
      cases m with
      | nil => simp [cmpL]
      | cons y m =>
        simp only [cmpL]
        rw [ih x (hr x (List.mem_cons_self ..)) y, ihr m (fun t ht => hr t (List.mem_cons_of_mem _ ht)), thenC_neg]
  rintro ⟨k', n', s', l'⟩
  simp only [cmpT]
  by_cases hk : k = k'
  · subst hk
    have e1 : cmpI k k = 0 := (cmpI_zero _ _).2 rfl
    rw [e1, own_anti]
    unfold thenC
    rw [if_pos rfl, if_pos rfl]
    by_cases ho : ownC k n s l.length n' s' l'.length = 0
    · rw [if_pos (by omega), if_pos ho]
      by_cases h : k = 4 ∨ k = 5
      · rw [if_pos h, if_pos h]; exact hl l l' (fun t ht => ht)
      · rw [if_neg h, if_neg h]; rfl
    · rw [if_neg (by omega), if_neg ho]
  · have e1 : cmpI k k' ≠ 0 := fun h => hk ((cmpI_zero _ _).1 h)
    rw [cmpI_anti k k']
    unfold thenC
    rw [if_neg (by omega), if_neg e1]
theorem cmpT_trans (a b c : Tm) (h : cmpT a b < 0) (h' : cmpT b c < 0) : cmpT a c < 0 := (cmpT_t3 a b c).2.2 h h'
end Go.Proofs.YtfjaphhijefdlaaGreatDoor
namespace Go.Proofs.YtfjaphhijefdlaaGreatDoor
open Go.RowKit
set_option linter.unusedVariables false

/-- The form of a term, as the program sees it. -/
def frm (k n : Int) (s : ByteArray) (x : Value) : Value :=
  if k = 1 then .iface 118 (.int .i64 n) else if k = 2 then .iface 119 (.string s) else if k = 3 then .iface 120 (.int .i64 n)
  else if k = 4 then .iface 121 x else if k = 5 then .iface 122 x else if k = 6 then .iface 123 (.string s) else .iface 124 (.int .i64 k)
theorem frm_1 (n : Int) (s : ByteArray) (x : Value) : frm 1 n s x = .iface 118 (.int .i64 n) := rfl
theorem frm_2 (n : Int) (s : ByteArray) (x : Value) : frm 2 n s x = .iface 119 (.string s) := rfl
theorem frm_3 (n : Int) (s : ByteArray) (x : Value) : frm 3 n s x = .iface 120 (.int .i64 n) := rfl
theorem frm_4 (n : Int) (s : ByteArray) (x : Value) : frm 4 n s x = .iface 121 x := rfl
theorem frm_5 (n : Int) (s : ByteArray) (x : Value) : frm 5 n s x = .iface 122 x := rfl
theorem frm_6 (n : Int) (s : ByteArray) (x : Value) : frm 6 n s x = .iface 123 (.string s) := rfl
theorem frm_no {k : Int} (n : Int) (s : ByteArray) (x : Value) (h : ¬ (1 ≤ k ∧ k ≤ 6)) : frm k n s x = .iface 124 (.int .i64 k) := by
  unfold frm
  rw [if_neg (by omega), if_neg (by omega), if_neg (by omega), if_neg (by omega), if_neg (by omega), if_neg (by omega)]

theorem kinds {k : Int} (h : 1 ≤ k ∧ k ≤ 6) : k = 1 ∨ k = 2 ∨ k = 3 ∨ k = 4 ∨ k = 5 ∨ k = 6 := by omega

set_option maxHeartbeats 1000000 in
theorem formOf_any (k n : Int) (s : ByteArray) (ao : Option Addr) (len cap : Nat) (w : World) :
    Calls Tryz.prog 44 #[.agg #[.int .i64 k, .int .i64 n, .string s, .slice ao len cap]] w fun e w' => e = .returned (frm k n s (.slice ao len cap)) ∧ Below w.heap.size w w' := by
  by_cases hk : 1 ≤ k ∧ k ≤ 6
  · rcases kinds hk with rfl | rfl | rfl | rfl | rfl | rfl
    all_goals
      go_enter Tryz.func44, Tryz.ntmps44
      go_wp2_with fail
      go_ret
      exact ⟨rfl, (Below.refl _ _).alloc (Nat.le_refl _) _⟩
  · have e1 : (k == 1) = false := beq_eq_false_iff_ne.2 (by omega)
    have e2 : (k == 2) = false := beq_eq_false_iff_ne.2 (by omega)
    have e3 : (k == 3) = false := beq_eq_false_iff_ne.2 (by omega)
    have e4 : (k == 4) = false := beq_eq_false_iff_ne.2 (by omega)
    have e5 : (k == 5) = false := beq_eq_false_iff_ne.2 (by omega)
    have e6 : (k == 6) = false := beq_eq_false_iff_ne.2 (by omega)
    have HF : Hid (frm k n s (.slice ao len cap) = .iface 124 (.int .i64 k)) := frm_no n s _ hk
    go_enter Tryz.func44, Tryz.ntmps44
    go_wp2_with fail
    go_ret
    exact ⟨by rw [HF.out]; rfl, (Below.refl _ _).alloc (Nat.le_refl _) _⟩

/-- What stands within, of a kind that has it. -/
def inn (k : Int) (x : Value) : Value := if k = 4 ∨ k = 5 then x else .slice none 0 0

theorem gtr_string (t : TypeId) (a b : ByteArray) : binOp .gtr t (.string a) (.string b) = pure (.bool !(Op.bytesLess a.toList b.toList || a.toList == b.toList)) := by simp [binOp, Op.stringOp]
theorem gtr_bytes (a b : ByteArray) (h : Op.bytesLess a.toList b.toList = false) : (!(Op.bytesLess a.toList b.toList || a.toList == b.toList)) = Op.bytesLess b.toList a.toList := by
  rw [h, Bool.false_or]
  cases h2 : Op.bytesLess b.toList a.toList
  · rw [bl_tot _ _ h h2]; simp
  · have : a.toList ≠ b.toList := fun e => by rw [e, bl_irr] at h2; cases h2
    simp [this]
theorem cmpInt_any (x y : Int) (w : World) :
    Calls Tryz.prog 43 #[.int .i64 x, .int .i64 y] w fun e w' => e = .returned (.int .i64 (cmpI x y)) ∧ w' = w := by
  by_cases h1 : x < y
  · have HC : Hid (cmpI x y = -1) := if_pos h1
    go_enter Tryz.func43, Tryz.ntmps43
    go_wp2_with (go_at_call 63; go_in)
    go_ret
    exact ⟨by rw [HC.out]; rfl, rfl⟩
  · by_cases h2 : y < x
    · have HC : Hid (cmpI x y = 1) := (if_neg h1).trans (if_pos h2)
      go_enter Tryz.func43, Tryz.ntmps43
      go_wp2_with (go_at_call 63; go_in)
      go_ret
      exact ⟨by rw [HC.out]; rfl, rfl⟩
    · have HC : Hid (cmpI x y = 0) := (if_neg h1).trans (if_neg h2)
      go_enter Tryz.func43, Tryz.ntmps43
      go_wp2_with (go_at_call 63; go_in)
      go_ret
      exact ⟨by rw [HC.out]; rfl, rfl⟩
theorem cmp_intForm (x y : Int) (w : World) :
    Calls Tryz.prog 64 #[.int .i64 x, .int .i64 y] w fun e w' => e = .returned (.int .i64 (cmpI x y)) ∧ w' = w := by
  by_cases h1 : x < y
  · have HC : Hid (cmpI x y = -1) := if_pos h1
    go_enter Tryz.func64, Tryz.ntmps64
    go_wp2_with (go_at_call 78; go_in)
    go_ret
    exact ⟨by rw [HC.out]; rfl, rfl⟩
  · by_cases h2 : y < x
    · have HC : Hid (cmpI x y = 1) := (if_neg h1).trans (if_pos h2)
      go_enter Tryz.func64, Tryz.ntmps64
      go_wp2_with (go_at_call 78; go_in)
      go_ret
      exact ⟨by rw [HC.out]; rfl, rfl⟩
    · have HC : Hid (cmpI x y = 0) := (if_neg h1).trans (if_neg h2)
      go_enter Tryz.func64, Tryz.ntmps64
      go_wp2_with (go_at_call 78; go_in)
      go_ret
      exact ⟨by rw [HC.out]; rfl, rfl⟩
theorem cmp_pidForm (x y : Int) (w : World) :
    Calls Tryz.prog 66 #[.int .i64 x, .int .i64 y] w fun e w' => e = .returned (.int .i64 (cmpI x y)) ∧ w' = w := by
  by_cases h1 : x < y
  · have HC : Hid (cmpI x y = -1) := if_pos h1
    go_enter Tryz.func66, Tryz.ntmps66
    go_wp2_with (go_at_call 80; go_in)
    go_ret
    exact ⟨by rw [HC.out]; rfl, rfl⟩
  · by_cases h2 : y < x
    · have HC : Hid (cmpI x y = 1) := (if_neg h1).trans (if_pos h2)
      go_enter Tryz.func66, Tryz.ntmps66
      go_wp2_with (go_at_call 80; go_in)
      go_ret
      exact ⟨by rw [HC.out]; rfl, rfl⟩
    · have HC : Hid (cmpI x y = 0) := (if_neg h1).trans (if_neg h2)
      go_enter Tryz.func66, Tryz.ntmps66
      go_wp2_with (go_at_call 80; go_in)
      go_ret
      exact ⟨by rw [HC.out]; rfl, rfl⟩
theorem cmp_atomForm (x y : ByteArray) (w : World) :
    Calls Tryz.prog 65 #[.string x, .string y] w fun e w' => e = .returned (.int .i64 (cmpS x y)) ∧ w' = w := by
  cases h1 : Op.bytesLess x.toList y.toList
  · cases h2 : Op.bytesLess y.toList x.toList
    · have HC : Hid (cmpS x y = 0) := by show _ = _; unfold cmpS; rw [h1, h2]; rfl
      have hg : ∀ w : World, (binOp .gtr 119 (.string x) (.string y)).run Tryz.prog w = .ok (.bool false) w := fun w => by rw [gtr_string, gtr_bytes x y h1, h2]; rfl
      go_enter Tryz.func65, Tryz.ntmps65
      go_wp2_with (go_at_call 79; go_in)
      go_ret
      exact ⟨by rw [HC.out]; rfl, rfl⟩
    · have HC : Hid (cmpS x y = 1) := by show _ = _; unfold cmpS; rw [h1, h2]; rfl
      have hg : ∀ w : World, (binOp .gtr 119 (.string x) (.string y)).run Tryz.prog w = .ok (.bool true) w := fun w => by rw [gtr_string, gtr_bytes x y h1, h2]; rfl
      go_enter Tryz.func65, Tryz.ntmps65
      go_wp2_with (go_at_call 79; go_in)
      go_ret
      exact ⟨by rw [HC.out]; rfl, rfl⟩
  · have HC : Hid (cmpS x y = -1) := by show _ = _; unfold cmpS; rw [h1]; rfl
    go_enter Tryz.func65, Tryz.ntmps65
    go_wp2_with (go_at_call 79; go_in)
    go_ret
    exact ⟨by rw [HC.out]; rfl, rfl⟩
theorem cmp_binForm (x y : ByteArray) (w : World) :
    Calls Tryz.prog 67 #[.string x, .string y] w fun e w' => e = .returned (.int .i64 (cmpS x y)) ∧ w' = w := by
  cases h1 : Op.bytesLess x.toList y.toList
  · cases h2 : Op.bytesLess y.toList x.toList
    · have HC : Hid (cmpS x y = 0) := by show _ = _; unfold cmpS; rw [h1, h2]; rfl
      have hg : ∀ w : World, (binOp .gtr 123 (.string x) (.string y)).run Tryz.prog w = .ok (.bool false) w := fun w => by rw [gtr_string, gtr_bytes x y h1, h2]; rfl
      go_enter Tryz.func67, Tryz.ntmps67
      go_wp2_with (go_at_call 81; go_in)
      go_ret
      exact ⟨by rw [HC.out]; rfl, rfl⟩
    · have HC : Hid (cmpS x y = 1) := by show _ = _; unfold cmpS; rw [h1, h2]; rfl
      have hg : ∀ w : World, (binOp .gtr 123 (.string x) (.string y)).run Tryz.prog w = .ok (.bool true) w := fun w => by rw [gtr_string, gtr_bytes x y h1, h2]; rfl
      go_enter Tryz.func67, Tryz.ntmps67
      go_wp2_with (go_at_call 81; go_in)
      go_ret
      exact ⟨by rw [HC.out]; rfl, rfl⟩
  · have HC : Hid (cmpS x y = -1) := by show _ = _; unfold cmpS; rw [h1]; rfl
    go_enter Tryz.func67, Tryz.ntmps67
    go_wp2_with (go_at_call 81; go_in)
    go_ret
    exact ⟨by rw [HC.out]; rfl, rfl⟩
end Go.Proofs.YtfjaphhijefdlaaGreatDoor
