/-
  The program's comparison of two terms, walked.
-/
import Derived.Test.YtabgfaafpgholaaW50
import Derived.Deep.LoopGhost
import Derived.Deep.CutRange
import Derived.Deep.RegionHeld3
import Derived.Deep.RegionLaw
namespace Go.Proofs.Ytabgfaafpgholaa
open Go.RowKit
set_option linter.unusedVariables false

mutual
theorem HpT.below {w W : World} (hb : Below w.heap.size w W) : ∀ (t : Tm) (ax : Option Addr) (t' : Tm) (ay : Option Addr), (∀ k n s l k' n' s' l', t = .mk k n s l → t' = .mk k' n' s' l' → RepL 0 w l ax ∧ RepL 0 w l' ay) → HpT w t ax t' ay → HpT W t ax t' ay
  | .mk k n s l, ax, .mk k' n' s' l', ay, hr, h => by
    rw [HpT] at h ⊢
    intro hk he
    obtain ⟨h1, h2, h3⟩ := h hk he
    obtain ⟨r1, r2⟩ := hr k n s l k' n' s' l' rfl rfl
    exact ⟨HpL.below hb l ax l' ay r1 r2 h1, plainP_keep h2 (fun b o e => hb.block b (nm_lt r1 e)), plainP_keep h3 (fun b o e => hb.block b (nm_lt r2 e))⟩
theorem HpL.below {w W : World} (hb : Below w.heap.size w W) : ∀ (l : List Tm) (ao : Option Addr) (l' : List Tm) (ao' : Option Addr), RepL 0 w l ao → RepL 0 w l' ao' → HpL w l ao l' ao' → HpL W l ao l' ao'
  | [], ao, l', ao', _, _, _ => by rw [HpL]; trivial
  | t :: r, ao, [], ao', _, _, _ => by rw [HpL]; trivial
  | t :: r, ao, t' :: r', ao', h1, h2, h => by
    rw [HpL] at h ⊢
    rw [RepL] at h1 h2
    obtain ⟨b, o, rfl, _, q1, q2⟩ := h1
    obtain ⟨b', o', rfl, _, p1, p2⟩ := h2
    intro b1 o1 b2 o2 e1 e2
    cases e1
    cases e2
    obtain ⟨h3, h4⟩ := h b o b' o' rfl rfl
    refine ⟨fun ax n c ay n' c' c1 c2 => ?_, HpL.below hb r _ r' _ q2 p2 h4⟩
    obtain ⟨k, n0, s, l⟩ := t
    obtain ⟨k', n0', s', l'⟩ := t'
    rw [RepT] at q1 p1
    obtain ⟨a0, _, _, _, bo, cap, a3, _, _, rl⟩ := q1
    obtain ⟨a0', _, _, _, bo', cap', a3', _, _, rl'⟩ := p1
    have d1 := hb.cell (p := ⟨b, o + 3, none⟩) (World.block_lt_of_cell? w _ a3)
    have d2 := hb.cell (p := ⟨b', o' + 3, none⟩) (World.block_lt_of_cell? w _ a3')
    rw [d1, a3] at c1
    rw [d2, a3'] at c2
    have h5 := h3 _ _ _ _ _ _ a3 a3'
    cases c1
    cases c2
    exact HpT.below hb _ _ _ _ (fun k1 n1 s1 l1 k2 n2 s2 l2 e3 e4 => by cases e3; cases e4; exact ⟨rl, rl'⟩) h5
end
theorem four_newJ (w : World) (A B C D : Array Value) (ta tb tc td : TypeId) :
    let W := (((w.alloc (.cells A ta)).alloc (.cells B tb)).alloc (.cells C tc)).alloc (.cells D td)
    W.heap[w.heap.size]? = some (.cells A ta (0, 0)) ∧ W.heap[w.heap.size + 1]? = some (.cells B tb (0, 0)) ∧ W.heap[w.heap.size + 1 + 1]? = some (.cells C tc (0, 0)) ∧ W.heap[w.heap.size + 1 + 1 + 1]? = some (.cells D td (0, 0)) ∧ Below w.heap.size w W ∧ W.heap.size = w.heap.size + 1 + 1 + 1 + 1 := by
  intro W
  have z1 : (w.alloc (.cells A ta)).heap.size = w.heap.size + 1 := World.size_alloc _ _
  have z2 : ((w.alloc (.cells A ta)).alloc (.cells B tb)).heap.size = w.heap.size + 1 + 1 := by rw [World.size_alloc, z1]
  have z3 : (((w.alloc (.cells A ta)).alloc (.cells B tb)).alloc (.cells C tc)).heap.size = w.heap.size + 1 + 1 + 1 := by rw [World.size_alloc, z2]
  have k1 : ∀ k, k < w.heap.size + 1 → ((w.alloc (.cells A ta)).alloc (.cells B tb)).heap[k]? = (w.alloc (.cells A ta)).heap[k]? := fun k hk => ((Below.refl _ _).alloc (Nat.le_refl _) _).block k (by rw [z1]; exact hk)
  have k2 : ∀ k, k < w.heap.size + 1 + 1 → (((w.alloc (.cells A ta)).alloc (.cells B tb)).alloc (.cells C tc)).heap[k]? = ((w.alloc (.cells A ta)).alloc (.cells B tb)).heap[k]? := fun k hk => ((Below.refl _ _).alloc (Nat.le_refl _) _).block k (by rw [z2]; exact hk)
  have k3 : ∀ k, k < w.heap.size + 1 + 1 + 1 → W.heap[k]? = (((w.alloc (.cells A ta)).alloc (.cells B tb)).alloc (.cells C tc)).heap[k]? := fun k hk => ((Below.refl _ _).alloc (Nat.le_refl _) _).block k (by rw [z3]; exact hk)
  refine ⟨?_, ?_, ?_, ?_, (((Below.refl w.heap.size w).alloc (Nat.le_refl _) _).alloc (by rw [World.size_alloc]; omega) _).alloc (by rw [World.size_alloc, World.size_alloc]; omega) _ |>.alloc (by rw [World.size_alloc, World.size_alloc, World.size_alloc]; omega) _, by rw [World.size_alloc, World.size_alloc, World.size_alloc, World.size_alloc]⟩
  · rw [k3 _ (by omega), k2 _ (by omega), k1 _ (by omega)]; exact heap_alloc_new w _
  · rw [k3 _ (by omega), k2 _ (by omega)]
    have := heap_alloc_new (w.alloc (.cells A ta)) (.cells B tb)
    rw [z1] at this; exact this
  · rw [k3 _ (by omega)]
    have := heap_alloc_new ((w.alloc (.cells A ta)).alloc (.cells B tb)) (.cells C tc)
    rw [z2] at this; exact this
  · have := heap_alloc_new (((w.alloc (.cells A ta)).alloc (.cells B tb)).alloc (.cells C tc)) (.cells D td)
    rw [z3] at this; exact this
theorem cell_blkJ {w : World} {R o : Nat} {cs : Array Value} {t : TypeId} {f : Nat × Nat} (h : w.heap[R]? = some (.cells cs t f)) : w.cell? ⟨R, o, none⟩ = cs[o]? := by simp [World.cell?, h]
theorem run_tail (b o r c : Nat) (hc : r + 1 ≤ c) (W : World) :
    (Instr.slice 37 (.slice (some ⟨b, o, none⟩) (r + 1) c) (some (.int .i64 1)) none none).run Try.prog W = .ok (.slice (some ⟨b, ofs o c, none⟩) r (c - 1)) W := by
  have hs : (sizeOf (Try.prog.elem 37)).run Try.prog W = .ok 4 W := by kernel_rfl
  have h := run_slice_l (P := Try.prog) (w := W) (t := 37) (a := some ⟨b, o, none⟩) (len := r + 1) (cap := c) (by kernel_rfl) .i64 1 (by omega) (by omega)
  rw [h, hs]
  unfold ofs
  by_cases hci : c = 1
  · rw [if_pos hci]
    simp [Result.andThen, sliced, hci]
  · rw [if_neg hci]
    simp [Result.andThen, sliced, hci, Addr.add]

theorem keepJ {w w' : World} (h : Below w.heap.size w w') {b o : Nat} {v : Value} (hc : w.cell? ⟨b, o, none⟩ = some v) : w'.cell? ⟨b, o, none⟩ = some v := by
  rw [h.cell (p := ⟨b, o, none⟩) (World.block_lt_of_cell? w _ hc)]; exact hc
theorem TO.drew {W wr : World} {mb : Nat} {u : Value} {ps st : List (List Tm × List Tm)} {xs : List Value} (h : TO W wr mb u ps xs st) : TO W wr.drew mb u ps xs st := h.call (Below.refl _ _).drew
theorem np_ptr (p : Option (Nat × Nat)) : ∃ P, npV p = .pointer P := by
  rcases p with _ | ⟨b, o⟩
  · exact ⟨none, rfl⟩
  · exact ⟨_, rfl⟩
theorem belAJ {w X : World} (h : Below w.heap.size w X) (o : Obj) : Below w.heap.size w (X.alloc o) := h.alloc h.size o
theorem belDJ {w X : World} (h : Below w.heap.size w X) : Below w.heap.size w X.drew := h.drew
theorem belSJ {w X : World} {g o : Nat} {v : Value} (h : Below w.heap.size w X) (hg : w.heap.size ≤ g) : Below w.heap.size w (X.setCell ⟨g, o, none⟩ v) := h.setCell hg _
theorem belNJ {w X Y : World} (h : Below w.heap.size w X) (k : Below X.heap.size X Y) : Below w.heap.size w Y := h.trans (k.mono h.size)
/-- A new variable for two names. -/
def ZQ (Y : World) (nb : Nat) : Prop := Y.cell? ⟨nb, 0, none⟩ = some (.pointer none) ∧ Y.cell? ⟨nb, 1, none⟩ = some (.int .i64 0) ∧ Y.cell? ⟨nb, 2, none⟩ = some (.pointer none) ∧ Y.cell? ⟨nb, 3, none⟩ = some (.int .i64 0) ∧ (∀ x, Y.frozen? ⟨nb, x, none⟩ = false) ∧ nb < Y.heap.size
theorem ZQ.new (w : World) : ZQ (w.alloc (.cells #[.pointer none, .int .i64 0, .pointer none, .int .i64 0] 130)) w.heap.size :=
  ⟨by rw [World.cell?_alloc_new]; rfl, by rw [World.cell?_alloc_new]; rfl, by rw [World.cell?_alloc_new]; rfl, by rw [World.cell?_alloc_new]; rfl, fun x => by rw [World.frozen?_alloc_new], by rw [World.size_alloc]; omega⟩
theorem ZQ.below {Y Y' : World} {nb : Nat} (hb : Below Y.heap.size Y Y') (h : ZQ Y nb) : ZQ Y' nb :=
  ⟨keepJ hb h.1, keepJ hb h.2.1, keepJ hb h.2.2.1, keepJ hb h.2.2.2.1, fun x => by rw [hb.frozen (p := ⟨nb, x, none⟩) h.2.2.2.2.2]; exact h.2.2.2.2.1 x, Nat.lt_of_lt_of_le h.2.2.2.2.2 hb.size⟩
theorem ZQ.set {w Y : World} {nb : Nat} (h : ZQ Y nb) (hb : Below w.heap.size w Y) (hn : w.heap.size ≤ nb) (a b c d : Value) :
    Below w.heap.size w ((((Y.setCell ⟨nb, 0, none⟩ a).setCell ⟨nb, 1, none⟩ b).setCell ⟨nb, 2, none⟩ c).setCell ⟨nb, 3, none⟩ d) ∧ ((((Y.setCell ⟨nb, 0, none⟩ a).setCell ⟨nb, 1, none⟩ b).setCell ⟨nb, 2, none⟩ c).setCell ⟨nb, 3, none⟩ d).cell? ⟨nb, 0, none⟩ = some a ∧ ((((Y.setCell ⟨nb, 0, none⟩ a).setCell ⟨nb, 1, none⟩ b).setCell ⟨nb, 2, none⟩ c).setCell ⟨nb, 3, none⟩ d).cell? ⟨nb, 1, none⟩ = some b ∧ ((((Y.setCell ⟨nb, 0, none⟩ a).setCell ⟨nb, 1, none⟩ b).setCell ⟨nb, 2, none⟩ c).setCell ⟨nb, 3, none⟩ d).cell? ⟨nb, 2, none⟩ = some c ∧ ((((Y.setCell ⟨nb, 0, none⟩ a).setCell ⟨nb, 1, none⟩ b).setCell ⟨nb, 2, none⟩ c).setCell ⟨nb, 3, none⟩ d).cell? ⟨nb, 3, none⟩ = some d := by
  have hin := World.cell?_setCells_in nb [a, b, c, d] 0 Y (fun j hj => by
    have hj' : j < 4 := hj
    match j, hj' with
    | 0, _ => rw [h.1]; rfl
    | 1, _ => rw [h.2.1]; rfl
    | 2, _ => rw [h.2.2.1]; rfl
    | 3, _ => rw [h.2.2.2.1]; rfl)
  exact ⟨(((hb.setCell hn _).setCell hn _).setCell hn _).setCell hn _, hin 0 (by show 0 < 4; omega), hin 1 (by show 1 < 4; omega), hin 2 (by show 2 < 4; omega), hin 3 (by show 3 < 4; omega)⟩
theorem cnt_sum (k n : Int) (s : ByteArray) (l r : List Tm) : cntL (wiL k l) + cntL r + 1 ≤ cntL (.mk k n s l :: r) := by
  rw [cntL, cntT]
  unfold wiL
  split
  · omega
  · rw [cntL]; omega
theorem msr_len : ∀ ps : List (List Tm × List Tm), ps.length ≤ msr ps
  | [] => Nat.le_refl _
  | p :: r => by have := msr_len r; rw [List.length_cons, msr]; omega
theorem twoOne {a c : Option Addr} {b d e f : Nat} : ∀ v ∈ ([.slice a b e, .slice c d f] : List Value), v.oneCell' = true := fun v hv => by
  simp at hv
  rcases hv with rfl | rfl <;> rfl
theorem twoCells {w : World} {a b : Value} {t : TypeId} : ∀ j u, [a, b][j]? = some u → (w.alloc (.cells #[a, b] t)).cell? ((⟨w.heap.size, 0, none⟩ : Addr).add j) = some u := fun j u h => by
  rw [Addr.add_lit, Nat.zero_add, World.cell?_alloc_new]
  simpa using h
theorem hidJ {p : Prop} (h : p) : Hid p := h
theorem stackC_one (t t' : Tm) : stackC [([t], [t'])] = cmpT t t' := by
  rw [stackC, stackC, cmpL, cmpL_nil, thenC_right, thenC_right]
theorem ret_i {x y : Int} (h : x = y) : Ending.returned (.int .i64 x) = .returned (.int .i64 y) := by rw [h]

set_option maxHeartbeats 4000000 in
set_option maxRecDepth 100000 in
theorem termOrder_any (k n : Int) (s : ByteArray) (l : List Tm) (ax : Option Addr) (cx : Nat) (k' n' : Int) (s' : ByteArray) (l' : List Tm) (ay : Option Addr) (cy : Nat) (w : World)
    (hv : RepV 0 w (.mk k n s l) (.agg #[.int .i64 k, .int .i64 n, .string s, .slice ax l.length cx])) (hv' : RepV 0 w (.mk k' n' s' l') (.agg #[.int .i64 k', .int .i64 n', .string s', .slice ay l'.length cy]))
    (hp : HpT w (.mk k n s l) ax (.mk k' n' s' l') ay) (hcnt : cntT (.mk k n s l) ≤ 1000000000) :
    Calls Try.prog 61 #[.agg #[.int .i64 k, .int .i64 n, .string s, .slice ax l.length cx], .agg #[.int .i64 k', .int .i64 n', .string s', .slice ay l'.length cy]] w fun e w' => e = .returned (.int .i64 (cmpT (.mk k n s l) (.mk k' n' s' l'))) ∧ Below w.heap.size w w' := by
  obtain ⟨W, hW⟩ : ∃ W, W = (((w.alloc (.cells #[.int .i64 k, .int .i64 n, .string s, .slice ax l.length cx] 39)).alloc (.cells #[.int .i64 k', .int .i64 n', .string s', .slice ay l'.length cy] 39)).alloc (.cells #[.int .i64 k, .int .i64 n, .string s, .slice ax l.length cx] 39)).alloc (.cells #[.int .i64 k', .int .i64 n', .string s', .slice ay l'.length cy] 39) := ⟨_, rfl⟩
  obtain ⟨C, hC⟩ : ∃ C, C = cmpT (.mk k n s l) (.mk k' n' s' l') := ⟨_, rfl⟩
  have hbW : Below w.heap.size w W := by rw [hW]; exact ((((Below.refl _ _).alloc (Nat.le_refl _) _).alloc (by simp) _).alloc (by simp; omega) _).alloc (by simp; omega) _
  have hzW : W.heap.size = w.heap.size + 4 := by rw [hW]; simp
  obtain ⟨b0, b1, b2, b3, -⟩ := four_newJ w #[.int .i64 k, .int .i64 n, .string s, .slice ax l.length cx] #[.int .i64 k', .int .i64 n', .string s', .slice ay l'.length cy] #[.int .i64 k, .int .i64 n, .string s, .slice ax l.length cx] #[.int .i64 k', .int .i64 n', .string s', .slice ay l'.length cy] 39 39 39 39
  rw [← hW] at b0 b1 b2 b3
  obtain ⟨ax', cx', ex, hs, hlx, hcx, rl⟩ := hv
  obtain ⟨ay', cy', ey, hs', hly, hcy, rl'⟩ := hv'
  cases ex
  cases ey
  have rW : RepL 0 W l ax := (Keeps.below hbW 0).repL _ _ rl
  have rW' : RepL 0 W l' ay := (Keeps.below hbW 0).repL _ _ rl'
  have r1 : RepL 0 W [.mk k n s l] (some ⟨w.heap.size + 1 + 1, 0, none⟩) := by
    rw [RepL]
    refine ⟨_, 0, rfl, Nat.zero_le _, ?_, by rw [RepL]; trivial⟩
    rw [RepT]
    exact ⟨cell_blkJ b2, cell_blkJ b2, cell_blkJ b2, hs, ax, cx, cell_blkJ b2, hlx, hcx, rW⟩
  have r2 : RepL 0 W [.mk k' n' s' l'] (some ⟨w.heap.size + 1 + 1 + 1, 0, none⟩) := by
    rw [RepL]
    refine ⟨_, 0, rfl, Nat.zero_le _, ?_, by rw [RepL]; trivial⟩
    rw [RepT]
    exact ⟨cell_blkJ b3, cell_blkJ b3, cell_blkJ b3, hs', ay, cy, cell_blkJ b3, hly, hcy, rW'⟩
  have hpW : HpL W [.mk k n s l] (some ⟨w.heap.size + 1 + 1, 0, none⟩) [.mk k' n' s' l'] (some ⟨w.heap.size + 1 + 1 + 1, 0, none⟩) := by
    rw [HpL]
    intro b o b' o' e e'
    cases e
    cases e'
    refine ⟨fun ax2 n2 c2 ay2 n2' c2' d1 d2 => ?_, by rw [HpL]; trivial⟩
    rw [cell_blkJ b2] at d1
    rw [cell_blkJ b3] at d2
    cases d1
    cases d2
    exact HpT.below hbW _ _ _ _ (fun k1 n1 s1 l1 k2 n2 s2 l2 e3 e4 => by cases e3; cases e4; exact ⟨rl, rl'⟩) hp
  obtain ⟨w0, hw0⟩ : ∃ w0, w0 = (W.alloc (.cells #[.slice (some ⟨w.heap.size + 1 + 1, 0, none⟩) 1 1, .slice (some ⟨w.heap.size + 1 + 1 + 1, 0, none⟩) 1 1] 117)).alloc (.map #[] 0) := ⟨_, rfl⟩
  have hT0 : TO W w0 (w.heap.size + 1 + 1 + 1 + 1 + 1) (.slice (some ⟨w.heap.size + 1 + 1 + 1 + 1, 0, none⟩) 1 1) [([.mk k n s l], [.mk k' n' s' l'])] [.slice (some ⟨w.heap.size + 1 + 1, 0, none⟩) 1 1, .slice (some ⟨w.heap.size + 1 + 1 + 1, 0, none⟩) 1 1] [([.mk k n s l], [.mk k' n' s' l'])] := by
    have hz1 : (W.alloc (.cells #[.slice (some ⟨w.heap.size + 1 + 1, 0, none⟩) 1 1, .slice (some ⟨w.heap.size + 1 + 1 + 1, 0, none⟩) 1 1] 117)).heap.size = w.heap.size + 1 + 1 + 1 + 1 + 1 := by rw [World.size_alloc, hzW]
    have hm := heap_alloc_new (W.alloc (.cells #[.slice (some ⟨w.heap.size + 1 + 1, 0, none⟩) 1 1, .slice (some ⟨w.heap.size + 1 + 1 + 1, 0, none⟩) 1 1] 117)) (.map #[] 0)
    have ho := World.ownsRow_lit (base := W.heap.size) (e := 117) (size := 2) W #[.slice (some ⟨w.heap.size + 1 + 1, 0, none⟩) 1 1, .slice (some ⟨w.heap.size + 1 + 1 + 1, 0, none⟩) 1 1] 1 (Nat.le_refl _) (by decide) rfl
    rw [hz1] at hm
    rw [hzW] at ho
    refine ⟨by rw [hw0]; exact ((Below.refl _ _).alloc (Nat.le_refl _) _).alloc (by rw [World.size_alloc]; omega) _, ?_, ?_, ⟨#[], 0, by rw [hw0]; exact hm, fun e he => by simp at he⟩, by omega⟩
    · rw [hw0, hzW]; exact ho.alloc _
    · rw [Stk]
      exact ⟨_, _, _, _, [], rfl, ⟨⟨1, rfl, Nat.le_refl _, by decide⟩, r1⟩, ⟨⟨1, rfl, Nat.le_refl _, by decide⟩, r2⟩, hpW, by rw [Stk]⟩
  have HT0 := hidJ hT0
  have HBW : Hid (Below w.heap.size w W) := hbW
  have HC : Hid (stackC [([.mk k n s l], [.mk k' n' s' l'])] = C) := by rw [stackC_one]; exact hC.symm
  have HB0 : Hid (msr [([.mk k n s l], [.mk k' n' s' l'])] ≤ 2000000001) := by
    show _ ≤ _
    simp only [msr, cntL]; omega
  obtain ⟨p0, hp0⟩ : ∃ p0, p0 = (([.mk k n s l], [.mk k' n' s' l']) : List Tm × List Tm) := ⟨_, rfl⟩
  rw [← hp0] at HC HT0 HB0
  rw [← hC]
  obtain ⟨i0, hi0, hzz⟩ := Option.map_eq_some_iff.1 infoSides
  simp only [Prod.mk.injEq] at hzz
  have HI : Hid (Try.prog.info? 117 = some i0 ∧ i0.zero = some (.agg #[.slice none 0 0, .slice none 0 0]) ∧ i0.size = 2 ∧ i0.bytes = 48) := ⟨hi0, hzz⟩
  clear hcnt hT0 hpW r1 r2 rW rW' b0 b1 b2 b3 rl rl' hs hs' hp hbW hzW hC hp0 hlx hcx hly hcy hi0 hzz
  have hmm := @run_makeMap Try.prog
  go_enter Try.func61, Try.ntmps61
  go_wp2_with fail
  clear hmm
  rw [← hW, ← hw0]
  clear hW hw0
  go_loopg [5] (msr [p0]) (fun gk u wr => ∃ ps xs, gk = msr ps ∧ msr ps ≤ 2000000001 ∧ TO W wr (w.heap.size + 1 + 1 + 1 + 1 + 1) u ps xs ps.reverse ∧ stackC ps.reverse = C)
  case atStart => exact ⟨[p0], _, rfl, HB0.out, HT0.out, HC.out⟩
  case round =>
    obtain ⟨ps, xs, rfl, hms, hto, hst⟩ := hrel
    have HMS : Hid (msr ps ≤ 2000000001) := hms
    clear HT0 HC HB0 hms
    rcases ps.eq_nil_or_concat with rfl | ⟨qs, p, hps⟩
    · obtain ⟨a, c, rfl⟩ : ∃ a c, _ = Value.slice a 0 c := by
        rcases hto.row.2 with ⟨e, _⟩ | ⟨g, c, cur, e, _⟩
        · exact ⟨none, 0, e⟩
        · exact ⟨_, c, e⟩
      have HF : Hid (C = 0 ∧ Below w.heap.size w wr) := ⟨hst.symm, HBW.out.trans (hto.bel.mono HBW.out.size)⟩
      clear hto hst
      go_wp2_with fail
      go_ret
      exact ⟨ret_i HF.out.1.symm, HF.out.2⟩
    · rw [List.concat_eq_append] at hps
      subst hps
      obtain ⟨m, m'⟩ := p
      obtain ⟨g, c, ys, ao, ao', ca, ca', rfl, rfl, hyl, hys, ra, ra', hpl, h1, h2, h3, h4, h5, h6, c0, c1, hfz⟩ := hto.top
      rw [List.reverse_append] at hto hst
      have hst' : stackC ((m, m') :: qs.reverse) = C := hst
      have HTO : Hid (TO W wr (w.heap.size + 1 + 1 + 1 + 1 + 1) (.slice (some ⟨g, 0, none⟩) (qs.length + 1) c) (qs ++ [(m, m')]) (ys ++ [.slice ao m.length ca, .slice ao' m'.length ca']) ((m, m') :: qs.reverse)) := hto
      have HST : Hid (stackC ((m, m') :: qs.reverse) = C) := hst'
      have HQC : Hid (qs.length + 1 ≤ c ∧ c ≤ maxLen) := ⟨h5, h6⟩
      obtain ⟨N, hN⟩ : ∃ N, N = qs.length := ⟨_, rfl⟩
      obtain ⟨M, hM⟩ : ∃ M, M = N + 1 := ⟨_, rfl⟩
      have HN : Hid (N = qs.length ∧ M = N + 1) := ⟨hN, hM⟩
      rw [← hN] at HTO c0 c1 HQC
      rw [← hN]
      rw [← hM] at HTO HQC
      rw [← hM]
      have em : IntKind.i64.wrap ((M : Int) - 1) = (N : Int) := by have h := HQC.out; unfold maxLen at h; rw [IntKind.wrap_i64]; omega
      have hq1 : N < M := by omega
      have hM0 : (0 : Int) < (M : Int) := by omega
      have hM1 : ¬ (M : Int) ≤ 0 := by omega
      haveI := inn_ne wr
      clear hto hst hst' hN hM h5 h6
      have HINN : Hid (∀ w7, (∃ x : Inn wr, w7 = x.val) → Below wr.heap.size wr w7) := fun w7 ⟨x7, h7⟩ => by rw [h7]; exact x7.bel
      by_cases hend : m = [] ∨ m' = []
      · have hz : (((m.length : Int) == 0) = true ∨ ((m'.length : Int) == 0) = true) := by
          rcases hend with h | h
          · left; rw [h]; rfl
          · right; rw [h]; rfl
        by_cases hlen : m.length = m'.length
        · have hm : m = [] := by
            rcases hend with h | h
            · exact h
            · rw [h] at hlen; exact List.length_eq_zero_iff.1 (by simpa using hlen)
          have hm' : m' = [] := List.length_eq_zero_iff.1 (by rw [hm] at hlen; simpa using hlen.symm)
          subst hm hm'
          have HF : Hid (∃ zs, TO W wr (w.heap.size + 1 + 1 + 1 + 1 + 1) (.slice (some ⟨g, 0, none⟩) N c) qs zs qs.reverse) := by
            have h := HTO.out
            rw [HN.out.2, HN.out.1] at h
            rw [HN.out.1]
            exact h.pop
          have HS : Hid (stackC qs.reverse = C) := by have h := HST.out; rw [stackC_pop] at h; exact h
          clear hz hend hlen
          have d0 := Inn.keep c0
          have d1 := Inn.keep c1
          have hNc : (N : Int) ≤ (c : Int) := by have := HQC.out.1; omega
          go_wp2_with fail
          refine wp_region_inn ?_ ?_ ?_
          · kernel_rfl
          · kernel_rfl
          repeat (go_big_quiet_step (fail))
          refine wpQuiet_nil ?_
          intro w7 h7
          have H7 : Hid (∃ zs, TO W w7 (w.heap.size + 1 + 1 + 1 + 1 + 1) (.slice (some ⟨g, 0, none⟩) N c) qs zs qs.reverse) := by
            obtain ⟨zs, h⟩ := HF.out
            exact ⟨zs, h.call (HINN.out w7 h7)⟩
          clear h7 d0 d1 c0 c1
          go_wp2_with fail
          go_roundg (msr qs)
          case measure => rw [msr_snoc]; omega
          case rel =>
            obtain ⟨zs, h⟩ := H7.out
            exact ⟨qs, zs, rfl, by have h9 := HMS.out; rw [msr_snoc] at h9; omega, h, HS.out⟩
        · have HF : Hid (cmpI m.length m'.length = C) := (stackC_ends m m' _ hend hlen).symm.trans HST.out
          clear hz
          rcases hend with rfl | rfl
          · obtain ⟨L, hL⟩ : ∃ L, L = m'.length := ⟨_, rfl⟩
            rw [← hL] at HF c1
            have hL0 : 0 < L := by rw [hL]; simp at hlen; omega
            have HCM : Hid (∀ x : World, Calls Try.prog 82 #[.int .i64 0, .int .i64 L] x fun e w' => e = .returned (.int .i64 C) ∧ Below x.heap.size x w') := fun x => (cmpInt_any 0 L x).mono fun e w' ⟨q1, q2⟩ => ⟨by rw [q1, ← HF.out]; rfl, by rw [q2]; exact Below.refl _ _⟩
            have HB9 : Hid (∀ wq, Below wr.heap.size wr wq → Below w.heap.size w wq) := fun wq hb => HBW.out.trans ((HTO.out.call hb).bel.mono HBW.out.size)
            have z0 : ((0 : Int) != (L : Int)) = true := by simp [bne]; omega
            have z1 : ((0 : Int) == (L : Int)) = false := by simp; omega
            have z2 : ¬ (0 : Int) = (L : Int) := by omega
            have z3 : ((L : Int) == 0) = false := by simp; omega
            clear hL hlen
            have d0 := Inn.keep c0
            have d1 := Inn.keep c1
            go_wp2_with fail
            refine wp_region_inn ?_ ?_ ?_
            · kernel_rfl
            · kernel_rfl
            repeat (go_big_quiet_step (fail))
            refine wpQuiet_nil ?_
            intro w7 h7
            have HB7 : Hid (Below wr.heap.size wr w7) := HINN.out w7 h7
            have e0 := Inn.keep (keepJ HB7.out c0)
            have e1 := Inn.keep (keepJ HB7.out c1)
            haveI := inn_ne w7
            clear h7 d0 d1 c0 c1
            go_wp2_with fail
            refine wp_region_inn ?_ ?_ ?_
            · kernel_rfl
            · kernel_rfl
            repeat (go_big_quiet_step (first | (go_at_call 82; exact calls_inn (HCM.out _))))
            refine wpQuiet_nil ?_
            intro w8 h8
            have HB8 : Hid (Below w.heap.size w w8) := by
              obtain ⟨x8, h8⟩ := h8
              have hb8 : Below w7.heap.size w7 w8 := by rw [h8]; exact x8.bel
              exact HB9.out w8 (HB7.out.trans (hb8.mono HB7.out.size))
            clear h8 e0 e1
            go_wp2_with fail
            go_ret
            exact ⟨rfl, HB8.out⟩
          · obtain ⟨L, hL⟩ : ∃ L, L = m.length := ⟨_, rfl⟩
            rw [← hL] at HF c0
            have hL0 : 0 < L := by
              rcases Nat.eq_zero_or_pos m.length with h | h
              · exact absurd h hlen
              · rw [hL]; exact h
            have HCM : Hid (∀ x : World, Calls Try.prog 82 #[.int .i64 L, .int .i64 0] x fun e w' => e = .returned (.int .i64 C) ∧ Below x.heap.size x w') := fun x => (cmpInt_any L 0 x).mono fun e w' ⟨q1, q2⟩ => ⟨by rw [q1, ← HF.out]; rfl, by rw [q2]; exact Below.refl _ _⟩
            have HB9 : Hid (∀ wq, Below wr.heap.size wr wq → Below w.heap.size w wq) := fun wq hb => HBW.out.trans ((HTO.out.call hb).bel.mono HBW.out.size)
            have z0 : ((L : Int) != (0 : Int)) = true := by simp [bne]; omega
            have z1 : ((0 : Int) == (L : Int)) = false := by simp; omega
            have z2 : ¬ (L : Int) = (0 : Int) := by omega
            have z3 : ((L : Int) == 0) = false := by simp; omega
            clear hL hlen
            have d0 := Inn.keep c0
            have d1 := Inn.keep c1
            go_wp2_with fail
            refine wp_region_inn ?_ ?_ ?_
            · kernel_rfl
            · kernel_rfl
            repeat (go_big_quiet_step (fail))
            refine wpQuiet_nil ?_
            intro w7 h7
            have HB7 : Hid (Below wr.heap.size wr w7) := HINN.out w7 h7
            have e0 := Inn.keep (keepJ HB7.out c0)
            have e1 := Inn.keep (keepJ HB7.out c1)
            haveI := inn_ne w7
            clear h7 d0 d1 c0 c1
            go_wp2_with fail
            refine wp_region_inn ?_ ?_ ?_
            · kernel_rfl
            · kernel_rfl
            repeat (go_big_quiet_step (first | (go_at_call 82; exact calls_inn (HCM.out _))))
            refine wpQuiet_nil ?_
            intro w8 h8
            have HB8 : Hid (Below w.heap.size w w8) := by
              obtain ⟨x8, h8⟩ := h8
              have hb8 : Below w7.heap.size w7 w8 := by rw [h8]; exact x8.bel
              exact HB9.out w8 (HB7.out.trans (hb8.mono HB7.out.size))
            clear h8 e0 e1
            go_wp2_with fail
            go_ret
            exact ⟨rfl, HB8.out⟩
      · obtain ⟨x, r, rfl⟩ : ∃ x r, m = x :: r := by
          rcases m with _ | ⟨x, r⟩
          · exact absurd (.inl rfl) hend
          · exact ⟨x, r, rfl⟩
        obtain ⟨y, r', rfl⟩ : ∃ y r', m' = y :: r' := by
          rcases m' with _ | ⟨y, r'⟩
          · exact absurd (.inr rfl) hend
          · exact ⟨y, r', rfl⟩
        have hl1 : (x :: r).length = r.length + 1 := rfl
        have hl2 : (y :: r').length = r'.length + 1 := rfl
        have ra0 := ra
        have ra0' := ra'
        rw [RepL] at ra ra'
        obtain ⟨b, o, rfl, _, qt, _⟩ := ra
        obtain ⟨b', o', rfl, _, qt', _⟩ := ra'
        obtain ⟨xk, xn, xs, xl⟩ := x
        obtain ⟨yk, yn, ys', yl⟩ := y
        rw [RepT] at qt qt'
        obtain ⟨x0, x1, x2, hx3, xa, xc, x3, hx4, hx5, rx⟩ := qt
        obtain ⟨y0, y1, y2, hy3, ya, yc, y3, hy4, hy5, ry⟩ := qt'
        rw [HpL] at hpl
        have hpt := (hpl b o b' o' rfl rfl).1 _ _ _ _ _ _ x3 y3
        have hpl' : HpL W (.mk xk xn xs xl :: r) (some ⟨b, o, none⟩) (.mk yk yn ys' yl :: r') (some ⟨b', o', none⟩) := by rw [HpL]; exact hpl
        obtain ⟨oa, hoa⟩ : ∃ oa, oa = ofs o ca := ⟨_, rfl⟩
        obtain ⟨ob, hob⟩ : ∃ ob, ob = ofs o' ca' := ⟨_, rfl⟩
        obtain ⟨ka, hka⟩ : ∃ ka, ka = ca - 1 := ⟨_, rfl⟩
        obtain ⟨kb, hkb⟩ : ∃ kb, kb = ca' - 1 := ⟨_, rfl⟩
        have ht1 := run_tail b o r.length ca h1
        have ht2 := run_tail b' o' r'.length ca' h3
        have hsa := sl_tail ra0 h1 h2
        have hsb := sl_tail ra0' h3 h4
        have hst := hp_tail hpl' h1 h3
        rw [← hoa, ← hka] at ht1 hsa
        rw [← hob, ← hkb] at ht2 hsb
        rw [← hoa, ← hob] at hst
        obtain ⟨ST, hSTe⟩ : ∃ ST, ST = ((.mk xk xn xs xl :: r, .mk yk yn ys' yl :: r') :: qs.reverse : List (List Tm × List Tm)) := ⟨_, rfl⟩
        have HSTE : Hid (ST = (.mk xk xn xs xl :: r, .mk yk yn ys' yl :: r') :: qs.reverse) := hSTe
        rw [← hSTe] at HTO HST
        have HSET : Hid (∀ wq, TO W wq (w.heap.size + 1 + 1 + 1 + 1 + 1) (.slice (some ⟨g, 0, none⟩) M c) (qs ++ [(.mk xk xn xs xl :: r, .mk yk yn ys' yl :: r')]) (ys ++ [.slice (some ⟨b, o, none⟩) (r.length + 1) ca, .slice (some ⟨b', o', none⟩) (r'.length + 1) ca']) ST → TO W ((wq.setCell ⟨g, N * 2, none⟩ (.slice (some ⟨b, oa, none⟩) r.length ka)).setCell ⟨g, N * 2 + 1, none⟩ (.slice (some ⟨b', ob, none⟩) r'.length kb)) (w.heap.size + 1 + 1 + 1 + 1 + 1) (.slice (some ⟨g, 0, none⟩) M c) (qs ++ [(r, r')]) (ys ++ [.slice (some ⟨b, oa, none⟩) r.length ka, .slice (some ⟨b', ob, none⟩) r'.length kb]) ST) := fun wq h => by
          rw [HN.out.2, HN.out.1] at h ⊢
          exact h.set hys hsa hsb hst
        have HPT : Hid (HpT W (.mk xk xn xs xl) xa (.mk yk yn ys' yl) ya) := hpt
        have HCL : Hid (∀ wq, Below W.heap.size W wq → wq.cell? ⟨b, o, none⟩ = some (.int .i64 xk) ∧ wq.cell? ⟨b, o + 1, none⟩ = some (.int .i64 xn) ∧ wq.cell? ⟨b, o + 2, none⟩ = some (.string xs) ∧ wq.cell? ⟨b, o + 3, none⟩ = some (.slice xa xl.length xc) ∧ wq.cell? ⟨b', o', none⟩ = some (.int .i64 yk) ∧ wq.cell? ⟨b', o' + 1, none⟩ = some (.int .i64 yn) ∧ wq.cell? ⟨b', o' + 2, none⟩ = some (.string ys') ∧ wq.cell? ⟨b', o' + 3, none⟩ = some (.slice ya yl.length yc)) := fun wq hb => ⟨keepJ hb x0, keepJ hb x1, keepJ hb x2, keepJ hb x3, keepJ hb y0, keepJ hb y1, keepJ hb y2, keepJ hb y3⟩
        obtain ⟨fx, hfx⟩ : ∃ fx, fx = frm xk xn xs (.slice xa xl.length xc) := ⟨_, rfl⟩
        obtain ⟨fy, hfy⟩ : ∃ fy, fy = frm yk yn ys' (.slice ya yl.length yc) := ⟨_, rfl⟩
        obtain ⟨cc, hcc⟩ : ∃ cc, cc = thenC (cmpI xk yk) (ownC xk xn xs xl.length yn ys' yl.length) := ⟨_, rfl⟩
        have HFX : Hid (∀ wq : World, Calls Try.prog 83 #[.agg #[.int .i64 xk, .int .i64 xn, .string xs, .slice xa xl.length xc]] wq fun e w' => e = .returned fx ∧ Below wq.heap.size wq w') := fun wq => by rw [hfx]; exact formOf_any xk xn xs xa xl.length xc wq
        have HFY : Hid (∀ wq : World, Calls Try.prog 83 #[.agg #[.int .i64 yk, .int .i64 yn, .string ys', .slice ya yl.length yc]] wq fun e w' => e = .returned fy ∧ Below wq.heap.size wq w') := fun wq => by rw [hfy]; exact formOf_any yk yn ys' ya yl.length yc wq
        have HOA : Hid (∀ wq : World, Calls Try.prog 84 #[fx, fy] wq fun e w' => e = .returned (.int .i64 cc) ∧ w' = wq) := fun wq => by rw [hfx, hfy, hcc]; exact orderAlone_any xk xn xs xa xl.length xc yk yn ys' ya yl.length yc wq
        have hsi := sl_wi (k := xk) rx hx4 hx5
        have hsj := sl_wi (k := yk) ry hy4 hy5
        obtain ⟨il, hil⟩ : ∃ il, il = wiL xk xl := ⟨_, rfl⟩
        obtain ⟨jl, hjl⟩ : ∃ jl, jl = wiL yk yl := ⟨_, rfl⟩
        obtain ⟨ia, hia⟩ : ∃ ia, ia = wiA xk xa := ⟨_, rfl⟩
        obtain ⟨ja, hja⟩ : ∃ ja, ja = wiA yk ya := ⟨_, rfl⟩
        rw [← hil, ← hia] at hsi
        rw [← hjl, ← hja] at hsj
        obtain ⟨ic, eic, hi1, hi2⟩ := hsi.e
        obtain ⟨jc, ejc, hj1, hj2⟩ := hsj.e
        have HIX : Hid (∀ wq : World, Calls Try.prog 85 #[fx] wq fun e w' => e = .returned (.slice ia il.length ic) ∧ w' = wq) := fun wq => by rw [hfx, ← eic]; exact innerOf_any xk xn xs xa xl.length xc wq
        have HIY : Hid (∀ wq : World, Calls Try.prog 85 #[fy] wq fun e w' => e = .returned (.slice ja jl.length jc) ∧ w' = wq) := fun wq => by rw [hfy, ← ejc]; exact innerOf_any yk yn ys' ya yl.length yc wq
        rw [eic] at hsi
        rw [ejc] at hsj
        have HSI : Hid (Sl W (.slice ia il.length ic) il ia ∧ Sl W (.slice ja jl.length jc) jl ja) := ⟨hsi, hsj⟩
        have HCC : Hid (cc = thenC (cmpI xk yk) (ownC xk xn xs xl.length yn ys' yl.length) ∧ il = wiL xk xl ∧ jl = wiL yk yl ∧ ia = wiA xk xa ∧ ja = wiA yk ya) := ⟨hcc, hil, hjl, hia, hja⟩
        have HB9 : Hid (∀ wq, Below W.heap.size W wq → Below w.heap.size w wq) := fun wq hb => HBW.out.trans (hb.mono HBW.out.size)
        rw [hl1] at c0 HTO
        rw [hl2] at c1 HTO
        obtain ⟨L1, hL1⟩ : ∃ L1, L1 = r.length + 1 := ⟨_, rfl⟩
        obtain ⟨L2, hL2⟩ : ∃ L2, L2 = r'.length + 1 := ⟨_, rfl⟩
        rw [← hL1] at c0 ht1
        rw [← hL2] at c1 ht2
        rw [← hL1, ← hL2] at HTO
        simp only [← hL1, ← hL2] at HSET
        obtain ⟨z0, z1, z2, z3, z4, z5, z6, z7⟩ := HCL.out wr HTO.out.bel
        have d0 := Inn.keep c0
        have d1 := Inn.keep c1
        have v0 := Inn.keep z0
        have v1 := Inn.keep z1
        have v2 := Inn.keep z2
        have v3 := Inn.keep z3
        have v4 := Inn.keep z4
        have v5 := Inn.keep z5
        have v6 := Inn.keep z6
        have v7 := Inn.keep z7
        have hr1 : 0 < L1 := by omega
        have hr2 : 0 < L2 := by omega
        have hr3 : ((L1 : Int) == 0) = false := by simp; omega
        have hr4 : ((L2 : Int) == 0) = false := by simp; omega
        have hr5 : ¬ (L1 : Int) = 0 := by omega
        have hr6 : ¬ (L2 : Int) = 0 := by omega
        clear hsi hsj hoa hob hka hkb hsa hsb hst hSTe hpt hpl hpl' hfx hfy hcc hil hjl hia hja eic ejc rx ry x0 x1 x2 x3 y0 y1 y2 y3 hx3 hx4 hx5 hy3 hy4 hy5 ra0 ra0' hl1 hl2 h1 h2 h3 h4 hi1 hi2 hj1 hj2 hend hL1 hL2 z0 z1 z2 z3 z4 z5 z6 z7 hyl hys
        go_wp2_with fail
        refine wp_region_inn ?_ ?_ ?_
        · kernel_rfl
        · kernel_rfl
        repeat (go_big_quiet_step (first | (go_at_call 83; first | with_reducible exact calls_inn (HFX.out _) | with_reducible exact calls_inn (HFY.out _))))
        refine wpQuiet_nil ?_
        intro w7 h7
        have HT7 : Hid (TO W w7 (w.heap.size + 1 + 1 + 1 + 1 + 1) (.slice (some ⟨g, 0, none⟩) M c) (qs ++ [(.mk xk xn xs xl :: r, .mk yk yn ys' yl :: r')]) (ys ++ [.slice (some ⟨b, o, none⟩) L1 ca, .slice (some ⟨b', o', none⟩) L2 ca']) ST) := HTO.out.call (HINN.out w7 h7)
        have e0 := keepJ (HINN.out w7 h7) c0
        have e1 := keepJ (HINN.out w7 h7) c1
        have hgl : g < wr.heap.size := World.block_lt_of_cell? wr _ c0
        have hf7 : ∀ j, w7.frozen? ⟨g, j, none⟩ = false := fun j => by
          rw [(HINN.out w7 h7).frozen (p := ⟨g, j, none⟩) hgl]; exact hfz j
        clear hgl
        clear h7 d0 d1 v0 v1 v2 v3 v4 v5 v6 v7 c0 c1 hfz HTO
        go_wp2_with fail
        go_cut [] from 85 to 100 (fun wx => TO W wx (w.heap.size + 1 + 1 + 1 + 1 + 1) (.slice (some ⟨g, 0, none⟩) M c) (qs ++ [(r, r')]) (ys ++ [.slice (some ⟨b, oa, none⟩) r.length ka, .slice (some ⟨b', ob, none⟩) r'.length kb]) ST)
        case first =>
          go_region_law (fail)
          all_goals
            go_wp2_with fail
            go_meet
            case rel => first | exact HSET.out _ HT7.out | exact HSET.out _ HT7.out.drew | exact (HSET.out _ HT7.out).drew
        case rest =>
        obtain ⟨w8, hw8⟩ : ∃ w8, w8 = wc := ⟨_, rfl⟩
        obtain rfl := hw8
        have HT8 : Hid (TO W w8 (w.heap.size + 1 + 1 + 1 + 1 + 1) (.slice (some ⟨g, 0, none⟩) M c) (qs ++ [(r, r')]) (ys ++ [.slice (some ⟨b, oa, none⟩) r.length ka, .slice (some ⟨b', ob, none⟩) r'.length kb]) ST) := hcut
        clear hcut e0 e1 hf7 HT7 HSET ht1 ht2
        go_wp2_with (go_at_call 84; fail)
        refine (HOA.out w8).mono ?_
        rintro e w9 ⟨rfl, hw9⟩
        obtain rfl := hw9.symm
        clear hw9
        by_cases hc0 : cc = 0
        · have HZ : Hid (thenC (cmpI xk yk) (ownC xk xn xs xl.length yn ys' yl.length) = 0) := by rw [← HCC.out.1]; exact hc0
          subst hc0
          have HKK : Hid (xk = yk) := own_same HZ.out
          have HPW : Hid (HpL W il ia jl ja ∧ PlA W il ia ∧ PlA W jl ja) := by
            have h := hp_wi HPT.out HKK.out
            rw [HCC.out.2.1, HCC.out.2.2.1, HCC.out.2.2.2.1, HCC.out.2.2.2.2]
            exact h
          obtain ⟨P1, hP1⟩ := np_ptr (nmL il ia).1
          obtain ⟨P2, hP2⟩ := np_ptr (nmL jl ja).1
          obtain ⟨n1, hn1⟩ : ∃ n1, n1 = (nmL il ia).2 := ⟨_, rfl⟩
          obtain ⟨n2, hn2⟩ : ∃ n2, n2 = (nmL jl ja).2 := ⟨_, rfl⟩
          have HNX : Hid (∀ wq : World, Calls Try.prog 86 #[.slice ia il.length ic] wq fun e w' => e = .returned (.agg #[.pointer P1, .int .i64 n1]) ∧ Below wq.heap.size wq w') := fun wq => by rw [← hP1, hn1]; exact nameOf_all HSI.out.1.r ic wq
          have HNY : Hid (∀ wq : World, Calls Try.prog 86 #[.slice ja jl.length jc] wq fun e w' => e = .returned (.agg #[.pointer P2, .int .i64 n2]) ∧ Below wq.heap.size wq w') := fun wq => by rw [← hP2, hn2]; exact nameOf_all HSI.out.2.r jc wq
          have HNN : Hid (∀ (wq : World) (v q : Value), (v = .slice ia il.length ic ∧ q = .agg #[.pointer P1, .int .i64 n1]) ∨ (v = .slice ja jl.length jc ∧ q = .agg #[.pointer P2, .int .i64 n2]) → Calls Try.prog 86 #[v] wq fun e w' => e = .returned q ∧ Below wq.heap.size wq w') := fun wq v q h => by
            rcases h with ⟨rfl, rfl⟩ | ⟨rfl, rfl⟩
            · exact HNX.out wq
            · exact HNY.out wq
          have HKV : Hid (kV (nmL il ia) (nmL jl ja) = .agg #[.pointer P1, .int .i64 n1, .pointer P2, .int .i64 n2]) := by show kV _ _ = _; unfold kV; rw [hP1, hP2, hn1, hn2]
          clear hP1 hP2 hn1 hn2
          obtain ⟨wA, hwA⟩ : ∃ wA, wA = w8.alloc (.cells #[.slice ia il.length ic, .slice ja jl.length jc] 117) := ⟨_, rfl⟩
          have hbA : Below w8.heap.size w8 wA := by rw [hwA]; exact (Below.refl _ _).alloc (Nat.le_refl _) _
          have HTA : Hid (TO W wA (w.heap.size + 1 + 1 + 1 + 1 + 1) (.slice (some ⟨g, 0, none⟩) M c) (qs ++ [(r, r')]) (ys ++ [.slice (some ⟨b, oa, none⟩) r.length ka, .slice (some ⟨b', ob, none⟩) r'.length kb]) ST ∧ w8.heap.size < wA.heap.size) := ⟨HT8.out.call hbA, by rw [hwA, World.size_alloc]; omega⟩
          have qA : ∀ x, wA.cell? ⟨w8.heap.size, x, none⟩ = (#[.slice ia il.length ic, .slice ja jl.length jc] : Array Value)[x]? := fun x => by rw [hwA, World.cell?_alloc_new]
          have HQA : Hid (∀ wc, Below wA.heap.size wA wc → (wc.cell? ⟨w8.heap.size, 0, none⟩ = some (.slice ia il.length ic) ∧ wc.cell? ⟨w8.heap.size, 1, none⟩ = some (.slice ja jl.length jc))) := fun wc hb => ⟨keepJ hb (qA 0), keepJ hb (qA 1)⟩
          clear hbA qA
          go_wp2_with (go_at_call 85; fail)
          refine (HIX.out w8).mono ?_
          rintro e w9 ⟨rfl, hw9⟩
          obtain rfl := hw9.symm
          clear hw9
          go_wp2_with (go_at_call 85; fail)
          refine (HIY.out w8).mono ?_
          rintro e w9 ⟨rfl, hw9⟩
          obtain rfl := hw9.symm
          clear hw9
          go_wp2_with fail
          rw [← hwA]
          clear hwA
          go_cut [12] from 112 to 118 (fun v wx => ∃ nb, v = .pointer (some ⟨nb, 0, none⟩) ∧ Below wA.heap.size wA wx ∧ wx.cell? ⟨nb, 0, none⟩ = some (.pointer P1) ∧ wx.cell? ⟨nb, 1, none⟩ = some (.int .i64 n1) ∧ wx.cell? ⟨nb, 2, none⟩ = some (.pointer P2) ∧ wx.cell? ⟨nb, 3, none⟩ = some (.int .i64 n2))
          case first =>
            have S0 := HQA.out wA.drew (Below.refl _ _).drew
            go_region_held3 (fun wc => (wc.cell? ⟨w8.heap.size, 0, none⟩ = some (.slice ia il.length ic) ∧ wc.cell? ⟨w8.heap.size, 1, none⟩ = some (.slice ja jl.length jc))) (first | (refine HQA.out _ ?_; (repeat' first | with_reducible exact HkN2.out | with_reducible exact HkN.out | with_reducible exact Below.refl _ _ | with_reducible refine belAJ ?_ _ | with_reducible refine belDJ ?_ | with_reducible refine belSJ ?_ ?_ | with_reducible exact HkN.out.size | with_reducible exact HkN2.out.size | with_reducible exact Nat.le_refl _ | omega); done) | go_keep) (first
              | (go_at_call 86; (with_reducible refine (HNX.out wA.drew).mono ?_); rintro e wX ⟨rfl, hbx⟩; have HkN : Hid (Below wA.heap.size wA wX) := belNJ (Below.refl _ _).drew hbx; clear hbx)
              | (go_at_call 86; (with_reducible refine (HNX.out (wA.alloc (.cells #[.pointer none, .int .i64 0, .pointer none, .int .i64 0] 130)).drew).mono ?_); rintro e wX ⟨rfl, hbx⟩; have HkN : Hid (Below wA.heap.size wA wX) := belNJ (belDJ (belAJ (Below.refl _ _) _)) hbx; have HZX : Hid (ZQ wX wA.heap.size) := ZQ.below hbx (ZQ.below (Below.refl _ _).drew (ZQ.new wA)); obtain ⟨_, _, _, _, _, _⟩ := HZX.out; clear hbx)
              | (go_at_call 86; (with_reducible refine (HNX.out (wA.drew.alloc (.cells #[.pointer none, .int .i64 0, .pointer none, .int .i64 0] 130))).mono ?_); rintro e wX ⟨rfl, hbx⟩; have HkN : Hid (Below wA.heap.size wA wX) := belNJ (belAJ (Below.refl _ _).drew _) hbx; have HZX : Hid (ZQ wX wA.heap.size) := ZQ.below hbx (ZQ.new wA.drew); obtain ⟨_, _, _, _, _, _⟩ := HZX.out; clear hbx)
              | (go_at_call 86; (with_reducible refine (HNY.out wX).mono ?_); rintro e wY ⟨rfl, hby⟩; have HkN2 : Hid (Below wA.heap.size wA wY) := belNJ HkN.out hby; (try (refine (have HZY : Hid (ZQ wY wA.heap.size) := ZQ.below hby ?_; ?_); (focus (with_reducible exact HZX.out)); obtain ⟨_, _, _, _, _, _⟩ := HZY.out)); clear hby)
              | (go_at_call 86; (with_reducible refine (HNY.out (wX.alloc (.cells #[.pointer none, .int .i64 0, .pointer none, .int .i64 0] 130))).mono ?_); rintro e wY ⟨rfl, hby⟩; have HkN2 : Hid (Below wA.heap.size wA wY) := belNJ (belAJ HkN.out _) hby; have HZY : Hid (ZQ wY wX.heap.size) := ZQ.below hby (ZQ.new wX); obtain ⟨_, _, _, _, _, _⟩ := HZY.out; clear hby)
              | fail)
            all_goals
              go_wp2_with fail
              go_meet
              case rel =>
                first
                  | exact ⟨_, rfl, ZQ.set HZY.out HkN2.out (Nat.le_refl _) _ _ _ _⟩
                  | exact ⟨_, rfl, ZQ.set HZY.out HkN2.out HkN.out.size _ _ _ _⟩
                  | exact ⟨wY.heap.size, rfl, belAJ HkN2.out _, by rw [World.cell?_alloc_new]; rfl, by rw [World.cell?_alloc_new]; rfl, by rw [World.cell?_alloc_new]; rfl, by rw [World.cell?_alloc_new]; rfl⟩
          case rest =>
          obtain ⟨nb, rfl, hbx, k0, k1, k2, k3⟩ := hcut
          obtain ⟨wx, hwx⟩ : ∃ wx, wx = wc := ⟨_, rfl⟩
          obtain rfl := hwx
          have HTX : Hid (TO W wx (w.heap.size + 1 + 1 + 1 + 1 + 1) (.slice (some ⟨g, 0, none⟩) M c) (qs ++ [(r, r')]) (ys ++ [.slice (some ⟨b, oa, none⟩) r.length ka, .slice (some ⟨b', ob, none⟩) r'.length kb]) ST) := HTA.out.1.call hbx
          have HMB : Hid (w8.heap.size ≠ w.heap.size + 1 + 1 + 1 + 1 + 1) := by have := HT8.out.mlt; show _ ≠ _; omega
          obtain ⟨m0, m1⟩ := HQA.out wx hbx
          have HPX : Hid (∀ wq, Below W.heap.size W wq → PlainP wq (nmL il ia).1 ∧ PlainP wq (nmL jl ja).1) := fun wq hb => ⟨plainP_keep HPW.out.2.1 (fun b o e => hb.block b (nm_lt HSI.out.1.r e)), plainP_keep HPW.out.2.2 (fun b o e => hb.block b (nm_lt HSI.out.2.r e))⟩
          obtain ⟨q, hlk, hq⟩ := lookup_pair HTX.out.map (HPX.out wx HTX.out.bel).1 (HPX.out wx HTX.out.bel).2
          rw [HKV.out] at hlk
          have hlk0 := hlk wx rfl
          have hlk1 := hlk wx.drew rfl
          have HQ : Hid (q = true → Kn W ST (nmL il ia) (nmL jl ja)) := hq
          have hal : ∀ O, Below wx.heap.size wx (wx.alloc O) := fun O => (Below.refl _ _).alloc (Nat.le_refl _) _
          have HSUM : Hid (msr (qs ++ [(r, r')]) < msr (qs ++ [(.mk xk xn xs xl :: r, .mk yk yn ys' yl :: r')]) ∧ msr (qs ++ [(r, r')] ++ [(il, jl)]) < msr (qs ++ [(.mk xk xn xs xl :: r, .mk yk yn ys' yl :: r')])) := by
            have h9 := cnt_sum xk xn xs xl r
            rw [← HCC.out.2.1] at h9
            rw [msr_snoc, msr_snoc, msr_snoc, msr_snoc]
            dsimp only
            exact ⟨by omega, by omega⟩
          have HMQ : Hid (msr (qs ++ [(.mk xk xn xs xl :: r, .mk yk yn ys' yl :: r')]) ≤ 2000000001) := HMS.out
          clear hbx hlk hq HT8 HNX HNY HNN HIX HIY HOA HFX HFY HTA HQA HPT
          cases q
          · obtain ⟨wB, hwB⟩ : ∃ wB, wB = wx.alloc (.cells #[] 131) := ⟨_, rfl⟩
            have hbB : Below wx.heap.size wx wB := by rw [hwB]; exact hal _
            have hTB := HTX.out.call hbB
            obtain ⟨wU, hup, htn, hmp⟩ := update_pair hTB.map (HPX.out wB hTB.bel).1 (HPX.out wB hTB.bel).2
            rw [HKV.out] at hup
            have hTU : TO W wU (w.heap.size + 1 + 1 + 1 + 1 + 1) (.slice (some ⟨g, 0, none⟩) M c) (qs ++ [(r, r')]) (ys ++ [.slice (some ⟨b, oa, none⟩) r.length ka, .slice (some ⟨b', ob, none⟩) r'.length kb]) ((il, jl) :: (r, r') :: qs.reverse) := hTB.upd htn (hmp.mono (fun a b' hab => by
              rcases hab with hab | ⟨rfl, rfl⟩
              · rw [HSTE.out] at hab
                refine Kn.mono (fun l1 l2 hm => ?_) hab
                rw [HCC.out.2.1, HCC.out.2.2.1]
                exact hm.push HZ.out
              · exact ⟨il, jl, ia, ja, rfl, rfl, HSI.out.1.r, HSI.out.2.r, Mok.new _ _ _⟩))
            have t0 : wU.cell? ⟨w8.heap.size, 0, none⟩ = some (.slice ia il.length ic) := htn.cell HMB.out (keepJ hbB m0)
            have t1 : wU.cell? ⟨w8.heap.size, 1, none⟩ = some (.slice ja jl.length jc) := htn.cell HMB.out (keepJ hbB m1)
            have HTU := hidJ hTU
            have HFIN : Hid (∀ v' w9, w9.ownsRow W.heap.size 117 2 v' (M + 1) ((ys ++ [.slice (some ⟨b, oa, none⟩) r.length ka, .slice (some ⟨b', ob, none⟩) r'.length kb]) ++ [.slice ia il.length ic, .slice ja jl.length jc]) → (wU.alloc (.cells #[.slice ia il.length ic, .slice ja jl.length jc] 117)).grownBy w9 (Value.slice (some ⟨g, 0, none⟩) M c).ownBlock → ∃ xs, msr (qs ++ [(r, r')] ++ [(il, jl)]) ≤ 2000000001 ∧ TO W w9 (w.heap.size + 1 + 1 + 1 + 1 + 1) v' (qs ++ [(r, r')] ++ [(il, jl)]) xs (qs ++ [(r, r')] ++ [(il, jl)]).reverse ∧ stackC (qs ++ [(r, r')] ++ [(il, jl)]).reverse = C) := fun v' w9 h1 h2 => by
              have hTa := HTU.out.call ((Below.refl _ _).alloc (Nat.le_refl _) (.cells #[.slice ia il.length ic, .slice ja jl.length jc] 117))
              have h3 := hTa.more HSI.out.1 HSI.out.2 HPW.out.1 (by rw [List.length_append, List.length_singleton, ← HN.out.1, ← HN.out.2]; exact h1) h2
              have e9 : (qs ++ [(r, r')] ++ [(il, jl)]).reverse = (il, jl) :: (r, r') :: qs.reverse := by simp
              refine ⟨_, by have := HSUM.out.2; have := HMQ.out; omega, by rw [e9]; exact h3, ?_⟩
              have h5 := HST.out
              rw [HSTE.out, stackC_step _ _ _ _ _ _ _ _ _ _ _ HZ.out, ← HCC.out.2.1, ← HCC.out.2.2.1] at h5
              rw [e9]; exact h5
            have HO7 : Hid ((wU.alloc (.cells #[.slice ia il.length ic, .slice ja jl.length jc] 117)).ownsRow W.heap.size 117 2 (.slice (some ⟨g, 0, none⟩) M c) M (ys ++ [.slice (some ⟨b, oa, none⟩) r.length ka, .slice (some ⟨b', ob, none⟩) r'.length kb]) ∧ W.heap.size ≤ (wU.alloc (.cells #[.slice ia il.length ic, .slice ja jl.length jc] 117)).heap.size) := by
              have h5 := HTU.out.row
              rw [List.length_append, List.length_singleton, ← HN.out.1, ← HN.out.2] at h5
              refine ⟨h5.alloc _, ?_⟩
              have := HTU.out.bel.size
              rw [World.size_alloc]; omega
            have HNW : Hid (∀ j u, ([.slice ia il.length ic, .slice ja jl.length jc] : List Value)[j]? = some u → (wU.alloc (.cells #[.slice ia il.length ic, .slice ja jl.length jc] 117)).cell? ((⟨wU.heap.size, 0, none⟩ : Addr).add j) = some u) := twoCells
            have C3 : Hid (M + 1 ≤ maxLen ∧ (M + 1) * 48 ≤ 140737488355328) := by
              have h5 := msr_len (qs ++ [(.mk xk xn xs xl :: r, .mk yk yn ys' yl :: r')])
              rw [List.length_append, List.length_singleton] at h5
              have h6 := HMQ.out
              have h7 := HN.out
              exact ⟨by unfold maxLen; omega, by omega⟩
            have k0' : wB.cell? ⟨nb, 0, none⟩ = some (.pointer P1) := keepJ hbB k0
            have k1' : wB.cell? ⟨nb, 1, none⟩ = some (.int .i64 n1) := keepJ hbB k1
            have k2' : wB.cell? ⟨nb, 2, none⟩ = some (.pointer P2) := keepJ hbB k2
            have k3' : wB.cell? ⟨nb, 3, none⟩ = some (.int .i64 n2) := keepJ hbB k3
            rw [hwB] at k0' k1' k2' k3' hup
            have HSU : Hid (msr (qs ++ [(r, r')] ++ [(il, jl)]) < msr (qs ++ [(.mk xk xn xs xl :: r, .mk yk yn ys' yl :: r')])) := HSUM.out.2
            clear hwB hbB hTB htn hmp hTU hal m0 m1 HTX HQ HSUM
            go_wp2_with (at_builtin; refine wpList_append_own_at _ rfl _ _ 118 rfl W.heap.size 117 i0 (.agg #[.slice none 0 0, .slice none 0 0]) 2 48 undSides HI.out.1 HI.out.2.1 HI.out.2.2.1 HI.out.2.2.2 rfl (by decide) (.slice (some ⟨g, 0, none⟩) M c) M (ys ++ [.slice (some ⟨b, oa, none⟩) r.length ka, .slice (some ⟨b', ob, none⟩) r'.length kb]) rfl HO7.out.1 ⟨wU.heap.size, 0, none⟩ 1 1 [.slice ia il.length ic, .slice ja jl.length jc] rfl rfl HNW.out twoOne C3.out.1 C3.out.2 HO7.out.2 ?_; intro v8 w9 hown8 hgr8 hnn8 hat8; have HG8 := hidJ (HFIN.out v8 w9 hown8 hgr8); clear hown8 hgr8 hnn8 hat8)
            go_roundg (msr (qs ++ [(r, r')] ++ [(il, jl)]))
            case measure => exact HSU.out
            case rel =>
              obtain ⟨zs, g1, g2, g3⟩ := HG8.out
              exact ⟨_, zs, rfl, g1, g2, g3⟩
          · obtain ⟨WK, hWK⟩ : ∃ WK, WK = wx.alloc (.cells #[] 131) := ⟨_, rfl⟩
            have HTK : Hid (TO W WK (w.heap.size + 1 + 1 + 1 + 1 + 1) (.slice (some ⟨g, 0, none⟩) M c) (qs ++ [(r, r')]) (ys ++ [.slice (some ⟨b, oa, none⟩) r.length ka, .slice (some ⟨b', ob, none⟩) r'.length kb]) ((r, r') :: qs.reverse) ∧ stackC ((r, r') :: qs.reverse) = C) := by
              have hbK : Below wx.heap.size wx WK := by rw [hWK]; exact hal _
              have h := HTX.out.call hbK
              have hm := Kn.hit (HQ.out rfl) HSI.out.1.r HSI.out.2.r
              have hz : cmpL (wiL xk xl) (wiL yk yl) = 0 := by
                rw [HSTE.out, HCC.out.2.1, HCC.out.2.2.1] at hm
                exact hm.same
              refine ⟨⟨h.bel, h.row, h.stk, h.map.mono (fun a b2 hab => ?_), h.mlo⟩, ?_⟩
              · rw [HSTE.out] at hab
                exact Kn.mono (fun l1 l2 hm2 => hm2.skip HZ.out hz) hab
              · have h5 := HST.out
                rw [HSTE.out, stackC_skip HZ.out hz] at h5
                exact h5
            have HSU : Hid (msr (qs ++ [(r, r')]) < msr (qs ++ [(.mk xk xn xs xl :: r, .mk yk yn ys' yl :: r')]) ∧ msr (qs ++ [(r, r')]) ≤ 2000000001) := ⟨HSUM.out.1, by have := HSUM.out.1; have := HMQ.out; omega⟩
            clear hal m0 m1 HTX HQ HSUM
            go_wp2_with fail
            rw [← hWK]
            clear hWK
            go_roundg (msr (qs ++ [(r, r')]))
            case measure => exact HSU.out.1
            case rel => exact ⟨_, _, rfl, HSU.out.2, by rw [List.reverse_append]; exact HTK.out.1, by rw [List.reverse_append]; exact HTK.out.2⟩
        · have HF : Hid (cc = C) := by
            have h := HST.out
            rw [HSTE.out, stackC_unlike xk xn xs xl yk yn ys' yl r r' qs.reverse (by rw [← HCC.out.1]; exact hc0), ← HCC.out.1] at h
            exact h
          have hc1 : (cc != 0) = true := by simp [bne, hc0]
          have hc2 : (cc == 0) = false := by simp [hc0]
          have HBR : Hid (Below w.heap.size w w8) := HB9.out _ HT8.out.bel
          go_wp2_with fail
          go_ret
          exact ⟨ret_i HF.out, HBR.out⟩
end Go.Proofs.Ytabgfaafpgholaa
