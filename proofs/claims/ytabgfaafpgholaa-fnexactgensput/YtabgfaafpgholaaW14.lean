/-
  spec.PutTerm.
-/
import Derived.Test.YtabgfaafpgholaaW13
namespace Go.Proofs.Ytabgfaafpgholaa
open Go.RowKit
set_option linter.unusedVariables false

/-- What stands where behind the two copies. -/
structure At0 (w w' : World) (hv : Value) (T : Array Value) (xs : List Int) (A : List ByteArray) (m : PM) (o1 n1 : Nat) : Prop where
  be : Below w.heap.size w w'
  hc : w'.cell? ⟨w.heap.size, 0, none⟩ = some hv
  tc : ∀ o, w'.cell? ⟨w.heap.size + 1, o, none⟩ = T[o]?
  rc : w'.cell? ⟨w.heap.size + 1 + 1, 0, none⟩ = some (.slice none 0 0)
  rf : w'.frozen? ⟨w.heap.size + 1 + 1, 0, none⟩ = false
  l1 : w.heap.size + 1 + 1 < o1
  l2 : o1 < n1
  l3 : n1 < w'.heap.size
  l4 : w.heap.size + 1 + 1 < m.gw
  l5 : w.heap.size + 1 + 1 < m.ga
  ps : PS ⟨o1, 0, n1, w.heap.size⟩ m w' xs A
theorem own_low {w : World} {base base' : Nat} {e : TypeId} {v : Value} {n : Nat} {xs : List Value} (h : w.ownsRow base e 1 v n xs) (hb : base' ≤ base) : w.ownsRow base' e 1 v n xs := by
  refine ⟨h.1, ?_⟩
  rcases h.2 with h0 | ⟨g, cap, cur, h1, h2, h3⟩
  · exact .inl h0
  · exact .inr ⟨g, cap, cur, h1, by omega, h3⟩
theorem at0_of {w w1 w2 : World} {hv : Value} {T : Array Value} {xs : List Int} {A : List ByteArray} {g c g2 c2 : Nat} {ty1 ty2 ty3 ty4 ty5 ty6 : TypeId}
    (hb1 : Below (((w.alloc (.cells #[hv] ty1)).alloc (.cells T ty2)).alloc (.cells #[.slice none 0 0] ty3)).heap.size (((w.alloc (.cells #[hv] ty1)).alloc (.cells T ty2)).alloc (.cells #[.slice none 0 0] ty3)) w1)
    (ho1 : w1.ownsRow (((w.alloc (.cells #[hv] ty1)).alloc (.cells T ty2)).alloc (.cells #[.slice none 0 0] ty3)).heap.size 3 1 (.slice (some ⟨g, 0, none⟩) xs.length c) xs.length (xs.map (Value.int .i64)))
    (hg2 : ((w1.alloc (.cells #[.slice (some ⟨g, 0, none⟩) xs.length c] ty4)).alloc (.cells #[] ty5)).grownBy w2 (some (w1.heap.size + 1)))
    (ho2 : w2.ownsRow (w1.heap.size + 1) 9 1 (.slice (some ⟨g2, 0, none⟩) A.length c2) A.length (A.map Value.string)) :
    At0 w (w2.alloc (.cells #[.slice (some ⟨g2, 0, none⟩) A.length c2] ty6)) hv T xs A ⟨g, c, g2, c2⟩ w1.heap.size w2.heap.size := by
  have s0 : (((w.alloc (.cells #[hv] ty1)).alloc (.cells T ty2)).alloc (.cells #[.slice none 0 0] ty3)).heap.size = w.heap.size + 1 + 1 + 1 := by simp only [World.size_alloc]
  have s1 := hb1.size
  have s2 := hg2.size
  have s3 : ((w1.alloc (.cells #[.slice (some ⟨g, 0, none⟩) xs.length c] ty4)).alloc (.cells #[] ty5)).heap.size = w1.heap.size + 1 + 1 := by simp only [World.size_alloc]
  have l1 := ho1.lt g rfl
  have l2 := ho2.lt g2 rfl
  have old : ∀ b, b < w1.heap.size → (w2.alloc (.cells #[.slice (some ⟨g2, 0, none⟩) A.length c2] ty6)).heap[b]? = w1.heap[b]? := fun b hb => by
    rw [Below.heap_alloc _ _ _ (by omega), hg2.block b (by omega) (by simp; omega), Below.heap_alloc _ _ _ (by rw [World.size_alloc]; omega), Below.heap_alloc _ _ _ hb]
  have b0 : Below w.heap.size w (((w.alloc (.cells #[hv] ty1)).alloc (.cells T ty2)).alloc (.cells #[.slice none 0 0] ty3)) := by
    have b1 : Below w.heap.size w ((w.alloc (.cells #[hv] ty1)).alloc (.cells T ty2)) := ((Below.refl _ _).alloc (Nat.le_refl _) _).alloc (by rw [World.size_alloc]; omega) _
    exact b1.alloc b1.size _
  have e1 : ∀ b o, b < w.heap.size + 1 + 1 + 1 → (w2.alloc (.cells #[.slice (some ⟨g2, 0, none⟩) A.length c2] ty6)).cell? ⟨b, o, none⟩ = (((w.alloc (.cells #[hv] ty1)).alloc (.cells T ty2)).alloc (.cells #[.slice none 0 0] ty3)).cell? ⟨b, o, none⟩ ∧ (w2.alloc (.cells #[.slice (some ⟨g2, 0, none⟩) A.length c2] ty6)).frozen? ⟨b, o, none⟩ = (((w.alloc (.cells #[hv] ty1)).alloc (.cells T ty2)).alloc (.cells #[.slice none 0 0] ty3)).frozen? ⟨b, o, none⟩ := fun b o hb => by
    have e := (old b (by omega)).trans (hb1.block b (by omega))
    exact ⟨World.cell?_of_block e, World.frozen?_of_block e⟩
  have e2 : (w2.alloc (.cells #[.slice (some ⟨g2, 0, none⟩) A.length c2] ty6)).heap[w1.heap.size]? = (w1.alloc (.cells #[.slice (some ⟨g, 0, none⟩) xs.length c] ty4)).heap[w1.heap.size]? := by
    rw [Below.heap_alloc _ _ _ (by omega), hg2.block w1.heap.size (by omega) (by simp), Below.heap_alloc _ _ _ (by rw [World.size_alloc]; omega)]
  refine ⟨⟨?_, ?_, ?_, ?_, ?_⟩, ?_, ?_, ?_, ?_, by show _ < w1.heap.size; omega, by show w1.heap.size < w2.heap.size; omega, by rw [World.size_alloc]; omega, by show _ < g; omega, by show _ < g2; omega, ⟨by show w1.heap.size ≠ w2.heap.size; omega, by show w1.heap.size ≠ g; omega, by show w1.heap.size ≠ g2; omega, by show w2.heap.size ≠ g; omega, by show w2.heap.size ≠ g2; omega, ?_, ?_, ?_, ?_, ?_, ?_⟩⟩
  · exact hg2.os.trans (hb1.os.trans b0.os)
  · exact hg2.tape.trans (hb1.tape.trans b0.tape)
  · exact hg2.output.trans (hb1.output.trans b0.output)
  · rw [World.size_alloc]; omega
  · intro b hb
    exact ((old b (by omega)).trans (hb1.block b (by omega))).trans (b0.block b hb)
  · rw [(e1 w.heap.size 0 (by omega)).1, World.cell?_alloc_past _ _ _ (by simp only [World.size_alloc]; omega), World.cell?_alloc_past _ _ _ (by rw [World.size_alloc]; omega), World.cell?_alloc_at _ _ _ _ rfl]
    rfl
  · intro o
    rw [(e1 (w.heap.size + 1) o (by omega)).1, World.cell?_alloc_past _ _ _ (by simp only [World.size_alloc]; omega), World.cell?_alloc_at _ _ _ _ (by rw [World.size_alloc])]
  · rw [(e1 (w.heap.size + 1 + 1) 0 (by omega)).1, World.cell?_alloc_at _ _ _ _ (by simp only [World.size_alloc])]
    rfl
  · rw [(e1 (w.heap.size + 1 + 1) 0 (by omega)).2, World.frozen?_alloc_at _ _ _ _ (by simp only [World.size_alloc])]
  · show World.cell? _ ⟨w1.heap.size, 0, none⟩ = _
    rw [World.cell?_of_block (w := w1.alloc (.cells #[.slice (some ⟨g, 0, none⟩) xs.length c] ty4)) e2, World.cell?_alloc_at _ _ _ _ rfl]
    rfl
  · show World.frozen? _ ⟨w1.heap.size, 0, none⟩ = _
    rw [World.frozen?_of_block (w := w1.alloc (.cells #[.slice (some ⟨g, 0, none⟩) xs.length c] ty4)) e2, World.frozen?_alloc_at _ _ _ _ rfl]
  · show World.cell? _ ⟨w2.heap.size, 0, none⟩ = _
    rw [World.cell?_alloc_at _ _ _ _ rfl]
    rfl
  · show World.frozen? _ ⟨w2.heap.size, 0, none⟩ = _
    rw [World.frozen?_alloc_at _ _ _ _ rfl]
  · have k1 : w2.ownsRow w.heap.size 3 1 (.slice (some ⟨g, 0, none⟩) xs.length c) xs.length (xs.map (Value.int .i64)) := (((own_low ho1 (by omega)).alloc _).alloc _).kept hg2 (Or.inr (by simp [Value.ownBlock]; omega))
    exact k1.alloc _
  · exact (own_low (base' := w.heap.size) ho2 (by omega)).alloc _
theorem At0.drew {w w3 : World} {hv : Value} {T : Array Value} {xs : List Int} {A : List ByteArray} {m : PM} {o1 n1 : Nat} (h : At0 w w3 hv T xs A m o1 n1) : At0 w w3.drew hv T xs A m o1 n1 := ⟨h.be.drew, h.hc, h.tc, h.rc, h.rf, h.l1, h.l2, h.l3, h.l4, h.l5, h.ps.drew⟩
theorem At0.below {w w3 w4 : World} {hv : Value} {T : Array Value} {xs : List Int} {A : List ByteArray} {m : PM} {o1 n1 : Nat} (h : At0 w w3 hv T xs A m o1 n1) (hb : Below w3.heap.size w3 w4) : At0 w w4 hv T xs A m o1 n1 := by
  have l1 := h.l1
  have l2 := h.l2
  have l3 := h.l3
  refine ⟨h.be.trans (hb.mono h.be.size), ?_, fun o => ?_, ?_, ?_, h.l1, h.l2, by have := hb.size; omega, h.l4, h.l5, h.ps.below hb⟩
  · rw [hb.cell (p := ⟨w.heap.size, 0, none⟩) (by show w.heap.size < _; omega)]; exact h.hc
  · rw [hb.cell (p := ⟨w.heap.size + 1, o, none⟩) (by show w.heap.size + 1 < _; omega)]; exact h.tc o
  · rw [hb.cell (p := ⟨w.heap.size + 1 + 1, 0, none⟩) (by show w.heap.size + 1 + 1 < _; omega)]; exact h.rc
  · rw [hb.frozen (p := ⟨w.heap.size + 1 + 1, 0, none⟩) (by show w.heap.size + 1 + 1 < _; omega)]; exact h.rf
/-- Behind l5Put. -/
theorem At0.put {w w3 w4 : World} {hv : Value} {T : Array Value} {xs ys : List Int} {A B : List ByteArray} {m m' : PM} {o1 n1 : Nat} (h : At0 w w3 hv T xs A m o1 n1) (hp : PS ⟨o1, 0, n1, w.heap.size⟩ m' w4 ys B) (hf : Fr ⟨o1, 0, n1, w.heap.size⟩ m w3 w4) (hm : Mv m m' w3.heap.size) : At0 w w4 hv T ys B m' o1 n1 := by
  have l1 := h.l1
  have l2 := h.l2
  have l3 := h.l3
  have l4 := h.l4
  have l5 := h.l5
  have sz := hf.size
  have c := fun (b : Nat) (hb : b < w.heap.size + 1 + 1 + 1) (o : Nat) => hf.cell (b := b) (by omega) (by show b ≠ o1; omega) (by show b ≠ n1; omega) (by omega) (by omega) o
  have hs := h.be.size
  refine ⟨⟨hf.os.trans h.be.os, hf.tape.trans h.be.tape, hf.output.trans h.be.output, by omega, fun b hb => (hf.block b (by omega) (by show b ≠ o1; omega) (by show b ≠ n1; omega) (by omega) (by omega)).trans (h.be.block b hb)⟩, ?_, fun o => ?_, ?_, ?_, h.l1, h.l2, by omega, by rcases hm.w with e | e <;> omega, by rcases hm.a with e | e <;> omega, hp⟩
  · rw [(c w.heap.size (by omega) 0).1]; exact h.hc
  · rw [(c (w.heap.size + 1) (by omega) o).1]; exact h.tc o
  · rw [(c (w.heap.size + 1 + 1) (by omega) 0).1]; exact h.rc
  · rw [(c (w.heap.size + 1 + 1) (by omega) 0).2]; exact h.rf
theorem At0.fin {w w3 : World} {hv : Value} {T : Array Value} {xs : List Int} {A : List ByteArray} {m : PM} {o1 n1 : Nat} (h : At0 w w3 hv T xs A m o1 n1) (u : Value) : PtA w (w3.setCell ⟨w.heap.size + 1 + 1, 0, none⟩ u) m.gw m.cw m.ga m.ca xs A := by
  have l4 := h.l4
  have l5 := h.l5
  exact ⟨own_other h.ps.wr (by omega) _, own_other h.ps.ar (by omega) _, h.be.setCell (by show w.heap.size ≤ w.heap.size + 1 + 1; omega) _⟩
theorem PtA.drew {w w' : World} {g c ga ca : Nat} {xs : List Int} {A : List ByteArray} (h : PtA w w' g c ga ca xs A) : PtA w w'.drew g c ga ca xs A := ⟨h.wr, h.ar, h.be.drew⟩
set_option maxHeartbeats 8000000 in
set_option maxRecDepth 100000 in
theorem putTerm_anyN (w : World) (hv : Value) (xs : List Int) (ab ao ac : Nat) (A : List ByteArray) (t : Tm) (v : Value) (hW : WV w w.heap.size hv xs) (hA : Txt w ab ao A) (hab : ab < w.heap.size) (hR : RpV (fun b => b < w.heap.size) w t v) (hx : xs.length ≤ 1048576) (hal : A.length ≤ 1048576) (hat : (look t 6 100).isSome = true → A.length + nT t ≤ 1048577) :
    Calls Try.prog 9 #[.agg #[hv], .slice (some ⟨ab, ao, none⟩) A.length ac, v] w (Pt w t xs A) := by
  obtain ⟨k, n, s, l⟩ := t
  obtain ⟨ax, cap, rfl, hs, hlc, hcm, hr⟩ := hR
  have hvs : ∃ p q r, hv = .slice p q r := by
    rcases hW with ⟨rfl, _⟩ | ⟨b, c, rfl, _⟩
    · exact ⟨_, _, _, rfl⟩
    · exact ⟨_, _, _, rfl⟩
  obtain ⟨hp, hq, hr', rfl⟩ := hvs
  have HW : Hid (WV w w.heap.size (.slice hp hq hr') xs) := hW
  have HX : Hid (xs.length ≤ 1048576) := hx
  have HWW : Hid (∀ w', Below w.heap.size w w' → WV w' w'.heap.size (.slice hp hq hr') xs) := fun w' hb => by
    rcases HW.out with ⟨e1, e2⟩ | ⟨b, c, e1, e2, e3⟩
    · exact .inl ⟨e1, e2⟩
    · exact .inr ⟨b, c, e1, by have := hb.size; omega, fun j hj => by rw [hb.cell (p := ⟨b, j, none⟩) e2]; exact e3 j hj⟩
  have HB0 : Hid (∀ o1 o2 o3 : Obj, Below w.heap.size w (((w.alloc o1).alloc o2).alloc o3)) := fun o1 o2 o3 => by
    have b1 : Below w.heap.size w ((w.alloc o1).alloc o2) := ((Below.refl _ _).alloc (Nat.le_refl _) o1).alloc (by rw [World.size_alloc]; omega) o2
    exact b1.alloc b1.size _
  have HN : Hid (∀ (w1 : World) (X : Obj), ((w1.alloc X).alloc (.cells #[] 9)).ownsRow (w1.heap.size + 1) 9 1 (.slice (some ⟨w1.heap.size + 1, 0, none⟩) 0 0) 0 []) := fun w1 X => by
    have h := World.ownsRow_made (e := 9) (size := 1) (w1.alloc X) #[] 0 (Nat.le_refl _) (Nat.zero_le _) rfl
    rw [World.size_alloc] at h
    exact h
  have HZ : Hid (∀ (w1 : World) (X Y : Obj), w1.heap.size + 1 ≤ ((w1.alloc X).alloc Y).heap.size) := fun w1 X Y => by simp only [World.size_alloc]; omega
  have HC : Hid (∀ (w1 : World) (X Y : Obj), Below w.heap.size w w1 → ∀ j u, (A.map Value.string)[j]? = some u → ((w1.alloc X).alloc Y).cell? ((⟨ab, ao, none⟩ : Addr).add j) = some u) := fun w1 X Y hb => by
    have b1 : Below w.heap.size w ((w1.alloc X).alloc Y) := (hb.alloc hb.size X).alloc (by rw [World.size_alloc]; have := hb.size; omega) Y
    exact srcT (fun j hj => by rw [b1.cell (p := ⟨ab, ao + j, none⟩) hab]; exact hA j hj)
  have HL : Hid ((A.map Value.string).length = A.length * 1) := by show _ = _; simp
  have C3 : Hid (0 + A.length ≤ maxLen) := by show _ ≤ _; unfold maxLen; omega
  have C4 : Hid ((0 + A.length) * 16 ≤ 140737488355328) := by show _ ≤ _; omega
  have HN2 : Hid (∀ (w1 : World), (w1.alloc (.cells #[] 9)).ownsRow w1.heap.size 9 1 (.slice (some ⟨w1.heap.size, 0, none⟩) 0 0) 0 []) := fun w1 => World.ownsRow_made w1 #[] 0 (Nat.le_refl _) (Nat.zero_le _) rfl
  have HZ2 : Hid (∀ (w1 : World) (X : Obj), w1.heap.size ≤ (w1.alloc X).heap.size) := fun w1 X => by simp only [World.size_alloc]; omega
  have HC2 : Hid (∀ (w1 : World) (X : Obj), Below w.heap.size w w1 → ∀ j u, (A.map Value.string)[j]? = some u → (w1.alloc X).cell? ((⟨ab, ao, none⟩ : Addr).add j) = some u) := fun w1 X hb => by
    have b1 : Below w.heap.size w (w1.alloc X) := hb.alloc hb.size X
    exact srcT (fun j hj => by rw [b1.cell (p := ⟨ab, ao + j, none⟩) hab]; exact hA j hj)
  obtain ⟨i0, hi, hz0, hz1, hz2⟩ := info_parts infoStr1
  have HI : Hid (Try.prog.info? 9 = some i0 ∧ i0.zero = some (.string ByteArray.empty) ∧ i0.size = 1 ∧ i0.bytes = 16) := ⟨hi, hz0, hz1, hz2⟩
  have HAL : Hid (A.length ≤ 1048576) := hal
  have HAT : Hid ((look (.mk k n s l) 6 100).isSome = true → A.length + nT (.mk k n s l) ≤ 1048577) := hat
  have HRR : Hid (RpL (fun b => b < w.heap.size) w l ax) := hr
  have HSS : Hid (s.size ≤ maxLen ∧ l.length ≤ cap ∧ cap ≤ maxLen) := ⟨hs, hlc, hcm⟩
  clear hW hx hi hz0 hz1 hz2 hA hal hat hr hs hlc hcm
  go_enter Try.func9, Try.ntmps9
  go_wp2_with (first
    | (go_at_call 39; refine (copy_any _ _ xs (HWW.out _ (HB0.out _ _ _)) (by have := HX.out; omega)).mono ?_; rintro e w1 ⟨g, c, rfl, hown1, hb1⟩; have HO1 : Hid (w1.ownsRow _ 3 1 (.slice (some ⟨g, 0, none⟩) xs.length c) xs.length (xs.map (Value.int .i64))) := hown1; have HB1 : Hid (Below _ _ w1) := hb1; have HBW : Hid (Below w.heap.size w w1) := (HB0.out _ _ _).trans (hb1.mono (HB0.out _ _ _).size); clear hown1 hb1)
    | (at_builtin; refine wpList_append_own_at _ rfl _ _ 25 rfl (w1.heap.size + 1) 9 i0 (.string ByteArray.empty) 1 16 undStrs1 HI.out.1 HI.out.2.1 HI.out.2.2.1 HI.out.2.2.2 rfl Nat.zero_lt_one (.slice (some ⟨w1.heap.size + 1, 0, none⟩) 0 0) 0 [] rfl (HN.out w1 _) ⟨ab, ao, none⟩ A.length ac (A.map Value.string) rfl HL.out (HC.out w1 _ _ HBW.out) (oneT A) C3.out C4.out (HZ.out w1 _ _) ?_; intro v2 w2 hown2 hgr2 hnn2 hat2; rw [Nat.zero_add, List.nil_append] at hown2; obtain ⟨g2, c2, rfl⟩ := ownForm hown2 (fun e => by have := (hnn2.1 e).1; cases this)))
  have h0 := at0_of (ty6 := 25) HB1.out HO1.out hgr2 hown2
  have H0 : Hid (At0 w _ _ _ xs A ⟨g, c, g2, c2⟩ w1.heap.size w2.heap.size) := h0
  clear HN HZ HC HB1 HO1 HBW hgr2 hown2 hnn2 hat2 h0 HB0
  generalize w2.alloc (.cells #[.slice (some ⟨g2, 0, none⟩) A.length c2] 25) = w3 at *
  generalize w1.heap.size = o1 at *
  generalize w2.heap.size = n1 at *
  obtain ⟨m, hm⟩ : ∃ m : PM, (⟨g, c, g2, c2⟩ : PM) = m := ⟨_, rfl⟩
  rw [hm] at H0
  have hqe : hq = xs.length := by
    rcases HW.out with ⟨e1, e2⟩ | ⟨b, c, e1, e2, e3⟩
    · injection e1 with _ e1; rw [e2]; exact e1
    · injection e1 with _ e1
  subst hqe
  have HREP : Hid (∀ w', Below w.heap.size w w' → RpV (fun b => b < w.heap.size) w' (.mk k n s l) (.agg #[.int .i64 k, .int .i64 n, .string s, .slice ax l.length cap])) := fun w' hb => ⟨ax, cap, rfl, HSS.out.1, HSS.out.2.1, HSS.out.2.2, Moves.repL (fun b o v hlt hc => ⟨hlt, by rw [hb.cell (p := ⟨b, o, none⟩) hlt]; exact hc⟩) _ _ HRR.out⟩
  have h1 := H0.out.hc
  have h2 := H0.out.tc
  clear hm HW HRR HSS
  cases hlk : (look (.mk k n s l) 6 100).isSome with
  | false =>
    have HLK : Hid ((look (.mk k n s l) 6 100).isSome = false) := hlk
    have HPR : Hid (PtR (.mk k n s l) xs A = none) := by show _ = _; unfold PtR; rw [if_neg]; rw [hlk]; simp
    clear hlk
    first
    | go_region_law (go_simp; go_wp2_with (go_at_call 40; refine (specOk_any (.mk k n s l) 0 _ _ (HREP.out _ H0.out.drew.be).rep).mono ?_; rintro e w4 ⟨rfl, hb4⟩; rw [HLK.out]; have H4 : Hid (At0 w w4 _ _ xs A m o1 n1) := H0.out.drew.below hb4; clear hb4))
    | fail
    all_goals
      have k3 := H4.out.rc
      have k4 := H4.out.rf
      have k5 := H4.out.ps.wc
      have k6 := H4.out.ps.ac
      have k7 : ∀ u, (w4.setCell ⟨w.heap.size + 1 + 1, 0, none⟩ u).cell? ⟨n1, 0, none⟩ = some (.slice (some ⟨m.ga, 0, none⟩) A.length m.ca) := fun u => by rw [World.cell?_setCell_other (h := fun e => by simp only [Addr.mk.injEq] at e; have := H4.out.l1; have := H4.out.l2; omega)]; exact k6
      clear h1 h2 H0
      go_wp2_with fail
      go_region_law go_simp
      all_goals
        go_wp2_with fail
        have hfin : Pt w (.mk k n s l) xs A (.returned (.tuple #[.agg #[.slice (some ⟨m.gw, 0, none⟩) xs.length m.cw], .slice (some ⟨m.ga, 0, none⟩) A.length m.ca, .int .i64 0, .bool false])) ((w4.setCell ⟨w.heap.size + 1 + 1, 0, none⟩ (.slice (some ⟨m.gw, 0, none⟩) xs.length m.cw)).drew) := ⟨m.gw, m.cw, m.ga, m.ca, xs, A, 0, false, rfl, (H4.out.fin _).drew, .inl ⟨rfl, rfl, rfl, rfl, HPR.out⟩⟩
        have hcell : (w4.setCell ⟨w.heap.size + 1 + 1, 0, none⟩ (.slice (some ⟨m.gw, 0, none⟩) xs.length m.cw)).cell? ⟨w.heap.size + 1 + 1, 0, none⟩ = some (.slice (some ⟨m.gw, 0, none⟩) xs.length m.cw) := World.cell?_setCell_same _ _ _ k3
        exact bodyPost_ret (v := .tuple #[.agg #[.slice (some ⟨m.gw, 0, none⟩) xs.length m.cw], .slice (some ⟨m.ga, 0, none⟩) A.length m.ca, .int .i64 0, .bool false]) (by simp [results, Try.results9, go_sem, hcell, Act.put]) rfl hfin
  | true =>
    have HLK : Hid ((look (.mk k n s l) 6 100).isSome = true) := hlk
    obtain ⟨b1, b2, b3⟩ := look_b hlk
    have HG : Hid (goodT (.mk k n s l)) := b1
    obtain ⟨y, hy⟩ : ∃ y, ndT (.mk k n s l) = y := ⟨_, rfl⟩
    have HY : Hid (ndT (.mk k n s l) = y) := hy
    have hy2 : y ≤ 4100 := by omega
    obtain ⟨q, hq⟩ : ∃ q : Nat, xs.length + y = q := ⟨_, rfl⟩
    have hxs := HX.out
    have hw1 : IntKind.i64.wrap ((xs.length : Int) + (y : Int)) = (q : Int) := by rw [IntKind.wrap_i64]; omega
    have HQ : Hid (xs.length + y = q) := hq
    have HNT : Hid (nT (.mk k n s l) ≤ 100) := b2
    have HY2 : Hid (ndT (.mk k n s l) ≤ 1000000) := by show _ ≤ _; omega
    clear hlk b1 b2 b3 hy hy2 hq hxs
    first
    | go_region_law (go_simp; go_wp2_with (first | (go_at_call 40; refine (specOk_any (.mk k n s l) 0 _ _ (HREP.out _ H0.out.drew.be).rep).mono ?_; rintro e w4 ⟨rfl, hb4⟩; rw [HLK.out]; have H4 : Hid (At0 w w4 _ _ xs A m o1 n1) := H0.out.drew.below hb4; have h14 := H4.out.hc; have h24 := H4.out.tc; clear hb4) | (go_at_call 41; refine (nd_all (.mk k n s l) 0 _ _ (HREP.out _ H4.out.be).rep HY2.out).mono ?_; rintro e w5 ⟨rfl, hb5⟩; rw [HY.out]; have H5 : Hid (At0 w w5 _ _ xs A m o1 n1) := H4.out.below hb5; have h15 := H5.out.hc; have h25 := H5.out.tc; clear hb5)))
    | fail
    all_goals
      clear H0 H4 h1 h2 h14 h24
      by_cases hq2 : 2000 < q
      · have k3 := H5.out.rc
        have k4 := H5.out.rf
        have k5 := H5.out.ps.wc
        have k6 := H5.out.ps.ac
        have k7 : ∀ u, (w5.setCell ⟨w.heap.size + 1 + 1, 0, none⟩ u).cell? ⟨n1, 0, none⟩ = some (.slice (some ⟨m.ga, 0, none⟩) A.length m.ca) := fun u => by rw [World.cell?_setCell_other (h := fun e => by simp only [Addr.mk.injEq] at e; have := H5.out.l1; have := H5.out.l2; omega)]; exact k6
        have hq3 : (2000 : Int) < (q : Int) := by omega
        have HPR : Hid (PtR (.mk k n s l) xs A = none) := by show _ = _; unfold PtR; rw [if_neg]; have := HQ.out; have := HY.out; omega
        clear h15 h25
        go_wp2_with fail
        go_region_law go_simp
        all_goals
          go_wp2_with fail
          have hfin : Pt w (.mk k n s l) xs A (.returned (.tuple #[.agg #[.slice (some ⟨m.gw, 0, none⟩) xs.length m.cw], .slice (some ⟨m.ga, 0, none⟩) A.length m.ca, .int .i64 0, .bool false])) ((w5.setCell ⟨w.heap.size + 1 + 1, 0, none⟩ (.slice (some ⟨m.gw, 0, none⟩) xs.length m.cw)).drew) := ⟨m.gw, m.cw, m.ga, m.ca, xs, A, 0, false, rfl, (H5.out.fin _).drew, .inl ⟨rfl, rfl, rfl, rfl, HPR.out⟩⟩
          have hcell : (w5.setCell ⟨w.heap.size + 1 + 1, 0, none⟩ (.slice (some ⟨m.gw, 0, none⟩) xs.length m.cw)).cell? ⟨w.heap.size + 1 + 1, 0, none⟩ = some (.slice (some ⟨m.gw, 0, none⟩) xs.length m.cw) := World.cell?_setCell_same _ _ _ k3
          exact bodyPost_ret (v := .tuple #[.agg #[.slice (some ⟨m.gw, 0, none⟩) xs.length m.cw], .slice (some ⟨m.ga, 0, none⟩) A.length m.ca, .int .i64 0, .bool false]) (by simp [results, Try.results9, go_sem, hcell, Act.put]) rfl hfin
      · have hq3 : ¬ (2000 : Int) < (q : Int) := by omega
        have HPR : Hid (PtR (.mk k n s l) xs A = ptT (.mk k n s l) xs.length A) := by show _ = _; unfold PtR; rw [if_pos]; exact ⟨HLK.out, by have := HQ.out; have := HY.out; omega⟩
        have HPUT : Hid (Calls Try.prog 42 #[.pointer (some ⟨o1, 0, none⟩), .pointer (some ⟨n1, 0, none⟩), .agg #[.int .i64 k, .int .i64 n, .string s, .slice ax l.length cap]] w5 (Put ⟨o1, 0, n1, w.heap.size⟩ m w5 xs A (ptT (.mk k n s l) xs.length A) (ndT (.mk k n s l)) (nT (.mk k n s l)) (LayT (.mk k n s l) xs.length))) := by
          have l1 := H5.out.l1
          have l2 := H5.out.l2
          refine put_all (.mk k n s l) ⟨o1, 0, n1, w.heap.size⟩ m w5 xs A _ H5.out.ps ?_ HG.out (by have := HX.out; have := HY.out; have := HQ.out; omega) (HAT.out HLK.out)
          obtain ⟨ax', cap', e1, e2, e3, e4, e5⟩ := HREP.out w5 H5.out.be
          refine ⟨ax', cap', e1, e2, e3, e4, Moves.repL (fun b o v hlt hc => ⟨⟨hlt, ?_, ?_⟩, hc⟩) _ _ e5⟩
          · show b ≠ o1
            have : b < w.heap.size := hlt
            omega
          · show b ≠ n1
            have : b < w.heap.size := hlt
            omega
        go_wp2_with (first
          | (go_at_call 42; refine HPUT.out.mono ?_; rintro e w6 ⟨x, ok, m2, ns, A2, rfl, r1, r2, r3, r4, r5, r6⟩; obtain ⟨zs, hzs⟩ : ∃ zs, xs ++ ns = zs := ⟨_, rfl⟩; rw [hzs] at r1; have HZS : Hid (xs ++ ns = zs) := hzs; have H6 : Hid (At0 w w6 _ _ zs A2 m2 o1 n1) := H5.out.put r1 r2 r3; have HR6 : Hid ((ok = true ∧ ptT (.mk k n s l) xs.length A = some (ns, A2, x)) ∨ (ok = false ∧ ptT (.mk k n s l) xs.length A = none)) := r6.imp id (fun h => ⟨h.1, h.2.1⟩); have HLE : Hid (zs.length ≤ 2000 ∧ A2.length ≤ A.length + 100) := ⟨(by rw [← hzs, List.length_append, r4]; have := HY.out; have := HQ.out; omega), (by have := HNT.out; omega)⟩; have h16 := H6.out.hc; clear r1 r2 r3 r4 r5 r6 hzs)
          | (go_at_call 39; refine (copy_any _ _ xs (HWW.out _ H6.out.be) (by have := HX.out; omega)).mono ?_; rintro e w7 ⟨g7, c7, rfl, hown7, hb7⟩; have HO7 : Hid (w7.ownsRow w6.heap.size 3 1 (.slice (some ⟨g7, 0, none⟩) xs.length c7) xs.length (xs.map (Value.int .i64))) := hown7; have H7 : Hid (At0 w w7 _ _ zs A2 m2 o1 n1) := H6.out.below hb7; have HB7 : Hid (Below w6.heap.size w6 w7) := hb7; clear hown7 hb7)
          | (at_builtin; refine wpList_append_own_at _ rfl _ _ 25 rfl w7.heap.size 9 i0 (.string ByteArray.empty) 1 16 undStrs1 HI.out.1 HI.out.2.1 HI.out.2.2.1 HI.out.2.2.2 rfl Nat.zero_lt_one (.slice (some ⟨w7.heap.size, 0, none⟩) 0 0) 0 [] rfl (HN2.out w7) ⟨ab, ao, none⟩ A.length ac (A.map Value.string) rfl HL.out (HC2.out w7 _ H7.out.be) (oneT A) C3.out C4.out (HZ2.out w7 _) ?_; intro v8 w8 hown8 hgr8 hnn8 hat8; rw [Nat.zero_add, List.nil_append] at hown8; obtain ⟨g8, c8, rfl⟩ := ownForm hown8 (fun e => by have := (hnn8.1 e).1; cases this); have HB8 : Hid (Below w7.heap.size w7 w8) := ((Below.refl _ _).alloc (Nat.le_refl _) _).grown hgr8 (HZ2.out w7 _) (fun j hj => by have e : some w7.heap.size = some j := hj; injection e with e; omega); have H8 : Hid (At0 w w8 _ _ zs A2 m2 o1 n1) := H7.out.below HB8.out; have HO8 : Hid (w8.ownsRow w7.heap.size 9 1 (.slice (some ⟨g8, 0, none⟩) A.length c8) A.length (A.map Value.string)) := hown8; have rc8 := H8.out.rc; have rf8 := H8.out.rf; clear hown8 hgr8 hnn8 hat8))
        · have hok : ok = false := by cases ok <;> simp_all
          have HPN : Hid (PtR (.mk k n s l) xs A = none) := by
            show _ = _
            rw [HPR.out]
            rcases HR6.out with ⟨e, _⟩ | ⟨_, e⟩
            · rw [hok] at e; cases e
            · exact e
          have l1 := H8.out.l1
          have l2 := H8.out.l2
          have l3 := H6.out.l3
          have s7 := HB7.out.size
          have n7 := HO7.out.lt g7 rfl
          have n8 := HO8.out.lt g8 rfl
          have o7 : w8.ownsRow w.heap.size 3 1 (.slice (some ⟨g7, 0, none⟩) xs.length c7) xs.length (xs.map (Value.int .i64)) := (own_low (base' := w.heap.size) HO7.out (by omega)).kept ⟨HB8.out.os, HB8.out.tape, HB8.out.output, HB8.out.size, fun j hj _ => HB8.out.block j hj⟩ (row := none) (Or.inr (by simp [Value.ownBlock]))
          have hfin : Pt w (.mk k n s l) xs A (.returned (.tuple #[.agg #[.slice (some ⟨g7, 0, none⟩) xs.length c7], .slice (some ⟨g8, 0, none⟩) A.length c8, .int .i64 0, .bool false])) (w8.setCell ⟨w.heap.size + 1 + 1, 0, none⟩ (.slice (some ⟨g7, 0, none⟩) xs.length c7)) := ⟨g7, c7, g8, c8, xs, A, 0, false, rfl, ⟨own_other o7 (by omega) _, own_other (own_low (base' := w.heap.size) HO8.out (by omega)) (by omega) _, H8.out.be.setCell (by show w.heap.size ≤ w.heap.size + 1 + 1; omega) _⟩, .inl ⟨rfl, rfl, rfl, rfl, HPN.out⟩⟩
          have hcell : (w8.setCell ⟨w.heap.size + 1 + 1, 0, none⟩ (.slice (some ⟨g7, 0, none⟩) xs.length c7)).cell? ⟨w.heap.size + 1 + 1, 0, none⟩ = some (.slice (some ⟨g7, 0, none⟩) xs.length c7) := World.cell?_setCell_same _ _ _ rc8
          exact bodyPost_ret (v := .tuple #[.agg #[.slice (some ⟨g7, 0, none⟩) xs.length c7], .slice (some ⟨g8, 0, none⟩) A.length c8, .int .i64 0, .bool false]) (by simp [results, Try.results9, go_sem, hcell]) rfl hfin
        · have hok : ok = true := by cases ok <;> simp_all
          have HPN : Hid (∃ ns, zs = xs ++ ns ∧ PtR (.mk k n s l) xs A = some (ns, A2, x)) := by
            show ∃ ns, _
            rcases HR6.out with ⟨_, e⟩ | ⟨e, _⟩
            · exact ⟨ns, HZS.out.symm, HPR.out.trans e⟩
            · rw [hok] at e; cases e
          have k3 := H6.out.rc
          have k4 := H6.out.rf
          have k5 := H6.out.ps.wc
          have k6 := H6.out.ps.ac
          have k7 : ∀ u, (w6.setCell ⟨w.heap.size + 1 + 1, 0, none⟩ u).cell? ⟨n1, 0, none⟩ = some (.slice (some ⟨m2.ga, 0, none⟩) A2.length m2.ca) := fun u => by rw [World.cell?_setCell_other (h := fun e => by simp only [Addr.mk.injEq] at e; have := H6.out.l1; have := H6.out.l2; omega)]; exact k6
          go_region_law go_simp
          all_goals
            go_wp2_with fail
            have hfin : Pt w (.mk k n s l) xs A (.returned (.tuple #[.agg #[.slice (some ⟨m2.gw, 0, none⟩) zs.length m2.cw], .slice (some ⟨m2.ga, 0, none⟩) A2.length m2.ca, .int .i64 x, .bool true])) ((w6.setCell ⟨w.heap.size + 1 + 1, 0, none⟩ (.slice (some ⟨m2.gw, 0, none⟩) zs.length m2.cw)).drew) := ⟨m2.gw, m2.cw, m2.ga, m2.ca, zs, A2, x, true, rfl, (H6.out.fin _).drew, .inr ⟨rfl, HPN.out, HLE.out⟩⟩
            have hcell : (w6.setCell ⟨w.heap.size + 1 + 1, 0, none⟩ (.slice (some ⟨m2.gw, 0, none⟩) zs.length m2.cw)).cell? ⟨w.heap.size + 1 + 1, 0, none⟩ = some (.slice (some ⟨m2.gw, 0, none⟩) zs.length m2.cw) := World.cell?_setCell_same _ _ _ k3
            exact bodyPost_ret (v := .tuple #[.agg #[.slice (some ⟨m2.gw, 0, none⟩) zs.length m2.cw], .slice (some ⟨m2.ga, 0, none⟩) A2.length m2.ca, .int .i64 x, .bool true]) (by simp [results, Try.results9, go_sem, hcell]) rfl hfin
theorem putTerm_any (w : World) (hv : Value) (xs : List Int) (ab ao ac : Nat) (A : List ByteArray) (t : Tm) (v : Value) (hW : WV w w.heap.size hv xs) (hA : Txt w ab ao A) (hab : ab < w.heap.size) (hR : RpV (fun b => b < w.heap.size) w t v) (hx : xs.length ≤ 2000) (hal : A.length ≤ 1000) :
    Calls Try.prog 9 #[.agg #[hv], .slice (some ⟨ab, ao, none⟩) A.length ac, v] w (Pt w t xs A) :=
  putTerm_anyN w hv xs ab ao ac A t v hW hA hab hR (by omega) (by omega) (fun h => by
    have := (look_b h).2.1
    omega)
end Go.Proofs.Ytabgfaafpgholaa
