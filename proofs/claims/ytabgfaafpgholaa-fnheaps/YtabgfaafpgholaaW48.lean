/-
  A heap that is drawn, and a term that is to be put on it.
-/
import Derived.Test.YtabgfaafpgholaaW26
import Derived.Test.YtabgfaafpgholaaW33
import Derived.Test.YtabgfaafpgholaaW47
namespace Go.Proofs.Ytabgfaafpgholaa
open Go.RowKit
set_option linter.unusedVariables false

/-- Words, atoms and roots that were put there. -/
structure Hw5 (w : World) (p : Option Addr) (b r : Nat) (xs : List Int) (ga : Nat) (A : List ByteArray) (gr : Nat) (ws : List Int) : Prop where
  hp : Hp5 w p b r xs ga A gr ws
  lb : p ≠ none → b < w.heap.size
  la : ga < w.heap.size
  rd : RDH xs A ws
theorem Hw5.keep {w w' : World} {p : Option Addr} {b r : Nat} {xs : List Int} {ga : Nat} {A : List ByteArray} {gr : Nat} {ws : List Int} (h : Hw5 w p b r xs ga A gr ws) (hs : w.heap.size ≤ w'.heap.size) (hk : ∀ k, k = b ∨ k = ga ∨ k = gr → k < w.heap.size → w'.heap[k]? = w.heap[k]?) : Hw5 w' p b r xs ga A gr ws := by
  have e : ∀ k o v, (k = b ∨ k = ga ∨ k = gr) → w.cell? ⟨k, o, none⟩ = some v → w'.cell? ⟨k, o, none⟩ = some v := fun k o v hk1 hc => by
    rw [World.cell?_of_block (w := w) (hk k hk1 (World.block_lt_of_cell? w _ hc))]; exact hc
  have h0 := h.hp
  exact ⟨⟨h0.lst, fun j hj => e _ _ _ (.inl rfl) (h0.wc j hj), fun j hj => e _ _ _ (.inr (.inl rfl)) (h0.tx j hj), fun j hj => e _ _ _ (.inr (.inr rfl)) (h0.rt j hj), h0.xl, h0.al, h0.wl, h0.wn, h0.bw⟩, fun hn => Nat.lt_of_lt_of_le (h.lb hn) hs, Nat.lt_of_lt_of_le h.la hs, h.rd⟩
theorem Hw5.below {w w' : World} {p : Option Addr} {b r : Nat} {xs : List Int} {ga : Nat} {A : List ByteArray} {gr : Nat} {ws : List Int} (h : Hw5 w p b r xs ga A gr ws) (hb : Below w.heap.size w w') : Hw5 w' p b r xs ga A gr ws :=
  h.keep hb.size (fun k _ hl => hb.block k hl)
theorem Hw5.wv {w : World} {p : Option Addr} {b r : Nat} {xs : List Int} {ga : Nat} {A : List ByteArray} {gr : Nat} {ws : List Int} (h : Hw5 w p b r xs ga A gr ws) : WV w w.heap.size (.slice p xs.length r) xs := by
  rcases h.hp.lst with ⟨e, _⟩ | ⟨e1, e2, e3⟩
  · exact .inr ⟨b, r, by rw [e], h.lb (by rw [e]; exact fun h => by cases h), h.hp.wc⟩
  · exact .inl ⟨by rw [e1, e2, e3], List.eq_nil_of_length_eq_zero e2⟩
theorem D5.hw {cb : Nat} {ao : Option Addr} {len cap : Nat} {zs : List Int} {w w' : World} {p : Option Addr} {q r : Nat} {ga ca gr cr : Nat} {xs : List Int} {A : List ByteArray} {ws : List Int} (d : D5 cb ao len cap zs w w' (.slice p q r) ga ca gr cr xs A ws) :
    q = xs.length ∧ w.heap.size ≤ blk w.heap.size (.slice p q r) ∧ w.heap.size ≤ ga ∧ w.heap.size ≤ gr ∧ Hw5 w' p (blk w.heap.size (.slice p q r)) r xs ga A gr ws := by
  obtain ⟨k0, k1, k2, k3⟩ := ownW_lst d.wo
  have ha := d.ar.lt ga rfl
  have hr := d.rr.lt gr rfl
  refine ⟨k0, k2, ha.1, hr.1, ⟨k1, k3, (own_txt d.ar).1, own_ints d.rr, d.xl, by have := d.al; omega, by have := d.wl; omega, d.wn, d.bw.1⟩, fun hn => ?_, ha.2, d.bw.2⟩
  rcases k1 with ⟨e, _⟩ | ⟨e, _⟩
  · exact (d.wo.block (g := blk w.heap.size (.slice p q r)) (by
      have e2 : blk w.heap.size (.slice p q r) = blk w.heap.size (.slice p q r) := rfl
      generalize hB : blk w.heap.size (.slice p q r) = B at *
      rw [e]; rfl)).2
  · exact absurd e hn
set_option maxHeartbeats 4000000 in
set_option maxRecDepth 100000 in
theorem drawHeap_any (w : World) (ao : Option Addr) (len cap : Nat) (zs : List Int) (hr : IsRow w ao len cap zs) (hsm : len ≤ 1048576) :
    Calls Try.prog 23 #[.slice ao len cap] w fun e w' => ∃ p b r xs ga ca A gr cr ws, e = .returned (.tuple #[.agg #[.slice p xs.length r], .slice (some ⟨ga, 0, none⟩) A.length ca, .slice (some ⟨gr, 0, none⟩) ws.length cr]) ∧ Hw5 w' p b r xs ga A gr ws ∧ Below w.heap.size w w' := by
  have HR : Hid (IsRow w ao len cap zs) := hr
  clear hr
  go_enter Try.func23, Try.ntmps23
  go_wp2_with fail
  generalize hW0 : w.alloc (.cells #[.slice none 0 0] 32) = w0
  have hb0 : Below w.heap.size w w0 := by rw [← hW0]; exact (Below.refl _ _).alloc (Nat.le_refl _) _
  have c0 : w0.cell? ⟨w.heap.size, 0, none⟩ = some (.slice none 0 0) := by rw [← hW0]; exact World.cell?_alloc_new w _ _ 0
  have f0 : w0.frozen? ⟨w.heap.size, 0, none⟩ = false := by rw [← hW0]; exact World.frozen?_alloc_new w _ _ 0
  have hz0 : w0.heap.size = w.heap.size + 1 := by rw [← hW0]; exact World.size_alloc _ _
  have HR0 : Hid (IsRow w0 ao len cap zs) := HR.out.below hb0
  have HB0 : Hid (Below w.heap.size w w0) := hb0
  clear hW0 hb0 HR
  refine (new_any _ ao len cap zs HR0.out hsm).mono ?_
  rintro e w1 ⟨rfl, hc1, hb1, hz1⟩
  obtain ⟨cb, hcb⟩ : ∃ cb, w0.heap.size = cb := ⟨_, rfl⟩
  rw [hcb] at hc1 hz1 ⊢
  have HC1 : Hid (Cur cb ao len cap zs w1) := hc1
  have HB1 : Hid (Below w.heap.size w w1) := bjoin HB0.out hb1
  have HZ : Hid (cb < w1.heap.size ∧ w.heap.size < cb) := ⟨by omega, by omega⟩
  have c1 : w1.cell? ⟨w.heap.size, 0, none⟩ = some (.slice none 0 0) := by rw [hb1.cell (p := ⟨w.heap.size, 0, none⟩) (by show w.heap.size < _; omega)]; exact c0
  have f1 : w1.frozen? ⟨w.heap.size, 0, none⟩ = false := by rw [hb1.frozen (p := ⟨w.heap.size, 0, none⟩) (by show w.heap.size < _; omega)]; exact f0
  clear hc1 hb1 hz1 hcb hz0 c0 f0
  go_wp2_with fail
  refine (draw5_any cb ao len cap zs w1 HC1.out HZ.out.1).mono ?_
  rintro e w2 ⟨hv, ga, ca, gr, cr, xs, A, ws, rfl, h5⟩
  obtain ⟨p, q, r, rfl⟩ := hv_form h5.wo
  have c2 := h5.dr.2.cell (by have := HZ.out.2; omega) c1
  have f2 : w2.frozen? ⟨w.heap.size, 0, none⟩ = false := by
    have hl : w.heap.size < w1.heap.size := World.block_lt_of_cell? _ _ c1
    rw [World.frozen?_of_block (w := w1) (h5.dr.2.block w.heap.size hl (by have := HZ.out.2; omega))]; exact f1
  obtain ⟨rfl, n1, n2, n3, hw⟩ := h5.hw
  generalize hB : blk w1.heap.size (.slice p xs.length r) = b at *
  have HF : Hid (∀ u, Hw5 (w2.setCell ⟨w.heap.size, 0, none⟩ u) p b r xs ga A gr ws ∧ Below w.heap.size w (w2.setCell ⟨w.heap.size, 0, none⟩ u)) := fun u => by
    have hl : w.heap.size < w1.heap.size := World.block_lt_of_cell? _ _ c1
    have hbb : Below w.heap.size w w2 := Turn.below HB1.out (by omega) h5.dr.2 (by have := HZ.out.2; omega)
    exact ⟨hw.keep (by rw [World.size_setCell]; exact Nat.le_refl _) (fun k hk _ => Below.heap_setCell _ _ _ _ (by show k ≠ w.heap.size; omega)), hbb.setCell (Nat.le_refl _) _⟩
  clear h5 c1 f1 hw n1 n2 n3 hB
  go_wp2_with fail
  exact bodyPost_ret (v := .tuple #[.agg #[.slice p xs.length r], .slice (some ⟨ga, 0, none⟩) A.length ca, .slice (some ⟨gr, 0, none⟩) ws.length cr]) (by simp [results, Try.results23, go_sem, World.cell?_setCell_same _ _ _ c2]) rfl ⟨p, b, r, xs, ga, ca, A, gr, cr, ws, rfl, HF.out _⟩
/-- What DrawPutTerm has in hand. -/
structure Kd (cb : Nat) (ao : Option Addr) (len cap : Nat) (zs : List Int) (w wr : World) : Prop where
  be : Below w.heap.size w wr
  cu : Cur cb ao len cap zs wr
  gt : w.heap.size + 2 ≤ cb
  q2 : wr.cell? ⟨w.heap.size, 0, none⟩ = some (.slice none 0 0)
  f2 : wr.frozen? ⟨w.heap.size, 0, none⟩ = false
  q4 : ∀ o, wr.cell? ⟨w.heap.size + 1, o, none⟩ = (#[.int .i64 0, .int .i64 0, .string ⟨#[]⟩, .slice none 0 0] : Array Value)[o]?
  f4 : ∀ o, wr.frozen? ⟨w.heap.size + 1, o, none⟩ = false
theorem Kd.keep {cb : Nat} {ao : Option Addr} {len cap : Nat} {zs : List Int} {w wr w5 : World} (h : Kd cb ao len cap zs w wr) (hb : Below w.heap.size w w5) (hc : Cur cb ao len cap zs w5) (hk : ∀ k, k < w.heap.size + 2 → w5.heap[k]? = wr.heap[k]?) : Kd cb ao len cap zs w w5 := by
  have k0 := hk w.heap.size (by omega)
  have k1 := hk (w.heap.size + 1) (by omega)
  exact ⟨hb, hc, h.gt, by rw [World.cell?_of_block (w := wr) k0]; exact h.q2, by rw [World.frozen?_of_block (w := wr) k0]; exact h.f2,
    fun o => by rw [World.cell?_of_block (w := wr) k1]; exact h.q4 o, fun o => by rw [World.frozen?_of_block (w := wr) k1]; exact h.f4 o⟩
theorem Kd.lt {cb : Nat} {ao : Option Addr} {len cap : Nat} {zs : List Int} {w wr : World} (h : Kd cb ao len cap zs w wr) : w.heap.size + 2 ≤ wr.heap.size := by
  have h0 : wr.cell? ⟨w.heap.size + 1, 0, none⟩ = some (.int .i64 0) := h.q4 0
  have := World.block_lt_of_cell? wr _ h0
  exact this
theorem Kd.turn {cb : Nat} {ao : Option Addr} {len cap : Nat} {zs : List Int} {w wr w5 : World} (h : Kd cb ao len cap zs w wr) (d : Drawn cb ao len cap zs wr w5) : Kd cb ao len cap zs w w5 := by
  have hl := h.lt
  have hg := h.gt
  exact h.keep (Turn.below h.be h.be.size d.2 (by omega)) d.1 (fun k hk => d.2.block k (by omega) (by omega))
theorem Kd.below {cb : Nat} {ao : Option Addr} {len cap : Nat} {zs : List Int} {w wr w5 : World} (h : Kd cb ao len cap zs w wr) (hb : Below wr.heap.size wr w5) : Kd cb ao len cap zs w w5 := by
  have hl := h.lt
  exact h.keep (bjoin h.be hb) (h.cu.below hb) (fun k hk => hb.block k (by omega))
theorem Kd.setX {cb X : Nat} {ao : Option Addr} {len cap : Nat} {zs : List Int} {w wr : World} (h : Kd cb ao len cap zs w wr) (hX : cb < X) (v : Value) : Kd cb ao len cap zs w (wr.setCell ⟨X, 0, none⟩ v) := by
  have hg := h.gt
  exact h.keep (h.be.setCell (by show w.heap.size ≤ X; omega) v) (h.cu.same (fun b hb => Below.heap_setCell _ _ _ _ (by show b ≠ X; omega))) (fun k hk => Below.heap_setCell _ _ _ _ (by show k ≠ X; omega))
set_option maxHeartbeats 4000000 in
set_option maxRecDepth 100000 in
theorem drawPut_any (w : World) (ao : Option Addr) (len cap : Nat) (zs : List Int) (hr : IsRow w ao len cap zs) (hsm : len ≤ 1048576) :
    Calls Try.prog 24 #[.slice ao len cap] w fun e w' => ∃ p q r a n c t v, e = .returned (.tuple #[.agg #[.slice p q r], .slice a n c, v]) ∧ OwV w' w.heap.size t v ∧ BnT 46 t ∧ Below w.heap.size w w' := by
  have HR : Hid (IsRow w ao len cap zs) := hr
  clear hr
  go_enter Try.func24, Try.ntmps24
  go_wp2_with fail
  obtain ⟨w0, hW0⟩ : ∃ w0, w0 = (w.alloc (.cells #[.slice none 0 0] 32)).alloc (.cells #[.int .i64 0, .int .i64 0, .string ⟨#[]⟩, .slice none 0 0] 39) := ⟨_, rfl⟩
  rw [← hW0]
  have hz0 : w0.heap.size = w.heap.size + 2 := by rw [hW0]; simp
  have hb0 : Below w.heap.size w w0 := by rw [hW0]; exact ((Below.refl _ _).alloc (Nat.le_refl _) _).alloc (by simp) _
  have q2 : w0.cell? ⟨w.heap.size, 0, none⟩ = some (.slice none 0 0) := by rw [hW0, World.cell?_alloc_past (hn := by simp), World.cell?_alloc_at (hn := rfl)]; rfl
  have q4 : ∀ o, w0.cell? ⟨w.heap.size + 1, o, none⟩ = (#[.int .i64 0, .int .i64 0, .string ⟨#[]⟩, .slice none 0 0] : Array Value)[o]? := fun o => by rw [hW0, World.cell?_alloc_at (hn := by simp)]
  have f2 : w0.frozen? ⟨w.heap.size, 0, none⟩ = false := by rw [hW0, World.frozen?_alloc_old (h := by simp), World.frozen?_alloc_new]
  have f4 : ∀ o, w0.frozen? ⟨w.heap.size + 1, o, none⟩ = false := fun o => by rw [hW0, World.frozen?_alloc_at (hn := by simp)]
  have HR0 : Hid (IsRow w0 ao len cap zs) := HR.out.below hb0
  clear hW0 HR
  refine (new_any _ ao len cap zs HR0.out hsm).mono ?_
  rintro e w1 ⟨rfl, hc1, hb1, hz1⟩
  obtain ⟨cb, hcb⟩ : ∃ cb, w0.heap.size = cb := ⟨_, rfl⟩
  have HK1 : Hid (Kd cb ao len cap zs w w1) := by
    have k0 := hb1.block w.heap.size (by omega)
    have k1 := hb1.block (w.heap.size + 1) (by omega)
    rw [← hcb]
    exact ⟨bjoin hb0 hb1, hc1, by omega, by rw [World.cell?_of_block (w := w0) k0]; exact q2, by rw [World.frozen?_of_block (w := w0) k0]; exact f2,
      fun o => by rw [World.cell?_of_block (w := w0) k1]; exact q4 o, fun o => by rw [World.frozen?_of_block (w := w0) k1]; exact f4 o⟩
  have HZ : Hid (cb < w1.heap.size ∧ w.heap.size + 2 = cb) := ⟨by omega, by omega⟩
  rw [hcb]
  clear hc1 hb1 hz1 hcb hz0 q2 q4 f2 f4 hb0
  go_wp2_with fail
  refine (draw5_any cb ao len cap zs w1 HK1.out.cu HZ.out.1).mono ?_
  rintro e w2 ⟨hv, ga, ca, gr, cr, xs, A, ws, rfl, h5⟩
  obtain ⟨p, q, r, rfl⟩ := hv_form h5.wo
  have HK2 : Hid (Kd cb ao len cap zs w w2) := HK1.out.turn h5.dr
  have hs2 := h5.dr.2.size
  clear h5
  go_wp2_with (go_at_call 54; fail)
  obtain ⟨w3, hW3⟩ : ∃ w3, w3 = w2.alloc (.cells #[.slice p q r] 32) := ⟨_, rfl⟩
  rw [← hW3]
  have HK3 : Hid (Kd cb ao len cap zs w w3) := by rw [hW3]; exact HK2.out.below ((Below.refl _ _).alloc (Nat.le_refl _) _)
  have q6 : w3.cell? ⟨w2.heap.size, 0, none⟩ = some (.slice p q r) := by rw [hW3]; exact World.cell?_alloc_new w2 _ _ 0
  have f6 : w3.frozen? ⟨w2.heap.size, 0, none⟩ = false := by rw [hW3]; exact World.frozen?_alloc_new w2 _ _ 0
  obtain ⟨X, hX⟩ : ∃ X, w2.heap.size = X := ⟨_, rfl⟩
  have HX : Hid (cb < X ∧ w.heap.size + 2 ≤ X) := by have := HZ.out; exact ⟨by omega, by omega⟩
  rw [hX] at q6 f6 ⊢
  clear hW3 hX hs2
  refine (once_any cb ao len cap zs w3 HK3.out.cu 20 (by decide) (by decide)).mono ?_
  rintro e w4 ⟨x, rfl, hd4⟩
  have HK4 : Hid (Kd cb ao len cap zs w w4) := HK3.out.turn hd4
  have hXc : X ≠ cb := by have := HX.out; omega
  have q6' := hd4.2.cell hXc q6
  have f6' : w4.frozen? ⟨X, 0, none⟩ = false := by rw [hd4.2.frozen hXc (World.block_lt_of_cell? _ _ q6)]; exact f6
  clear hd4 q6 f6 hXc
  cases x
  rotate_left
  go_wp2_with (go_at_call 55; fail)
  refine (below_any cb ao len cap zs w4 HK4.out.cu 8 (by decide) (by decide)).mono ?_
  rintro e w5 ⟨x5, rfl, hx0, hx1, hd5⟩
  have HK5 : Hid (Kd cb ao len cap zs w w5) := HK4.out.turn hd5
  have hXc : X ≠ cb := by have := HX.out; omega
  have q6 := hd5.2.cell hXc q6'
  have f6 : w5.frozen? ⟨X, 0, none⟩ = false := by rw [hd5.2.frozen hXc (World.block_lt_of_cell? _ _ q6')]; exact f6'
  have hlX : X < w5.heap.size := World.block_lt_of_cell? _ _ q6
  obtain ⟨n, hn, V1⟩ : ∃ n : Nat, n ≤ 1048576 ∧ IntKind.i64.wrap (2000 - x5) = (n : Int) := ⟨(2000 - x5).toNat, by omega, by rw [IntKind.wrap_i64]; omega⟩
  have hmk := run_ints n hn
  have q6a : ∀ o, (w5.alloc o).cell? ⟨X, 0, none⟩ = some (.slice p q r) := fun o => by rw [World.cell?_alloc_lt (h := hlX)]; exact q6
  have f6a : ∀ o, (w5.alloc o).frozen? ⟨X, 0, none⟩ = false := fun o => by rw [World.frozen?_alloc_old (h := by show X ≠ _; omega)]; exact f6
  clear hd5 hXc q6' f6' hx0 hx1 hn
  go_wp2_with fail
  · obtain ⟨W, hW⟩ : ∃ W, W = (w5.setCell ⟨X, 0, none⟩ (.slice (some ⟨w5.heap.size, 0, none⟩) n n)).alloc (.cells (madeCells #[.int .i64 0] n) 3) := ⟨_, rfl⟩
    rw [← hW]
    have HKW : Hid (Kd cb ao len cap zs w W) := by rw [hW]; exact (HK5.out.setX HX.out.1 _).below ((Below.refl _ _).alloc (Nat.le_refl _) _)
    have qW : W.cell? ⟨X, 0, none⟩ = some (.slice (some ⟨w5.heap.size, 0, none⟩) n n) := by
      rw [hW, World.cell?_alloc_lt (h := by rw [World.size_setCell]; exact hlX)]
      exact World.cell?_setCell_same _ _ _ q6
    clear hW q6 f6 q6a f6a hlX V1 hmk HK5 HK4 HK3 HK2 HK1 HR0
    generalize (some ⟨w5.heap.size, 0, none⟩ : Option Addr) = p' at *
    have hlX : X < W.heap.size := World.block_lt_of_cell? _ _ qW
    have hXc : X ≠ cb := by have := HX.out; omega
    have hXz : ¬ X = w.heap.size ∧ ¬ X = w.heap.size + 1 := by have := HX.out; exact ⟨by omega, by omega⟩
    obtain ⟨hXa, hXb⟩ := hXz
    have KC : Hid (Kd cb ao len cap zs w W.drew) := HKW.out.below (Below.refl _ _).drew
    have HQ : Hid (∀ w8, Drawn cb ao len cap zs W.drew w8 → (Kd cb ao len cap zs w w8) ∧ ∃ pv, w8.cell? ⟨X, 0, none⟩ = some pv ∧ W.cell? ⟨X, 0, none⟩ = some pv) := fun w8 hd => ⟨KC.out.turn hd, _, hd.2.cell hXc qW, qW⟩
    go_region_law (go_simp; go_wp2_with (
      (go_at_call 56; refine (any_any cb ao len cap zs _ KC.out.cu).mono ?_; rintro e w8 ⟨t8, v8, rfl, how8, hbn8, hd8⟩; obtain ⟨ak, an, as', aao, alen, acap, rfl⟩ := how8.form; have HK8 : Hid (Kd cb ao len cap zs w w8) := KC.out.turn hd8; have q8 := hd8.2.cell hXc (w := W.drew) qW; have z2 := HK8.out.q2; have z2f := HK8.out.f2; have z4 := HK8.out.q4; have z4f := HK8.out.f4; have HO8 : Hid (OwV w8 W.drew.heap.size t8 (.agg #[.int .i64 ak, .int .i64 an, .string as', .slice aao alen acap]) ∧ BnT 46 t8) := ⟨how8, hbn8⟩; clear how8 hbn8 hd8)))
    all_goals
      have HF : Hid (∀ v0 v1 v2 v3 v4, OwV (((((w8.setCell ⟨w.heap.size, 0, none⟩ v0).setCell ⟨w.heap.size + 1, 0, none⟩ v1).setCell ⟨w.heap.size + 1, 1, none⟩ v2).setCell ⟨w.heap.size + 1, 2, none⟩ v3).setCell ⟨w.heap.size + 1, 3, none⟩ v4) w.heap.size t8 (.agg #[.int .i64 ak, .int .i64 an, .string as', .slice aao alen acap]) ∧ Below w.heap.size w (((((w8.setCell ⟨w.heap.size, 0, none⟩ v0).setCell ⟨w.heap.size + 1, 0, none⟩ v1).setCell ⟨w.heap.size + 1, 1, none⟩ v2).setCell ⟨w.heap.size + 1, 2, none⟩ v3).setCell ⟨w.heap.size + 1, 3, none⟩ v4)) := fun v0 v1 v2 v3 v4 => by
        have hX := HX.out
        have hz : W.drew.heap.size = W.heap.size := rfl
        refine ⟨(HO8.out.1.keepB (fun b hb hl => ?_)).lowB (by omega), ?_⟩
        · have n0 : b ≠ w.heap.size := by omega
          have n1 : b ≠ w.heap.size + 1 := by omega
          rw [Below.heap_setCell _ ⟨w.heap.size + 1, 3, none⟩ _ b n1, Below.heap_setCell _ ⟨w.heap.size + 1, 2, none⟩ _ b n1, Below.heap_setCell _ ⟨w.heap.size + 1, 1, none⟩ _ b n1, Below.heap_setCell _ ⟨w.heap.size + 1, 0, none⟩ _ b n1, Below.heap_setCell _ ⟨w.heap.size, 0, none⟩ _ b n0]
        · exact ((((HK8.out.be.setCell (Nat.le_refl _) v0).setCell (Nat.le_succ _) v1).setCell (Nat.le_succ _) v2).setCell (Nat.le_succ _) v3).setCell (Nat.le_succ _) v4
      go_wp2_with fail
      exact bodyPost_ret (v := .tuple #[.agg #[.slice p' n n], .slice (some ⟨ga, 0, none⟩) A.length ca, .agg #[.int .i64 ak, .int .i64 an, .string as', .slice aao alen acap]]) (by simp [results, Try.results24, go_sem, z2, z4]) rfl ⟨_, _, _, _, _, _, t8, _, rfl, (HF.out _ _ _ _ _).1, HO8.out.2, (HF.out _ _ _ _ _).2⟩
  · go_wp2_with fail
    obtain ⟨W, hW⟩ : ∃ W, W = w4 := ⟨_, rfl⟩
    have qW := q6'
    have HKW : Hid (Kd cb ao len cap zs w w4) := HK4.out
    clear f6' q6' HK4 HK3 HK2 HK1 HR0
    rw [← hW] at qW HKW ⊢
    clear hW
    have hlX : X < W.heap.size := World.block_lt_of_cell? _ _ qW
    have hXc : X ≠ cb := by have := HX.out; omega
    have hXz : ¬ X = w.heap.size ∧ ¬ X = w.heap.size + 1 := by have := HX.out; exact ⟨by omega, by omega⟩
    obtain ⟨hXa, hXb⟩ := hXz
    have KC : Hid (Kd cb ao len cap zs w W.drew) := HKW.out.below (Below.refl _ _).drew
    have HQ : Hid (∀ w8, Drawn cb ao len cap zs W.drew w8 → (Kd cb ao len cap zs w w8) ∧ ∃ pv, w8.cell? ⟨X, 0, none⟩ = some pv ∧ W.cell? ⟨X, 0, none⟩ = some pv) := fun w8 hd => ⟨KC.out.turn hd, _, hd.2.cell hXc qW, qW⟩
    go_region_law (go_simp; go_wp2_with (
      (go_at_call 56; refine (any_any cb ao len cap zs _ KC.out.cu).mono ?_; rintro e w8 ⟨t8, v8, rfl, how8, hbn8, hd8⟩; obtain ⟨ak, an, as', aao, alen, acap, rfl⟩ := how8.form; have HK8 : Hid (Kd cb ao len cap zs w w8) := KC.out.turn hd8; have q8 := hd8.2.cell hXc (w := W.drew) qW; have z2 := HK8.out.q2; have z2f := HK8.out.f2; have z4 := HK8.out.q4; have z4f := HK8.out.f4; have HO8 : Hid (OwV w8 W.drew.heap.size t8 (.agg #[.int .i64 ak, .int .i64 an, .string as', .slice aao alen acap]) ∧ BnT 46 t8) := ⟨how8, hbn8⟩; clear how8 hbn8 hd8)))
    all_goals
      have HF : Hid (∀ v0 v1 v2 v3 v4, OwV (((((w8.setCell ⟨w.heap.size, 0, none⟩ v0).setCell ⟨w.heap.size + 1, 0, none⟩ v1).setCell ⟨w.heap.size + 1, 1, none⟩ v2).setCell ⟨w.heap.size + 1, 2, none⟩ v3).setCell ⟨w.heap.size + 1, 3, none⟩ v4) w.heap.size t8 (.agg #[.int .i64 ak, .int .i64 an, .string as', .slice aao alen acap]) ∧ Below w.heap.size w (((((w8.setCell ⟨w.heap.size, 0, none⟩ v0).setCell ⟨w.heap.size + 1, 0, none⟩ v1).setCell ⟨w.heap.size + 1, 1, none⟩ v2).setCell ⟨w.heap.size + 1, 2, none⟩ v3).setCell ⟨w.heap.size + 1, 3, none⟩ v4)) := fun v0 v1 v2 v3 v4 => by
        have hX := HX.out
        have hz : W.drew.heap.size = W.heap.size := rfl
        refine ⟨(HO8.out.1.keepB (fun b hb hl => ?_)).lowB (by omega), ?_⟩
        · have n0 : b ≠ w.heap.size := by omega
          have n1 : b ≠ w.heap.size + 1 := by omega
          rw [Below.heap_setCell _ ⟨w.heap.size + 1, 3, none⟩ _ b n1, Below.heap_setCell _ ⟨w.heap.size + 1, 2, none⟩ _ b n1, Below.heap_setCell _ ⟨w.heap.size + 1, 1, none⟩ _ b n1, Below.heap_setCell _ ⟨w.heap.size + 1, 0, none⟩ _ b n1, Below.heap_setCell _ ⟨w.heap.size, 0, none⟩ _ b n0]
        · exact ((((HK8.out.be.setCell (Nat.le_refl _) v0).setCell (Nat.le_succ _) v1).setCell (Nat.le_succ _) v2).setCell (Nat.le_succ _) v3).setCell (Nat.le_succ _) v4
      go_wp2_with fail
      exact bodyPost_ret (v := .tuple #[.agg #[.slice p q r], .slice (some ⟨ga, 0, none⟩) A.length ca, .agg #[.int .i64 ak, .int .i64 an, .string as', .slice aao alen acap]]) (by simp [results, Try.results24, go_sem, z2, z4]) rfl ⟨_, _, _, _, _, _, t8, _, rfl, (HF.out _ _ _ _ _).1, HO8.out.2, (HF.out _ _ _ _ _).2⟩
end Go.Proofs.Ytabgfaafpgholaa
