/-
  Of every code what is read of the drawn words by the program is a term that is right, or nothing, just where the specification reads one: the law FnHeapRead returns true and its argument reads as before. No condition.
  (Ahead of it, in this text: DrawReadTerm; the law FnHeapRead, walked.)
-/
import Derived.Test.YthdoamdjhpkimaaPuO
import Derived.OpenShut
import Derived.ChangeOld
namespace Go.Proofs.Ythdoamdjhpkimaa
open Go.RowKit
set_option linter.unusedVariables false

theorem natOf5 {x : Int} (h : 0 ≤ x) : ∃ k : Nat, x = k := ⟨x.toNat, by omega⟩
theorem root_of {w : World} {p : Option Addr} {b r : Nat} {xs : List Int} {ga : Nat} {A : List ByteArray} {gr : Nat} {ws : List Int} (h : Hp5 w p b r xs ga A gr ws) {k : Nat} (hk : (k : Int) < (ws.length : Int)) : ∃ y, w.cell? ⟨gr, k, none⟩ = some (.int .i64 y) ∧ y ∈ ws := ⟨_, h.rt k (by omega), List.getElem_mem _⟩
theorem root_set {w w4 : World} {gr k : Nat} {v : Value} (h : w4.cell? ⟨gr, k, none⟩ = some v) (hn : w.heap.size < gr) : ∀ u, (w4.setCell ⟨w.heap.size, 0, none⟩ u).cell? ⟨gr, k, none⟩ = some v := fun u => by
  rw [World.cell?_setCell_other (h := fun e => by simp only [Addr.mk.injEq] at e; omega)]; exact h
theorem keep4t {w w' : World} (h : Below w.heap.size w w') {b : Nat} {x y z t : Value} (hc : ∀ o, w.cell? ⟨b, o, none⟩ = (#[x, y, z, t] : Array Value)[o]?) : ∀ o, w'.cell? ⟨b, o, none⟩ = (#[x, y, z, t] : Array Value)[o]? := fun o => by
  have h0 : w.cell? ⟨b, 0, none⟩ = some x := hc 0
  rw [h.cell (p := ⟨b, o, none⟩) (by have := World.block_lt_of_cell? w _ h0; exact this)]; exact hc o
set_option maxHeartbeats 4000000 in
set_option maxRecDepth 100000 in
theorem drawReadTerm_any (w : World) (ao : Option Addr) (len cap : Nat) (zs : List Int) (hr : IsRow w ao len cap zs) (hsm : len ≤ 1048576) :
    Calls Try.prog 10 #[.slice ao len cap] w fun e w' => ∃ p b r xs ga ca A gr ws x, e = .returned (.tuple #[.agg #[.slice p xs.length r], .slice (some ⟨ga, 0, none⟩) A.length ca, .int .i64 x]) ∧ Hp5 w' p b r xs ga A gr ws ∧ x ∈ ws ∧ Below w.heap.size w w' := by
  have HR : Hid (IsRow w ao len cap zs) := hr
  clear hr
  go_enter Try.func10, Try.ntmps10
  go_wp2_with fail
  generalize hW0 : w.alloc (.cells #[.slice none 0 0] 26) = w0
  have hb0 : Below w.heap.size w w0 := by rw [← hW0]; exact (Below.refl _ _).alloc (Nat.le_refl _) _
  have c0 : w0.cell? ⟨w.heap.size, 0, none⟩ = some (.slice none 0 0) := by rw [← hW0]; exact World.cell?_alloc_new w _ _ 0
  have f0 : w0.frozen? ⟨w.heap.size, 0, none⟩ = false := by rw [← hW0]; exact World.frozen?_alloc_new w _ _ 0
  have hz0 : w0.heap.size = w.heap.size + 1 := by rw [← hW0]; exact World.size_alloc _ _
  have HR0 : Hid (IsRow w0 ao len cap zs) := HR.out.below hb0
  have HB0 : Hid (Below w.heap.size w w0) := hb0
  clear hW0 hb0 HR
  refine (new_any _ ao len cap zs HR0.out hsm).mono ?_
  rintro e w1 ⟨rfl, hc1, hb1, hz1⟩
  obtain ⟨cb, hcb⟩ : ∃ cb, w0.heap.size = cb := ⟨_, rfl⟩
  rw [hcb] at hc1 hz1 ⊢
  have HC1 : Hid (Cur cb ao len cap zs w1) := hc1
  have HB1 : Hid (Below w.heap.size w w1) := bjoin HB0.out hb1
  have HZ : Hid (cb < w1.heap.size ∧ w.heap.size < cb) := ⟨by omega, by omega⟩
  have c1 : w1.cell? ⟨w.heap.size, 0, none⟩ = some (.slice none 0 0) := by rw [hb1.cell (p := ⟨w.heap.size, 0, none⟩) (by show w.heap.size < _; omega)]; exact c0
  have f1 : w1.frozen? ⟨w.heap.size, 0, none⟩ = false := by rw [hb1.frozen (p := ⟨w.heap.size, 0, none⟩) (by show w.heap.size < _; omega)]; exact f0
  clear hc1 hb1 hz1 hcb hz0 c0 f0
  go_wp2_with fail
  refine (any5_any cb ao len cap zs w1 HC1.out HZ.out.1).mono ?_
  rintro e w2 ⟨p, b, r, xs, ga, ca, A, gr, cr, ws, rfl, h5⟩
  have c2 := h5.dr.2.cell (by have := HZ.out.2; omega) c1
  have f2 : w2.frozen? ⟨w.heap.size, 0, none⟩ = false := by
    have hl : w.heap.size < w1.heap.size := World.block_lt_of_cell? _ _ c1
    rw [World.frozen?_of_block (w := w1) (h5.dr.2.block w.heap.size hl (by have := HZ.out.2; omega))]; exact f1
  have HE2 : Hid (E5 cb ao len cap zs w1 w2 p b r xs ga A gr ws) := h5
  have HL1 : Hid (w.heap.size < w1.heap.size) := World.block_lt_of_cell? _ _ c1
  clear h5 c1 f1
  go_wp2_with fail
  generalize hW3 : w2.alloc (.cells #[.slice p xs.length r] 26) = w3
  have hb3 : Below w2.heap.size w2 w3 := by rw [← hW3]; exact (Below.refl _ _).alloc (Nat.le_refl _) _
  have d3 : w3.cell? ⟨w2.heap.size, 0, none⟩ = some (.slice p xs.length r) := by rw [← hW3]; exact World.cell?_alloc_new w2 _ _ 0
  have hl2 : w.heap.size < w2.heap.size := World.block_lt_of_cell? _ _ c2
  have c3 : w3.cell? ⟨w.heap.size, 0, none⟩ = some (.slice none 0 0) := by rw [hb3.cell (p := ⟨w.heap.size, 0, none⟩) hl2]; exact c2
  have f3 : w3.frozen? ⟨w.heap.size, 0, none⟩ = false := by rw [hb3.frozen (p := ⟨w.heap.size, 0, none⟩) hl2]; exact f2
  have HD3 : Hid (Drawn cb ao len cap zs w1 w3) := ⟨HE2.out.dr.1.below hb3, HE2.out.dr.2.trans (Turn.of_below hb3)⟩
  have H3 : Hid (Hp5 w3 p b r xs ga A gr ws) := HE2.out.hp.below hb3
  have HNE : Hid (w.heap.size < b ∧ w.heap.size < ga ∧ w.heap.size < gr) := by
    have := HL1.out
    exact ⟨by have := HE2.out.lb; omega, by have := HE2.out.la; omega, by have := HE2.out.lr; omega⟩
  have hCB : ∀ k v o, k ≠ cb → w3.cell? ⟨k, o, none⟩ = some v → k ≠ cb := fun k v o h _ => h
  have HGB : Hid (∀ w4, Drawn cb ao len cap zs w3.drew w4 → Hp5 w4 p b r xs ga A gr ws ∧ w4.cell? ⟨w2.heap.size, 0, none⟩ = some (.slice p xs.length r) ∧ w4.cell? ⟨w.heap.size, 0, none⟩ = some (.slice none 0 0) ∧ w4.frozen? ⟨w.heap.size, 0, none⟩ = false ∧ Below w.heap.size w w4) := fun w4 hd0 => by
    have hd := hd0.drew
    have hz := HZ.out
    have lb := HE2.out.lb
    have la := HE2.out.la
    have lr := HE2.out.lr
    have hcl : cb < w2.heap.size := HE2.out.dr.1.lt
    have h3 := H3.out
    refine ⟨⟨h3.lst, fun j hj => hd.2.cell (by omega) (h3.wc j hj), h3.tx.turn hd.2 (by omega), fun j hj => hd.2.cell (by omega) (h3.rt j hj), h3.xl, h3.al, h3.wl, h3.wn, h3.bw⟩, hd.2.cell (by omega) d3, hd.2.cell (by omega) c3, ?_, ?_⟩
    · have hl3 : w.heap.size < w3.heap.size := World.block_lt_of_cell? _ _ c3
      rw [World.frozen?_of_block (w := w3) (hd.2.block w.heap.size hl3 (by omega))]; exact f3
    · exact Turn.below HB1.out (by have := HL1.out; omega) (HD3.out.2.trans hd.2) (by omega)
  have KC : Hid (Cur cb ao len cap zs w3.drew) := HD3.out.1.drew
  have hwl : ws.length ≤ 6 := H3.out.wl
  have hw0 : 0 < ws.length := List.length_pos_iff.2 H3.out.wn
  have HNB : Hid ((1 : Int) ≤ (ws.length : Int) ∧ (ws.length : Int) ≤ 256) := ⟨by omega, by omega⟩
  clear hW3 hb3 c2 f2 hCB hl2
  generalize w2.heap.size = X at *
  go_region_law (go_simp; go_wp2_with (
    (go_at_call 41; refine (below_any cb ao len cap zs _ KC.out _ HNB.out.1 HNB.out.2).mono ?_; rintro e w4 ⟨x4, rfl, hx40, hx41, hd4⟩; obtain ⟨k4, rfl⟩ := natOf5 hx40; have HH4 : Hid (Hp5 w4 p b r xs ga A gr ws ∧ Below w.heap.size w w4) := ⟨(HGB.out w4 hd4).1, (HGB.out w4 hd4).2.2.2.2⟩; have d4 := (HGB.out w4 hd4).2.1; have c4 := (HGB.out w4 hd4).2.2.1; have f4 := (HGB.out w4 hd4).2.2.2.1; obtain ⟨y4, r4, hy4⟩ := root_of HH4.out.1 hx41; have r4s := root_set r4 HNE.out.2.2; have HY4 : Hid (y4 ∈ ws) := hy4; clear hd4 hx40 hy4)))
  all_goals
    have HF : Hid (∀ u, Hp5 (w4.setCell ⟨w.heap.size, 0, none⟩ u) p b r xs ga A gr ws ∧ y4 ∈ ws ∧ Below w.heap.size w (w4.setCell ⟨w.heap.size, 0, none⟩ u)) := fun u => by
      have hn := HNE.out
      have e : ∀ k o v, k ≠ w.heap.size → w4.cell? ⟨k, o, none⟩ = some v → (w4.setCell ⟨w.heap.size, 0, none⟩ u).cell? ⟨k, o, none⟩ = some v := fun k o v hk hc => by
        rw [World.cell?_setCell_other (h := fun e => by simp only [Addr.mk.injEq] at e; omega)]; exact hc
      have h4 := HH4.out.1
      exact ⟨⟨h4.lst, fun j hj => e _ _ _ (by omega) (h4.wc j hj), fun j hj => e _ _ _ (by omega) (h4.tx j hj), fun j hj => e _ _ _ (by omega) (h4.rt j hj), h4.xl, h4.al, h4.wl, h4.wn, h4.bw⟩, HY4.out, HH4.out.2.setCell (Nat.le_refl _) _⟩
    go_wp2_with fail
    exact bodyPost_ret (v := .tuple #[.agg #[.slice p xs.length r], .slice (some ⟨ga, 0, none⟩) A.length ca, .int .i64 y4]) (by simp [results, Try.results10, go_sem, World.cell?_setCell_same _ _ _ c4]) rfl ⟨p, b, r, xs, ga, ca, A, gr, ws, y4, rfl, HF.out _⟩
theorem readT_ok {H : Hp} {x : Int} {t : Tm} (h : readT H x = some t) : (look t 6 100).isSome = true := by
  unfold readT at h
  obtain ⟨⟨t', y⟩, h1, h2⟩ := Option.map_eq_some_iff.1 h
  have h2 : t' = t := h2
  subst h2
  rw [rT_look 6 x 100 t' y h1]
  rfl
set_option maxRecDepth 100000 in
theorem zero_any (w : World) : Calls Try.prog 14 #[zT] w fun e w' => e = .returned (.bool true) ∧ Below w.heap.size w w' := by
  have HB : Hid (∀ o, Below w.heap.size w (w.alloc o)) := fun o => (Below.refl _ _).alloc (Nat.le_refl _) o
  unfold zT
  go_enter Try.func14, Try.ntmps14
  go_wp2_with fail
  go_ret
  exact ⟨rfl, HB.out _⟩
set_option maxHeartbeats 8000000 in
set_option maxRecDepth 100000 in
theorem heapRead_walk (w : World) (ao : Option Addr) (len cap : Nat) (zs : List Int) (hr : IsRow w ao len cap zs) (hlc : len ≤ cap) (hcm : cap ≤ maxLen) :
    Calls Try.prog 3 #[.slice ao len cap] w fun e w' => e = .returned (.bool true) ∧ Below w.heap.size w w' := by
  have HR : Hid (IsRow w ao len cap zs) := hr
  have HL : Hid (len ≤ maxLen) := Nat.le_trans hlc hcm
  clear hr hlc hcm
  go_enter Try.func3, Try.ntmps3
  go_wp2_with fail
  refine (big5_any ao len cap HL.out w).mono ?_
  rintro e w' ⟨rfl, hw'⟩
  obtain rfl := hw'.symm
  by_cases hbig : 1048576 < len
  · have hd : decide (1048576 < len) = true := by simp [hbig]
    rw [hd]
    go_wp2_with fail
    go_ret
    exact ⟨rfl, Below.refl _ _⟩
  have hd : decide (1048576 < len) = false := by simp [hbig]
  rw [hd]
  have HSM : Hid (len ≤ 1048576) := by show _ ≤ _; omega
  clear hd hbig
  go_wp2_with fail
  refine (drawReadTerm_any w ao len cap zs HR.out HSM.out).mono ?_
  rintro e w1 ⟨p, b, r, xs, ga, ca, A, gr, ws, x, rfl, h1, hx, hb1⟩
  have HB1 : Hid (Below w.heap.size w w1) := hb1
  have H1 : Hid (Hp5 w1 p b r xs ga A gr ws) := h1
  have HX : Hid (x ≤ 9223372036854775807) := h1.big x hx
  clear hb1 h1 hx
  go_wp2_with fail
  generalize hW2 : w1.alloc (.cells #[.slice p xs.length r] 26) = w2
  have hb2 : Below w1.heap.size w1 w2 := by rw [← hW2]; exact (Below.refl _ _).alloc (Nat.le_refl _) _
  have c2 : w2.cell? ⟨w1.heap.size, 0, none⟩ = some (.slice p xs.length r) := by rw [← hW2]; exact World.cell?_alloc_new w1 _ _ 0
  have H2 : Hid (Hp5 w2 p b r xs ga A gr ws) := H1.out.below hb2
  have HB2 : Hid (Below w.heap.size w w2) := bjoin HB1.out hb2
  generalize w1.heap.size = X at *
  clear hW2 hb2
  have HK : Hid (Calls Try.prog 11 #[.agg #[.slice p xs.length r], .slice (some ⟨ga, 0, none⟩) A.length ca, .int .i64 x] w2 fun e w' => Below w2.heap.size w2 w' ∧
      ((∃ t v, readT (env5 p b r xs ga ca A).H x = some t ∧ e = .returned (.tuple #[v, .bool true]) ∧ OwV w' (w2.heap.size) w'.heap.size t v) ∨ (readT (env5 p b r xs ga ca A).H x = none ∧ e = .returned (.tuple #[zT, .bool false])))) :=
    Gn.implRead_any (env5 p b r xs ga ca A) w2 (H2.out.src ca) H2.out.lst x HX.out
  refine HK.out.mono ?_
  rintro e w3 ⟨hb3, hcase⟩
  have c3 : w3.cell? ⟨X, 0, none⟩ = some (.slice p xs.length r) := by rw [hb3.cell (p := ⟨X, 0, none⟩) (World.block_lt_of_cell? _ _ c2)]; exact c2
  have H3 : Hid (Hp5 w3 p b r xs ga A gr ws) := H2.out.below hb3
  have HB3 : Hid (Below w.heap.size w w3) := bjoin HB2.out hb3
  have HSP : Hid (∀ w', Below w3.heap.size w3 w' → Calls Try.prog 12 #[.agg #[.slice p xs.length r], .slice (some ⟨ga, 0, none⟩) A.length ca, .int .i64 x] w' (ReadP (env5 p b r xs ga ca A) w' x)) := fun w' hb' =>
    specReadP (env5 p b r xs ga ca A) w' ((H3.out.below hb').src ca) x HX.out
  have HC3 : Hid (∀ o, (w3.alloc o).cell? ⟨X, 0, none⟩ = some (.slice p xs.length r)) := fun o => by rw [World.cell?_alloc_lt (h := World.block_lt_of_cell? _ _ c3)]; exact c3
  clear hb3 c2 HK H2 HB2 H1 HB1
  rcases hcase with ⟨t, v, ht, rfl, hv⟩ | ⟨hn, rfl⟩
  · obtain ⟨a, b', c, d, e', f, rfl⟩ := hv.form
    have HV : Hid (RepV 0 w3 t (.agg #[.int .i64 a, .int .i64 b', .string c, .slice d e' f])) := hv.rp.rep
    have HT : Hid (readT (env5 p b r xs ga ca A).H x = some t) := ht
    clear hv ht
    have HTOK : Hid ((look t 6 100).isSome = true) := readT_ok HT.out
    have c3a := HC3.out (.cells #[.int .i64 a, .int .i64 b', .string c, .slice d e' f] 32)
    have nX : ¬ X = w3.heap.size := by have : X < w3.heap.size := World.block_lt_of_cell? _ _ c3; omega
    go_wp2_with fail
    generalize hW4 : w3.alloc (.cells #[.int .i64 a, .int .i64 b', .string c, .slice d e' f] 32) = w4
    have hb4 : Below w3.heap.size w3 w4 := by rw [← hW4]; exact (Below.refl _ _).alloc (Nat.le_refl _) _
    have q4 : ∀ o, w4.cell? ⟨w3.heap.size, o, none⟩ = (#[.int .i64 a, .int .i64 b', .string c, .slice d e' f] : Array Value)[o]? := fun o => by rw [← hW4]; exact World.cell?_alloc_new w3 _ _ o
    have c4 : w4.cell? ⟨X, 0, none⟩ = some (.slice p xs.length r) := by rw [← hW4]; exact HC3.out _
    have HB4 : Hid (Below w3.heap.size w3 w4) := hb4
    have HSP4 : Hid (Calls Try.prog 12 #[.agg #[.slice p xs.length r], .slice (some ⟨ga, 0, none⟩) A.length ca, .int .i64 x] w4 (ReadP (env5 p b r xs ga ca A) w4 x)) := HSP.out w4 hb4
    obtain ⟨Y, hY⟩ : ∃ Y, w3.heap.size = Y := ⟨_, rfl⟩
    rw [hY] at q4 ⊢
    clear hW4 hb4 hY c3 HSP c3a nX
    go_wp2_with (first
      | (go_at_call 12; refine HSP4.out.mono ?_; rintro e w5 ⟨a5, b5, s5, d5, e5, f5, rfl, hb5, _⟩; rw [HT.out]; have q5 := keep4t hb5 q4; have HB5 : Hid (Below w3.heap.size w3 w5) := bjoin HB4.out hb5; have q6 := fun (o : Obj) => keep4t ((Below.refl _ _).alloc (Nat.le_refl _) o) q5; clear hb5)
      | (go_at_call 13; refine (implOk_any t 0 _ _ ((Keeps.below (bjoin HB5.out ((Below.refl _ _).alloc (Nat.le_refl _) _)) 0).repV HV.out)).mono ?_; rintro e w7 ⟨rfl, hb7⟩; rw [HTOK.out]; have HB7 : Hid (Below w.heap.size w w7) := bjoin (bjoin HB3.out (bjoin HB5.out ((Below.refl _ _).alloc (Nat.le_refl _) _))) hb7; clear hb7))
    go_ret
    exact ⟨rfl, HB7.out⟩
  · have HT : Hid (readT (env5 p b r xs ga ca A).H x = none) := hn
    clear hn
    unfold zT
    have c3a := HC3.out (.cells #[.int .i64 0, .int .i64 0, .string ⟨#[]⟩, .slice none 0 0] 32)
    have nX : ¬ X = w3.heap.size := by have : X < w3.heap.size := World.block_lt_of_cell? _ _ c3; omega
    go_wp2_with fail
    generalize hW4 : w3.alloc (.cells #[.int .i64 0, .int .i64 0, .string ⟨#[]⟩, .slice none 0 0] 32) = w4
    have hb4 : Below w3.heap.size w3 w4 := by rw [← hW4]; exact (Below.refl _ _).alloc (Nat.le_refl _) _
    have q4 : ∀ o, w4.cell? ⟨w3.heap.size, o, none⟩ = (#[.int .i64 0, .int .i64 0, .string ⟨#[]⟩, .slice none 0 0] : Array Value)[o]? := fun o => by rw [← hW4]; exact World.cell?_alloc_new w3 _ _ o
    have c4 : w4.cell? ⟨X, 0, none⟩ = some (.slice p xs.length r) := by rw [← hW4]; exact HC3.out _
    have HB4 : Hid (Below w3.heap.size w3 w4) := hb4
    have HSP4 : Hid (Calls Try.prog 12 #[.agg #[.slice p xs.length r], .slice (some ⟨ga, 0, none⟩) A.length ca, .int .i64 x] w4 (ReadP (env5 p b r xs ga ca A) w4 x)) := HSP.out w4 hb4
    obtain ⟨Y, hY⟩ : ∃ Y, w3.heap.size = Y := ⟨_, rfl⟩
    rw [hY] at q4 ⊢
    clear hW4 hb4 hY c3 HSP c3a nX
    go_wp2_with (first
      | (go_at_call 12; refine HSP4.out.mono ?_; rintro e w5 ⟨a5, b5, s5, d5, e5, f5, rfl, hb5, _⟩; rw [HT.out]; have q5 := keep4t hb5 q4; have HB5 : Hid (Below w3.heap.size w3 w5) := bjoin HB4.out hb5; have q6 := fun (o : Obj) => keep4t ((Below.refl _ _).alloc (Nat.le_refl _) o) q5; clear hb5)
      | (go_at_call 14; refine (zero_any _).mono ?_; rintro e w7 ⟨rfl, hb7⟩; have HB7 : Hid (Below w.heap.size w w7) := bjoin (bjoin HB3.out (bjoin HB5.out ((Below.refl _ _).alloc (Nat.le_refl _) _))) hb7; clear hb7))
    go_ret
    exact ⟨rfl, HB7.out⟩
end Go.Proofs.Ythdoamdjhpkimaa
namespace Go.Proofs.Ythdoamdjhpkimaa.fnHeapRead
open Go.ChangeShapes Go.WideShapes Go.ChangeAt Go.RowKit
set_option linter.unusedVariables false

theorem own : ownKnob Try.prog.godebug = none := by kernel_rfl
theorem laidOut : laidOutB Try.prog = true := by kernel_rfl

theorem row_len {w : World} {a : Option Addr} {len cap : Nat} {zs : List Int} (h : IsRow w a len cap zs) : len ≤ cap ∧ cap ≤ maxLen := by
  rcases h with ⟨_, rfl, rfl, _⟩ | ⟨_, _, h1, h2, _⟩
  · exact ⟨Nat.le_refl _, Nat.zero_le _⟩
  · exact ⟨h1, h2⟩

set_option maxRecDepth 100000 in
theorem lifted (os : Os) (started : os.Started) (H : Type) (enc : TypeId × Value → H) :
    ReturnsInHanded {} Try.checked os 3 .any (Rows.fnHeapReadSpec.pre6 enc Try.prog Try.f3 Rows.fnHeapReadRow.domain false) (Rows.fnHeapReadSpec.post enc Try.prog Try.f3 false true false false) := by
  refine returnsInHanded_of_change (C := Try.checked) own started (by kernel_rfl) Try.func3
    (ChangeSpec.witness6 (enc := enc) (C := Try.checked) false ⟨#[], #[.slice none 0 0], []⟩ 8 (by kernel_rfl) (by kernel_rfl) (by kernel_rfl) (by kernel_rfl)) ?_
  intro W base args ds gs before hval0 hW hcnd _
  have hval : ∀ (j : Nat) t v, Try.f3.params[j]? = some t → args[j]? = some v → Value.okWide Try.prog W .any base t v := hval0
  have hW' := hW
  obtain ⟨p, q, hA0, hV, rfl, hfz, hnd⟩ := hW
  have hA : DataW.TrodAll enc Try.prog W 0 (fun _ => true) true Try.f3.params.toList args.toList ds p := hA0
  rw [Try.params3] at hA hval
  obtain ⟨v0, vs0, d0, ds0, p0, q0, hargs, rfl, rfl, h0, r0⟩ := trodAll_cons hA
  obtain ⟨rfl, rfl, rfl⟩ := trodAll_nil r0
  obtain rfl : args = #[v0] := by cases args; simp_all
  obtain ⟨rfl, rfl⟩ := trodVars_none hV
  obtain ⟨a0, len0, cap0, rfl⟩ := okWide_slice Try.underlying22 (hval 0 22 v0 rfl rfl)
  have k0 := h0
  have lt0 : ∀ x ∈ p0, x.block < W.heap.size := by obtain ⟨m, hm⟩ := k0; exact DataW.trod_lt m _ _ _ hm
  obtain ⟨z0, w0⟩ : ∃ zs, IsRow W a0 len0 cap0 zs := by
    obtain ⟨fuel, hf⟩ := h0
    rcases open_ints Try.underlying22 Try.underlying5 (by kernel_rfl) hf with ⟨hcs, _⟩ | ⟨x, l, c, zs, hcs, _, hl, hm, hz, _, hcell, hwz⟩
    · simp [Value.cells] at hcs
      obtain ⟨rfl, rfl, rfl⟩ := hcs
      exact ⟨[], .inl ⟨rfl, rfl, rfl, rfl⟩⟩
    · simp [Value.cells] at hcs
      obtain ⟨rfl, rfl, rfl⟩ := hcs
      exact ⟨zs, .inr ⟨_, rfl, hl, hm, by simpa using hz, hcell, hwz⟩⟩
  clear hA0 hval0
  refine (heapRead_walk W a0 len0 cap0 z0 w0 (row_len w0).1 (row_len w0).2).mono fun e W' ⟨he, bel⟩ => ?_
  subst he
  exact ⟨_, rfl, _, _, _, [], _, [], hW', trodAll_mk1 (shut_bool Try.underlying4 _), (trodAll_cons_mk (Below.trod laidOut (by kernel_rfl) (of_decide_eq_true (by kernel_rfl)) k0 bel lt0) trodAll_mk0), rfl, bel.frame _, fun h => by cases h⟩

theorem over : Rows.fnHeapReadRow.holds Try.pinned (OpenSpec.ofChange Rows.fnHeapReadSpec) :=
  OpenClaim.holds_of_wide 3 Try.f3 rfl rfl rfl rfl rfl rfl rfl ⟨rfl, rfl, rfl, rfl, rfl⟩ rfl rfl rfl rfl rfl (by kernel_rfl) Try.func3 (by kernel_rfl)
    (of_decide_eq_true (by kernel_rfl)) (by unfold Func.isWrapper; first | (rw [if_pos (by decide +kernel)]; kernel_rfl) | (rw [if_neg (by decide +kernel)]; exact ⟨rfl, rfl⟩))
    (fun os started H enc _ => lifted os started H enc)
end Go.Proofs.Ythdoamdjhpkimaa.fnHeapRead
namespace Go.Proofs.Ythdoamdjhpkimaa
theorem fnHeapRead_holds : Rows.FnHeapReadSaid := fnHeapRead.over
#print axioms fnHeapRead_holds
end Go.Proofs.Ythdoamdjhpkimaa
