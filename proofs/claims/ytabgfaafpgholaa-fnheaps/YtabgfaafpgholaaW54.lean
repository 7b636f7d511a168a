/-
  The law FnHeaps, walked.
-/
import Derived.Test.YtabgfaafpgholaaW53
import Derived.Deep.RegionHeld3
import Derived.Deep.RegionWith
namespace Go.Proofs.Ytabgfaafpgholaa
open Go.RowKit
set_option linter.unusedVariables false

/-- The heap and the term that were drawn, in their variables. -/
structure Lp (w wc : World) (X3 X8 : Nat) (h3 : Value) (c8 : Array Value) : Prop where
  be : Below w.heap.size w wc
  q3 : wc.cell? ⟨X3, 0, none⟩ = some h3
  q8 : ∀ o, wc.cell? ⟨X8, o, none⟩ = c8[o]?
  l8 : X8 < wc.heap.size
theorem Lp.call {w wc w' : World} {X3 X8 : Nat} {h3 : Value} {c8 : Array Value} (h : Lp w wc X3 X8 h3 c8) (hb : Below wc.heap.size wc w') : Lp w w' X3 X8 h3 c8 :=
  ⟨bjoin h.be hb, by rw [hb.cell (p := ⟨X3, 0, none⟩) (World.block_lt_of_cell? _ _ h.q3)]; exact h.q3, fun o => by rw [hb.cell (p := ⟨X8, o, none⟩) h.l8]; exact h.q8 o, Nat.lt_of_lt_of_le h.l8 hb.size⟩
theorem belAl {X w : World} (h : Below X.heap.size X w) (o : Obj) : Below X.heap.size X (w.alloc o) := h.alloc h.size o
theorem belDr {X w : World} (h : Below X.heap.size X w) : Below X.heap.size X w.drew := h.drew
theorem hidP {p : Prop} (h : p) : Hid p := h
theorem belA (w : World) (o : Obj) : Below w.heap.size w (w.alloc o) := (Below.refl _ _).alloc (Nat.le_refl _) o
theorem belA2 (w : World) (o o2 : Obj) : Below w.heap.size w ((w.alloc o).alloc o2) := (belA w o).alloc (by simp) _
theorem cell_keep {w w' : World} {X : Nat} {v : Value} (h : w.cell? ⟨X, 0, none⟩ = some v) (hb : Below w.heap.size w w') : w'.cell? ⟨X, 0, none⟩ = some v := by
  rw [hb.cell (p := ⟨X, 0, none⟩) (World.block_lt_of_cell? _ _ h)]; exact h
/-- And what was put, in its variable. -/
structure Sx (w wc : World) (X3 X8 X9 : Nat) (h3 : Value) (c8 : Array Value) (p : Option Addr) (b r : Nat) (xs : List Int) (ga : Nat) (A : List ByteArray) (gr : Nat) (ws : List Int) (g cap : Nat) (ys : List Int) (ga' : Nat) (B : List ByteArray) (t : Tm) (v : Value) : Prop where
  lp : Lp w wc X3 X8 h3 c8
  q9 : wc.cell? ⟨X9, 0, none⟩ = some (.slice (some ⟨g, 0, none⟩) ys.length cap)
  ho : Hw5 wc p b r xs ga A gr ws
  hn : Hw5 wc (some ⟨g, 0, none⟩) g cap ys ga' B gr ws
  tv : RpV (Nf wc) wc t v
theorem Sx.call {w wc w' : World} {X3 X8 X9 : Nat} {h3 : Value} {c8 : Array Value} {p : Option Addr} {b r : Nat} {xs : List Int} {ga : Nat} {A : List ByteArray} {gr : Nat} {ws : List Int} {g cap : Nat} {ys : List Int} {ga' : Nat} {B : List ByteArray} {t : Tm} {v : Value}
    (h : Sx w wc X3 X8 X9 h3 c8 p b r xs ga A gr ws g cap ys ga' B t v) (hb : Below wc.heap.size wc w') : Sx w w' X3 X8 X9 h3 c8 p b r xs ga A gr ws g cap ys ga' B t v :=
  ⟨h.lp.call hb, cell_keep h.q9 hb, h.ho.below hb, h.hn.below hb, nf_below h.tv hb⟩
/-- A term that was read, in a variable. -/
structure Tv (wc : World) (X : Nat) (t : Tm) (a b : Int) (c : ByteArray) (d : Option Addr) (e f : Nat) : Prop where
  q : ∀ o, wc.cell? ⟨X, o, none⟩ = (#[.int .i64 a, .int .i64 b, .string c, .slice d e f] : Array Value)[o]?
  v : RpV (Nf wc) wc t (.agg #[.int .i64 a, .int .i64 b, .string c, .slice d e f])
theorem Tv.lt {wc : World} {X : Nat} {t : Tm} {a b : Int} {c : ByteArray} {d : Option Addr} {e f : Nat} (h : Tv wc X t a b c d e f) : X < wc.heap.size := by
  have h0 : wc.cell? ⟨X, 0, none⟩ = some (.int .i64 a) := h.q 0
  have := World.block_lt_of_cell? wc _ h0
  exact this
theorem Tv.call {wc w' : World} {X : Nat} {t : Tm} {a b : Int} {c : ByteArray} {d : Option Addr} {e f : Nat} (h : Tv wc X t a b c d e f) (hb : Below wc.heap.size wc w') : Tv w' X t a b c d e f :=
  ⟨fun o => by rw [hb.cell (p := ⟨X, o, none⟩) h.lt]; exact h.q o, nf_below h.v hb⟩
theorem Tv.new {wc : World} {lo : Nat} {t : Tm} {a b : Int} {c : ByteArray} {d : Option Addr} {e f : Nat} (h : RpV (fun y => lo ≤ y ∧ Nf wc y) wc t (.agg #[.int .i64 a, .int .i64 b, .string c, .slice d e f])) (ty : TypeId) :
    Tv (wc.alloc (.cells #[.int .i64 a, .int .i64 b, .string c, .slice d e f] ty)) wc.heap.size t a b c d e f :=
  ⟨fun o => World.cell?_alloc_new _ _ _ o, nf_below (rp_nf h) (belA _ _)⟩
theorem Tv.set {wc w' : World} {lo X : Nat} {z : Array Value} {t : Tm} {a b : Int} {c : ByteArray} {d : Option Addr} {e f : Nat} (h : RpV (fun y => lo ≤ y ∧ Nf wc y) wc t (.agg #[.int .i64 a, .int .i64 b, .string c, .slice d e f])) (hX : X < lo) (hq : ∀ o, wc.cell? ⟨X, o, none⟩ = z[o]?) (hz : z.size = 4)
    (ew : w' = (((wc.setCell ⟨X, 0, none⟩ (.int .i64 a)).setCell ⟨X, 1, none⟩ (.int .i64 b)).setCell ⟨X, 2, none⟩ (.string c)).setCell ⟨X, 3, none⟩ (.slice d e f)) : Tv w' X t a b c d e f :=
  ⟨by rw [ew]; exact cells_set4 hq hz _ _ _ _, rp_set4 h hX ew⟩
set_option maxHeartbeats 16000000 in
set_option maxRecDepth 100000 in
theorem heaps_walk (w : World) (ao : Option Addr) (len cap : Nat) (zs : List Int) (hr : IsRow w ao len cap zs) (hlc : len ≤ cap) (hcm : cap ≤ maxLen) :
    Calls Try.prog 4 #[.slice ao len cap] w fun e w' => e = .returned (.bool true) ∧ Below w.heap.size w w' := by
  have HR : Hid (IsRow w ao len cap zs) := hr
  have HL : Hid (len ≤ maxLen) := Nat.le_trans hlc hcm
  clear hr hlc hcm
  go_enter Try.func4, Try.ntmps4
  go_wp2_with fail
  refine (big5_any ao len cap HL.out w).mono ?_
  rintro e w' ⟨rfl, hw'⟩
  obtain rfl := hw'.symm
  by_cases hbig : 1048576 < len
  · have hd : decide (1048576 < len) = true := by simp [hbig]
    rw [hd]
    go_wp2_with fail
    go_ret
    exact ⟨rfl, Below.refl _ _⟩
  have hd : decide (1048576 < len) = false := by simp [hbig]
  rw [hd]
  have HSM : Hid (len ≤ 1048576) := by show _ ≤ _; omega
  clear hd hbig
  go_wp2_with fail
  refine (drawHeap_any w ao len cap zs HR.out HSM.out).mono ?_
  rintro e w1 ⟨p, b, r, xs, ga, ca, A, gr, cr, ws, rfl, h1, hb1⟩
  obtain ⟨hv, hhv⟩ : ∃ hv, hv = Value.slice p xs.length r := ⟨_, rfl⟩
  go_wp2_with (go_at_call 24; fail)
  obtain ⟨w2, hW2⟩ : ∃ w2, w2 = w1.alloc (.cells #[.slice p xs.length r] 32) := ⟨_, rfl⟩
  rw [← hW2]
  have hb2 : Below w1.heap.size w1 w2 := by rw [hW2]; exact belA _ _
  have c2 : w2.cell? ⟨w1.heap.size, 0, none⟩ = some (.slice p xs.length r) := by rw [hW2]; exact World.cell?_alloc_new w1 _ _ 0
  have H2 : Hid (Hw5 w2 p b r xs ga A gr ws) := h1.below hb2
  have HB2 : Hid (Below w.heap.size w w2) := bjoin hb1 hb2
  obtain ⟨X3, hX3⟩ : ∃ X3, w1.heap.size = X3 := ⟨_, rfl⟩
  rw [hX3] at c2 ⊢
  clear hW2 hb2 hX3 h1 hb1 hhv hv
  refine (drawPut_any w2 ao len cap zs (HR.out.below HB2.out) HSM.out).mono ?_
  rintro e w3 ⟨p6, q6, r6, a6, n6, c6s, t, v, rfl, how, hbn, hb3⟩
  obtain ⟨k1, k2, k3, k4, k5, k6, rfl⟩ := how.form
  have HBN : Hid (BnT 46 t) := hbn
  obtain ⟨w4, hW4⟩ : ∃ w4, w4 = (w3.alloc (.cells #[.slice p6 q6 r6] 32)).alloc (.cells #[.int .i64 k1, .int .i64 k2, .string k3, .slice k4 k5 k6] 39) := ⟨_, rfl⟩
  have hb4 : Below w3.heap.size w3 w4 := by rw [hW4]; exact belA2 _ _ _
  have c3 : w3.cell? ⟨X3, 0, none⟩ = some (.slice p xs.length r) := cell_keep c2 hb3
  have c4 : w4.cell? ⟨X3, 0, none⟩ = some (.slice p xs.length r) := cell_keep c3 hb4
  have c4' := c4
  rw [hW4] at c4'
  have q4 : ∀ o, w4.cell? ⟨w3.heap.size + 1, o, none⟩ = (#[.int .i64 k1, .int .i64 k2, .string k3, .slice k4 k5 k6] : Array Value)[o]? := fun o => by rw [hW4, World.cell?_alloc_at (hn := by simp)]
  have nX : ¬ X3 = w3.heap.size := by have : X3 < w3.heap.size := World.block_lt_of_cell? _ _ c3; omega
  have hz4 : w4.heap.size = w3.heap.size + 2 := by rw [hW4]; simp
  go_wp2_with (go_at_call 13; fail)
  rw [← hW4]
  have H4 : Hid (Hw5 w4 p b r xs ga A gr ws) := (H2.out.below hb3).below hb4
  have HL4 : Hid (Lp w w4 X3 (w3.heap.size + 1) (.slice p xs.length r) #[.int .i64 k1, .int .i64 k2, .string k3, .slice k4 k5 k6]) := ⟨bjoin (bjoin HB2.out hb3) hb4, c4, q4, by omega⟩
  have HO4 : Hid (OwV w4 w2.heap.size t (.agg #[.int .i64 k1, .int .i64 k2, .string k3, .slice k4 k5 k6])) := how.keepB (fun b hb hl => hb4.block b hl)
  obtain ⟨X8, hX8⟩ : ∃ X8, w3.heap.size + 1 = X8 := ⟨_, rfl⟩
  rw [hX8] at HL4 ⊢
  clear hW4 hb4 c3 c4 c4' q4 nX hz4 how hbn hb3 hX8 c2 H2 HB2 HR
  obtain ⟨bs, ho, hnd, _⟩ := HO4.out
  have HT4 : Hid (OsV w4 bs t (.agg #[.int .i64 k1, .int .i64 k2, .string k3, .slice k4 k5 k6]) ∧ bs.Nodup ∧ nT t ≤ 46) := ⟨ho, hnd, by have := HBN.out.2; rw [nT_one] at this; exact this⟩
  clear ho hnd HO4 HBN
  refine (implPut_any w4 (p, xs.length, r) xs ga 0 ca A bs t _ H4.out.wv H4.out.hp.tx HT4.out.1 HT4.out.2.1 (by have := H4.out.hp.xl; omega) (by have := H4.out.hp.al; omega) (fun _ => by have := H4.out.hp.al; have := HT4.out.2.2; omega) _ rfl).mono ?_
  rintro e w5 ⟨sa, sc, ga', ca', ys, B, x, ok, rfl, hpe, hor, hcp⟩
  have HPE : Hid (PEnd w4 w5 (hok ok (.slice p xs.length r)) sa ys ga' B) := hpe
  have H5P : Hid (∀ {ns}, PtR t xs A = some (ns, B, x) → (xs ++ ns).length ≤ sc → PEnd w4 w5 (hok true (.slice p xs.length r)) sa (xs ++ ns) ga' B → ∃ g, Put5 w5 sa g sc xs (xs ++ ns) ga' A B gr ws t x) := fun hR hcap hp => H4.out.put hp hcap hR
  have H5 : Hid (Hw5 w5 p b r xs ga A gr ws) := H4.out.below hpe.be
  have HL5 : Hid (Lp w w5 X3 X8 (.slice p xs.length r) #[.int .i64 k1, .int .i64 k2, .string k3, .slice k4 k5 k6]) := HL4.out.call hpe.be
  have HN5 : Hid (RpV (Nf w5) w5 t (.agg #[.int .i64 k1, .int .i64 k2, .string k3, .slice k4 k5 k6])) := nf_below (osV_nf HT4.out.1) hpe.be
  clear hpe
  obtain ⟨w6, hW6⟩ : ∃ w6, w6 = w5.alloc (.cells #[.slice sa ys.length sc] 32) := ⟨_, rfl⟩
  have hb6 : Below w5.heap.size w5 w6 := by rw [hW6]; exact belA _ _
  have c6 : w6.cell? ⟨w5.heap.size, 0, none⟩ = some (.slice sa ys.length sc) := by rw [hW6]; exact World.cell?_alloc_new w5 _ _ 0
  have HL6 : Hid (Lp w w6 X3 X8 (.slice p xs.length r) #[.int .i64 k1, .int .i64 k2, .string k3, .slice k4 k5 k6]) := HL5.out.call hb6
  have x3 := HL6.out.q3
  have x8 := HL6.out.q8
  rw [hW6] at x3 x8
  have nX3 : ¬ X3 = w5.heap.size := by have : X3 < w5.heap.size := World.block_lt_of_cell? _ _ HL5.out.q3; omega
  have nX8 : ¬ X8 = w5.heap.size := by have := HL5.out.l8; omega
  go_wp2_with (go_at_call 9; fail)
  rw [← hW6]
  have HSPEC : Hid (Calls Try.prog 9 #[.agg #[.slice p xs.length r], .slice (some ⟨ga, 0, none⟩) A.length ca, .agg #[.int .i64 k1, .int .i64 k2, .string k3, .slice k4 k5 k6]] w6 fun e w' => ∃ g7 c7 ga7 ca7 xs7 A7 x7, e = .returned (.tuple #[.agg #[.slice (some ⟨g7, 0, none⟩) xs7 c7], .slice (some ⟨ga7, 0, none⟩) A7 ca7, .int .i64 x7, .bool ok]) ∧ Below w6.heap.size w6 w') := by
    have h6 := H5.out.below hb6
    refine (putTerm_any w6 _ xs ga 0 ca A t _ h6.wv h6.hp.tx h6.la (rp_lt (nf_below HN5.out hb6)) h6.hp.xl (by have := h6.hp.al; omega)).mono ?_
    rintro e w7 ⟨g7, c7, ga7, ca7, xs7, A7, x7, ok7, rfl, hpa, ho7⟩
    have : ok7 = ok := by
      rcases ho7 with ⟨e1, _, _, _, e5⟩ | ⟨e1, ⟨ns, _, e3⟩, _⟩
      · rcases hor with ⟨_, ns', e2, _⟩ | ⟨e2, _⟩
        · rw [e5] at e2; cases e2
        · rw [e1, e2]
      · rcases hor with ⟨e2, _⟩ | ⟨_, _, _, _, e2⟩
        · rw [e1, e2]
        · rw [e3] at e2; cases e2
    subst this
    exact ⟨g7, c7, ga7, ca7, _, _, x7, rfl, hpa.be⟩
  have HCP : Hid (ok = true → ys.length ≤ sc) := hcp
  have HOR : Hid ((ok = true ∧ ∃ ns, PtR t xs A = some (ns, B, x) ∧ ys = xs ++ ns) ∨ (ok = false ∧ x = 0 ∧ ys = xs ∧ B = A ∧ PtR t xs A = none)) := hor
  obtain ⟨X9, hX9⟩ : ∃ X9, w5.heap.size = X9 := ⟨_, rfl⟩
  have H6 : Hid (Hw5 w6 p b r xs ga A gr ws) := H5.out.below hb6
  have HN6 : Hid (RpV (Nf w6) w6 t (.agg #[.int .i64 k1, .int .i64 k2, .string k3, .slice k4 k5 k6])) := nf_below HN5.out hb6
  have HB56 : Hid (Below w5.heap.size w5 w6) := hb6
  rw [hX9] at c6 nX3 nX8 ⊢
  clear hX9 hcp hor HT4 HL4 H4 HL5 hW6 hb6 x3 x8 H5 HN5
  refine HSPEC.out.mono ?_
  rintro e w7 ⟨g7, c7, ga7, ca7, xs7, A7, x7, rfl, hb7⟩
  obtain ⟨w8, hW8⟩ : ∃ w8, w8 = w7.alloc (.cells #[.slice (some ⟨g7, 0, none⟩) xs7 c7] 32) := ⟨_, rfl⟩
  have hb8 : Below w6.heap.size w6 w8 := bjoin hb7 (by rw [hW8]; exact belA _ _)
  have HL8 : Hid (Lp w w8 X3 X8 (.slice p xs.length r) #[.int .i64 k1, .int .i64 k2, .string k3, .slice k4 k5 k6]) := HL6.out.call hb8
  have H8 : Hid (Hw5 w8 p b r xs ga A gr ws) := H6.out.below hb8
  have HN8 : Hid (RpV (Nf w8) w8 t (.agg #[.int .i64 k1, .int .i64 k2, .string k3, .slice k4 k5 k6])) := nf_below HN6.out hb8
  have c8 := cell_keep c6 hb8
  have HB58 : Hid (Below w5.heap.size w5 w8) := bjoin HB56.out hb8
  have x3 := HL8.out.q3
  have x8 := HL8.out.q8
  have x3' := x3
  have x8' := x8
  have c8' := c8
  rw [hW8] at x3' x8' c8'
  have eok : (ok != ok) = false := by cases ok <;> rfl
  have nX37 : ¬ X3 = w7.heap.size := by have : X3 < w7.heap.size := World.block_lt_of_cell? _ _ (cell_keep HL6.out.q3 hb7); omega
  clear hb8 hb7 HL6 H6 HN6 HB56 c6 HSPEC
  go_wp2_with (go_at_call 25; fail)
  rw [← hW8]
  clear hW8 x3' x8' c8' nX37
  refine (H8.out.ok ca cr).mono ?_
  rintro e w9 ⟨rfl, hb9⟩
  have HL9 : Hid (Lp w w9 X3 X8 (.slice p xs.length r) #[.int .i64 k1, .int .i64 k2, .string k3, .slice k4 k5 k6]) := HL8.out.call hb9
  have H9 : Hid (Hw5 w9 p b r xs ga A gr ws) := H8.out.below hb9
  have HN9 : Hid (RpV (Nf w9) w9 t (.agg #[.int .i64 k1, .int .i64 k2, .string k3, .slice k4 k5 k6])) := nf_below HN8.out hb9
  have c9 := cell_keep c8 hb9
  have HB59 : Hid (Below w5.heap.size w5 w9) := bjoin HB58.out hb9
  have x3 := HL9.out.q3
  have x8 := HL9.out.q8
  clear hb9 HL8 H8 HN8 c8 HB58
  cases ok with
  | false =>
    have hrow : ys = xs ∧ B = A := by
      rcases HOR.out with ⟨h, _⟩ | ⟨_, _, h1, h2, _⟩
      · cases h
      · exact ⟨h1, h2⟩
    obtain ⟨rfl, rfl⟩ := hrow
    have HSI : Hid (Calls Try.prog 26 #[.slice sa ys.length sc, .slice p ys.length r] w9 fun e w' => e = .returned (.bool true) ∧ Below w9.heap.size w9 w') := sameIntsL sa p sc r ys w9 (HPE.out.row.below HB59.out) H9.out.row (by have := H9.out.hp.xl; omega)
    have HST : Hid (∀ w', Below w9.heap.size w9 w' → Calls Try.prog 27 #[.slice (some ⟨ga', 0, none⟩) B.length ca', .slice (some ⟨ga, 0, none⟩) B.length ca] w' fun e w'' => e = .returned (.bool true) ∧ Below w'.heap.size w' w'') := fun w' hb => sameTextsL ga' ga ca' ca B w' ((HPE.out.ar.txt.below HB59.out).below hb) (H9.out.below hb).hp.tx (by have := H9.out.hp.al; omega)
    go_wp2_with (first
      | (go_at_call 26; refine HSI.out.mono ?_; rintro e wa ⟨rfl, hba⟩; have HBA : Hid (Below w9.heap.size w9 wa) := hba; clear hba)
      | (go_at_call 27; refine (HST.out _ HBA.out).mono ?_; rintro e wb ⟨rfl, hbb⟩; have HBB : Hid (Below w.heap.size w wb) := bjoin (bjoin HL9.out.be HBA.out) hbb; clear hbb))
    go_ret
    exact ⟨rfl, HBB.out⟩
  | true =>
    obtain ⟨ns, hR, rfl⟩ : ∃ ns, PtR t xs A = some (ns, B, x) ∧ ys = xs ++ ns := by
      rcases HOR.out with ⟨_, h⟩ | ⟨h, _⟩
      · exact h
      · cases h
    obtain ⟨g, hput⟩ : ∃ g, Put5 w9 sa g sc xs (xs ++ ns) ga' A B gr ws t x := by
      obtain ⟨g, h⟩ := H5P.out hR (HCP.out rfl) HPE.out
      exact ⟨g, h.e, h.hw.below HB59.out, h.bw, h.rd, h.new, h.old⟩
    obtain ⟨ys, hys⟩ : ∃ ys, ys = xs ++ ns := ⟨_, rfl⟩
    rw [← hys] at hput c9 ⊢
    clear hys HOR HCP HPE hR H5P
    obtain rfl := hput.e
    have HS9 : Hid (Sx w w9 X3 X8 X9 (.slice p xs.length r) #[.int .i64 k1, .int .i64 k2, .string k3, .slice k4 k5 k6] p b r xs ga A gr ws g sc ys ga' B t (.agg #[.int .i64 k1, .int .i64 k2, .string k3, .slice k4 k5 k6])) := ⟨HL9.out, c9, H9.out, hput.hw, HN9.out⟩
    have HPB : Hid (BW ys B (ws ++ [x])) := hput.bw
    have HPR : Hid (RDH ys B (ws ++ [x])) := hput.rd
    have HPN : Hid (readT (hpL ys B) x = some t) := hput.new
    have HPO : Hid (∀ y u, readT (hpL xs A) y = some u → readT (hpL ys B) y = some u) := hput.old
    clear hput HL9 H9 HN9 HB59 x3 x8 eok
    go_wp2_with (go_at_call 28; fail)
    have hxx : x ≤ 32000006 := HPB.out.2.2 x (List.mem_append_right _ (List.mem_cons_self ..))
    refine (HS9.out.hn.read ca' x hxx HPN.out).mono ?_
    rintro e wa ⟨z1, z2, z3, z4, z5, z6, rfl, hu, hba⟩
    obtain ⟨wb, hWb⟩ : ∃ wb, wb = wa.alloc (.cells #[.int .i64 z1, .int .i64 z2, .string z3, .slice z4 z5 z6] 39) := ⟨_, rfl⟩
    have hbb : Below w9.heap.size w9 wb := bjoin hba (by rw [hWb]; exact belA _ _)
    have HSB : Hid (Sx w wb X3 X8 X9 (.slice p xs.length r) #[.int .i64 k1, .int .i64 k2, .string k3, .slice k4 k5 k6] p b r xs ga A gr ws g sc ys ga' B t (.agg #[.int .i64 k1, .int .i64 k2, .string k3, .slice k4 k5 k6])) := HS9.out.call hbb
    have HTU : Hid (Tv wb wa.heap.size t z1 z2 z3 z4 z5 z6) := by rw [hWb]; exact Tv.new hu _
    obtain ⟨XU, hXU⟩ : ∃ XU, wa.heap.size = XU := ⟨_, rfl⟩
    rw [hXU] at HTU
    clear hbb hba hu HS9 c9 hxx
    go_wp2_with fail
    rw [← hWb]
    clear hWb hXU
    have hwl : ws.length ≤ 6 := HSB.out.ho.hp.wl
    have HWL : Hid (ws.length ≤ 6) := hwl
    have HRA : Hid (∀ j (hj : j < ws.length), ∃ u, cntT u ≤ 1000000000 ∧ (∀ w', Below wb.heap.size wb w' → Calls Try.prog 28 #[.agg #[.slice p xs.length r], .slice (some ⟨ga, 0, none⟩) A.length ca, .int .i64 ws[j]] w' fun e w'' => ∃ a b c d e' f, e = .returned (.tuple #[.agg #[.int .i64 a, .int .i64 b, .string c, .slice d e' f], .bool true]) ∧ RpV (fun y => w'.heap.size ≤ y ∧ Nf w'' y) w'' u (.agg #[.int .i64 a, .int .i64 b, .string c, .slice d e' f]) ∧ Below w'.heap.size w' w'') ∧
        ∀ w', Below wb.heap.size wb w' → Calls Try.prog 28 #[.agg #[.slice (some ⟨g, 0, none⟩) ys.length sc], .slice (some ⟨ga', 0, none⟩) B.length ca', .int .i64 ws[j]] w' fun e w'' => ∃ a b c d e' f, e = .returned (.tuple #[.agg #[.int .i64 a, .int .i64 b, .string c, .slice d e' f], .bool true]) ∧ RpV (fun y => w'.heap.size ≤ y ∧ Nf w'' y) w'' u (.agg #[.int .i64 a, .int .i64 b, .string c, .slice d e' f]) ∧ Below w'.heap.size w' w'') := fun j hj => by
      obtain ⟨u, hu⟩ := HSB.out.ho.rd.2 ws[j] (List.getElem_mem hj)
      have hy : ws[j] ≤ 32000006 := HSB.out.ho.hp.bw.2.2 _ (List.getElem_mem hj)
      exact ⟨u, look_cnt (readT_ok hu), fun w2 hb2 => (HSB.out.call hb2).ho.read ca _ hy hu, fun w2 hb2 => (HSB.out.call hb2).hn.read ca' _ hy (HPO.out _ _ hu)⟩
    clear hwl
    go_loopw [19] (fun i wr => ∃ j : Nat, i = .int .i64 j ∧ j ≤ ws.length ∧ Below wb.heap.size wb wr) (fun i _ => ws.length - (intOf i).toNat)
    case atStart => exact ⟨0, rfl, Nat.zero_le _, Below.refl _ _⟩
    case round =>
      obtain ⟨j, rfl, hj, hbr⟩ := hrel
      have HBR : Hid (Below wb.heap.size wb wr) := hbr
      have HSR : Hid (Sx w wr X3 X8 X9 (.slice p xs.length r) #[.int .i64 k1, .int .i64 k2, .string k3, .slice k4 k5 k6] p b r xs ga A gr ws g sc ys ga' B t (.agg #[.int .i64 k1, .int .i64 k2, .string k3, .slice k4 k5 k6])) := HSB.out.call hbr
      have q3 := HSR.out.lp.q3
      by_cases hlt : j < ws.length
      · have hlti : (j : Int) < (ws.length : Int) := by omega
        obtain ⟨u, hcu, hra, hrn⟩ := HRA.out j hlt
        obtain ⟨y, rj, hra, hrn⟩ : ∃ y, wr.cell? ⟨gr, j, none⟩ = some (.int .i64 y) ∧ (∀ w', Below wr.heap.size wr w' → Calls Try.prog 28 #[.agg #[.slice p xs.length r], .slice (some ⟨ga, 0, none⟩) A.length ca, .int .i64 y] w' fun e w'' => ∃ a b c d e' f, e = .returned (.tuple #[.agg #[.int .i64 a, .int .i64 b, .string c, .slice d e' f], .bool true]) ∧ RpV (fun y => w'.heap.size ≤ y ∧ Nf w'' y) w'' u (.agg #[.int .i64 a, .int .i64 b, .string c, .slice d e' f]) ∧ Below w'.heap.size w' w'') ∧
            ∀ w', Below wr.heap.size wr w' → Calls Try.prog 28 #[.agg #[.slice (some ⟨g, 0, none⟩) ys.length sc], .slice (some ⟨ga', 0, none⟩) B.length ca', .int .i64 y] w' fun e w'' => ∃ a b c d e' f, e = .returned (.tuple #[.agg #[.int .i64 a, .int .i64 b, .string c, .slice d e' f], .bool true]) ∧ RpV (fun y => w'.heap.size ≤ y ∧ Nf w'' y) w'' u (.agg #[.int .i64 a, .int .i64 b, .string c, .slice d e' f]) ∧ Below w'.heap.size w' w'' := ⟨_, HSR.out.ho.hp.rt j hlt, fun w' hb' => hra w' (bjoin hbr hb'), fun w' hb' => hrn w' (bjoin hbr hb')⟩
        have HCU : Hid (cntT u ≤ 1000000000) := hcu
        have hX : X3 < wr.heap.size := World.block_lt_of_cell? _ _ q3
        have hG : gr < wr.heap.size := World.block_lt_of_cell? _ _ rj
        have q3a : (wr.alloc (.cells #[.int .i64 0, .int .i64 0, .string ⟨#[]⟩, .slice none 0 0] 39)).cell? ⟨X3, 0, none⟩ = some (.slice p xs.length r) := by rw [World.cell?_alloc_lt (h := hX)]; exact q3
        have rja : (wr.alloc (.cells #[.int .i64 0, .int .i64 0, .string ⟨#[]⟩, .slice none 0 0] 39)).cell? ⟨gr, j, none⟩ = some (.int .i64 y) := by rw [World.cell?_alloc_lt (h := hG)]; exact rj
        have nX : ¬ X3 = wr.heap.size := by omega
        have nG : ¬ gr = wr.heap.size := by omega
        have KW : Hid (Below wr.heap.size wr wr.drew ∧ Below wr.heap.size wr (wr.alloc (.cells #[.int .i64 0, .int .i64 0, .string ⟨#[]⟩, .slice none 0 0] 39)).drew) := ⟨(Below.refl _ _).drew, (belA _ _).drew⟩
        have HLT : Hid (j < ws.length) := hlt
        have HA : Hid (∀ w', Below wr.heap.size wr w' → Calls Try.prog 28 #[.agg #[.slice p xs.length r], .slice (some ⟨ga, 0, none⟩) A.length ca, .int .i64 y] w' fun e w'' => ∃ a b c d e' f, e = .returned (.tuple #[.agg #[.int .i64 a, .int .i64 b, .string c, .slice d e' f], .bool true]) ∧ RpV (fun y => w'.heap.size ≤ y ∧ Nf w'' y) w'' u (.agg #[.int .i64 a, .int .i64 b, .string c, .slice d e' f]) ∧ Below w'.heap.size w' w'') := hra
        have HN : Hid (∀ w', Below wr.heap.size wr w' → Calls Try.prog 28 #[.agg #[.slice (some ⟨g, 0, none⟩) ys.length sc], .slice (some ⟨ga', 0, none⟩) B.length ca', .int .i64 y] w' fun e w'' => ∃ a b c d e' f, e = .returned (.tuple #[.agg #[.int .i64 a, .int .i64 b, .string c, .slice d e' f], .bool true]) ∧ RpV (fun y => w'.heap.size ≤ y ∧ Nf w'' y) w'' u (.agg #[.int .i64 a, .int .i64 b, .string c, .slice d e' f]) ∧ Below w'.heap.size w' w'') := hrn
        clear hra hrn hbr hX hG hcu
        go_wp2_with fail
        go_cut [20, 21] from 85 to 118 (fun v20 v21 wx => ∃ k a b c d e f, v20 = .pointer (some ⟨k, 0, none⟩) ∧ v21 = .bool true ∧ Below wr.heap.size wr wx ∧ Tv wx k u a b c d e f)
        case first =>
          go_region_law (go_simp; go_wp2_with (
            (go_at_call 28; first
              | ((conv in (World.alloc wr (.cells #[.int .i64 0, .int .i64 0, .string ⟨#[]⟩, .slice none 0 0] 39)) => skip); refine (HA.out _ KW.out.2).mono ?_; rintro e w5 ⟨a5, b5, cc5, d5, e5, f5, rfl, hv5, hb5⟩; obtain ⟨q5, z5⟩ := keep4n hb5; have HB5 : Hid (Below wr.heap.size wr w5) := bjoin KW.out.2 hb5; have HV5 : Hid (∀ w9, w9 = ((((w5.setCell ⟨wr.heap.size, 0, none⟩ (.int .i64 a5)).setCell ⟨wr.heap.size, 1, none⟩ (.int .i64 b5)).setCell ⟨wr.heap.size, 2, none⟩ (.string cc5)).setCell ⟨wr.heap.size, 3, none⟩ (.slice d5 e5 f5)) → Tv w9 wr.heap.size u a5 b5 cc5 d5 e5 f5) := (fun w9 e9 => Tv.set hv5 (by show wr.heap.size < (World.alloc _ _).heap.size; rw [World.size_alloc]; omega) q5 rfl e9); clear hb5 hv5)
              | (refine (HA.out _ KW.out.1).mono ?_; rintro e w5 ⟨a5, b5, cc5, d5, e5, f5, rfl, hv5, hb5⟩; have HB5 : Hid (Below wr.heap.size wr w5) := bjoin KW.out.1 hb5; have HV5 : Hid (Tv (w5.alloc (.cells #[.int .i64 a5, .int .i64 b5, .string cc5, .slice d5 e5 f5] 39)) w5.heap.size u a5 b5 cc5 d5 e5 f5) := Tv.new hv5 _; clear hb5 hv5))))
          all_goals
            go_wp2_with fail
            go_meet
            case rel =>
              first
                | exact ⟨_, _, _, _, _, _, _, rfl, rfl, HB5.out.alloc HB5.out.size _, HV5.out⟩
                | exact ⟨_, _, _, _, _, _, _, rfl, rfl, below_set4 HB5.out (Nat.le_refl _) _ _ _ _, HV5.out _ rfl⟩
        case rest =>
          obtain ⟨k, t1, t2, t3, t4, t5, t6, rfl, rfl, hwx, htv⟩ := hcut
          obtain ⟨wk, hwk⟩ : ∃ wk, wk = wc := ⟨_, rfl⟩
          rw [← hwk] at hwx htv ⊢
          clear hwk
          have HWX : Hid (Below wr.heap.size wr wk) := hwx
          have HTA : Hid (Tv wk k u t1 t2 t3 t4 t5 t6) := htv
          have q9 := (HSR.out.call hwx).q9
          have rj9 : wk.cell? ⟨gr, j, none⟩ = some (.int .i64 y) := by rw [hwx.cell (p := ⟨gr, j, none⟩) (World.block_lt_of_cell? _ _ rj)]; exact rj
          have hX : X9 < wk.heap.size := World.block_lt_of_cell? _ _ q9
          have hG : gr < wk.heap.size := World.block_lt_of_cell? _ _ rj9
          have q9a : (wk.alloc (.cells #[.int .i64 0, .int .i64 0, .string ⟨#[]⟩, .slice none 0 0] 39)).cell? ⟨X9, 0, none⟩ = some (.slice (some ⟨g, 0, none⟩) ys.length sc) := by rw [World.cell?_alloc_lt (h := hX)]; exact q9
          have rj9a : (wk.alloc (.cells #[.int .i64 0, .int .i64 0, .string ⟨#[]⟩, .slice none 0 0] 39)).cell? ⟨gr, j, none⟩ = some (.int .i64 y) := by rw [World.cell?_alloc_lt (h := hG)]; exact rj9
          have nX9 : ¬ X9 = wk.heap.size := by omega
          have nG9 : ¬ gr = wk.heap.size := by omega
          have KV : Hid (Below wk.heap.size wk wk.drew ∧ Below wk.heap.size wk (wk.alloc (.cells #[.int .i64 0, .int .i64 0, .string ⟨#[]⟩, .slice none 0 0] 39)).drew) := ⟨(Below.refl _ _).drew, (belA _ _).drew⟩
          clear hwx htv hX hG q3 q3a rj rja nX nG HA KW
          go_wp2_with fail
          go_cut [22, 23] from 85 to 118 (fun v22 v23 wx => ∃ k' a b c d e f, v22 = .pointer (some ⟨k', 0, none⟩) ∧ v23 = .bool true ∧ Below wk.heap.size wk wx ∧ Tv wx k' u a b c d e f)
          case first =>
            go_region_law (go_simp; go_wp2_with (
              (go_at_call 28; first
                | ((conv in (World.alloc wk (.cells #[.int .i64 0, .int .i64 0, .string ⟨#[]⟩, .slice none 0 0] 39)) => skip); refine (HN.out _ (bjoin HWX.out KV.out.2)).mono ?_; rintro e w5 ⟨a5, b5, cc5, d5, e5, f5, rfl, hv5, hb5⟩; obtain ⟨q5, z5⟩ := keep4n hb5; have HB5 : Hid (Below wk.heap.size wk w5) := bjoin KV.out.2 hb5; have HV5 : Hid (∀ w9, w9 = ((((w5.setCell ⟨wk.heap.size, 0, none⟩ (.int .i64 a5)).setCell ⟨wk.heap.size, 1, none⟩ (.int .i64 b5)).setCell ⟨wk.heap.size, 2, none⟩ (.string cc5)).setCell ⟨wk.heap.size, 3, none⟩ (.slice d5 e5 f5)) → Tv w9 wk.heap.size u a5 b5 cc5 d5 e5 f5) := (fun w9 e9 => Tv.set hv5 (by show wk.heap.size < (World.alloc _ _).heap.size; rw [World.size_alloc]; omega) q5 rfl e9); clear hb5 hv5)
                | (refine (HN.out _ (bjoin HWX.out KV.out.1)).mono ?_; rintro e w5 ⟨a5, b5, cc5, d5, e5, f5, rfl, hv5, hb5⟩; have HB5 : Hid (Below wk.heap.size wk w5) := bjoin KV.out.1 hb5; have HV5 : Hid (Tv (w5.alloc (.cells #[.int .i64 a5, .int .i64 b5, .string cc5, .slice d5 e5 f5] 39)) w5.heap.size u a5 b5 cc5 d5 e5 f5) := Tv.new hv5 _; clear hb5 hv5))))
            all_goals
              go_wp2_with fail
              go_meet
              case rel =>
                first
                  | exact ⟨_, _, _, _, _, _, _, rfl, rfl, HB5.out.alloc HB5.out.size _, HV5.out⟩
                  | exact ⟨_, _, _, _, _, _, _, rfl, rfl, below_set4 HB5.out (Nat.le_refl _) _ _ _ _, HV5.out _ rfl⟩
          case rest =>
            obtain ⟨k', s1, s2, s3, s4, s5, s6, rfl, rfl, hwx, htv⟩ := hcut
            have HTA2 : Hid (Tv wc k u t1 t2 t3 t4 t5 t6) := HTA.out.call hwx
            have qa := HTA2.out.q
            have qb := htv.q
            have HSM2 : Hid (Calls Try.prog 29 #[.agg #[.int .i64 t1, .int .i64 t2, .string t3, .slice t4 t5 t6], .agg #[.int .i64 s1, .int .i64 s2, .string s3, .slice s4 s5 s6]] wc fun e w' => e = .returned (.bool true) ∧ Below wc.heap.size wc w') := same_two HTA2.out.v htv.v HCU.out
            have HBC : Hid (Below wb.heap.size wb wc) := bjoin HBR.out (bjoin HWX.out hwx)
            have V1 : IntKind.i64.wrap ((j : Int) + 1) = (j : Int) + 1 := by rw [IntKind.wrap_i64]; have := HLT.out; have := HWL.out; omega
            clear hwx htv q9 q9a rj9 rj9a nX9 nG9
            go_wp2_with (go_at_call 29; refine HSM2.out.mono ?_; rintro e w5 ⟨rfl, hb5⟩; have HB5 : Hid (Below wb.heap.size wb w5) := bjoin HBC.out hb5; clear hb5)
            go_roundw
            case rel => exact ⟨j + 1, by congr 1, by have := HLT.out; omega, HB5.out⟩
            case measure => simp [intOf]; have := HLT.out; omega
      · have HSS : Hid (Calls Try.prog 29 #[.agg #[.int .i64 z1, .int .i64 z2, .string z3, .slice z4 z5 z6], .agg #[.int .i64 k1, .int .i64 k2, .string k3, .slice k4 k5 k6]] wr fun e w' => e = .returned (.bool true) ∧ Below wr.heap.size wr w') := same_two (HTU.out.call hbr).v HSR.out.tv (look_cnt (readT_ok HPN.out))
        have q8 := HSR.out.lp.q8
        have q9 := HSR.out.q9
        have qu := (HTU.out.call hbr).q
        have hlti : ¬ (j : Int) < (ws.length : Int) := by omega
        clear hbr q3
        have HQ9 : Hid (∀ wc, Below wr.heap.size wr wc → wc.cell? ⟨X9, 0, none⟩ = some (.slice (some ⟨g, 0, none⟩) ys.length sc)) := fun wc hb => cell_keep HSR.out.q9 hb
        have HQS : Hid (∀ wc, Below wr.heap.size wr wc → ((fun wc => wc.cell? ⟨X9, 0, none⟩ = some (.slice (some ⟨g, 0, none⟩) ys.length sc) ∧ wc.cell? ⟨X8, 0, none⟩ = some (.int .i64 k1) ∧ wc.cell? ⟨X8, 1, none⟩ = some (.int .i64 k2) ∧ wc.cell? ⟨X8, 2, none⟩ = some (.string k3) ∧ wc.cell? ⟨X8, 3, none⟩ = some (.slice k4 k5 k6) ∧ wc.cell? ⟨XU, 0, none⟩ = some (.int .i64 z1) ∧ wc.cell? ⟨XU, 1, none⟩ = some (.int .i64 z2) ∧ wc.cell? ⟨XU, 2, none⟩ = some (.string z3) ∧ wc.cell? ⟨XU, 3, none⟩ = some (.slice z4 z5 z6)) wc)) := fun wc hb => by
          have h1 := (HSR.out.call hb)
          have h2 := ((HTU.out.call HBR.out).call hb).q
          exact ⟨h1.q9, h1.lp.q8 0, h1.lp.q8 1, h1.lp.q8 2, h1.lp.q8 3, h2 0, h2 1, h2 2, h2 3⟩
        clear q8 q9 qu
        have HSS2 : Hid (∀ w', Below wr.heap.size wr w' → Calls Try.prog 29 #[.agg #[.int .i64 z1, .int .i64 z2, .string z3, .slice z4 z5 z6], .agg #[.int .i64 k1, .int .i64 k2, .string k3, .slice k4 k5 k6]] w' fun e w'' => e = .returned (.bool true) ∧ Below wr.heap.size wr w'') := fun w' hb => (same_two ((HTU.out.call HBR.out).call hb).v (HSR.out.call hb).tv (look_cnt (readT_ok HPN.out))).mono (fun e w'' h => ⟨h.1, bjoin hb h.2⟩)
        have hw0 : 0 < ws.length := List.length_pos_iff.2 HSR.out.ho.hp.wn
        have HW0 : Hid (0 < ws.length ∧ ws.length ≤ maxLen ∧ ws.length * 8 ≤ 140737488355328 ∧ ws.length + 1 ≤ maxLen ∧ (ws.length + 1) * 8 ≤ 140737488355328) := ⟨hw0, by unfold maxLen; have := HWL.out; omega, by have := HWL.out; omega, by unfold maxLen; have := HWL.out; omega, by have := HWL.out; omega⟩
        have HRT : Hid (∀ j (h : j < ws.length), wr.cell? ⟨gr, j, none⟩ = some (.int .i64 ws[j])) := HSR.out.ho.hp.rt
        have HHO : Hid (∀ w', Below wr.heap.size wr w' → ∀ g7 c7, (∀ j (h : j < (ws ++ [x]).length), w'.cell? ⟨g7, j, none⟩ = some (.int .i64 (ws ++ [x])[j])) → Calls Try.prog 25 #[.agg #[.slice (some ⟨g, 0, none⟩) ys.length sc], .slice (some ⟨ga', 0, none⟩) B.length ca', .slice (some ⟨g7, 0, none⟩) (ws.length + 1) c7] w' fun e w'' => e = .returned (.bool true) ∧ Below wr.heap.size wr w'') := fun w' hb g7 c7 hc => by
          have hn := (HSR.out.call hb).hn
          have el : ws.length + 1 = (ws ++ [x]).length := by rw [List.length_append]; rfl
          have hk : Calls Try.prog 25 #[.agg #[.slice (some ⟨g, 0, none⟩) ys.length sc], .slice (some ⟨ga', 0, none⟩) B.length ca', .slice (some ⟨g7, 0, none⟩) (ws ++ [x]).length c7] w' fun e w'' => e = .returned (.bool (heapB (env5 (some ⟨g, 0, none⟩) g sc ys ga' ca' B).H (ws ++ [x]))) ∧ Below w'.heap.size w' w'' :=
            implHeapOk_any (env5 (some ⟨g, 0, none⟩) g sc ys ga' ca' B) w' (hn.hp.src ca') hn.hp.lst (some ⟨g7, 0, none⟩) c7 (ws ++ [x]) (fun _ => ⟨g7, 0, rfl, fun j hj => by rw [Nat.zero_add]; exact hc j hj⟩) (by rw [← el]; have := HWL.out; omega) (fun y hy => by have := HPB.out.2.2 y hy; omega)
          have e : heapB (env5 (some ⟨g, 0, none⟩) g sc ys ga' ca' B).H (ws ++ [x]) = true := heap_true hn.hp.xl HPR.out
          rw [e, ← el] at hk
          exact hk.mono (fun e w'' h => ⟨h.1, bjoin hb h.2⟩)
        obtain ⟨i0, hi, hz0, hz1, hz2⟩ := info_parts infoInt5
        have HI : Hid (Try.prog.info? 3 = some i0 ∧ i0.zero = some (.int .i64 0) ∧ i0.size = 1 ∧ i0.bytes = 8) := ⟨hi, hz0, hz1, hz2⟩
        clear hi hz0 hz1 hz2 hw0
        go_wp2_with fail
        go_region_held3 (fun wc => wc.cell? ⟨X9, 0, none⟩ = some (.slice (some ⟨g, 0, none⟩) ys.length sc) ∧ wc.cell? ⟨X8, 0, none⟩ = some (.int .i64 k1) ∧ wc.cell? ⟨X8, 1, none⟩ = some (.int .i64 k2) ∧ wc.cell? ⟨X8, 2, none⟩ = some (.string k3) ∧ wc.cell? ⟨X8, 3, none⟩ = some (.slice k4 k5 k6) ∧ wc.cell? ⟨XU, 0, none⟩ = some (.int .i64 z1) ∧ wc.cell? ⟨XU, 1, none⟩ = some (.int .i64 z2) ∧ wc.cell? ⟨XU, 2, none⟩ = some (.string z3) ∧ wc.cell? ⟨XU, 3, none⟩ = some (.slice z4 z5 z6)) (first | (refine HQS.out _ ?_; (repeat' first | with_reducible exact HB8.out | with_reducible exact HB7.out | with_reducible exact HB6.out | with_reducible exact HB5.out | with_reducible exact Below.refl _ _ | with_reducible refine belAl ?_ _ | with_reducible refine belDr ?_); done) | go_keep) (first
          | (refine step_append_g (w5.alloc (.cells #[] 3)) (by rfl) (.tmp 128) (.tmp 129) 22 rfl wr.heap.size 3 i0 (.int .i64 0) 1 8 undInts5 HI.out.1 HI.out.2.1 HI.out.2.2.1 HI.out.2.2.2 rfl Nat.zero_lt_one _ 0 [] (by simp [Act.eval]) (ownNil HB5.out) ⟨gr, 0, none⟩ ws.length cr (ws.map (Value.int .i64)) (by simp [Act.eval]) (by simp) (rootsAt HRT.out (HB5.out.alloc HB5.out.size _)) (onesW _) HW0.out.1 ws.length (Nat.zero_add _) HW0.out.2.1 HW0.out.2.2.1 (HB5.out.alloc HB5.out.size _).size ?_; intro g6 c6 w6 hown6 hgr6 hlt6; have HB6 := hidP (belG (HB5.out.alloc HB5.out.size _) hgr6 HB5.out.size); have HO6 := hidP hown6; have HG6 := hidP ((HO6.out.lt g6 rfl).1); clear hown6 hgr6 hlt6)
          | (refine step_append_g ((w5.alloc (.cells #[] 3)).alloc (.cells #[.int .i64 x] 3)) (by rfl) (.tmp 128) (.tmp 129) 22 rfl wr.heap.size 3 i0 (.int .i64 0) 1 8 undInts5 HI.out.1 HI.out.2.1 HI.out.2.2.1 HI.out.2.2.2 rfl Nat.zero_lt_one _ 0 [] (by simp [Act.eval]) ((ownNil HB5.out).alloc _) ⟨gr, 0, none⟩ ws.length cr (ws.map (Value.int .i64)) (by simp [Act.eval]) (by simp) (rootsAt HRT.out (belAl (belAl HB5.out _) _)) (onesW _) HW0.out.1 ws.length (Nat.zero_add _) HW0.out.2.1 HW0.out.2.2.1 (belAl (belAl HB5.out _) _).size ?_; intro g6 c6 w6 hown6 hgr6 hlt6; have HB6 := hidP (belG (belAl (belAl HB5.out _) _) hgr6 HB5.out.size); have HO6 := hidP hown6; have HS6 := hidP (far_one hgr6 (World.cell?_alloc_new _ _ _ 0) (by simp)); have HG6 := hidP ((HO6.out.lt g6 rfl).1); clear hown6 hgr6 hlt6)
          | (refine step_append_g ((w5.alloc (.cells #[.int .i64 x] 3)).alloc (.cells #[] 3)) (by rfl) (.tmp 128) (.tmp 129) 22 rfl wr.heap.size 3 i0 (.int .i64 0) 1 8 undInts5 HI.out.1 HI.out.2.1 HI.out.2.2.1 HI.out.2.2.2 rfl Nat.zero_lt_one _ 0 [] (by simp [Act.eval]) (ownNil_s HB5.out _) ⟨gr, 0, none⟩ ws.length cr (ws.map (Value.int .i64)) (by simp [Act.eval]) (by simp) (rootsAt HRT.out (belAl (belAl HB5.out _) _)) (onesW _) HW0.out.1 ws.length (Nat.zero_add _) HW0.out.2.1 HW0.out.2.2.1 (belAl (belAl HB5.out _) _).size ?_; intro g6 c6 w6 hown6 hgr6 hlt6; have HB6 := hidP (belG (belAl (belAl HB5.out _) _) hgr6 (Nat.le_succ_of_le HB5.out.size)); have HO6 := hidP hown6; have HS6 := hidP (far_one (s := w5.heap.size) (d := w5.heap.size + 1) hgr6 (cellS _ _ _ _) (Nat.ne_of_lt (Nat.lt_succ_self _))); have HG6 := hidP ((HO6.out.lt g6 rfl).1); clear hown6 hgr6 hlt6)
          | (refine step_append_g (w6.alloc (.cells #[.int .i64 x] 3)) (by rfl) (.tmp 130) (.tmp 132) 22 rfl wr.heap.size 3 i0 (.int .i64 0) 1 8 undInts5 HI.out.1 HI.out.2.1 HI.out.2.2.1 HI.out.2.2.2 rfl Nat.zero_lt_one _ ws.length (ws.map (Value.int .i64)) (by simp [Act.eval]) (HO6.out.alloc _) ⟨w6.heap.size, 0, none⟩ 1 1 [.int .i64 x] (by simp [Act.eval]) rfl (srcI _ _ _) (oneI _) Nat.zero_lt_one (ws.length + 1) rfl HW0.out.2.2.2.1 HW0.out.2.2.2.2 (belAl HB6.out _).size ?_; intro g7 c7 w7 hown7 hgr7 hlt7; have HB7 := hidP (belG (belAl HB6.out _) hgr7 HG6.out); have HC7 := hidP (rows_app hown7); clear hown7 hgr7 hlt7)
          | (refine step_append_g w6 (by rfl) (.tmp 130) (.tmp 132) 22 rfl wr.heap.size 3 i0 (.int .i64 0) 1 8 undInts5 HI.out.1 HI.out.2.1 HI.out.2.2.1 HI.out.2.2.2 rfl Nat.zero_lt_one _ ws.length (ws.map (Value.int .i64)) (by simp [Act.eval]) HO6.out _ 1 1 [.int .i64 x] (by simp [Act.eval]) rfl (oneAt HS6.out) (oneI _) Nat.zero_lt_one (ws.length + 1) rfl HW0.out.2.2.2.1 HW0.out.2.2.2.2 HB6.out.size ?_; intro g7 c7 w7 hown7 hgr7 hlt7; have HB7 := hidP (belG HB6.out hgr7 HG6.out); have HC7 := hidP (rows_app hown7); clear hown7 hgr7 hlt7)
          | (go_at_call 29; (first | with_reducible refine (HSS2.out _ (Below.refl _ _)).mono ?_ | with_reducible refine (HSS2.out _ (Below.refl _ _).drew).mono ?_); rintro e w5 ⟨rfl, hb5⟩; have HB5 : Hid (Below wr.heap.size wr w5) := hb5; clear hb5)
          | (go_at_call 25; refine (HHO.out _ HB7.out _ _ HC7.out).mono ?_; rintro e w8 ⟨rfl, hb8⟩; have HB8 := hidP hb8; clear hb8))
        all_goals
          go_wp2_with fail
          go_ret
          exact ⟨rfl, bjoin HSR.out.lp.be HB8.out⟩
end Go.Proofs.Ytabgfaafpgholaa
