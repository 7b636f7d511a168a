/-
  Where a place that is drawn has a used block it is one of the arena's own; what the program's WriteWord answers there.
  What DrawRelease answers; the specification's Release at no words.
-/
import Derived.Test.YtmongbpdbcbhlaaHoD
import Derived.Test.YtmongbpdbcbhlaaUaC
import Derived.Test.YtmongbpdbcbhlaaAlZ
import Derived.Deep.RegionLaw
namespace Go.Proofs.Ytmongbpdbcbhlaa
open Go.RowKit
set_option linter.unusedVariables false

set_option maxRecDepth 100000 in
theorem gw_one : ∀ n : Nat, n < 77 → (1000 : Int) < ((1 * 7919 + (n : Int) * 104729 + 2) * 3 + 1000) % 1000003 := by decide

/-- No block lies over the place of a block. -/
theorem bk_apart {f : Nat → Int} {N p n : Nat} {u : Bool} (h : (p, n, u) ∈ bk f N 0) : ∀ b ∈ bk f N 0, ¬ (b.1 < p ∧ p < b.1 + b.2.1 + 3) := by
  obtain ⟨q, hs, _⟩ := bk_all f N
  obtain ⟨A, B, e⟩ := split_at h
  rw [e] at hs ⊢
  obtain ⟨h1, h2, h3⟩ := hs.cut
  intro b hb hc
  rcases List.mem_append.1 hb with ha | ha
  · have := (h1.mem b ha).2.1
    dsimp only at this
    omega
  · rcases List.mem_cons.1 ha with rfl | ha
    · dsimp only at hc; omega
    · have := (h3.mem b ha).1
      dsimp only at this
      omega

/-- A used block at a place that is drawn. -/
theorem plc_used {f : Nat → Int} {N n : Nat} {x : Int} (hx : Plc f N x) (hN : N ≤ 80) (h0 : 0 ≤ f 1) (h1 : f 1 ≤ 1000) (hB : blkI f N x = some (n, true)) : ∃ p : Nat, x = p ∧ blkO f N p = some (n, true) ∧ (p, n, true) ∈ bk f N 0 := by
  unfold blkI at hB
  split at hB
  · cases hB
  · rename_i hn
    refine ⟨x.toNat, by omega, hB, ?_⟩
    have hb := blkO_of hB
    have hf := hb.fit
    rcases hx with hx | ⟨p, hp, e⟩
    · simp only [List.mem_cons, List.not_mem_nil, or_false] at hx
      rcases hx with rfl | rfl | rfl | rfl
      · have e := bk_cons (p := 0) hB
        rw [e]; exact List.mem_cons_self
      · exfalso
        have ha : f 1 = gw 1 n true 1000 := hb.ahead
        have hn2 : n < 77 := by have : 1 + n + 3 ≤ N := hf; omega
        have g1 := gw_one n hn2
        have i1 : inA 1 = true := by decide
        have i2 : inA (n : Int) = true := by simp [inA]; omega
        rw [gw, i1, i2] at ha
        simp only [useOf, Bool.and_self, if_true] at ha
        omega
      · omega
      · simp at hf; omega
    · subst e
      rw [Int.toNat_natCast] at hB ⊢
      obtain ⟨b, hb1, rfl⟩ := List.mem_map.1 hp
      obtain ⟨hb2, hb3⟩ := List.mem_filter.1 hb1
      obtain ⟨q, hs, _⟩ := bk_all f N
      have h4 := blkO_some (hs.mem b hb2).2.2
      rw [hB] at h4
      have e2 := Option.some.inj h4
      obtain ⟨b1, b2, b3⟩ := b
      dsimp only at e2 ⊢
      cases e2
      exact hb2

/-- The words behind a WriteWord. -/
noncomputable def wrt (f : Nat → Int) (N : Nat) (x i v : Int) : Nat → Int := if hol (blkI f N x) i = true then upd f (x + 2 + i).toNat v else f

theorem hol_yes {f : Nat → Int} {N : Nat} {x i : Int} (hx : Plc f N x) (hN : N ≤ 80) (h0 : 0 ≤ f 1) (h1 : f 1 ≤ 1000) (h : hol (blkI f N x) i = true) : ∃ p n j : Nat, x = p ∧ i = j ∧ j < n ∧ blkO f N p = some (n, true) ∧ (p, n, true) ∈ bk f N 0 := by
  cases hb : blkI f N x with
  | none => rw [hb] at h; cases h
  | some z =>
    obtain ⟨n, u⟩ := z
    cases u with
    | false => rw [hb] at h; cases h
    | true =>
      obtain ⟨p, e, h2, h3⟩ := plc_used hx hN h0 h1 hb
      rw [hb] at h
      have hi : 0 ≤ i ∧ i ≤ (n : Int) - 1 := by simpa [hol, inB] using h
      exact ⟨p, n, i.toNat, e, by omega, by omega, h2, h3⟩

end Go.Proofs.Ytmongbpdbcbhlaa

namespace Go.Proofs.Ytmongbpdbcbhlaa
open Go.RowKit
set_option linter.unusedVariables false

set_option maxHeartbeats 4000000 in
set_option maxRecDepth 100000 in
theorem drawRelease_any (w : World) (ao : Option Addr) (len cap : Nat) (zs : List Int) (hr : IsRow w ao len cap zs) (hsm : len ≤ 1048576) :
    Calls Try.prog 7 #[.slice ao len cap] w fun e w' => ∃ (g M cc : Nat) (x : Int) (F : Nat → Int), e = .returned (.tuple #[.agg #[.slice (some ⟨g, 0, none⟩) M cc], .int .i64 x]) ∧ M ≤ 80 ∧ M ≤ cc ∧ Rd w' (some ⟨g, 0, none⟩) M F ∧ 0 ≤ F 1 ∧ F 1 ≤ 1000 ∧ Plc F M x ∧ Below w.heap.size w w' := by
  have HR : Hid (IsRow w ao len cap zs) := hr
  clear hr
  go_enter Try.func7, Try.ntmps7
  go_wp2_with fail
  have hb0 := (Below.refl w.heap.size w).alloc (Nat.le_refl _) (.cells #[.slice none 0 0] 26)
  refine (new_any _ ao len cap zs (HR.out.below hb0) hsm).mono ?_
  rintro e w1 ⟨rfl, hc1, hb1, hz1⟩
  have hz : (w.alloc (.cells #[.slice none 0 0] 26)).heap.size = w.heap.size + 1 := World.size_alloc _ _
  have q1 : w1.cell? ⟨w.heap.size, 0, none⟩ = some (.slice none 0 0) := (hb1.cell (p := ⟨w.heap.size, 0, none⟩) (by rw [hz]; exact Nat.lt_succ_self _)).trans (World.cell?_alloc_new w _ _ 0)
  have f1 : w1.frozen? ⟨w.heap.size, 0, none⟩ = false := (hb1.frozen (p := ⟨w.heap.size, 0, none⟩) (by rw [hz]; exact Nat.lt_succ_self _)).trans (World.frozen?_alloc_new w _ _ 0)
  have HC1 : Hid (Cur (w.heap.size + 1) ao len cap zs w1) := by rw [hz] at hc1; exact hc1
  have HB1 : Hid (Below w.heap.size w w1 ∧ w1.heap.size = w.heap.size + 2) := ⟨hb0.trans (hb1.mono (by omega)), by omega⟩
  clear hb0 hb1 hc1 hz1 hz
  go_wp2_with fail
  refine (l2Any_any (w.heap.size + 1) ao len cap zs _ HC1.out (by have := HB1.out.2; omega)).mono ?_
  rintro e w2 ⟨g, M, cc, rfl, hM, hcc, hg, ⟨F, hF, hF0, hF1⟩, hd2⟩
  have hs1 := HB1.out.2
  have q2 := hd2.2.cell (by omega) q1
  have f2 : w2.frozen? ⟨w.heap.size, 0, none⟩ = false := (hd2.2.frozen (b := w.heap.size) (o := 0) (by omega) (by omega)).trans f1
  have HB2 : Hid (Below w.heap.size w w2) := Turn.below HB1.out.1 (by omega) hd2.2 (by omega)
  have HF2 : Hid (Ints w2 g 0 M F ∧ 0 ≤ F 1 ∧ F 1 ≤ 1000) := ⟨hF, hF0, hF1⟩
  have HG2 : Hid (w1.heap.size ≤ g) := hg
  have HC2 : Hid (Cur (w.heap.size + 1) ao len cap zs w2) := hd2.1
  have hs2 := hd2.2.size
  have hdx : Dx ao len cap zs w (w2.alloc (.cells #[.slice (some ⟨g, 0, none⟩) M cc] 26)) w2.heap.size g M cc F := by
    have hbC : Below w2.heap.size w2 (w2.alloc (.cells #[.slice (some ⟨g, 0, none⟩) M cc] 26)) := (Below.refl _ _).alloc (Nat.le_refl _) _
    exact ⟨HC2.out.below hbC, below_join HB2.out hbC, by rw [World.size_alloc]; omega, World.cell?_alloc_new w2 _ _ 0, (hbC.cell (p := ⟨w.heap.size, 0, none⟩) (by show w.heap.size < _; omega)).trans q2, (hbC.frozen (p := ⟨w.heap.size, 0, none⟩) (by show w.heap.size < _; omega)).trans f2, by omega, by have := HG2.out; omega, HF2.out.1.rd.below hbC⟩
  have HDX : Hid (Dx ao len cap zs w (w2.alloc (.cells #[.slice (some ⟨g, 0, none⟩) M cc] 26)) w2.heap.size g M cc F) := hdx
  clear hd2 hF hF0 hF1 hg q1 f1 hdx q2 f2
  go_wp2_with fail
  have hdx := HDX.out
  clear HDX HB2 HC2 HG2 hs1 hs2
  generalize w2.alloc (.cells #[.slice (some ⟨g, 0, none⟩) M cc] 26) = wC at hdx ⊢
  generalize w2.heap.size = B at hdx ⊢
  have b0 := hdx.box
  have r0 := hdx.res
  have rf0 := hdx.resf
  have K0 : Hid (Cur (w.heap.size + 1) ao len cap zs wC.drew ∧ w.heap.size + 1 < wC.drew.heap.size ∧ Rd wC.drew (some ⟨g, 0, none⟩) M F) := ⟨(hdx.quiet ((Below.refl _ _).drew)).cur, hdx.sz, (hdx.quiet ((Below.refl _ _).drew)).rd⟩
  have KA : Hid (∀ w7, Drawn (w.heap.size + 1) ao len cap zs wC.drew w7 → Dx ao len cap zs w w7 B g M cc F) := fun w7 h => hdx.call h.drew
  clear hdx
  go_region_law (go_simp; go_wp2_with (go_at_call 27; refine (l3At_any (w.heap.size + 1) ao len cap zs g 0 M cc F wC.drew K0.out.1 K0.out.2.1 K0.out.2.2 hM).mono ?_; rintro e w7 ⟨x, rfl, hx, hd7⟩; have hdr7 := KA.out w7 hd7; have b7 := hdr7.box; have r7 := hdr7.res; have rf7 := hdr7.resf; have HX7 : Hid (Plc F M x ∧ Dx ao len cap zs w w7 B g M cc F) := ⟨hx, hdr7⟩; clear hx hd7 hdr7))
  all_goals
    go_wp2_with fail
    refine bodyPost_ret (v := .tuple #[.agg #[.slice (some ⟨g, 0, none⟩) M cc], .int .i64 x]) (by simp [results, Try.results7, go_sem, World.cell?_setCell_same _ _ _ r7]) rfl ⟨g, M, cc, x, F, rfl, hM, hcc, fun hn => ?_, HF2.out.2.1, HF2.out.2.2, HX7.out.1, HX7.out.2.below.setCell (Nat.le_refl _) _⟩
    obtain ⟨b, o, e, hc⟩ := HX7.out.2.rd hn
    cases e
    exact ⟨g, 0, rfl, fun j hj => ((Turn.refl w.heap.size _).set 0 _).cell (by have := HX7.out.2.gw; omega) (hc j hj)⟩
set_option maxHeartbeats 1000000 in
set_option maxRecDepth 100000 in
theorem specRelease_zero (b o cap : Nat) (f : Nat → Int) (x : Int) (w : World) :
    Calls Try.prog 9 #[.agg #[.slice (some ⟨b, o, none⟩) 0 cap], .int .i64 x] w fun e w' => ∃ g : Nat, e = .returned (.tuple #[.agg #[.slice (some ⟨g, 0, none⟩) 0 0], .int .i64 2]) ∧ Below w.heap.size w w' := by
  go_enter Try.func9, Try.ntmps9
  go_wp2_with fail
  refine (copy_none b o cap _).mono ?_
  rintro e w1 ⟨g, rfl, hb1⟩
  have hs := AlO.start w w1 b o cap g hb1
  have HS : Hid (AlO w (w1.alloc (.cells #[.slice (some ⟨g, 0, none⟩) 0 0] 26)) b o cap g w1.heap.size) := hs
  have b0 := hs.box
  clear hs hb1
  go_wp2_with fail
  have hs := HS.out
  clear HS b0
  generalize (w1.alloc (.cells #[.slice (some ⟨g, 0, none⟩) 0 0] 26)) = w2 at hs ⊢
  generalize w1.heap.size = B2 at hs ⊢
  refine (specAudit_any (some ⟨b, o, none⟩) 0 cap f _ (Rd.nil _ _ _) (by omega)).mono ?_
  rintro e w3 ⟨rfl, hb3⟩
  rw [aud_zero]
  have HS3 : Hid (AlO w w3 b o cap g B2) := hs.call hb3
  clear hs hb3
  have b0 := HS3.out.box
  go_wp2_with fail
  refine (specBlocks_any (some ⟨b, o, none⟩) 0 cap f _ (Rd.nil _ _ _) (by omega)).mono ?_
  rintro e w4 ⟨v, rfl, hpl, hb4⟩
  obtain ⟨la, lc, rfl, hl1, hl2, hl3, hrl⟩ := hpl.slice
  have hL : (bls f 0 0).length = 0 := by rw [bk_len, bk_zero]; rfl
  rw [hL]
  have HS4 : Hid (AlO w w4 b o cap g B2) := HS3.out.call hb4
  clear hpl hb4 hl1 hl2 hl3 hrl hL HS3 b0
  go_wp2_with fail
  go_loop [8] (fun i => i = .int .i64 0) (fun _ => 0)
  case atStart => rfl
  case round =>
    have hi : _ = _ := hrel
    subst hi
    have q1 := HS4.out.res
    have f1 := HS4.out.resf
    have q2 := HS4.out.outb
    go_wp2_with fail
    refine bodyPost_ret (v := .tuple #[.agg #[.slice (some ⟨g, 0, none⟩) 0 0], .int .i64 2]) (by simp [results, Try.results9, go_sem, q1]) rfl ⟨⟨g, rfl⟩, HS4.out.below.setCell (p := ⟨w.heap.size + 1, 0, none⟩) (by show w.heap.size ≤ w.heap.size + 1; omega) _⟩
end Go.Proofs.Ytmongbpdbcbhlaa
