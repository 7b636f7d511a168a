/-
  What DrawWriteWord answers.
-/
import Derived.Test.YtejhfoahpopeoaaHoC
namespace Go.Proofs.Ytejhfoahpopeoaa
open Go.RowKit
set_option linter.unusedVariables false

/-- What DrawWriteWord has in hand: the cursor, its result's box, the arena g in the box B. -/
structure Dx (ao : Option Addr) (len cap : Nat) (zs : List Int) (w wx : World) (B g M cc : Nat) (F : Nat → Int) : Prop where
  cur : Cur (w.heap.size + 1) ao len cap zs wx
  below : Below w.heap.size w wx
  sz : w.heap.size + 1 < wx.heap.size
  box : wx.cell? ⟨B, 0, none⟩ = some (.slice (some ⟨g, 0, none⟩) M cc)
  res : wx.cell? ⟨w.heap.size, 0, none⟩ = some (.slice none 0 0)
  resf : wx.frozen? ⟨w.heap.size, 0, none⟩ = false
  bw : w.heap.size + 1 < B
  gw : w.heap.size + 1 < g
  rd : Rd wx (some ⟨g, 0, none⟩) M F
theorem Dx.call {ao : Option Addr} {len cap : Nat} {zs : List Int} {w wx wy : World} {B g M cc : Nat} {F : Nat → Int} (d : Dx ao len cap zs w wx B g M cc F) (h : Drawn (w.heap.size + 1) ao len cap zs wx wy) : Dx ao len cap zs w wy B g M cc F := by
  have h1 := d.sz
  have h2 := d.bw
  have h3 := d.gw
  have h4 := h.2.size
  refine ⟨h.1, Turn.below d.below (by omega) h.2 (by omega), by omega, h.2.cell (by omega) d.box, h.2.cell (by omega) d.res, (h.2.frozen (b := w.heap.size) (o := 0) (by omega) (by omega)).trans d.resf, h2, h3, fun hn => ?_⟩
  obtain ⟨b, o, e, hc⟩ := d.rd hn
  cases e
  exact ⟨g, 0, rfl, fun j hj => h.2.cell (by omega) (hc j hj)⟩
theorem Dx.quiet {ao : Option Addr} {len cap : Nat} {zs : List Int} {w wx wy : World} {B g M cc : Nat} {F : Nat → Int} (d : Dx ao len cap zs w wx B g M cc F) (h : Below wx.heap.size wx wy) : Dx ao len cap zs w wy B g M cc F :=
  d.call ⟨d.cur.below h, Turn.of_below h⟩

set_option maxHeartbeats 4000000 in
set_option maxRecDepth 100000 in
theorem drawWrite_any (w : World) (ao : Option Addr) (len cap : Nat) (zs : List Int) (hr : IsRow w ao len cap zs) (hsm : len ≤ 1048576) :
    Calls Try.prog 32 #[.slice ao len cap] w fun e w' => ∃ (g M cc : Nat) (x i v : Int) (F : Nat → Int), e = .returned (.tuple #[.agg #[.slice (some ⟨g, 0, none⟩) M cc], .int .i64 x, .int .i64 i, .int .i64 v]) ∧ M ≤ 80 ∧ M ≤ cc ∧ Rd w' (some ⟨g, 0, none⟩) M F ∧ 0 ≤ F 1 ∧ F 1 ≤ 1000 ∧ Plc F M x ∧ Below w.heap.size w w' := by
  have HR : Hid (IsRow w ao len cap zs) := hr
  clear hr
  go_enter Try.func32, Try.ntmps32
  go_wp2_with fail
  have hb0 := (Below.refl w.heap.size w).alloc (Nat.le_refl _) (.cells #[.slice none 0 0] 26)
  refine (new_any _ ao len cap zs (HR.out.below hb0) hsm).mono ?_
  rintro e w1 ⟨rfl, hc1, hb1, hz1⟩
  have hz : (w.alloc (.cells #[.slice none 0 0] 26)).heap.size = w.heap.size + 1 := World.size_alloc _ _
  have q1 : w1.cell? ⟨w.heap.size, 0, none⟩ = some (.slice none 0 0) := (hb1.cell (p := ⟨w.heap.size, 0, none⟩) (by rw [hz]; exact Nat.lt_succ_self _)).trans (World.cell?_alloc_new w _ _ 0)
  have f1 : w1.frozen? ⟨w.heap.size, 0, none⟩ = false := (hb1.frozen (p := ⟨w.heap.size, 0, none⟩) (by rw [hz]; exact Nat.lt_succ_self _)).trans (World.frozen?_alloc_new w _ _ 0)
  have HC1 : Hid (Cur (w.heap.size + 1) ao len cap zs w1) := by rw [hz] at hc1; exact hc1
  have HB1 : Hid (Below w.heap.size w w1 ∧ w1.heap.size = w.heap.size + 2) := ⟨hb0.trans (hb1.mono (by omega)), by omega⟩
  clear hb0 hb1 hc1 hz1 hz
  go_wp2_with fail
  refine (l2Any_any (w.heap.size + 1) ao len cap zs _ HC1.out (by have := HB1.out.2; omega)).mono ?_
  rintro e w2 ⟨g, M, cc, rfl, hM, hcc, hg, ⟨F, hF, hF0, hF1⟩, hd2⟩
  have hs1 := HB1.out.2
  have q2 := hd2.2.cell (by omega) q1
  have f2 : w2.frozen? ⟨w.heap.size, 0, none⟩ = false := (hd2.2.frozen (b := w.heap.size) (o := 0) (by omega) (by omega)).trans f1
  have HB2 : Hid (Below w.heap.size w w2) := Turn.below HB1.out.1 (by omega) hd2.2 (by omega)
  have HF2 : Hid (Ints w2 g 0 M F ∧ 0 ≤ F 1 ∧ F 1 ≤ 1000) := ⟨hF, hF0, hF1⟩
  have HG2 : Hid (w1.heap.size ≤ g) := hg
  have HC2 : Hid (Cur (w.heap.size + 1) ao len cap zs w2) := hd2.1
  have hs2 := hd2.2.size
  have hdx : Dx ao len cap zs w (w2.alloc (.cells #[.slice (some ⟨g, 0, none⟩) M cc] 26)) w2.heap.size g M cc F := by
    have hbC : Below w2.heap.size w2 (w2.alloc (.cells #[.slice (some ⟨g, 0, none⟩) M cc] 26)) := (Below.refl _ _).alloc (Nat.le_refl _) _
    exact ⟨HC2.out.below hbC, below_join HB2.out hbC, by rw [World.size_alloc]; omega, World.cell?_alloc_new w2 _ _ 0, (hbC.cell (p := ⟨w.heap.size, 0, none⟩) (by show w.heap.size < _; omega)).trans q2, (hbC.frozen (p := ⟨w.heap.size, 0, none⟩) (by show w.heap.size < _; omega)).trans f2, by omega, by have := HG2.out; omega, HF2.out.1.rd.below hbC⟩
  have HDX : Hid (Dx ao len cap zs w (w2.alloc (.cells #[.slice (some ⟨g, 0, none⟩) M cc] 26)) w2.heap.size g M cc F) := hdx
  clear hd2 hF hF0 hF1 hg q1 f1 hdx q2 f2
  go_wp2_with fail
  have hdx := HDX.out
  clear HDX HB2 HC2 HG2 hs1 hs2
  generalize w2.alloc (.cells #[.slice (some ⟨g, 0, none⟩) M cc] 26) = wC at hdx ⊢
  generalize w2.heap.size = B at hdx ⊢
  have b0 := hdx.box
  have hbS := ((Below.refl wC.heap.size wC).alloc (Nat.le_refl _) (.cells #[.int .i64 0, .int .i64 0, .int .i64 1, .int .i64 2, .int .i64 9, .int .i64 (-1)] 3))
  have hdS := hdx.quiet hbS
  have b1 := hdS.box
  have K0 : Hid (Cur (w.heap.size + 1) ao len cap zs wC.drew ∧ w.heap.size + 1 < wC.drew.heap.size ∧ Rd wC.drew (some ⟨g, 0, none⟩) M F) := ⟨(hdx.quiet ((Below.refl _ _).drew)).cur, hdx.sz, (hdx.quiet ((Below.refl _ _).drew)).rd⟩
  have K1 : Hid (Cur (w.heap.size + 1) ao len cap zs (wC.alloc (.cells #[.int .i64 0, .int .i64 0, .int .i64 1, .int .i64 2, .int .i64 9, .int .i64 (-1)] 3)).drew ∧ w.heap.size + 1 < (wC.alloc (.cells #[.int .i64 0, .int .i64 0, .int .i64 1, .int .i64 2, .int .i64 9, .int .i64 (-1)] 3)).drew.heap.size ∧ Rd (wC.alloc (.cells #[.int .i64 0, .int .i64 0, .int .i64 1, .int .i64 2, .int .i64 9, .int .i64 (-1)] 3)).drew (some ⟨g, 0, none⟩) M F) := ⟨(hdS.quiet ((Below.refl _ _).drew)).cur, hdS.sz, (hdS.quiet ((Below.refl _ _).drew)).rd⟩
  have KA : Hid (∀ w7, Drawn (w.heap.size + 1) ao len cap zs wC.drew w7 → Dx ao len cap zs w w7 B g M cc F ∧ w7.cell? ⟨B, 0, none⟩ = some (.slice (some ⟨g, 0, none⟩) M cc) ∧ (w7.alloc (.cells #[.int .i64 0, .int .i64 0, .int .i64 1, .int .i64 2, .int .i64 9, .int .i64 (-1)] 3)).cell? ⟨B, 0, none⟩ = some (.slice (some ⟨g, 0, none⟩) M cc)) := fun w7 h => by
    have d := hdx.call h.drew
    exact ⟨d, d.box, (d.quiet ((Below.refl _ _).alloc (Nat.le_refl _) _)).box⟩
  have KB : Hid (∀ w7, Drawn (w.heap.size + 1) ao len cap zs (wC.alloc (.cells #[.int .i64 0, .int .i64 0, .int .i64 1, .int .i64 2, .int .i64 9, .int .i64 (-1)] 3)).drew w7 → Dx ao len cap zs w w7 B g M cc F ∧ w7.cell? ⟨B, 0, none⟩ = some (.slice (some ⟨g, 0, none⟩) M cc) ∧ ∀ j, j < [(0 : Int), 0, 1, 2, 9, -1].length → w7.cell? ⟨wC.heap.size, j, none⟩ = some (.int .i64 ([(0 : Int), 0, 1, 2, 9, -1].getD j 0))) := fun w7 h => by
    have d := hdS.call h.drew
    exact ⟨d, d.box, fun j hj => h.drew.2.cell (by have := hdx.sz; omega) (news_ints wC [(0 : Int), 0, 1, 2, 9, -1] _ j hj)⟩
  have KI : Hid (∀ w7, Dx ao len cap zs w w7 B g M cc F → Cur (w.heap.size + 1) ao len cap zs (w7.alloc (.cells #[.int .i64 0, .int .i64 0, .int .i64 1, .int .i64 2, .int .i64 9, .int .i64 (-1)] 3)) ∧ w7.heap.size ≠ w.heap.size + 1 ∧ (∀ j, j < [(0 : Int), 0, 1, 2, 9, -1].length → (w7.alloc (.cells #[.int .i64 0, .int .i64 0, .int .i64 1, .int .i64 2, .int .i64 9, .int .i64 (-1)] 3)).cell? ⟨w7.heap.size, j, none⟩ = some (.int .i64 ([(0 : Int), 0, 1, 2, 9, -1].getD j 0))) ∧ ∀ w8, Drawn (w.heap.size + 1) ao len cap zs (w7.alloc (.cells #[.int .i64 0, .int .i64 0, .int .i64 1, .int .i64 2, .int .i64 9, .int .i64 (-1)] 3)) w8 → Dx ao len cap zs w w8 B g M cc F) := fun w7 d => by
    have dq := d.quiet ((Below.refl _ _).alloc (Nat.le_refl _) (.cells #[.int .i64 0, .int .i64 0, .int .i64 1, .int .i64 2, .int .i64 9, .int .i64 (-1)] 3))
    exact ⟨dq.cur, by have := d.sz; omega, news_ints w7 [(0 : Int), 0, 1, 2, 9, -1] _, fun w8 h => dq.call h⟩
  have HCS : Hid (wC.heap.size ≠ w.heap.size + 1 ∧ 1 ≤ [(0 : Int), 0, 1, 2, 9, -1].length ∧ [(0 : Int), 0, 1, 2, 9, -1].length ≤ 256) := ⟨by have := hdx.sz; omega, by simp, by simp⟩
  clear hbS hdS hdx
  go_region_law (go_simp; go_wp2_with (first
    | (go_at_call 57; first
        | ((conv in (World.alloc wC (.cells #[.int .i64 0, .int .i64 0, .int .i64 1, .int .i64 2, .int .i64 9, .int .i64 (-1)] 3)) => skip); refine (l3At_any (w.heap.size + 1) ao len cap zs g 0 M cc F ((wC.alloc (.cells #[.int .i64 0, .int .i64 0, .int .i64 1, .int .i64 2, .int .i64 9, .int .i64 (-1)] 3)).drew) K1.out.1 K1.out.2.1 K1.out.2.2 hM).mono ?_; rintro e w7 ⟨x, rfl, hx, hd7⟩; obtain ⟨hdr7, b7, hS⟩ := KB.out w7 hd7; have HX7 : Hid (Plc F M x ∧ Dx ao len cap zs w w7 B g M cc F) := ⟨hx, hdr7⟩; have HS7 : Hid (∀ j, j < [(0 : Int), 0, 1, 2, 9, -1].length → w7.cell? ⟨wC.heap.size, j, none⟩ = some (.int .i64 ([(0 : Int), 0, 1, 2, 9, -1].getD j 0))) := hS; clear hx hd7 hdr7 hS)
        | (refine (l3At_any (w.heap.size + 1) ao len cap zs g 0 M cc F wC.drew K0.out.1 K0.out.2.1 K0.out.2.2 hM).mono ?_; rintro e w7 ⟨x, rfl, hx, hd7⟩; obtain ⟨hdr7, b7, b7s⟩ := KA.out w7 hd7; have HX7 : Hid (Plc F M x ∧ Dx ao len cap zs w w7 B g M cc F) := ⟨hx, hdr7⟩; have HS7 : Hid (w7 = w7) := rfl; clear hx hd7 hdr7))
    | (go_at_call 50; first
        | ((conv in (World.alloc w7 (.cells #[.int .i64 0, .int .i64 0, .int .i64 1, .int .i64 2, .int .i64 9, .int .i64 (-1)] 3)) => skip); refine (int_any (w.heap.size + 1) ao len cap zs (w7.alloc (.cells #[.int .i64 0, .int .i64 0, .int .i64 1, .int .i64 2, .int .i64 9, .int .i64 (-1)] 3)) (KI.out w7 HX7.out.2).1 w7.heap.size [(0 : Int), 0, 1, 2, 9, -1] (KI.out w7 HX7.out.2).2.1 HCS.out.2.1 HCS.out.2.2 (KI.out w7 HX7.out.2).2.2.1).mono ?_; rintro e w8 ⟨y, rfl, hy, hd8⟩; have hdr8 := (KI.out w7 HX7.out.2).2.2.2 w8 hd8; have b8 := hdr8.box; have HX8 : Hid (Dx ao len cap zs w w8 B g M cc F) := hdr8; clear hy hd8 hdr8)
        | (refine (int_any (w.heap.size + 1) ao len cap zs w7 HX7.out.2.cur wC.heap.size [(0 : Int), 0, 1, 2, 9, -1] HCS.out.1 HCS.out.2.1 HCS.out.2.2 HS7.out).mono ?_; rintro e w8 ⟨y, rfl, hy, hd8⟩; have hdr8 := HX7.out.2.call hd8; have b8 := hdr8.box; have HX8 : Hid (Dx ao len cap zs w w8 B g M cc F) := hdr8; clear hy hd8 hdr8))
    | (go_at_call 58; refine (below_any (w.heap.size + 1) ao len cap zs w8 HX8.out.cur 100 (by decide) (by decide)).mono ?_; rintro e w9 ⟨z, rfl, hz0, hz1, hd9⟩; have hdr9 := HX8.out.call hd9; have b9 := hdr9.box; have r9 := hdr9.res; have rf9 := hdr9.resf; have HX9 : Hid (Dx ao len cap zs w w9 B g M cc F) := hdr9; clear hz0 hz1 hd9 hdr9)))
  all_goals
    go_wp2_with fail
    refine bodyPost_ret (v := .tuple #[.agg #[.slice (some ⟨g, 0, none⟩) M cc], .int .i64 x, .int .i64 y, .int .i64 z]) (by simp [results, Try.results32, go_sem, r9]) rfl ⟨g, M, cc, x, y, z, F, rfl, hM, hcc, fun hn => ?_, HF2.out.2.1, HF2.out.2.2, HX7.out.1, HX9.out.below.setCell (Nat.le_refl _) _⟩
    obtain ⟨b, o, e, hc⟩ := HX9.out.rd hn
    cases e
    exact ⟨g, 0, rfl, fun j hj => ((Turn.refl w.heap.size _).set 0 _).cell (by have := HX9.out.gw; omega) (hc j hj)⟩
end Go.Proofs.Ytejhfoahpopeoaa
