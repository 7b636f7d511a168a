/-
  An arena that is drawn, whole or struck or cut: what l2Any answers, and what its word 1 may be.
-/
import Derived.Test.YtmongbpdbcbhlaaDwA
namespace Go.Proofs.Ytmongbpdbcbhlaa
open Go.RowKit
set_option linter.unusedVariables false

/-- What l2Any has in hand. -/
structure Ds (cb : Nat) (ao : Option Addr) (len cap : Nat) (zs : List Int) (w wr : World) (A0 g N cc : Nat) (U : Int) : Prop where
  cur : Cur cb ao len cap zs wr
  turn : Turn cb w wr
  cb : cb < w.heap.size
  box : wr.cell? ⟨A0, 0, none⟩ = some (.slice (some ⟨g, 0, none⟩) N cc)
  boxf : wr.frozen? ⟨A0, 0, none⟩ = false
  res : wr.cell? ⟨w.heap.size, 0, none⟩ = some (.slice none 0 0)
  resf : wr.frozen? ⟨w.heap.size, 0, none⟩ = false
  ints : ∃ F, Ints wr g 0 N F ∧ 0 ≤ F 1 ∧ F 1 ≤ U
  a1 : w.heap.size < A0
  g1 : w.heap.size < g
  ne : g ≠ A0
  n1 : 12 ≤ N
  n2 : N ≤ 80
  hcc : N ≤ cc

theorem Ds.up {cb : Nat} {ao : Option Addr} {len cap : Nat} {zs : List Int} {w wr : World} {A0 g N cc : Nat} {U : Int} (d : Ds cb ao len cap zs w wr A0 g N cc U) : A0 < wr.heap.size ∧ g < wr.heap.size := by
  obtain ⟨F, hF, _⟩ := d.ints
  exact ⟨World.block_lt_of_cell? wr _ d.box, hF.lt (by have := d.n1; omega)⟩
theorem Ds.more {cb : Nat} {ao : Option Addr} {len cap : Nat} {zs : List Int} {w wr : World} {A0 g N cc : Nat} {U : Int} {U' : Int} (d : Ds cb ao len cap zs w wr A0 g N cc U) (h : U ≤ U') : Ds cb ao len cap zs w wr A0 g N cc U' := by
  obtain ⟨F, hF, h0, h1⟩ := d.ints
  exact ⟨d.cur, d.turn, d.cb, d.box, d.boxf, d.res, d.resf, ⟨F, hF, h0, by omega⟩, d.a1, d.g1, d.ne, d.n1, d.n2, d.hcc⟩
theorem Ds.call {w1 : World} {cb : Nat} {ao : Option Addr} {len cap : Nat} {zs : List Int} {w wr : World} {A0 g N cc : Nat} {U : Int} (d : Ds cb ao len cap zs w wr A0 g N cc U) (h : Drawn cb ao len cap zs wr w1) : Ds cb ao len cap zs w w1 A0 g N cc U := by
  obtain ⟨F, hF, hl⟩ := d.ints
  have h1 := d.a1
  have h2 := d.g1
  have h3 := d.cb
  have h4 := d.up
  exact ⟨h.1, d.turn.trans h.2, h3, h.2.cell (by omega) d.box, (h.2.frozen (b := A0) (o := 0) (by omega) h4.1).trans d.boxf, h.2.cell (by omega) d.res, (h.2.frozen (b := w.heap.size) (o := 0) (by omega) (by omega)).trans d.resf, ⟨F, hF.turn h.2 (by omega) h4.2, hl⟩, h1, h2, d.ne, d.n1, d.n2, d.hcc⟩
theorem Ds.quiet {w1 : World} {cb : Nat} {ao : Option Addr} {len cap : Nat} {zs : List Int} {w wr : World} {A0 g N cc : Nat} {U : Int} (d : Ds cb ao len cap zs w wr A0 g N cc U) (h : Below wr.heap.size wr w1) : Ds cb ao len cap zs w w1 A0 g N cc U :=
  d.call ⟨d.cur.below h, Turn.of_below h⟩
/-- The result is laid down. -/
theorem Ds.fin {cb : Nat} {ao : Option Addr} {len cap : Nat} {zs : List Int} {w wr : World} {A0 g N cc : Nat} {U : Int} (d : Ds cb ao len cap zs w wr A0 g N cc U) (v : Value) : (∃ F, Ints (wr.setCell ⟨w.heap.size, 0, none⟩ v) g 0 N F ∧ 0 ≤ F 1 ∧ F 1 ≤ U) ∧ Drawn cb ao len cap zs w (wr.setCell ⟨w.heap.size, 0, none⟩ v) := by
  obtain ⟨F, hF, hl⟩ := d.ints
  have h2 := d.g1
  have h3 := d.cb
  have h4 := d.up
  have ht : Turn w.heap.size wr (wr.setCell ⟨w.heap.size, 0, none⟩ v) := (Turn.refl _ _).set 0 _
  exact ⟨⟨F, hF.turn ht (by omega) h4.2, hl⟩, d.cur.far w.heap.size 0 h3 _, d.turn.far w.heap.size 0 (Nat.le_refl _) _⟩
/-- The first block's number of words in an arena that is whole. -/
theorem whole_one {F : Nat → Int} {N : Nat} (h : Whole F N) (h1 : 12 ≤ N) (h2 : N ≤ 80) : 0 ≤ F 1 ∧ F 1 ≤ 100 := by
  have hs := (whole_iff.1 h).1
  cases hb : bk F N 0 with
  | nil => rw [hb] at hs; have : 0 = N := hs; omega
  | cons b L =>
    rw [hb] at hs
    obtain ⟨_, hB, _⟩ := hs
    have e := hB.len
    have f := hB.fit
    rw [Nat.zero_add] at e
    rw [e]; omega
theorem Ds.start2 {cb : Nat} {ao : Option Addr} {len cap : Nat} {zs : List Int} {w w1 : World} {g N cc : Nat} {F : Nat → Int} (hcb : cb < w.heap.size)
    (hd : Drawn cb ao len cap zs (w.alloc (.cells #[.slice none 0 0] 26)) w1) (hg : (w.alloc (.cells #[.slice none 0 0] 26)).heap.size ≤ g) (hi : WInts w1 g N F) (h1 : 12 ≤ N) (h2 : N ≤ 80) (hcc : N ≤ cc) :
    Ds cb ao len cap zs w (w1.alloc (.cells #[.slice (some ⟨g, 0, none⟩) N cc] 26)) w1.heap.size g N cc 100 := by
  have hz : (w.alloc (.cells #[.slice none 0 0] 26)).heap.size = w.heap.size + 1 := World.size_alloc _ _
  have s1 := hd.2.size
  have hbn := (Below.refl w1.heap.size w1).alloc (Nat.le_refl _) (.cells #[.slice (some ⟨g, 0, none⟩) N cc] 26)
  have hgl := hi.lt (by omega)
  have q0 := World.cell?_alloc_new w #[.slice none 0 0] 26 0
  have f0 := World.frozen?_alloc_new w #[.slice none 0 0] 26 0
  exact ⟨hd.1.alloc _, (((Turn.refl cb w).alloc _).trans hd.2).alloc _, hcb, World.cell?_alloc_new w1 _ _ 0, World.frozen?_alloc_new w1 _ _ 0,
    (hbn.cell (p := ⟨w.heap.size, 0, none⟩) (by show w.heap.size < _; omega)).trans (hd.2.cell (by omega) q0), (hbn.frozen (p := ⟨w.heap.size, 0, none⟩) (by show w.heap.size < _; omega)).trans ((hd.2.frozen (b := w.heap.size) (o := 0) (by omega) (by omega)).trans f0),
    ⟨F, hi.ints.below hbn hgl, whole_one hi.whole h1 h2⟩, by omega, by omega, by omega, h1, h2, hcc⟩
/-- A word of the arena turns. -/
theorem Ds.word {cb : Nat} {ao : Option Addr} {len cap : Nat} {zs : List Int} {w wr : World} {A0 g N cc : Nat} {U : Int} (d : Ds cb ao len cap zs w wr A0 g N cc U) (q : Nat) (hq : q < N) (y : Int) (hU : U ≤ 1000) (hy : q = 1 → 0 ≤ y ∧ y ≤ 1000) : Ds cb ao len cap zs w (wr.setCell ⟨g, q, none⟩ (.int .i64 y)) A0 g N cc 1000 := by
  obtain ⟨F, hF, hl⟩ := d.ints
  have h1 := d.a1
  have h2 := d.g1
  have h3 := d.cb
  have h4 := d.ne
  have hI := hF.set q hq y
  rw [Nat.zero_add] at hI
  have ht : Turn g wr (wr.setCell ⟨g, q, none⟩ (.int .i64 y)) := (Turn.refl _ _).set q _
  exact ⟨d.cur.far g q (by omega) _, d.turn.far g q (by omega) _, h3, ht.cell (by omega) d.box, by rw [World.frozen?_setCell]; exact d.boxf, ht.cell (by omega) d.res, by rw [World.frozen?_setCell]; exact d.resf, ⟨_, hI, by unfold upd; split <;> omega⟩, h1, h2, h4, d.n1, d.n2, d.hcc⟩
/-- The result, of M of its words: the box A0 turns, then the result's. -/
theorem Ds.cut {cb : Nat} {ao : Option Addr} {len cap : Nat} {zs : List Int} {w wr : World} {A0 g N cc : Nat} {U : Int} (d : Ds cb ao len cap zs w wr A0 g N cc U) (M : Nat) (hM : M ≤ N) (u v : Value) :
    ((wr.setCell ⟨A0, 0, none⟩ u).cell? ⟨A0, 0, none⟩ = some u ∧ (wr.setCell ⟨A0, 0, none⟩ u).cell? ⟨w.heap.size, 0, none⟩ = some (.slice none 0 0) ∧ (wr.setCell ⟨A0, 0, none⟩ u).frozen? ⟨w.heap.size, 0, none⟩ = false) ∧
      (∃ F, Ints ((wr.setCell ⟨A0, 0, none⟩ u).setCell ⟨w.heap.size, 0, none⟩ v) g 0 M F ∧ 0 ≤ F 1 ∧ F 1 ≤ U) ∧ Drawn cb ao len cap zs w ((wr.setCell ⟨A0, 0, none⟩ u).setCell ⟨w.heap.size, 0, none⟩ v) := by
  obtain ⟨F, hF, hl⟩ := d.ints
  have h1 := d.a1
  have h2 := d.g1
  have h3 := d.cb
  have h4 := d.ne
  have h5 := d.up
  have ht : Turn A0 wr (wr.setCell ⟨A0, 0, none⟩ u) := (Turn.refl _ _).set 0 _
  have hu : Turn w.heap.size (wr.setCell ⟨A0, 0, none⟩ u) ((wr.setCell ⟨A0, 0, none⟩ u).setCell ⟨w.heap.size, 0, none⟩ v) := (Turn.refl _ _).set 0 _
  have hF1 := hF.turn ht (by omega) h5.2
  have hF2 := hF1.turn hu (by omega) (by rw [World.size_setCell]; exact h5.2)
  exact ⟨⟨World.cell?_setCell_same wr _ _ d.box, ht.cell (by omega) d.res, by rw [World.frozen?_setCell]; exact d.resf⟩, ⟨F, ⟨fun j hj => hF2.cell j (by omega), hF2.free⟩, hl⟩, (d.cur.far A0 0 (by omega) _).far w.heap.size 0 h3 _, (d.turn.far A0 0 (by omega) _).far w.heap.size 0 (Nat.le_refl _) _⟩

set_option maxHeartbeats 20000000 in
set_option maxRecDepth 100000 in
theorem l2Any_any (cb : Nat) (ao : Option Addr) (len cap : Nat) (zs : List Int) (w : World) (hc : Cur cb ao len cap zs w) (hcb : cb < w.heap.size) :
    Calls Try.prog 26 #[.pointer (some ⟨cb, 0, none⟩)] w fun e w' => ∃ g M cc, e = .returned (.agg #[.slice (some ⟨g, 0, none⟩) M cc]) ∧ M ≤ 80 ∧ M ≤ cc ∧ w.heap.size ≤ g ∧ (∃ F, Ints w' g 0 M F ∧ 0 ≤ F 1 ∧ F 1 ≤ 1000) ∧ Drawn cb ao len cap zs w w' := by
  have HC : Hid (Cur cb ao len cap zs w) := hc
  clear hc
  go_enter Try.func26, Try.ntmps26
  go_wp2_with fail
  refine (l2Draw_any cb ao len cap zs _ (HC.out.alloc _) (by rw [World.size_alloc]; omega)).mono ?_
  rintro e w1 ⟨g, N, cc, rfl, hN1, hN2, hcc, hg, ⟨F, hi⟩, hd1⟩
  have hs := Ds.start2 hcb hd1 hg hi hN1 hN2 hcc
  have HS : Hid (Ds cb ao len cap zs w (w1.alloc (.cells #[.slice (some ⟨g, 0, none⟩) N cc] 26)) w1.heap.size g N cc 100) := hs
  clear hs hd1 hg hi hcc
  go_wp2_with fail
  have hs := HS.out
  clear HS
  generalize (w1.alloc (.cells #[.slice (some ⟨g, 0, none⟩) N cc] 26)) = w2 at hs ⊢
  generalize w1.heap.size = A0 at hs ⊢
  refine (once_any cb ao len cap zs _ hs.cur 4 (by decide) (by decide)).mono ?_
  rintro e w3 ⟨x, rfl, hd3⟩
  have HD3 : Hid (Ds cb ao len cap zs w w3 A0 g N cc 100) := hs.call hd3
  clear hs hd3
  have hM1 : (1 : Int) ≤ (N : Int) := by omega
  have hM2 : (N : Int) ≤ 256 := by omega
  cases x with
  | false =>
    replace HD3 : Hid (Ds cb ao len cap zs w w3 A0 g N cc 1000) := HD3.out.more (by decide)
    go_wp2_with fail
    refine (once_any cb ao len cap zs _ HD3.out.cur 12 (by decide) (by decide)).mono ?_
    rintro e w6 ⟨x, rfl, hd6⟩
    have HD6 : Hid (Ds cb ao len cap zs w w6 A0 g N cc 1000) := HD3.out.call hd6
    clear hd6
    have b6 := HD6.out.box
    cases x with
    | false =>
      have q1 := HD6.out.res
      have f1 := HD6.out.resf
      go_wp2_with fail
      refine bodyPost_ret (v := .agg #[.slice (some ⟨g, 0, none⟩) N cc]) (by simp [results, Try.results26, go_sem, q1]) rfl ⟨g, N, cc, rfl, hN2, HD6.out.hcc, by have := HD6.out.g1; omega, ?_⟩
      exact HD6.out.fin _
    | true =>
      have K6 : Hid (∀ (w7 : World) (y : Int), 0 ≤ y → y < N → Drawn cb ao len cap zs w6.drew w7 → Ds cb ao len cap zs w w7 A0 g N cc 1000 ∧ w7.cell? ⟨A0, 0, none⟩ = some (.slice (some ⟨g, 0, none⟩) N cc) ∧ w7.frozen? ⟨A0, 0, none⟩ = false ∧ ∃ M : Nat, y = M ∧ M < N ∧ M ≤ cc) := fun w7 y h0 h1 hd => by
        have d7 := HD6.out.call hd.drew
        have hcc := d7.hcc
        exact ⟨d7, d7.box, d7.boxf, y.toNat, by omega, by omega, by omega⟩
      go_wp2_with fail
      go_region_with (go_at_call 54; refine (below_any cb ao len cap zs _ ?_ N hM1 hM2).mono ?_; exact HD6.out.cur.drew; rintro e w7 ⟨y, rfl, hy0, hy1, hd7⟩; obtain ⟨hdr7, b7, f7, M, rfl, hM, hMc⟩ := K6.out w7 y hy0 hy1 hd7; have HD7 : Hid (Ds cb ao len cap zs w w7 A0 g N cc 1000) := hdr7; clear hy0 hy1 hd7 hdr7)
      all_goals
        obtain ⟨⟨q8, q9, f9⟩, hfin⟩ := HD7.out.cut M (Nat.le_of_lt hM) (.slice (some ⟨g, 0, none⟩) M cc) (.slice (some ⟨g, 0, none⟩) M cc)
        have HF : Hid ((∃ F, Ints ((w7.setCell ⟨A0, 0, none⟩ (.slice (some ⟨g, 0, none⟩) M cc)).setCell ⟨w.heap.size, 0, none⟩ (.slice (some ⟨g, 0, none⟩) M cc)) g 0 M F ∧ 0 ≤ F 1 ∧ F 1 ≤ 1000) ∧ Drawn cb ao len cap zs w ((w7.setCell ⟨A0, 0, none⟩ (.slice (some ⟨g, 0, none⟩) M cc)).setCell ⟨w.heap.size, 0, none⟩ (.slice (some ⟨g, 0, none⟩) M cc))) := hfin
        clear hfin b7 f7
        have hgw : w.heap.size ≤ g := Nat.le_of_lt HD7.out.g1
        clear HD7
        generalize w7.setCell ⟨A0, 0, none⟩ (.slice (some ⟨g, 0, none⟩) M cc) = w8 at *
        go_wp2_with fail
        exact bodyPost_ret (v := .agg #[.slice (some ⟨g, 0, none⟩) M cc]) (by simp [results, Try.results26, go_sem, q9]) rfl ⟨g, M, cc, rfl, by omega, hMc, hgw, HF.out⟩
  | true =>
    have b3 := HD3.out.box
    go_wp2_with fail
    refine (below_any cb ao len cap zs _ HD3.out.cur N hM1 hM2).mono ?_
    rintro e w4 ⟨kk, rfl, hk0, hk1, hd4⟩
    have HD4 : Hid (Ds cb ao len cap zs w w4 A0 g N cc 100) := HD3.out.call hd4
    obtain ⟨k, rfl⟩ : ∃ k : Nat, kk = k := ⟨kk.toNat, by omega⟩
    have hk : k < N := by omega
    obtain ⟨F4, hF4, hl4⟩ := HD4.out.ints
    have c4 : w4.cell? ⟨g, k, none⟩ = some (.int .i64 (F4 k)) := by have := hF4.cell k hk; rw [Nat.zero_add] at this; exact this
    have HZ0 : k = 1 → 0 ≤ F4 k ∧ F4 k ≤ 100 := fun e => by rw [e]; exact hl4
    generalize F4 k = z at c4 HZ0
    have b4 := HD4.out.box
    clear hd4 hF4 hk0 hk1 b3
    obtain ⟨z1, hz1⟩ : ∃ z1 : Int, IntKind.i64.wrap (z + 1) = z1 := ⟨_, rfl⟩
    have HZ : Hid (k = 1 → 0 ≤ z1 ∧ z1 ≤ 1000) := fun e => by
      have h := HZ0 e
      rw [← hz1, IntKind.wrap_i64]; omega
    clear HZ0 hl4
    have K4 : Hid (Cur cb ao len cap zs ((w4.alloc (.cells #[.int .i64 0, .int .i64 1, .int .i64 z1, .int .i64 1000] 3)).drew) ∧ (∀ j, j < [(0 : Int), 1, z1, 1000].length → ((w4.alloc (.cells #[.int .i64 0, .int .i64 1, .int .i64 z1, .int .i64 1000] 3)).drew).cell? ⟨w4.heap.size, j, none⟩ = some (.int .i64 ([(0 : Int), 1, z1, 1000].getD j 0))) ∧ ∀ w5, Drawn cb ao len cap zs ((w4.alloc (.cells #[.int .i64 0, .int .i64 1, .int .i64 z1, .int .i64 1000] 3)).drew) w5 → Ds cb ao len cap zs w w5 A0 g N cc 100 ∧ w5.cell? ⟨A0, 0, none⟩ = some (.slice (some ⟨g, 0, none⟩) N cc) ∧ (∃ v, w5.cell? ⟨g, k, none⟩ = some (.int .i64 v)) ∧ (∀ o, w5.frozen? ⟨g, o, none⟩ = false)) := by
      have hb := ((Below.refl w4.heap.size w4).alloc (Nat.le_refl _) (.cells #[.int .i64 0, .int .i64 1, .int .i64 z1, .int .i64 1000] 3)).drew
      refine ⟨HD4.out.cur.below hb, news_ints w4 [0, 1, z1, 1000] _, fun w5 h => ?_⟩
      have d5 := (HD4.out.quiet hb).call h
      obtain ⟨F5, hF5, _⟩ := d5.ints
      exact ⟨d5, d5.box, ⟨_, by have := hF5.cell k hk; rw [Nat.zero_add] at this; exact this⟩, hF5.free⟩
    have KX : Hid (w4.heap.size ≠ cb ∧ 1 ≤ [(0 : Int), 1, z1, 1000].length ∧ [(0 : Int), 1, z1, 1000].length ≤ 256) := ⟨by have h1 := HD4.out.cb; have h2 := HD4.out.turn.size; omega, by simp, by simp⟩
    have hlA : A0 < w4.heap.size := HD4.out.up.1
    have hlg : g < w4.heap.size := HD4.out.up.2
    have qa : (w4.alloc (.cells #[.int .i64 0, .int .i64 1, .int .i64 z1, .int .i64 1000] 3)).cell? ⟨A0, 0, none⟩ = some (.slice (some ⟨g, 0, none⟩) N cc) := by rw [World.cell?_alloc_lt (h := hlA)]; exact b4
    go_wp2_with fail
    go_cut [] from 9 to 26 (fun wx => Ds cb ao len cap zs w wx A0 g N cc 1000)
    case first =>
      go_region_with (go_at_call 43; refine (int_any cb ao len cap zs ((w4.alloc (.cells #[.int .i64 0, .int .i64 1, .int .i64 z1, .int .i64 1000] 3)).drew) K4.out.1 w4.heap.size [0, 1, z1, 1000] KX.out.1 KX.out.2.1 KX.out.2.2 K4.out.2.1).mono ?_; rintro e w5 ⟨y, rfl, hy, hd5⟩; obtain ⟨hdr5, b5, ⟨v5, c5⟩, f5⟩ := K4.out.2.2 w5 hd5; have HD5 : Hid (Ds cb ao len cap zs w w5 A0 g N cc 100 ∧ y ∈ [(0 : Int), 1, z1, 1000]) := ⟨hdr5, hy⟩; clear hy hd5 hdr5)
      all_goals
        go_wp2_with fail
        go_meet
        case rel =>
          refine HD5.out.1.word k hk _ (by decide) fun e => ?_
          have hz := HZ.out e
          have hy := HD5.out.2
          simp only [List.mem_cons, List.not_mem_nil, or_false] at hy
          omega
    case rest =>
      have HD3 : Hid (Ds cb ao len cap zs w wc A0 g N cc 1000) := hcut
      clear hcut
      go_wp2_with fail
      refine (once_any cb ao len cap zs _ HD3.out.cur 12 (by decide) (by decide)).mono ?_
      rintro e w6 ⟨x, rfl, hd6⟩
      have HD6 : Hid (Ds cb ao len cap zs w w6 A0 g N cc 1000) := HD3.out.call hd6
      clear hd6
      have b6 := HD6.out.box
      cases x with
      | false =>
        have q1 := HD6.out.res
        have f1 := HD6.out.resf
        go_wp2_with fail
        refine bodyPost_ret (v := .agg #[.slice (some ⟨g, 0, none⟩) N cc]) (by simp [results, Try.results26, go_sem, q1]) rfl ⟨g, N, cc, rfl, hN2, HD6.out.hcc, by have := HD6.out.g1; omega, ?_⟩
        exact HD6.out.fin _
      | true =>
        have K6 : Hid (∀ (w7 : World) (y : Int), 0 ≤ y → y < N → Drawn cb ao len cap zs w6.drew w7 → Ds cb ao len cap zs w w7 A0 g N cc 1000 ∧ w7.cell? ⟨A0, 0, none⟩ = some (.slice (some ⟨g, 0, none⟩) N cc) ∧ w7.frozen? ⟨A0, 0, none⟩ = false ∧ ∃ M : Nat, y = M ∧ M < N ∧ M ≤ cc) := fun w7 y h0 h1 hd => by
          have d7 := HD6.out.call hd.drew
          have hcc := d7.hcc
          exact ⟨d7, d7.box, d7.boxf, y.toNat, by omega, by omega, by omega⟩
        go_wp2_with fail
        go_region_with (go_at_call 54; refine (below_any cb ao len cap zs _ ?_ N hM1 hM2).mono ?_; exact HD6.out.cur.drew; rintro e w7 ⟨y, rfl, hy0, hy1, hd7⟩; obtain ⟨hdr7, b7, f7, M, rfl, hM, hMc⟩ := K6.out w7 y hy0 hy1 hd7; have HD7 : Hid (Ds cb ao len cap zs w w7 A0 g N cc 1000) := hdr7; clear hy0 hy1 hd7 hdr7)
        all_goals
          obtain ⟨⟨q8, q9, f9⟩, hfin⟩ := HD7.out.cut M (Nat.le_of_lt hM) (.slice (some ⟨g, 0, none⟩) M cc) (.slice (some ⟨g, 0, none⟩) M cc)
          have HF : Hid ((∃ F, Ints ((w7.setCell ⟨A0, 0, none⟩ (.slice (some ⟨g, 0, none⟩) M cc)).setCell ⟨w.heap.size, 0, none⟩ (.slice (some ⟨g, 0, none⟩) M cc)) g 0 M F ∧ 0 ≤ F 1 ∧ F 1 ≤ 1000) ∧ Drawn cb ao len cap zs w ((w7.setCell ⟨A0, 0, none⟩ (.slice (some ⟨g, 0, none⟩) M cc)).setCell ⟨w.heap.size, 0, none⟩ (.slice (some ⟨g, 0, none⟩) M cc))) := hfin
          clear hfin b7 f7
          have hgw : w.heap.size ≤ g := Nat.le_of_lt HD7.out.g1
          clear HD7
          generalize w7.setCell ⟨A0, 0, none⟩ (.slice (some ⟨g, 0, none⟩) M cc) = w8 at *
          go_wp2_with fail
          exact bodyPost_ret (v := .agg #[.slice (some ⟨g, 0, none⟩) M cc]) (by simp [results, Try.results26, go_sem, q9]) rfl ⟨g, M, cc, rfl, by omega, hMc, hgw, HF.out⟩
end Go.Proofs.Ytmongbpdbcbhlaa
