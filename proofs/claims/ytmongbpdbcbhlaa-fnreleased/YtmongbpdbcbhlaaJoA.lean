/-
  What the program's joined answers.
-/
import Derived.Test.YtmongbpdbcbhlaaJoH
namespace Go.Proofs.Ytmongbpdbcbhlaa
open Go.RowKit Go.Shelf
set_option linter.unusedVariables false
attribute [local go_sem] Oper.semAt_some

/-- Behind the first question of a round, and behind the second. -/
def jM4 (w U : World) (ao : Option Addr) (N cap p n Bs Be S E Bx q m Bn T : Nat) (u b : Bool) : Exit → Act → World → Prop
  | .normal, a, V => ∃ a1 a2 a3 a4, a = { tmps := #[.agg #[.slice ao N cap], .agg #[.int .i64 p, .int .i64 n, .bool true], .pointer (some ⟨w.heap.size, 0, none⟩), .pointer (some ⟨w.heap.size + 1, 0, none⟩), .pointer (some ⟨w.heap.size + 1 + 1, 0, none⟩), .pointer (some ⟨Bs, 0, none⟩), .pointer (some ⟨Be, 0, none⟩), .pointer (some ⟨Bx, 0, none⟩), .pointer (some ⟨w.heap.size + 1, 0, none⟩), .int .i64 p, .agg #[.int .i64 p, .int .i64 n, .bool true], .int .i64 ((p : Int) + n + 3), .agg #[.slice ao N cap], .func (.func 68) #[] #[.pointer (some ⟨Bn, 0, none⟩)], .agg #[.int .i64 q, .int .i64 m, .bool u], a1, a2, a3, a4, .bool b, undef, undef, undef, undef, undef, undef, undef, undef, undef, undef, undef, undef, undef, undef, undef], defers := [] } ∧ JoX w U V ao N cap p n Bs Be S E Bx q m u T
  | _, _, _ => False
def jM6 (w U : World) (ao : Option Addr) (N cap p n Bs Be S E Bx q m Bn T : Nat) (u b : Bool) : Exit → Act → World → Prop
  | .normal, a, V => ∃ a1 a2 a3 a4 a5 a6 a7 a8 a9 a10 a11, a = { tmps := #[.agg #[.slice ao N cap], .agg #[.int .i64 p, .int .i64 n, .bool true], .pointer (some ⟨w.heap.size, 0, none⟩), .pointer (some ⟨w.heap.size + 1, 0, none⟩), .pointer (some ⟨w.heap.size + 1 + 1, 0, none⟩), .pointer (some ⟨Bs, 0, none⟩), .pointer (some ⟨Be, 0, none⟩), .pointer (some ⟨Bx, 0, none⟩), .pointer (some ⟨w.heap.size + 1, 0, none⟩), .int .i64 p, .agg #[.int .i64 p, .int .i64 n, .bool true], .int .i64 ((p : Int) + n + 3), .agg #[.slice ao N cap], .func (.func 68) #[] #[.pointer (some ⟨Bn, 0, none⟩)], .agg #[.int .i64 q, .int .i64 m, .bool u], a1, a2, a3, a4, a5, a6, a7, a8, a9, a10, a11, .bool b, undef, undef, undef, undef, undef, undef, undef, undef], defers := [] } ∧ JoX w U V ao N cap p n Bs Be S E Bx q m u T
  | _, _, _ => False
set_option maxRecDepth 100000 in
set_option maxHeartbeats 4000000 in
theorem joined_any (ao : Option Addr) (N cap : Nat) (f : Nat → Int) (p n : Nat) (w : World) (hr : Rd w ao N f) (hN : N ≤ 1048576) (hcap : N ≤ cap) (hp4 : p ≤ 4000) (hn4 : n ≤ 4000) :
    Calls Try.prog 30 #[.agg #[.slice ao N cap], .agg #[.int .i64 p, .int .i64 n, .bool true]] w fun e w' => ∃ S E : Nat, e = .returned (.agg #[.int .i64 S, .int .i64 ((E : Int) - S - 3), .bool false]) ∧ SP p (fk f N) S ∧ EP (p + n + 3) (fk f N) E ∧ Below w.heap.size w w' := by
  have HR : Hid (Rd w ao N f) := hr
  clear hr
  refine (callsIn_wide (n := 8)).1 ?_
  refine callsIn_of_wp_marks Try.func30 rfl trivial ?_ rfl
  simp only [Try.ntmps30, List.size_toArray, List.length_cons, List.length_nil, Nat.reduceAdd, Nat.reduceSub, Array.replicate_succ, Array.replicate_zero, List.push_toArray, List.append_toArray, List.nil_append, List.cons_append]
  have hmx : Try.prog.follows .mixedOrders = true := by kernel_rfl
  have hfn : Fence.wide.fn 32 := trivial
  have hd : 1 ≤ 8 - 1 := by omega
  have HW3 : Hid (Jo3 w (((w.alloc (.cells #[.slice ao N cap] 26)).alloc (.cells #[.int .i64 p, .int .i64 n, .bool true] 54)).alloc (.cells #[.int .i64 0, .int .i64 0, .bool false] 54)) ao N cap p n) := Jo3.start w ao N cap p n
  gi_wp2
  refine Code.wpIn_mono (Q := jMid w ao N cap p n) ?later ?region
  case region =>
    gi_region_with_o (gi_at_call 32; refine (callsIn_wide.2 (end_ex p n true hp4 hn4 _)).mono ?_; rintro e w' ⟨rfl, rfl⟩)
    all_goals
      refine ⟨_, _, rfl, HW3.out.three _ _ _ ?_ ?_ ?_ ?_ ?_⟩
      · first | with_reducible exact box1 HW3.out.sz _ _ | with_reducible exact box2 HW3.out.sz _ _ | with_reducible exact box3 HW3.out.sz _ _
      · first | with_reducible exact box1 HW3.out.sz _ _ | with_reducible exact box2 HW3.out.sz _ _ | with_reducible exact box3 HW3.out.sz _ _
      · omega
      · omega
      · omega
  case later =>
    intro e a V hm
    cases e <;> first | exact (hm : False).elim | skip
    obtain ⟨Bs, Be, rfl, hs⟩ := hm
    have c0 := hs.ba.cell
    have HS : Hid (JoS w V ao N cap p n Bs Be p (p + n + 3)) := hs
    clear hs HW3
    gi_wp2_with (refine ⟨trivial, ?_⟩; gi_at_call 39; refine (free_in _ ao N cap _).mono ?_; rintro e w' ⟨rfl, rfl⟩)
    have hbn := (Below.refl V.heap.size V).alloc (Nat.le_refl _) (.cells #[.slice ao N cap] 26)
    have bA := Boxed.new V 26 (.slice ao N cap)
    have hS4 := HS.out.call hbn
    have hsz : (V.alloc (.cells #[.slice ao N cap] 26)).heap.size = V.heap.size + 1 := World.size_alloc _ _
    have hw3 := HS.out.bs.lt
    have hls := HS.out.ls
    have hle := HS.out.le
    have hne := HS.out.ne
    clear hbn c0 HS
    generalize (V.alloc (.cells #[.slice ao N cap] 26)) = W0 at bA hS4 hsz ⊢
    generalize V.heap.size = Bn at bA hw3 hsz ⊢
    have hlow : N ≠ 0 → ∀ a, ao = some a → a.block < w.heap.size := fun hn a e => by obtain ⟨b, o, e2, hc⟩ := HR.out hn; rw [e] at e2; cases e2; exact World.block_lt_of_cell? w _ (hc 0 (by omega))
    have hH0 : Hld w.heap.size Bn ao N cap f W0 := ⟨bA, HR.out.below hS4.below, hlow⟩
    have hwW := hS4.below.size
    refine range_over (by omega) (gf := 68) (lb := #[.pointer (some ⟨Bn, 0, none⟩)]) rfl (enters_of Try.func68 (by kernel_rfl) rfl) (free_seq 7 (by omega) w.heap.size Bn ao N cap f hN hcap W0 hH0 (by omega) _) (by omega) (by intro x; rfl)
      (fun pre U => ∃ S E : Nat, JoS w U ao N cap p n Bs Be S E ∧ SP p (unB pre) S ∧ EP (p + n + 3) (unB pre) E)
      (fun _ _ _ => False)
      (fun s A C row hs hg hr => by obtain ⟨S, E, h1, h2, h3⟩ := hs; exact ⟨S, E, joS_own (by omega) () A C row h1 hg hr, h2, h3⟩)
      (fun _ _ _ _ _ hs _ _ => hs)
      ⟨p, p + n + 3, hS4, .inl ⟨rfl, fun b hb => by cases hb⟩, .inl ⟨rfl, fun b hb => by cases hb⟩⟩
      (fun x a' U => ∃ Bx, Boxed3 U Bx x.1.1 x.1.2.1 x.1.2.2 ∧ Bs < Bx ∧ Be < Bx ∧ a' = { tmps := #[.agg #[.slice ao N cap], .agg #[.int .i64 p, .int .i64 n, .bool true], .pointer (some ⟨w.heap.size, 0, none⟩), .pointer (some ⟨w.heap.size + 1, 0, none⟩), .pointer (some ⟨w.heap.size + 1 + 1, 0, none⟩), .pointer (some ⟨Bs, 0, none⟩), .pointer (some ⟨Be, 0, none⟩), .pointer (some ⟨Bx, 0, none⟩), .pointer (some ⟨w.heap.size + 1, 0, none⟩), .int .i64 p, .agg #[.int .i64 p, .int .i64 n, .bool true], .int .i64 ((p : Int) + n + 3), .agg #[.slice ao N cap], .func (.func 68) #[] #[.pointer (some ⟨Bn, 0, none⟩)], .agg #[.int .i64 x.1.1, .int .i64 x.1.2.1, .bool x.1.2.2], undef, undef, undef, undef, undef, undef, undef, undef, undef, undef, undef, undef, undef, undef, undef, undef, undef, undef, undef, undef], defers := [] })
      (fun x a' _ A C row hs hg hr => by obtain ⟨Bx, h2, h3⟩ := hs; exact ⟨Bx, boxed3_own Bx _ _ _ () A C row h2 hg (fun r e => (hr r e).2), h3⟩)
      ?assign ?body ?done ?stop
    case assign =>
      rintro l2 pre x U K ⟨S, E, hJ, hS, hE⟩ hK
      dsimp only [enB]
      gi_wp2
      have hbn := (Below.refl U.heap.size U).alloc (Nat.le_refl _) (.cells #[.int .i64 x.1.1, .int .i64 x.1.2.1, .bool x.1.2.2] 54)
      exact hK _ _ ((KeepsOthers.alloc _ _).from _) (KB.of_below hbn hJ.below.size) ⟨S, E, hJ.call hbn, hS, hE⟩ ⟨U.heap.size, Boxed3.new U _ _ _, hJ.bs.lt, hJ.be.lt, rfl⟩
    case body =>
      rintro l2 pre x a' U ⟨S, E, hJ, hS, hE⟩ ⟨Bx, bX, hx1, hx2, rfl⟩ hlt
      obtain ⟨⟨q, m, u⟩, hBk⟩ := x
      dsimp only at *
      have hq4 := hBk.hp
      have hm4 := hBk.hn
      have eU : unB (pre ++ [(⟨(q, m, u), hBk⟩ : BT f N)]) = unB pre ++ [(q, m, u)] := by simp [unB]
      have HU : Hid (unB (pre ++ [(⟨(q, m, u), hBk⟩ : BT f N)]) = unB pre ++ [(q, m, u)] ∧ SP p (unB pre) S ∧ EP (p + n + 3) (unB pre) E) := ⟨eU, hS, hE⟩
      have hX0 : JoX w U U ao N cap p n Bs Be S E Bx q m u (W0.heap.size + 2) := ⟨hJ, bX, KeepsOthers.refl _, KB.refl _ _ _⟩
      have KE : Hid (∀ (S E : Nat) (A w' : World), JoX w U A ao N cap p n Bs Be S E Bx q m u (W0.heap.size + 2) → Below A.drew.heap.size A.drew w' → JoX w U w' ao N cap p n Bs Be S E Bx q m u (W0.heap.size + 2)) := fun S E A w' h hb => h.call ⟨hb.os, hb.tape, hb.output, hb.size, hb.block⟩
      obtain ⟨q0, q1, q2⟩ := bX.cells
      obtain ⟨p0, p1, p2⟩ := hJ.bb.cells
      have HX0 : Hid (JoX w U U ao N cap p n Bs Be S E Bx q m u (W0.heap.size + 2)) := hX0
      have hmx : Try.prog.follows .mixedOrders = true := by kernel_rfl
      have hd : 1 ≤ 8 - 1 - 1 := by omega
      have n1 : ¬ Bx = Bs := by omega
      have n2 : ¬ Bx = Be := by omega
      have n3 : ¬ w.heap.size + 1 = Bs := by omega
      have n4 : ¬ w.heap.size + 1 = Be := by omega
      clear hX0 hJ hS hE bX eU
      clear q0 q1 q2 p0 p1 p2
      obtain ⟨q0, q1, q2⟩ := HX0.out.x.cells
      obtain ⟨p0, p1, p2⟩ := HX0.out.j.bb.cells
      by_cases g1 : q + m + 3 = p
      · have g1' : ((q : Int) + m + 3 == (p : Int)) = true := by simp; omega
        have g1i : (q : Int) + m + 3 = p := by omega
        have g2' : ¬ (q : Int) = (p : Int) + n + 3 := by omega
        have g2f : ((q : Int) == (p : Int) + n + 3) = false := by simp; omega
        gi_wp2
        refine Code.wpIn_mono (Q := jM4 w U ao N cap p n Bs Be S E Bx q m Bn (W0.heap.size + 2) u true) ?later4 ?region4
        case region4 =>
          gi_region_with_o (gi_at_call 32; refine (CallsIn.inRound l2 (callsIn_wide.2 (end_bb q m u hq4 hm4 _))).mono ?_; rintro e w5 ⟨rfl, hb5⟩; have hX5 := KE.out _ _ _ _ HX0.out hb5; obtain ⟨a0, a1, a2⟩ := hX5.x.cells; obtain ⟨b0, b1, b2⟩ := hX5.j.bb.cells; have HX5 : Hid (JoX w U w5 ao N cap p n Bs Be S E Bx q m u (W0.heap.size + 2)) := hX5; clear hX5 hb5)
          all_goals exact ⟨_, _, _, _, rfl, HX5.out⟩
        case later4 =>
          intro e a V4 hm
          cases e <;> first | exact (hm : False).elim | skip
          obtain ⟨d1, d2, d3, d4, rfl, hX4⟩ := hm
          obtain ⟨q0, q1, q2⟩ := hX4.x.cells
          obtain ⟨p0, p1, p2⟩ := hX4.j.bb.cells
          have s5 := hX4.j.bs.cell
          have f5 := hX4.j.bs.frozen
          have HX4 : Hid (JoX w U V4 ao N cap p n Bs Be S E Bx q m u (W0.heap.size + 2)) := hX4
          clear hX4 HX0
          have hX5 := HX4.out.setS n1 q
          have HX5 : Hid (JoX w U (V4.setCell ⟨Bs, 0, none⟩ (.int .i64 q)) ao N cap p n Bs Be q E Bx q m u (W0.heap.size + 2)) := hX5
          obtain ⟨y0, y1, y2⟩ := hX5.x.cells
          obtain ⟨z0, z1, z2⟩ := hX5.j.bb.cells
          clear hX5
          gi_wp2
          refine Code.wpIn_mono (Q := jM6 w U ao N cap p n Bs Be q E Bx q m Bn (W0.heap.size + 2) u false) ?later6 ?region6
          case region6 =>
            gi_region_with_o (gi_at_call 32; refine (CallsIn.inRound l2 (callsIn_wide.2 (end_bb p n true hp4 hn4 _))).mono ?_; rintro e w7 ⟨rfl, hb7⟩; have hX7 := KE.out _ _ _ _ HX5.out hb7; obtain ⟨k0, k1, k2⟩ := hX7.x.cells; obtain ⟨c0, c1, c2⟩ := hX7.j.bb.cells; have HX7 : Hid (JoX w U w7 ao N cap p n Bs Be q E Bx q m u (W0.heap.size + 2)) := hX7; clear hX7 hb7)
            all_goals exact ⟨_, _, _, _, _, _, _, _, _, _, _, rfl, HX7.out⟩
          case later6 =>
            intro e a V6 hm
            cases e <;> first | exact (hm : False).elim | skip
            obtain ⟨e1, e2, e3, e4, e5, e6, e7, e8, e9, e10, e11, rfl, hX6⟩ := hm
            obtain ⟨r0, r1, r2⟩ := hX6.x.cells
            have s7 := hX6.j.be.cell
            have f7 := hX6.j.be.frozen
            have HX6 : Hid (JoX w U V6 ao N cap p n Bs Be q E Bx q m u (W0.heap.size + 2)) := hX6
            clear hX6
            gi_wp2
            exact ⟨HX6.out.ko.from _, HX6.out.kb, q, E, HX6.out.j, by rw [HU.out.1]; exact SP.yes g1, by rw [HU.out.1]; exact HU.out.2.2.no (by dsimp only; omega)⟩
      · have g1i : ¬ (q : Int) + m + 3 = p := by omega
        have g1f : ((q : Int) + m + 3 == (p : Int)) = false := by simp; omega
        by_cases g2 : q = p + n + 3
        · have g2b : ((q : Int) == (p : Int) + n + 3) = true := by simp; omega
          have g2d : decide ((q : Int) = (p : Int) + n + 3) = true := decide_eq_true (by omega)
          have HG2 : Hid (q = p + n + 3) := g2
          clear g2
          have HEC : Hid (((q : Int) + m + 3) = ((q + m + 3 : Nat) : Int)) := by show _ = _; omega
          gi_wp2
          refine Code.wpIn_mono (Q := jM4 w U ao N cap p n Bs Be S E Bx q m Bn (W0.heap.size + 2) u false) ?later4 ?region4
          case region4 =>
            gi_region_with_o (gi_at_call 32; refine (CallsIn.inRound l2 (callsIn_wide.2 (end_bb q m u hq4 hm4 _))).mono ?_; rintro e w5 ⟨rfl, hb5⟩; have hX5 := KE.out _ _ _ _ HX0.out hb5; obtain ⟨a0, a1, a2⟩ := hX5.x.cells; obtain ⟨b0, b1, b2⟩ := hX5.j.bb.cells; have HX5 : Hid (JoX w U w5 ao N cap p n Bs Be S E Bx q m u (W0.heap.size + 2)) := hX5; clear hX5 hb5)
            all_goals exact ⟨_, _, _, _, rfl, HX5.out⟩
          case later4 =>
            intro e a V4 hm
            cases e <;> first | exact (hm : False).elim | skip
            obtain ⟨d1, d2, d3, d4, rfl, hX4⟩ := hm
            obtain ⟨q0, q1, q2⟩ := hX4.x.cells
            obtain ⟨p0, p1, p2⟩ := hX4.j.bb.cells
            have s5 := hX4.j.bs.cell
            have f5 := hX4.j.bs.frozen
            have HX4 : Hid (JoX w U V4 ao N cap p n Bs Be S E Bx q m u (W0.heap.size + 2)) := hX4
            clear hX4 HX0
            gi_wp2
            refine Code.wpIn_mono (Q := jM6 w U ao N cap p n Bs Be S E Bx q m Bn (W0.heap.size + 2) u true) ?later6 ?region6
            case region6 =>
              gi_region_with_o (gi_at_call 32; refine (CallsIn.inRound l2 (callsIn_wide.2 (end_bb p n true hp4 hn4 _))).mono ?_; rintro e w7 ⟨rfl, hb7⟩; have hX7 := KE.out _ _ _ _ HX4.out hb7; obtain ⟨k0, k1, k2⟩ := hX7.x.cells; obtain ⟨c0, c1, c2⟩ := hX7.j.bb.cells; have HX7 : Hid (JoX w U w7 ao N cap p n Bs Be S E Bx q m u (W0.heap.size + 2)) := hX7; clear hX7 hb7)
              all_goals exact ⟨_, _, _, _, _, _, _, _, _, _, _, rfl, HX7.out⟩
            case later6 =>
              intro e a V6 hm
              cases e <;> first | exact (hm : False).elim | skip
              obtain ⟨e1, e2, e3, e4, e5, e6, e7, e8, e9, e10, e11, rfl, hX6⟩ := hm
              obtain ⟨r0, r1, r2⟩ := hX6.x.cells
              have s7 := hX6.j.be.cell
              have f7 := hX6.j.be.frozen
              have HX6 : Hid (JoX w U V6 ao N cap p n Bs Be S E Bx q m u (W0.heap.size + 2)) := hX6
              clear hX6
              gi_wp2
              refine (CallsIn.inRound l2 (callsIn_wide.2 (end_bb q m u hq4 hm4 _))).mono ?_
              rintro e w8 ⟨rfl, hb8⟩
              have hX8 := HX6.out.call hb8
              have s8 := hX8.j.be.cell
              have f8 := hX8.j.be.frozen
              have HX8 : Hid (JoX w U w8 ao N cap p n Bs Be S E Bx q m u (W0.heap.size + 2)) := hX8
              clear hX8 hb8
              gi_wp2
              have hX9 := HX8.out.setE n2 (q + m + 3)
              rw [← HEC.out] at hX9
              exact ⟨hX9.ko.from _, hX9.kb, S, q + m + 3, hX9.j, by rw [HU.out.1]; exact HU.out.2.1.no (by dsimp only; omega), by have := HG2.out; rw [HU.out.1]; subst this; exact EP.yes⟩
        · have g2i : ¬ (q : Int) = (p : Int) + n + 3 := by omega
          have g2f : ((q : Int) == (p : Int) + n + 3) = false := by simp; omega
          gi_wp2
          refine Code.wpIn_mono (Q := jM4 w U ao N cap p n Bs Be S E Bx q m Bn (W0.heap.size + 2) u false) ?later4 ?region4
          case region4 =>
            gi_region_with_o (gi_at_call 32; refine (CallsIn.inRound l2 (callsIn_wide.2 (end_bb q m u hq4 hm4 _))).mono ?_; rintro e w5 ⟨rfl, hb5⟩; have hX5 := KE.out _ _ _ _ HX0.out hb5; obtain ⟨a0, a1, a2⟩ := hX5.x.cells; obtain ⟨b0, b1, b2⟩ := hX5.j.bb.cells; have HX5 : Hid (JoX w U w5 ao N cap p n Bs Be S E Bx q m u (W0.heap.size + 2)) := hX5; clear hX5 hb5)
            all_goals exact ⟨_, _, _, _, rfl, HX5.out⟩
          case later4 =>
            intro e a V4 hm
            cases e <;> first | exact (hm : False).elim | skip
            obtain ⟨d1, d2, d3, d4, rfl, hX4⟩ := hm
            obtain ⟨q0, q1, q2⟩ := hX4.x.cells
            obtain ⟨p0, p1, p2⟩ := hX4.j.bb.cells
            have s5 := hX4.j.bs.cell
            have f5 := hX4.j.bs.frozen
            have HX4 : Hid (JoX w U V4 ao N cap p n Bs Be S E Bx q m u (W0.heap.size + 2)) := hX4
            clear hX4 HX0
            gi_wp2
            refine Code.wpIn_mono (Q := jM6 w U ao N cap p n Bs Be S E Bx q m Bn (W0.heap.size + 2) u false) ?later6 ?region6
            case region6 =>
              gi_region_with_o (gi_at_call 32; refine (CallsIn.inRound l2 (callsIn_wide.2 (end_bb p n true hp4 hn4 _))).mono ?_; rintro e w7 ⟨rfl, hb7⟩; have hX7 := KE.out _ _ _ _ HX4.out hb7; obtain ⟨k0, k1, k2⟩ := hX7.x.cells; obtain ⟨c0, c1, c2⟩ := hX7.j.bb.cells; have HX7 : Hid (JoX w U w7 ao N cap p n Bs Be S E Bx q m u (W0.heap.size + 2)) := hX7; clear hX7 hb7)
              all_goals exact ⟨_, _, _, _, _, _, _, _, _, _, _, rfl, HX7.out⟩
            case later6 =>
              intro e a V6 hm
              cases e <;> first | exact (hm : False).elim | skip
              obtain ⟨e1, e2, e3, e4, e5, e6, e7, e8, e9, e10, e11, rfl, hX6⟩ := hm
              obtain ⟨r0, r1, r2⟩ := hX6.x.cells
              have s7 := hX6.j.be.cell
              have f7 := hX6.j.be.frozen
              have HX6 : Hid (JoX w U V6 ao N cap p n Bs Be S E Bx q m u (W0.heap.size + 2)) := hX6
              clear hX6
              gi_wp2
              exact ⟨HX6.out.ko.from _, HX6.out.kb, S, E, HX6.out.j, by rw [HU.out.1]; exact HU.out.2.1.no (by dsimp only; omega), by rw [HU.out.1]; exact HU.out.2.2.no (by dsimp only; omega)⟩
    case done =>
      rintro D xs U hD hX ⟨S, E, hJ, hS, hE⟩ hK
      have HX : Hid (SP p (fk f N) S ∧ EP (p + n + 3) (fk f N) E) := by rw [hX] at hS hE; exact ⟨hS, hE⟩
      obtain ⟨z0, z1, z2, zf⟩ := hJ.bz.cells
      have cs := hJ.bs.cell
      have ce := hJ.be.cell
      have HJ : Hid (JoS w U ao N cap p n Bs Be S E) := hJ
      have hS4 : S ≤ 4000 := Nat.le_trans HX.out.1.le hp4
      have hE4 : E ≤ 1048576 := by rcases HX.out.2.le with h | h <;> omega
      have V1 : IntKind.i64.wrap ((E : Int) - S) = (E : Int) - S := by rw [IntKind.wrap_i64]; omega
      have V2 : IntKind.i64.wrap ((E : Int) - S - 3) = (E : Int) - S - 3 := by rw [IntKind.wrap_i64]; omega
      clear hJ hS hE hX
      gi_wp2
      have hK5 := (((KeepsOthers.setCell U ⟨w.heap.size + 1 + 1, 0, none⟩ (.int .i64 S)).trans (KeepsOthers.setCell _ ⟨w.heap.size + 1 + 1, 1, none⟩ (.int .i64 ((E : Int) - S - 3)))).trans (KeepsOthers.setCell _ ⟨w.heap.size + 1 + 1, 2, none⟩ (.bool false))).same D _ hK rfl
      have hB5 := ((HJ.out.below.setCell (p := ⟨w.heap.size + 1 + 1, 0, none⟩) (by show _ ≤ w.heap.size + 1 + 1; omega) (.int .i64 S)).setCell (p := ⟨w.heap.size + 1 + 1, 1, none⟩) (by show _ ≤ w.heap.size + 1 + 1; omega) (.int .i64 ((E : Int) - S - 3))).setCell (p := ⟨w.heap.size + 1 + 1, 2, none⟩) (by show _ ≤ w.heap.size + 1 + 1; omega) (.bool false)
      have r := three_sets U (w.heap.size + 1 + 1) (.int .i64 S) (.int .i64 ((E : Int) - S - 3)) (.bool false) z0 z1 z2
      generalize (((U.setCell ⟨w.heap.size + 1 + 1, 0, none⟩ (.int .i64 S)).setCell ⟨w.heap.size + 1 + 1, 1, none⟩ (.int .i64 ((E : Int) - S - 3))).setCell ⟨w.heap.size + 1 + 1, 2, none⟩ (.bool false)) = V5 at hK5 hB5 r ⊢
      refine ⟨by simp, .inl ⟨_, _, rfl, run_takeDeferred hK5, ?_⟩⟩
      have kp : ∀ {b o : Nat} {v : Value}, V5.cell? ⟨b, o, none⟩ = some v → (V5.putObj D (.deferred none)).cell? ⟨b, o, none⟩ = some v := fun h => cell_kept h (grownBy_putObj' _ D (.deferred none)) (fun r e => by cases e; exact ⟨_, hK5, rfl⟩)
      obtain ⟨r0, r1, r2⟩ := r
      have s0 := kp r0
      have s1 := kp r1
      have s2 := kp r2
      refine ⟨.agg #[.int .i64 S, .int .i64 ((E : Int) - S - 3), .bool false], ?_, S, E, rfl, HX.out.1, HX.out.2, hB5.trans (belowK_b (w := w) (Nat.le_refl _) V5 D _ _ (by omega) hK5 rfl rfl)⟩
      simp [results, Try.results30, go_sem, s0, s1, s2]
    case stop =>
      rintro D c pre U _ _ h _
      exact h.elim
end Go.Proofs.Ytmongbpdbcbhlaa
