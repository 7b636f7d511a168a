/-
  The laws' own functions on rows of instructions: sizes, copies, comparison.
-/
import Derived.Test.YtcpodedmeeihhaaDoorCkA
import Derived.Test.YtcpodedmeeihhaaDoorCoM
import Derived.Laws.IdiomCopy
namespace Go.Proofs.YtcpodedmeeihhaaDoor.Code
open Go.RowKit
open Go.Proofs.YtcpodedmeeihhaaDoor.Atom
set_option linter.unusedVariables false

theorem eqIns_same (op a b c n : Int) (s : ByteArray) (w : World) :
    Calls Tryd.prog 24 #[.agg #[.int .i64 op, .int .i64 a, .int .i64 b, .int .i64 c, .int .i64 n, .string s], .agg #[.int .i64 op, .int .i64 a, .int .i64 b, .int .i64 c, .int .i64 n, .string s]] w fun e w' => e = .returned (.bool true) ∧ Below w.heap.size w w' := by
  go_enter Tryd.func24, Tryd.ntmps24
  go_wp2
  go_ret
  exact ⟨rfl, ((Below.refl _ w).alloc (Nat.le_refl _) _).alloc (by simp) _⟩

/-- The purse: what is left of it says that all was small. -/
theorem szInsS_le (l : List I) (ao : Option Addr) (cap : Nat) (w : World) (hr : RowI w ao l) (hs : SmI maxLen l) (hl : l.length ≤ maxLen) :
    Calls Tryd.prog 5 #[.slice ao l.length cap, .int .i64 1048576] w fun e w' => (∃ r : Int, e = .returned (.int .i64 r) ∧ r ≤ 1048576 ∧ (0 ≤ r → l.length ≤ 1048576 ∧ SmI 1048576 l)) ∧ Below w.heap.size w w' := by
  unfold maxLen at hl
  by_cases hbig : (1048576 : Int) - l.length < 0
  · go_enter Tryd.func5, Tryd.ntmps5
    go_wp2
    go_ret
    exact ⟨⟨-1, rfl, by decide, fun h => absurd h (by decide)⟩, Below.refl _ _⟩
  · have HL : Hid (l.length ≤ 1048576) := by show _ ≤ _; omega
    have HRW : Hid (RowI w ao l) := hr
    clear hr
    go_enter Tryd.func5, Tryd.ntmps5
    go_wp2_with fail
    go_loopw [1, 5] (fun v i wr => ∃ (k : Nat) (r : Int), k ≤ l.length ∧ i = .int .i64 k ∧ v = .int .i64 r ∧ 0 ≤ r ∧ r ≤ 1048576 ∧ SmI 1048576 (l.take k) ∧ Below w.heap.size w wr) (fun v i wr => l.length - (intOf i).toNat)
    case atStart => exact ⟨0, (1048576 : Int) - l.length, Nat.zero_le _, rfl, rfl, by omega, by omega, (by intro x hx; simp at hx), Below.refl _ _⟩
    case round =>
      obtain ⟨k, r, hk, rfl, rfl, hr0, hr1, hsm, hbr⟩ := hrel
      have HBR : Hid (Below w.heap.size w wr) := hbr
      have HSM : Hid (SmI 1048576 (l.take k)) := hsm
      clear hbr hsm
      by_cases hlt : k < l.length
      · rcases HRW.out with h | ⟨b, o, rfl, hrow⟩
        · rw [h] at hlt; simp at hlt
        have hbx := (hrow k hlt).below HBR.out
        have hsx := hs l[k] (List.getElem_mem hlt)
        have HTK : Hid ((l[k]).s.size ≤ 1048576 → SmI 1048576 (l.take (k + 1))) := fun h x hx => by
          rw [List.take_succ_eq_append_getElem hlt, List.mem_append] at hx
          rcases hx with hx | hx
          · exact HSM.out x hx
          · simp at hx; rw [hx]; exact h
        generalize l[k] = x at hbx hsx HTK
        obtain ⟨op, xa, xb, xc, xn, xs⟩ := x
        have d0 := hbx.c0
        have d1 := hbx.c1
        have d2 := hbx.c2
        have d3 := hbx.c3
        have d4 := hbx.c4
        have d5 := hbx.c5
        clear hbx hrow
        have hsx' : xs.size ≤ maxLen := hsx
        by_cases hq : r < (xs.size : Int)
        · have hL : leftS r xs.size = -1 := if_pos hq
          have HSZ : Hid (∀ w', Calls Tryd.prog 18 #[.agg #[.int .i64 op, .int .i64 xa, .int .i64 xb, .int .i64 xc, .int .i64 xn, .string xs], .int .i64 r] w' fun e w'' => e = .returned (.int .i64 (-1)) ∧ Below w'.heap.size w' w'') := fun w' => by
            have := szIns_any op xa xb xc xn xs r w' hr0 hr1 hsx'
            rw [hL] at this; exact this
          clear hL
          go_wp2_with (go_at_call 18; refine (HSZ.out _).mono ?_; rintro e w3 ⟨rfl, hb3⟩; have HB3 : Hid (Below w.heap.size w w3) := HBR.out.trans (hb3.mono HBR.out.size); clear hb3)
          go_ret
          exact ⟨⟨-1, rfl, by decide, fun h => absurd h (by decide)⟩, HB3.out⟩
        · have hL : leftS r xs.size = r - xs.size := if_neg hq
          obtain ⟨r', hr'⟩ : ∃ r', r' = r - (xs.size : Int) := ⟨_, rfl⟩
          have HSZ : Hid (∀ w', Calls Tryd.prog 18 #[.agg #[.int .i64 op, .int .i64 xa, .int .i64 xb, .int .i64 xc, .int .i64 xn, .string xs], .int .i64 r] w' fun e w'' => e = .returned (.int .i64 r') ∧ Below w'.heap.size w' w'') := fun w' => by
            have := szIns_any op xa xb xc xn xs r w' hr0 hr1 hsx'
            rw [hL, ← hr'] at this; exact this
          have h0' : 0 ≤ r' := by omega
          have h1' : r' ≤ 1048576 := by omega
          have HXS : Hid (xs.size ≤ 1048576) := by show _ ≤ _; omega
          clear hL hr' hq
          go_wp2_with (go_at_call 18; refine (HSZ.out _).mono ?_; rintro e w3 ⟨rfl, hb3⟩; have HB3 : Hid (Below w.heap.size w w3) := HBR.out.trans (hb3.mono HBR.out.size); clear hb3)
          go_roundw
          case rel => exact ⟨k + 1, r', by omega, by go_num, rfl, h0', h1', HTK.out HXS.out, HB3.out⟩
          case measure => simp [intOf]; omega
      · have HF : Hid (SmI 1048576 l) := by
          have := HSM.out
          rw [List.take_of_length_le (by omega)] at this; exact this
        go_wp2
        go_ret
        exact ⟨⟨r, rfl, hr1, fun _ => ⟨HL.out, HF.out⟩⟩, HBR.out⟩

theorem szInsS_any (l : List I) (ao : Option Addr) (cap : Nat) (w : World) (hr : RowI w ao l) (hs : SmI maxLen l) (hl : l.length ≤ maxLen) :
    Calls Tryd.prog 5 #[.slice ao l.length cap, .int .i64 1048576] w fun e w' => (∃ r : Int, e = .returned (.int .i64 r) ∧ (0 ≤ r → l.length ≤ 1048576 ∧ SmI 1048576 l)) ∧ Below w.heap.size w w' :=
  (szInsS_le l ao cap w hr hs hl).mono fun e w' ⟨⟨r, h1, _, h2⟩, hb⟩ => ⟨⟨r, h1, h2⟩, hb⟩

/-- A row that is being filled. -/
structure Made6 (w wr : World) (g : Nat) (l : List I) (k : Nat) : Prop where
  below : Below w.heap.size w wr
  lt : g < wr.heap.size
  some : ∀ j, j < l.length * 6 → (wr.cell? ⟨g, j, none⟩).isSome = true
  free : ∀ o, wr.frozen? ⟨g, o, none⟩ = false
  rep : ∀ i (hi : i < l.length), i < k → Bx6 wr g (i * 6) l[i]
theorem Made6.call {w wr w' : World} {g : Nat} {l : List I} {k : Nat} (h : Made6 w wr g l k) (hb : Below wr.heap.size wr w') : Made6 w w' g l k :=
  ⟨h.below.trans (hb.mono h.below.size), Nat.lt_of_lt_of_le h.lt hb.size, fun j hj => by rw [hb.cell (p := ⟨g, j, none⟩) h.lt]; exact h.some j hj,
    fun o => by rw [hb.frozen (p := ⟨g, o, none⟩) h.lt]; exact h.free o, fun i hi hik => (h.rep i hi hik).below hb⟩
theorem setCells_below {B : Nat} {b : Nat} (hB : B ≤ b) : ∀ (vs : List Value) (o : Nat) (a w : World), Below B a w → Below B a (w.setCells b o vs)
  | [], _, _, _, h => h
  | v :: r, o, a, w, h => by
    rw [World.setCells]
    exact setCells_below hB r (o + 1) a _ (h.setCell (p := ⟨b, o, none⟩) hB v)
theorem setCells_size (b : Nat) : ∀ (vs : List Value) (o : Nat) (w : World), (w.setCells b o vs).heap.size = w.heap.size
  | [], _, _ => rfl
  | v :: r, o, w => by rw [World.setCells, setCells_size b r]; simp [World.setCell]
def insL (x : I) : List Value := [.int .i64 x.op, .int .i64 x.a, .int .i64 x.b, .int .i64 x.c, .int .i64 x.n, .string x.s]
theorem Made6.store {w wr : World} {g : Nat} {l : List I} {k : Nat} (h : Made6 w wr g l k) (hg : w.heap.size ≤ g) (hk : k < l.length) : Made6 w (wr.setCells g (k * 6) (insL l[k])) g l (k + 1) := by
  have hin := World.cell?_setCells_in g (insL l[k]) (k * 6) wr (fun j hj => by
    have hj' : j < 6 := hj
    exact h.some (k * 6 + j) (by omega))
  have hout : ∀ i, (i < k * 6 ∨ k * 6 + 6 ≤ i) → (wr.setCells g (k * 6) (insL l[k])).cell? ⟨g, i, none⟩ = wr.cell? ⟨g, i, none⟩ := fun i hi =>
    World.cell?_setCells_out g (insL l[k]) (k * 6) wr ⟨g, i, none⟩ (fun _ _ => hi)
  refine ⟨setCells_below hg _ _ _ _ h.below, by rw [setCells_size]; exact h.lt, fun j hj => ?_, fun o => by rw [World.frozen?_setCells]; exact h.free o, fun i hi hik => ?_⟩
  · by_cases hj1 : j < k * 6 ∨ k * 6 + 6 ≤ j
    · rw [hout j hj1]; exact h.some j hj
    · obtain ⟨d, rfl⟩ : ∃ d, j = k * 6 + d := ⟨j - k * 6, by omega⟩
      rw [hin d (show d < 6 by omega)]; rfl
  · by_cases hlast : i = k
    · subst hlast
      exact ⟨hin 0 (show 0 < 6 by omega), hin 1 (show 1 < 6 by omega), hin 2 (show 2 < 6 by omega), hin 3 (show 3 < 6 by omega), hin 4 (show 4 < 6 by omega), hin 5 (show 5 < 6 by omega)⟩
    · have hx := h.rep i hi (by omega)
      exact ⟨(hout _ (.inl (by omega))).trans hx.c0, (hout _ (.inl (by omega))).trans hx.c1, (hout _ (.inl (by omega))).trans hx.c2, (hout _ (.inl (by omega))).trans hx.c3, (hout _ (.inl (by omega))).trans hx.c4, (hout _ (.inl (by omega))).trans hx.c5⟩

theorem infoIns : (Tryd.prog.info? 42).map (fun i => (i.zero, i.size, i.bytes)) = some (some (.agg #[.int .i64 0, .int .i64 0, .int .i64 0, .int .i64 0, .int .i64 0, .string ⟨#[]⟩]), 6, 56) := by kernel_rfl
theorem undInsS : Tryd.prog.underlying 26 = some (.slice 42) := by kernel_rfl
def zeros6 (n : Nat) : Array Value := madeCells #[.int .i64 0, .int .i64 0, .int .i64 0, .int .i64 0, .int .i64 0, .string ⟨#[]⟩] (n * 6)
theorem run_zeros6 (n : Nat) (hn : n ≤ 1048576) (w : World) :
    (Instr.makeSlice 26 (.int .i64 (n : Int)) (.int .i64 (n : Int))).run Tryd.prog w = .ok (.slice (some ⟨w.heap.size, 0, none⟩) n n) (w.alloc (.cells (zeros6 n) 42)) := by
  obtain ⟨i, hi, hzz⟩ := Option.map_eq_some_iff.1 infoIns
  simp only [Prod.mk.injEq] at hzz
  obtain ⟨hz, hs, hb⟩ := hzz
  have hr := run_make (P := Tryd.prog) w 26 42 i _ undInsS hi hz .i64 .i64 n n (by omega) (Int.le_refl _) (by rw [hb]; omega) (by omega)
  rw [hs] at hr
  simp only [Int.toNat_natCast] at hr
  exact hr
theorem made6_start (w : World) (l : List I) : Made6 w (w.alloc (.cells (zeros6 l.length) 42)) w.heap.size l 0 where
  below := (Below.refl _ _).alloc (Nat.le_refl _) _
  lt := by show w.heap.size < (w.heap.push _).size; simp
  some := fun j hj => by
    rw [World.cell?_alloc_new]
    have : j < (zeros6 l.length).size := by unfold zeros6; rw [size_madeCells]; exact hj
    simp [this]
  free := fun o => by simp
  rep := fun i _ h => absurd h (Nat.not_lt_zero _)

set_option maxHeartbeats 1000000 in
theorem toInsS_made (l : List I) (ao : Option Addr) (cap : Nat) (w : World) (hr : RowI w ao l) (hl : l.length ≤ 1048576) :
    Calls Tryd.prog 7 #[.slice ao l.length cap] w fun e w' => e = .returned (.slice (some ⟨w.heap.size, 0, none⟩) l.length l.length) ∧ Made6 w w' w.heap.size l l.length := by
  have HRW : Hid (RowI w ao l) := hr
  clear hr
  have hmk := run_zeros6 l.length hl
  go_enter Tryd.func7, Tryd.ntmps7
  go_wp2_with fail
  clear hmk
  go_loopw [4] (fun i w' => ∃ k : Nat, k ≤ l.length ∧ i = .int .i64 k ∧ Made6 w w' w.heap.size l k) (fun i _ => l.length - (intOf i).toNat)
  case atStart => exact ⟨0, Nat.zero_le _, rfl, made6_start w l⟩
  case round =>
    obtain ⟨k, hk, rfl, hm⟩ := hrel
    have HM : Hid (Made6 w wr w.heap.size l k) := hm
    clear hm
    by_cases hlt : k < l.length
    · rcases HRW.out with h | ⟨b, o, rfl, hrow⟩
      · rw [h] at hlt; simp at hlt
      have hbx := (hrow k hlt).below HM.out.below
      have HST : Hid (∀ w1, Made6 w w1 w.heap.size l k → Made6 w (w1.setCells w.heap.size (k * 6) (insL l[k])) w.heap.size l (k + 1)) := fun w1 h1 => h1.store (Nat.le_refl _) hlt
      generalize l[k] = x at hbx HST
      obtain ⟨op, xa, xb, xc, xn, xs⟩ := x
      have d0 := hbx.c0
      have d1 := hbx.c1
      have d2 := hbx.c2
      have d3 := hbx.c3
      have d4 := hbx.c4
      have d5 := hbx.c5
      clear hbx hrow
      go_wp2_with fail
      refine (toIns_any op xa xb xc xn xs _).mono ?_
      rintro e w1 ⟨rfl, hb1⟩
      have HM1 : Hid (Made6 w w1 w.heap.size l k) := HM.out.call hb1
      have hf := HM1.out.free
      obtain ⟨x0, hs0⟩ := Option.isSome_iff_exists.1 (HM1.out.some (k * 6) (by omega))
      obtain ⟨x1, hs1⟩ := Option.isSome_iff_exists.1 (HM1.out.some (k * 6 + 1) (by omega))
      obtain ⟨x2, hs2⟩ := Option.isSome_iff_exists.1 (HM1.out.some (k * 6 + 2) (by omega))
      obtain ⟨x3, hs3⟩ := Option.isSome_iff_exists.1 (HM1.out.some (k * 6 + 3) (by omega))
      obtain ⟨x4, hs4⟩ := Option.isSome_iff_exists.1 (HM1.out.some (k * 6 + 4) (by omega))
      obtain ⟨x5, hs5⟩ := Option.isSome_iff_exists.1 (HM1.out.some (k * 6 + 5) (by omega))
      clear hb1 d0 d1 d2 d3 d4 d5
      go_wp2_with fail
      have HM2 := HST.out w1 HM1.out
      go_roundw
      case rel => exact ⟨k + 1, by omega, by go_num, HM2⟩
      case measure => simp [intOf]; omega
    · go_wp2_with fail
      go_ret
      have hkl : k = l.length := by omega
      subst hkl
      have hm := HM.out
      exact ⟨rfl, hm⟩
theorem toInsS_any (l : List I) (ao : Option Addr) (cap : Nat) (w : World) (hr : RowI w ao l) (hl : l.length ≤ 1048576) :
    Calls Tryd.prog 7 #[.slice ao l.length cap] w fun e w' => (∃ g : Nat, w.heap.size ≤ g ∧ e = .returned (.slice (some ⟨g, 0, none⟩) l.length l.length) ∧ RowI w' (some ⟨g, 0, none⟩) l) ∧ Below w.heap.size w w' := by
  refine (toInsS_made l ao cap w hr hl).mono ?_
  rintro e w' ⟨rfl, hm⟩
  exact ⟨⟨w.heap.size, Nat.le_refl _, rfl, .inr ⟨w.heap.size, 0, rfl, fun j hj => by rw [Nat.zero_add]; exact hm.rep j hj hj⟩⟩, hm.below⟩

set_option maxHeartbeats 1000000 in
theorem eqInsS_same (l : List I) (ao bo : Option Addr) (cap cap' : Nat) (w : World) (hr : RowI w ao l) (hr' : RowI w bo l) (hl : l.length ≤ 1048576) :
    Calls Tryd.prog 10 #[.slice ao l.length cap, .slice bo l.length cap'] w fun e w' => e = .returned (.bool true) ∧ Below w.heap.size w w' := by
  have HRA : Hid (RowI w ao l) := hr
  have HRB : Hid (RowI w bo l) := hr'
  clear hr hr'
  go_enter Tryd.func10, Tryd.ntmps10
  go_wp2_with fail
  go_loopw [5] (fun i w' => ∃ k : Nat, k ≤ l.length ∧ i = .int .i64 k ∧ Below w.heap.size w w') (fun i _ => l.length - (intOf i).toNat)
  case atStart => exact ⟨0, Nat.zero_le _, rfl, Below.refl _ _⟩
  case round =>
    obtain ⟨k, hk, rfl, hbr⟩ := hrel
    have HBR : Hid (Below w.heap.size w wr) := hbr
    clear hbr
    by_cases hlt : k < l.length
    · rcases HRA.out with h | ⟨b, o, rfl, hrow⟩
      · rw [h] at hlt; simp at hlt
      rcases HRB.out with h | ⟨b', o', rfl, hrow'⟩
      · rw [h] at hlt; simp at hlt
      have hbx := (hrow k hlt).below HBR.out
      have hby := (hrow' k hlt).below HBR.out
      generalize l[k] = x at hbx hby
      obtain ⟨op, xa, xb, xc, xn, xs⟩ := x
      have d0 := Inn.keep hbx.c0
      have d1 := Inn.keep hbx.c1
      have d2 := Inn.keep hbx.c2
      have d3 := Inn.keep hbx.c3
      have d4 := Inn.keep hbx.c4
      have d5 := Inn.keep hbx.c5
      have f0 := Inn.keep hby.c0
      have f1 := Inn.keep hby.c1
      have f2 := Inn.keep hby.c2
      have f3 := Inn.keep hby.c3
      have f4 := Inn.keep hby.c4
      have f5 := Inn.keep hby.c5
      clear hbx hrow hby hrow'
      haveI := inn_ne wr
      go_wp2_with fail
      refine wp_region_inn ?_ ?_ ?_
      · kernel_rfl
      · kernel_rfl
      repeat (go_big_quiet_step (first
        | (go_at_call 24; exact calls_inn (eqIns_same _ _ _ _ _ _ _))))
      refine wpQuiet_nil ?_
      rintro w7 ⟨x7, h7⟩
      have HB7 : Hid (Below w.heap.size w w7) := by
        have : Below wr.heap.size wr w7 := by rw [h7]; exact x7.bel
        exact HBR.out.trans (this.mono HBR.out.size)
      clear h7 x7 d0 d1 d2 d3 d4 d5 f0 f1 f2 f3 f4 f5
      go_wp2_with fail
      go_roundw
      case rel => exact ⟨k + 1, by omega, by go_num, HB7.out⟩
      case measure => simp [intOf]; omega
    · go_wp2_with fail
      go_ret
      exact ⟨rfl, HBR.out⟩
end Go.Proofs.YtcpodedmeeihhaaDoor.Code
