/-
  Copies that the laws make of what was said, of code, of a system: all in blocks of their own.
  (Ahead of it, in this text: The laws' own functions on instructions: sizes and copies. The laws' own functions on rows of instructions: sizes, copies, comparison. Copies that the laws make of actors and of what was said: all in blocks of their own.)
-/
import Derived.Test.YtdglefedbkgghaaCoI
import Derived.Test.YtdglefedbkgghaaCkA
import Derived.Laws.IdiomCopy
import Derived.Test.YtdglefedbkgghaaPlA
import Derived.Test.YtdglefedbkgghaaRwB
import Derived.Test.YtdglefedbkgghaaAcF
import Derived.Test.YtdglefedbkgghaaTmK
namespace Go.Proofs.Ytdglefedbkgghaa.Code
open Go.RowKit
open Go.Proofs.Ytdglefedbkgghaa.Atom
set_option linter.unusedVariables false

/-- What is left of a purse behind a text of m bytes. -/
def leftS (left : Int) (m : Nat) : Int := if left < (m : Int) then -1 else left - m

theorem szIns_any (op a b c n : Int) (s : ByteArray) (left : Int) (w : World) (h0 : 0 ≤ left) (h1 : left ≤ 1048576) (hs : s.size ≤ maxLen) :
    Calls Try.prog 35 #[.agg #[.int .i64 op, .int .i64 a, .int .i64 b, .int .i64 c, .int .i64 n, .string s], .int .i64 left] w fun e w' => e = .returned (.int .i64 (leftS left s.size)) ∧ Below w.heap.size w w' := by
  have hbn := (Below.refl w.heap.size w).alloc (Nat.le_refl _) (.cells #[.int .i64 op, .int .i64 a, .int .i64 b, .int .i64 c, .int .i64 n, .string s] 71)
  unfold maxLen at hs
  by_cases hl : left < (s.size : Int)
  · have HI : Hid (leftS left s.size = -1) := if_pos hl
    have hl' : left - (s.size : Int) < 0 := by omega
    go_enter Try.func35, Try.ntmps35
    go_wp2
    go_ret
    exact ⟨by rw [HI.out]; rfl, hbn⟩
  · have HI : Hid (leftS left s.size = left - s.size) := if_neg hl
    have hl' : ¬ left - (s.size : Int) < 0 := by omega
    go_enter Try.func35, Try.ntmps35
    go_wp2
    go_ret
    exact ⟨by rw [HI.out]; rfl, hbn⟩

theorem res_ins {w : World} {R : Nat} {a b c d e f : Value} {tmps : Array Value} {fn : Func} {q : Nat} (hf : fn.results = #[.cell q 85]) (h : w.heap[R]? = some (.cells #[a, b, c, d, e, f] 85 (0, 0)))
    (h4 : tmps.getD q undef = .pointer (some ⟨R, 0, none⟩)) : (results fn tmps).run Try.prog w = .ok (.agg #[a, b, c, d, e, f]) w :=
  results_cell_row hf tmps w R 85 #[a, b, c, d, e, f] (0, 0) _ h4 h Try.underlying85 rfl (by kernel_rfl)

theorem toIns_any (op a b c n : Int) (s : ByteArray) (w : World) :
    Calls Try.prog 44 #[.agg #[.int .i64 op, .int .i64 a, .int .i64 b, .int .i64 c, .int .i64 n, .string s]] w fun e w' => e = .returned (.agg #[.int .i64 op, .int .i64 a, .int .i64 b, .int .i64 c, .int .i64 n, .string s]) ∧ Below w.heap.size w w' := by
  go_enter Try.func44, Try.ntmps44
  go_wp2
  refine bodyPost_ret (res_ins (R := w.heap.size + 1) (a := .int .i64 op) (b := .int .i64 a) (c := .int .i64 b) (d := .int .i64 c) (e := .int .i64 n) (f := .string s) Try.results44 ?_ rfl) rfl ⟨rfl, ?_⟩
  · rw [Below.heap_alloc _ _ _ (by simp)]
    show (Array.push _ _)[_]? = _
    rw [Array.getElem?_push, if_pos (by simp)]
  · exact (((Below.refl _ w).alloc (Nat.le_refl _) _).alloc (by simp) _).alloc (by simp; try omega) _
end Go.Proofs.Ytdglefedbkgghaa.Code
namespace Go.Proofs.Ytdglefedbkgghaa.Code
open Go.RowKit
open Go.Proofs.Ytdglefedbkgghaa.Atom
set_option linter.unusedVariables false

theorem eqIns_same (op a b c n : Int) (s : ByteArray) (w : World) :
    Calls Try.prog 51 #[.agg #[.int .i64 op, .int .i64 a, .int .i64 b, .int .i64 c, .int .i64 n, .string s], .agg #[.int .i64 op, .int .i64 a, .int .i64 b, .int .i64 c, .int .i64 n, .string s]] w fun e w' => e = .returned (.bool true) ∧ Below w.heap.size w w' := by
  go_enter Try.func51, Try.ntmps51
  go_wp2
  go_ret
  exact ⟨rfl, ((Below.refl _ w).alloc (Nat.le_refl _) _).alloc (by simp) _⟩

/-- The purse: what is left of it says that all was small. -/
theorem szInsS_le (l : List I) (ao : Option Addr) (cap : Nat) (w : World) (hr : RowI w ao l) (hs : SmI maxLen l) (hl : l.length ≤ maxLen) :
    Calls Try.prog 12 #[.slice ao l.length cap, .int .i64 1048576] w fun e w' => (∃ r : Int, e = .returned (.int .i64 r) ∧ r ≤ 1048576 ∧ (0 ≤ r → l.length ≤ 1048576 ∧ SmI 1048576 l)) ∧ Below w.heap.size w w' := by
  unfold maxLen at hl
  by_cases hbig : (1048576 : Int) - l.length < 0
  · go_enter Try.func12, Try.ntmps12
    go_wp2
    go_ret
    exact ⟨⟨-1, rfl, by decide, fun h => absurd h (by decide)⟩, Below.refl _ _⟩
  · have HL : Hid (l.length ≤ 1048576) := by show _ ≤ _; omega
    have HRW : Hid (RowI w ao l) := hr
    clear hr
    go_enter Try.func12, Try.ntmps12
    go_wp2_with fail
    go_loopw [1, 5] (fun v i wr => ∃ (k : Nat) (r : Int), k ≤ l.length ∧ i = .int .i64 k ∧ v = .int .i64 r ∧ 0 ≤ r ∧ r ≤ 1048576 ∧ SmI 1048576 (l.take k) ∧ Below w.heap.size w wr) (fun v i wr => l.length - (intOf i).toNat)
    case atStart => exact ⟨0, (1048576 : Int) - l.length, Nat.zero_le _, rfl, rfl, by omega, by omega, (by intro x hx; simp at hx), Below.refl _ _⟩
    case round =>
      obtain ⟨k, r, hk, rfl, rfl, hr0, hr1, hsm, hbr⟩ := hrel
      have HBR : Hid (Below w.heap.size w wr) := hbr
      have HSM : Hid (SmI 1048576 (l.take k)) := hsm
      clear hbr hsm
      by_cases hlt : k < l.length
      · rcases HRW.out with h | ⟨b, o, rfl, hrow⟩
        · rw [h] at hlt; simp at hlt
        have hbx := (hrow k hlt).below HBR.out
        have hsx := hs l[k] (List.getElem_mem hlt)
        have HTK : Hid ((l[k]).s.size ≤ 1048576 → SmI 1048576 (l.take (k + 1))) := fun h x hx => by
          rw [List.take_succ_eq_append_getElem hlt, List.mem_append] at hx
          rcases hx with hx | hx
          · exact HSM.out x hx
          · simp at hx; rw [hx]; exact h
        generalize l[k] = x at hbx hsx HTK
        obtain ⟨op, xa, xb, xc, xn, xs⟩ := x
        have d0 := hbx.c0
        have d1 := hbx.c1
        have d2 := hbx.c2
        have d3 := hbx.c3
        have d4 := hbx.c4
        have d5 := hbx.c5
        clear hbx hrow
        have hsx' : xs.size ≤ maxLen := hsx
        by_cases hq : r < (xs.size : Int)
        · have hL : leftS r xs.size = -1 := if_pos hq
          have HSZ : Hid (∀ w', Calls Try.prog 35 #[.agg #[.int .i64 op, .int .i64 xa, .int .i64 xb, .int .i64 xc, .int .i64 xn, .string xs], .int .i64 r] w' fun e w'' => e = .returned (.int .i64 (-1)) ∧ Below w'.heap.size w' w'') := fun w' => by
            have := szIns_any op xa xb xc xn xs r w' hr0 hr1 hsx'
            rw [hL] at this; exact this
          clear hL
          go_wp2_with (go_at_call 35; refine (HSZ.out _).mono ?_; rintro e w3 ⟨rfl, hb3⟩; have HB3 : Hid (Below w.heap.size w w3) := HBR.out.trans (hb3.mono HBR.out.size); clear hb3)
          go_ret
          exact ⟨⟨-1, rfl, by decide, fun h => absurd h (by decide)⟩, HB3.out⟩
        · have hL : leftS r xs.size = r - xs.size := if_neg hq
          obtain ⟨r', hr'⟩ : ∃ r', r' = r - (xs.size : Int) := ⟨_, rfl⟩
          have HSZ : Hid (∀ w', Calls Try.prog 35 #[.agg #[.int .i64 op, .int .i64 xa, .int .i64 xb, .int .i64 xc, .int .i64 xn, .string xs], .int .i64 r] w' fun e w'' => e = .returned (.int .i64 r') ∧ Below w'.heap.size w' w'') := fun w' => by
            have := szIns_any op xa xb xc xn xs r w' hr0 hr1 hsx'
            rw [hL, ← hr'] at this; exact this
          have h0' : 0 ≤ r' := by omega
          have h1' : r' ≤ 1048576 := by omega
          have HXS : Hid (xs.size ≤ 1048576) := by show _ ≤ _; omega
          clear hL hr' hq
          go_wp2_with (go_at_call 35; refine (HSZ.out _).mono ?_; rintro e w3 ⟨rfl, hb3⟩; have HB3 : Hid (Below w.heap.size w w3) := HBR.out.trans (hb3.mono HBR.out.size); clear hb3)
          go_roundw
          case rel => exact ⟨k + 1, r', by omega, by go_num, rfl, h0', h1', HTK.out HXS.out, HB3.out⟩
          case measure => simp [intOf]; omega
      · have HF : Hid (SmI 1048576 l) := by
          have := HSM.out
          rw [List.take_of_length_le (by omega)] at this; exact this
        go_wp2
        go_ret
        exact ⟨⟨r, rfl, hr1, fun _ => ⟨HL.out, HF.out⟩⟩, HBR.out⟩

theorem szInsS_any (l : List I) (ao : Option Addr) (cap : Nat) (w : World) (hr : RowI w ao l) (hs : SmI maxLen l) (hl : l.length ≤ maxLen) :
    Calls Try.prog 12 #[.slice ao l.length cap, .int .i64 1048576] w fun e w' => (∃ r : Int, e = .returned (.int .i64 r) ∧ (0 ≤ r → l.length ≤ 1048576 ∧ SmI 1048576 l)) ∧ Below w.heap.size w w' :=
  (szInsS_le l ao cap w hr hs hl).mono fun e w' ⟨⟨r, h1, _, h2⟩, hb⟩ => ⟨⟨r, h1, h2⟩, hb⟩

/-- A row that is being filled. -/
structure Made6 (w wr : World) (g : Nat) (l : List I) (k : Nat) : Prop where
  below : Below w.heap.size w wr
  lt : g < wr.heap.size
  some : ∀ j, j < l.length * 6 → (wr.cell? ⟨g, j, none⟩).isSome = true
  free : ∀ o, wr.frozen? ⟨g, o, none⟩ = false
  rep : ∀ i (hi : i < l.length), i < k → Bx6 wr g (i * 6) l[i]
theorem Made6.call {w wr w' : World} {g : Nat} {l : List I} {k : Nat} (h : Made6 w wr g l k) (hb : Below wr.heap.size wr w') : Made6 w w' g l k :=
  ⟨h.below.trans (hb.mono h.below.size), Nat.lt_of_lt_of_le h.lt hb.size, fun j hj => by rw [hb.cell (p := ⟨g, j, none⟩) h.lt]; exact h.some j hj,
    fun o => by rw [hb.frozen (p := ⟨g, o, none⟩) h.lt]; exact h.free o, fun i hi hik => (h.rep i hi hik).below hb⟩
theorem setCells_below {B : Nat} {b : Nat} (hB : B ≤ b) : ∀ (vs : List Value) (o : Nat) (a w : World), Below B a w → Below B a (w.setCells b o vs)
  | [], _, _, _, h => h
  | v :: r, o, a, w, h => by
    rw [World.setCells]
    exact setCells_below hB r (o + 1) a _ (h.setCell (p := ⟨b, o, none⟩) hB v)
theorem setCells_size (b : Nat) : ∀ (vs : List Value) (o : Nat) (w : World), (w.setCells b o vs).heap.size = w.heap.size
  | [], _, _ => rfl
  | v :: r, o, w => by rw [World.setCells, setCells_size b r]; simp [World.setCell]
def insL (x : I) : List Value := [.int .i64 x.op, .int .i64 x.a, .int .i64 x.b, .int .i64 x.c, .int .i64 x.n, .string x.s]
theorem Made6.store {w wr : World} {g : Nat} {l : List I} {k : Nat} (h : Made6 w wr g l k) (hg : w.heap.size ≤ g) (hk : k < l.length) : Made6 w (wr.setCells g (k * 6) (insL l[k])) g l (k + 1) := by
  have hin := World.cell?_setCells_in g (insL l[k]) (k * 6) wr (fun j hj => by
    have hj' : j < 6 := hj
    exact h.some (k * 6 + j) (by omega))
  have hout : ∀ i, (i < k * 6 ∨ k * 6 + 6 ≤ i) → (wr.setCells g (k * 6) (insL l[k])).cell? ⟨g, i, none⟩ = wr.cell? ⟨g, i, none⟩ := fun i hi =>
    World.cell?_setCells_out g (insL l[k]) (k * 6) wr ⟨g, i, none⟩ (fun _ _ => hi)
  refine ⟨setCells_below hg _ _ _ _ h.below, by rw [setCells_size]; exact h.lt, fun j hj => ?_, fun o => by rw [World.frozen?_setCells]; exact h.free o, fun i hi hik => ?_⟩
  · by_cases hj1 : j < k * 6 ∨ k * 6 + 6 ≤ j
    · rw [hout j hj1]; exact h.some j hj
    · obtain ⟨d, rfl⟩ : ∃ d, j = k * 6 + d := ⟨j - k * 6, by omega⟩
      rw [hin d (show d < 6 by omega)]; rfl
  · by_cases hlast : i = k
    · subst hlast
      exact ⟨hin 0 (show 0 < 6 by omega), hin 1 (show 1 < 6 by omega), hin 2 (show 2 < 6 by omega), hin 3 (show 3 < 6 by omega), hin 4 (show 4 < 6 by omega), hin 5 (show 5 < 6 by omega)⟩
    · have hx := h.rep i hi (by omega)
      exact ⟨(hout _ (.inl (by omega))).trans hx.c0, (hout _ (.inl (by omega))).trans hx.c1, (hout _ (.inl (by omega))).trans hx.c2, (hout _ (.inl (by omega))).trans hx.c3, (hout _ (.inl (by omega))).trans hx.c4, (hout _ (.inl (by omega))).trans hx.c5⟩

theorem infoIns : (Try.prog.info? 85).map (fun i => (i.zero, i.size, i.bytes)) = some (some (.agg #[.int .i64 0, .int .i64 0, .int .i64 0, .int .i64 0, .int .i64 0, .string ⟨#[]⟩]), 6, 56) := by kernel_rfl
theorem undInsS : Try.prog.underlying 33 = some (.slice 85) := by kernel_rfl
def zeros6 (n : Nat) : Array Value := madeCells #[.int .i64 0, .int .i64 0, .int .i64 0, .int .i64 0, .int .i64 0, .string ⟨#[]⟩] (n * 6)
theorem run_zeros6 (n : Nat) (hn : n ≤ 1048576) (w : World) :
    (Instr.makeSlice 33 (.int .i64 (n : Int)) (.int .i64 (n : Int))).run Try.prog w = .ok (.slice (some ⟨w.heap.size, 0, none⟩) n n) (w.alloc (.cells (zeros6 n) 85)) := by
  obtain ⟨i, hi, hzz⟩ := Option.map_eq_some_iff.1 infoIns
  simp only [Prod.mk.injEq] at hzz
  obtain ⟨hz, hs, hb⟩ := hzz
  have hr := run_make (P := Try.prog) w 33 85 i _ undInsS hi hz .i64 .i64 n n (by omega) (Int.le_refl _) (by rw [hb]; omega) (by omega)
  rw [hs] at hr
  simp only [Int.toNat_natCast] at hr
  exact hr
theorem made6_start (w : World) (l : List I) : Made6 w (w.alloc (.cells (zeros6 l.length) 85)) w.heap.size l 0 where
  below := (Below.refl _ _).alloc (Nat.le_refl _) _
  lt := by show w.heap.size < (w.heap.push _).size; simp
  some := fun j hj => by
    rw [World.cell?_alloc_new]
    have : j < (zeros6 l.length).size := by unfold zeros6; rw [size_madeCells]; exact hj
    simp [this]
  free := fun o => by simp
  rep := fun i _ h => absurd h (Nat.not_lt_zero _)

set_option maxHeartbeats 1000000 in
theorem toInsS_made (l : List I) (ao : Option Addr) (cap : Nat) (w : World) (hr : RowI w ao l) (hl : l.length ≤ 1048576) :
    Calls Try.prog 20 #[.slice ao l.length cap] w fun e w' => e = .returned (.slice (some ⟨w.heap.size, 0, none⟩) l.length l.length) ∧ Made6 w w' w.heap.size l l.length := by
  have HRW : Hid (RowI w ao l) := hr
  clear hr
  have hmk := run_zeros6 l.length hl
  go_enter Try.func20, Try.ntmps20
  go_wp2_with fail
  clear hmk
  go_loopw [4] (fun i w' => ∃ k : Nat, k ≤ l.length ∧ i = .int .i64 k ∧ Made6 w w' w.heap.size l k) (fun i _ => l.length - (intOf i).toNat)
  case atStart => exact ⟨0, Nat.zero_le _, rfl, made6_start w l⟩
  case round =>
    obtain ⟨k, hk, rfl, hm⟩ := hrel
    have HM : Hid (Made6 w wr w.heap.size l k) := hm
    clear hm
    by_cases hlt : k < l.length
    · rcases HRW.out with h | ⟨b, o, rfl, hrow⟩
      · rw [h] at hlt; simp at hlt
      have hbx := (hrow k hlt).below HM.out.below
      have HST : Hid (∀ w1, Made6 w w1 w.heap.size l k → Made6 w (w1.setCells w.heap.size (k * 6) (insL l[k])) w.heap.size l (k + 1)) := fun w1 h1 => h1.store (Nat.le_refl _) hlt
      generalize l[k] = x at hbx HST
      obtain ⟨op, xa, xb, xc, xn, xs⟩ := x
      have d0 := hbx.c0
      have d1 := hbx.c1
      have d2 := hbx.c2
      have d3 := hbx.c3
      have d4 := hbx.c4
      have d5 := hbx.c5
      clear hbx hrow
      go_wp2_with fail
      refine (toIns_any op xa xb xc xn xs _).mono ?_
      rintro e w1 ⟨rfl, hb1⟩
      have HM1 : Hid (Made6 w w1 w.heap.size l k) := HM.out.call hb1
      have hf := HM1.out.free
      obtain ⟨x0, hs0⟩ := Option.isSome_iff_exists.1 (HM1.out.some (k * 6) (by omega))
      obtain ⟨x1, hs1⟩ := Option.isSome_iff_exists.1 (HM1.out.some (k * 6 + 1) (by omega))
      obtain ⟨x2, hs2⟩ := Option.isSome_iff_exists.1 (HM1.out.some (k * 6 + 2) (by omega))
      obtain ⟨x3, hs3⟩ := Option.isSome_iff_exists.1 (HM1.out.some (k * 6 + 3) (by omega))
      obtain ⟨x4, hs4⟩ := Option.isSome_iff_exists.1 (HM1.out.some (k * 6 + 4) (by omega))
      obtain ⟨x5, hs5⟩ := Option.isSome_iff_exists.1 (HM1.out.some (k * 6 + 5) (by omega))
      clear hb1 d0 d1 d2 d3 d4 d5
      go_wp2_with fail
      have HM2 := HST.out w1 HM1.out
      go_roundw
      case rel => exact ⟨k + 1, by omega, by go_num, HM2⟩
      case measure => simp [intOf]; omega
    · go_wp2_with fail
      go_ret
      have hkl : k = l.length := by omega
      subst hkl
      have hm := HM.out
      exact ⟨rfl, hm⟩
theorem toInsS_any (l : List I) (ao : Option Addr) (cap : Nat) (w : World) (hr : RowI w ao l) (hl : l.length ≤ 1048576) :
    Calls Try.prog 20 #[.slice ao l.length cap] w fun e w' => (∃ g : Nat, w.heap.size ≤ g ∧ e = .returned (.slice (some ⟨g, 0, none⟩) l.length l.length) ∧ RowI w' (some ⟨g, 0, none⟩) l) ∧ Below w.heap.size w w' := by
  refine (toInsS_made l ao cap w hr hl).mono ?_
  rintro e w' ⟨rfl, hm⟩
  exact ⟨⟨w.heap.size, Nat.le_refl _, rfl, .inr ⟨w.heap.size, 0, rfl, fun j hj => by rw [Nat.zero_add]; exact hm.rep j hj hj⟩⟩, hm.below⟩

set_option maxHeartbeats 1000000 in
theorem eqInsS_same (l : List I) (ao bo : Option Addr) (cap cap' : Nat) (w : World) (hr : RowI w ao l) (hr' : RowI w bo l) (hl : l.length ≤ 1048576) :
    Calls Try.prog 27 #[.slice ao l.length cap, .slice bo l.length cap'] w fun e w' => e = .returned (.bool true) ∧ Below w.heap.size w w' := by
  have HRA : Hid (RowI w ao l) := hr
  have HRB : Hid (RowI w bo l) := hr'
  clear hr hr'
  go_enter Try.func27, Try.ntmps27
  go_wp2_with fail
  go_loopw [5] (fun i w' => ∃ k : Nat, k ≤ l.length ∧ i = .int .i64 k ∧ Below w.heap.size w w') (fun i _ => l.length - (intOf i).toNat)
  case atStart => exact ⟨0, Nat.zero_le _, rfl, Below.refl _ _⟩
  case round =>
    obtain ⟨k, hk, rfl, hbr⟩ := hrel
    have HBR : Hid (Below w.heap.size w wr) := hbr
    clear hbr
    by_cases hlt : k < l.length
    · rcases HRA.out with h | ⟨b, o, rfl, hrow⟩
      · rw [h] at hlt; simp at hlt
      rcases HRB.out with h | ⟨b', o', rfl, hrow'⟩
      · rw [h] at hlt; simp at hlt
      have hbx := (hrow k hlt).below HBR.out
      have hby := (hrow' k hlt).below HBR.out
      generalize l[k] = x at hbx hby
      obtain ⟨op, xa, xb, xc, xn, xs⟩ := x
      have d0 := Inn.keep hbx.c0
      have d1 := Inn.keep hbx.c1
      have d2 := Inn.keep hbx.c2
      have d3 := Inn.keep hbx.c3
      have d4 := Inn.keep hbx.c4
      have d5 := Inn.keep hbx.c5
      have f0 := Inn.keep hby.c0
      have f1 := Inn.keep hby.c1
      have f2 := Inn.keep hby.c2
      have f3 := Inn.keep hby.c3
      have f4 := Inn.keep hby.c4
      have f5 := Inn.keep hby.c5
      clear hbx hrow hby hrow'
      haveI := inn_ne wr
      go_wp2_with fail
      refine wp_region_inn ?_ ?_ ?_
      · kernel_rfl
      · kernel_rfl
      repeat (go_big_quiet_step (first
        | (go_at_call 51; exact calls_inn (eqIns_same _ _ _ _ _ _ _))))
      refine wpQuiet_nil ?_
      rintro w7 ⟨x7, h7⟩
      have HB7 : Hid (Below w.heap.size w w7) := by
        have : Below wr.heap.size wr w7 := by rw [h7]; exact x7.bel
        exact HBR.out.trans (this.mono HBR.out.size)
      clear h7 x7 d0 d1 d2 d3 d4 d5 f0 f1 f2 f3 f4 f5
      go_wp2_with fail
      go_roundw
      case rel => exact ⟨k + 1, by omega, by go_num, HB7.out⟩
      case measure => simp [intOf]; omega
    · go_wp2_with fail
      go_ret
      exact ⟨rfl, HBR.out⟩
end Go.Proofs.Ytdglefedbkgghaa.Code
namespace Go.Proofs.Ytdglefedbkgghaa
open Go.RowKit Atom
open Go.Proofs.Ytdglefedbkgghaa.Code
set_option linter.unusedVariables false

/-- Lists and texts of an actor are within limits. -/
def StL (l : List Tm) : Prop := l.length ≤ 1048576 ∧ ∀ t ∈ l, StS t
def AcT (a : Ac) : Prop := StL a.regs ∧ StL a.box ∧ a.N ≤ 1048576
theorem toLO_any (l : List Tm) (ao : Option Addr) (cap : Nat) (w : World) (hr : RepL 0 w l ao) (hl : l.length ≤ cap) (hc : cap ≤ maxLen) (hs : StL l) :
    Calls Try.prog 69 #[.slice ao l.length cap] w fun e w' => ∃ ao' bs, e = .returned (.slice ao' l.length l.length) ∧ Below w.heap.size w w' ∧ OsL w' l bs ao' ∧ bs.Nodup ∧ ∀ b ∈ bs, w.heap.size ≤ b :=
  toOS_of l hs.1 (fun t ht => toOT_all t (hs.2 t ht)) 0 w ao cap hr hl hc
theorem ownN_of {w : World} {g N : Nat} {f : Nat → Int} (h : Ints w g 0 N f) : ∃ bs, OwnN w N f bs (some ⟨g, 0, none⟩) ∧ bs.Nodup ∧ ∀ b ∈ bs, b = g := by
  by_cases h0 : N = 0
  · exact ⟨[], .inl ⟨h0, rfl⟩, by simp, fun b hb => by cases hb⟩
  · exact ⟨[g], .inr ⟨h0, g, 0, rfl, rfl, h.free, h.cell⟩, by simp, fun b hb => List.mem_singleton.1 hb⟩

def zeros5 (n : Nat) : Array Value := madeCells #[.int .i64 0, .int .i64 0, .slice none 0 0, .slice none 0 0, .slice none 0 0] (n * 5)
/-! ### What was said -/
theorem infoSaid : (Try.prog.info? 93).map (fun i => (i.zero, i.size, i.bytes)) = some (some (.agg #[.int .i64 0, .int .i64 0, .int .i64 0, .int .i64 0, .string ⟨#[]⟩, .slice none 0 0]), 6, 72) := by kernel_rfl
theorem undSaidS : Try.prog.underlying 36 = some (.slice 93) := by kernel_rfl
def zerosS (n : Nat) : Array Value := madeCells #[.int .i64 0, .int .i64 0, .int .i64 0, .int .i64 0, .string ⟨#[]⟩, .slice none 0 0] (n * 6)
theorem run_zerosS (n : Nat) (hn : n ≤ 1048576) (w : World) :
    (Instr.makeSlice 36 (.int .i64 (n : Int)) (.int .i64 (n : Int))).run Try.prog w = .ok (.slice (some ⟨w.heap.size, 0, none⟩) n n) (w.alloc (.cells (zerosS n) 93)) := by
  obtain ⟨i, hi, hzz⟩ := Option.map_eq_some_iff.1 infoSaid
  simp only [Prod.mk.injEq] at hzz
  obtain ⟨hz, hs, hb⟩ := hzz
  have hr := run_make (P := Try.prog) w 36 93 i _ undSaidS hi hz .i64 .i64 n n (by omega) (Int.le_refl _) (by rw [hb]; omega) (by omega)
  rw [hs] at hr
  simp only [Int.toNat_natCast] at hr
  exact hr
end Go.Proofs.Ytdglefedbkgghaa
namespace Go.Proofs.Ytdglefedbkgghaa
open Go.RowKit Atom
open Go.Proofs.Ytdglefedbkgghaa.Code
set_option linter.unusedVariables false

abbrev sdV (kind pid k n : Int) (s : ByteArray) (ao : Option Addr) (len cap : Nat) : Value := .agg #[.int .i64 kind, .int .i64 pid, .int .i64 k, .int .i64 n, .string s, .slice ao len cap]
set_option maxHeartbeats 1000000 in
set_option maxRecDepth 100000 in
theorem toSaidO_any (kind pid k n : Int) (s : ByteArray) (l : List Tm) (ao : Option Addr) (cap : Nat) (w : World) (hv : RepV 0 w (.mk k n s l) (.agg #[.int .i64 k, .int .i64 n, .string s, .slice ao l.length cap])) (hst : StS (.mk k n s l)) :
    Calls Try.prog 47 #[sdV kind pid k n s ao l.length cap] w fun e w' => ∃ ao' cap' bs, e = .returned (sdV kind pid k n s ao' l.length cap') ∧ OsV w' bs (.mk k n s l) (.agg #[.int .i64 k, .int .i64 n, .string s, .slice ao' l.length cap']) ∧ bs.Nodup ∧ (∀ b ∈ bs, w.heap.size ≤ b) ∧ Below w.heap.size w w' := by
  have HV : Hid (RepV 0 w (.mk k n s l) (.agg #[.int .i64 k, .int .i64 n, .string s, .slice ao l.length cap])) := hv
  have HT : Hid (ToOT (.mk k n s l)) := toOT_all _ hst
  clear hv hst
  go_enter Try.func47, Try.ntmps47
  go_wp2_with fail
  refine (HT.out 0 _ _ ((Keeps.below ?_ 0).repV HV.out)).mono ?_
  · exact (((Below.refl _ _).alloc (Nat.le_refl _) _).alloc (by simp) _).alloc (by simp; omega) _
  rintro e w1 ⟨v', bs, rfl, hb1, hr1, hnd, hlo⟩
  obtain ⟨hz, q2, q3, f2, f3⟩ := three_new hb1
  have HB1 : Hid (Below w.heap.size w w1) := ((((Below.refl _ _).alloc (Nat.le_refl _) _).alloc (by simp) _).alloc (by simp; omega) _).trans (hb1.mono (by simp; omega))
  obtain ⟨ao', cap', rfl, hs1, hl1, hc1, ho1⟩ := hr1
  have HR1 : Hid (OsL w1 l bs ao' ∧ bs.Nodup ∧ (∀ b ∈ bs, w.heap.size + 3 ≤ b) ∧ s.size ≤ 1048576 ∧ l.length ≤ cap' ∧ cap' ≤ maxLen) := ⟨ho1, hnd, fun b hb => by have := hlo b hb; simp at this; omega, hs1, hl1, hc1⟩
  clear hb1 ho1 hnd hlo hs1 hl1 hc1
  go_wp2_with fail
  refine bodyPost_ret (v := sdV kind pid k n s ao' l.length cap') (by simp [results, Try.results47, go_sem, q2]) rfl ⟨ao', cap', bs, rfl, ⟨ao', cap', rfl, HR1.out.2.2.2.1, HR1.out.2.2.2.2.1, HR1.out.2.2.2.2.2, OsL.keep _ _ _ (fun x hx _ => ?_) HR1.out.1⟩, HR1.out.2.1, fun b hb => by have := HR1.out.2.2.1 b hb; omega, ?_⟩
  · have hx3 := HR1.out.2.2.1 x hx
    have n1 : x ≠ w.heap.size + 1 := by omega
    have n2 : x ≠ w.heap.size + 1 + 1 := by omega
    rw [Below.heap_setCell _ ⟨w.heap.size + 1, 5, none⟩ _ x n1, Below.heap_setCell _ ⟨w.heap.size + 1, 4, none⟩ _ x n1, Below.heap_setCell _ ⟨w.heap.size + 1, 3, none⟩ _ x n1, Below.heap_setCell _ ⟨w.heap.size + 1, 2, none⟩ _ x n1, Below.heap_setCell _ ⟨w.heap.size + 1, 1, none⟩ _ x n1, Below.heap_setCell _ ⟨w.heap.size + 1, 0, none⟩ _ x n1,
      Below.heap_setCell _ ⟨w.heap.size + 1 + 1, 5, none⟩ _ x n2, Below.heap_setCell _ ⟨w.heap.size + 1 + 1, 4, none⟩ _ x n2, Below.heap_setCell _ ⟨w.heap.size + 1 + 1, 3, none⟩ _ x n2, Below.heap_setCell _ ⟨w.heap.size + 1 + 1, 2, none⟩ _ x n2]
  · have n1 : w.heap.size ≤ w.heap.size + 1 := by omega
    have n2 : w.heap.size ≤ w.heap.size + 1 + 1 := by omega
    exact (((((((((HB1.out.setCell (p := ⟨w.heap.size + 1 + 1, 2, none⟩) n2 _).setCell (p := ⟨w.heap.size + 1 + 1, 3, none⟩) n2 _).setCell (p := ⟨w.heap.size + 1 + 1, 4, none⟩) n2 _).setCell (p := ⟨w.heap.size + 1 + 1, 5, none⟩) n2 _).setCell (p := ⟨w.heap.size + 1, 0, none⟩) n1 _).setCell (p := ⟨w.heap.size + 1, 1, none⟩) n1 _).setCell (p := ⟨w.heap.size + 1, 2, none⟩) n1 _).setCell (p := ⟨w.heap.size + 1, 3, none⟩) n1 _).setCell (p := ⟨w.heap.size + 1, 4, none⟩) n1 _).setCell (p := ⟨w.heap.size + 1, 5, none⟩) n1 _

set_option maxHeartbeats 1000000 in
set_option maxRecDepth 100000 in
theorem toSaidS_any (l : List Sd) (ao : Option Addr) (cap : Nat) (w : World) (hr : RowS w ao l) (hl : l.length ≤ 1048576) (hs : ∀ x ∈ l, StS x.t) :
    Calls Try.prog 24 #[.slice ao l.length cap] w fun e w' => (∃ (g : Nat) (bs : List Nat), e = .returned (.slice (some ⟨g, 0, none⟩) l.length l.length) ∧ GL eltS w' l bs (some ⟨g, 0, none⟩) ∧ bs.Nodup ∧ ∀ b ∈ bs, w.heap.size ≤ b) ∧ Below w.heap.size w w' := by
  have HRW : Hid (RowS w ao l) := hr
  have HS : Hid (∀ x ∈ l, StS x.t) := hs
  clear hr hs
  have hmk := run_zerosS l.length hl
  go_enter Try.func24, Try.ntmps24
  go_wp2_with fail
  clear hmk
  go_loopw [4] (fun i w' => ∃ (k : Nat) (bs : List Nat), k ≤ l.length ∧ i = .int .i64 k ∧ MadeG eltS w w' w.heap.size l k bs) (fun i _ => l.length - (intOf i).toNat)
  case atStart => exact ⟨0, [], Nat.zero_le _, rfl, madeG_start w l _ (by unfold zerosS; rw [size_madeCells]; rfl) _⟩
  case round =>
    obtain ⟨k, bs, hk, rfl, hm⟩ := hrel
    have HM : Hid (MadeG eltS w wr w.heap.size l k bs) := hm
    clear hm
    by_cases hlt : k < l.length
    · rcases HRW.out.below HM.out.below with h | ⟨b, o, rfl, hrow⟩
      · rw [h] at hlt; simp at hlt
      have hbx := hrow k hlt
      have hT := HS.out _ (List.getElem_mem hlt)
      have HST : Hid (∀ w1 bt tk tn ts tl tao tcap, l[k].t = .mk tk tn ts tl → MadeG eltS w w1 w.heap.size l k bs → OsV w1 bt (.mk tk tn ts tl) (.agg #[.int .i64 tk, .int .i64 tn, .string ts, .slice tao tl.length tcap]) → bt.Nodup → (∀ x ∈ bt, wr.heap.size ≤ x) → (∀ x ∈ bs, x < wr.heap.size) → MadeG eltS w (w1.setCells w.heap.size (k * 6) [.int .i64 l[k].kind, .int .i64 l[k].pid, .int .i64 tk, .int .i64 tn, .string ts, .slice tao tl.length tcap]) w.heap.size l (k + 1) (bs ++ (bt ++ []))) := fun w1 bt tk tn ts tl tao tcap et h1 h2 h3 h4 h5 => by
        refine h1.store (e := eltS) (B := wr.heap.size) (Nat.le_refl _) hlt _ rfl (fun w' hc hb => ⟨hc 0 (by show 0 < 6; omega), hc 1 (by show 1 < 6; omega), ?_⟩) h3 h4 h5 HM.out.lt
        obtain ⟨ao', cap', e, b1, b2, b3, b4⟩ := h2
        simp only [Value.agg.injEq, Array.mk.injEq, List.cons.injEq, and_true, Value.slice.injEq, true_and] at e
        obtain ⟨rfl, rfl⟩ := e
        rw [et, OsT]
        exact ⟨hc 2 (by show 2 < 6; omega), hc 3 (by show 3 < 6; omega), hc 4 (by show 4 < 6; omega), b1, tao, tcap, hc 5 (by show 5 < 6; omega), b2, b3, OsL.keep _ _ _ hb b4⟩
      generalize l[k] = x at hbx HST hT
      obtain ⟨kind, pid, t⟩ := x
      obtain ⟨tk, tn, ts, tl⟩ := t
      have d0 := hbx.c0
      have d1 := hbx.c1
      have hRT := hbx.t
      rw [RepT] at hRT
      obtain ⟨d2, d3, d4, hs4, tao, tcap, d5, hl5, hc5, hr5⟩ := hRT
      have HC : Hid (Calls Try.prog 47 #[sdV kind pid tk tn ts tao tl.length tcap] wr fun e w' => ∃ ao' cap' bt, e = .returned (sdV kind pid tk tn ts ao' tl.length cap') ∧ OsV w' bt (.mk tk tn ts tl) (.agg #[.int .i64 tk, .int .i64 tn, .string ts, .slice ao' tl.length cap']) ∧ bt.Nodup ∧ (∀ b ∈ bt, wr.heap.size ≤ b) ∧ Below wr.heap.size wr w') :=
        toSaidO_any kind pid tk tn ts tl tao tcap wr ⟨tao, tcap, rfl, hs4, hl5, hc5, hr5⟩ hT
      clear hbx hrow hT hr5 hs4 hl5 hc5
      go_wp2_with fail
      refine HC.out.mono ?_
      rintro e w1 ⟨ao', cap', bt, rfl, hq, hnd, hlo, hb1⟩
      have HM1 : Hid (MadeG eltS w w1 w.heap.size l k bs) := HM.out.call hb1
      have HOLD : Hid (∀ x ∈ bs, x < wr.heap.size) := HM.out.row.lt
      have HQ : Hid (OsV w1 bt (.mk tk tn ts tl) (.agg #[.int .i64 tk, .int .i64 tn, .string ts, .slice ao' tl.length cap']) ∧ bt.Nodup ∧ ∀ b ∈ bt, wr.heap.size ≤ b) := ⟨hq, hnd, hlo⟩
      have hf := HM1.out.free
      obtain ⟨x0, hs0⟩ := Option.isSome_iff_exists.1 (HM1.out.some (k * 6) (by show k * 6 < l.length * 6; omega))
      obtain ⟨x1, hs1⟩ := Option.isSome_iff_exists.1 (HM1.out.some (k * 6 + 1) (by show k * 6 + 1 < l.length * 6; omega))
      obtain ⟨x2, hs2⟩ := Option.isSome_iff_exists.1 (HM1.out.some (k * 6 + 2) (by show k * 6 + 2 < l.length * 6; omega))
      obtain ⟨x3, hs3⟩ := Option.isSome_iff_exists.1 (HM1.out.some (k * 6 + 3) (by show k * 6 + 3 < l.length * 6; omega))
      obtain ⟨x4, hs4⟩ := Option.isSome_iff_exists.1 (HM1.out.some (k * 6 + 4) (by show k * 6 + 4 < l.length * 6; omega))
      obtain ⟨x5, hs5⟩ := Option.isSome_iff_exists.1 (HM1.out.some (k * 6 + 5) (by show k * 6 + 5 < l.length * 6; omega))
      clear hb1 hq hnd hlo d0 d1 d2 d3 d4 d5
      have HM2 : Hid (MadeG eltS w (w1.setCells w.heap.size (k * 6) [.int .i64 kind, .int .i64 pid, .int .i64 tk, .int .i64 tn, .string ts, .slice ao' tl.length cap']) w.heap.size l (k + 1) (bs ++ (bt ++ []))) := HST.out w1 bt tk tn ts tl ao' cap' rfl HM1.out HQ.out.1 HQ.out.2.1 HQ.out.2.2 HOLD.out
      go_wp2_with fail
      go_roundw
      case rel => exact ⟨k + 1, _, by omega, by go_num, HM2.out⟩
      case measure => simp [intOf]; omega
    · go_wp2_with fail
      go_ret
      have hkl : k = l.length := by omega
      subst hkl
      obtain ⟨bs', h1, h2, h3⟩ := HM.out.done (Nat.le_refl _)
      exact ⟨⟨w.heap.size, bs', rfl, h1, h2, h3⟩, HM.out.below⟩

set_option maxHeartbeats 1000000 in
theorem toInsSO_any (l : List I) (ao : Option Addr) (cap : Nat) (w : World) (hr : RowI w ao l) (hl : l.length ≤ 1048576) :
    Calls Try.prog 20 #[.slice ao l.length cap] w fun e w' => (∃ (g : Nat) (bs : List Nat), e = .returned (.slice (some ⟨g, 0, none⟩) l.length l.length) ∧ GL eltI w' l bs (some ⟨g, 0, none⟩) ∧ bs.Nodup ∧ ∀ b ∈ bs, w.heap.size ≤ b) ∧ Below w.heap.size w w' := by
  have HRW : Hid (RowI w ao l) := hr
  clear hr
  have hmk := run_zeros6 l.length hl
  go_enter Try.func20, Try.ntmps20
  go_wp2_with fail
  clear hmk
  go_loopw [4] (fun i w' => ∃ (k : Nat) (bs : List Nat), k ≤ l.length ∧ i = .int .i64 k ∧ MadeG eltI w w' w.heap.size l k bs) (fun i _ => l.length - (intOf i).toNat)
  case atStart => exact ⟨0, [], Nat.zero_le _, rfl, madeG_start w l _ (by unfold zeros6; rw [size_madeCells]; rfl) _⟩
  case round =>
    obtain ⟨k, bs, hk, rfl, hm⟩ := hrel
    have HM : Hid (MadeG eltI w wr w.heap.size l k bs) := hm
    clear hm
    by_cases hlt : k < l.length
    · rcases HRW.out with h | ⟨b, o, rfl, hrow⟩
      · rw [h] at hlt; simp at hlt
      have hbx := (hrow k hlt).below HM.out.below
      have HST : Hid (∀ w1, MadeG eltI w w1 w.heap.size l k bs → MadeG eltI w (w1.setCells w.heap.size (k * 6) (insL l[k])) w.heap.size l (k + 1) (bs ++ ([] ++ []))) := fun w1 h1 =>
        h1.store (e := eltI) (B := wr.heap.size) (bt := []) (Nat.le_refl _) hlt _ rfl (fun w' hc hb => ⟨rfl, hc 0 (by show 0 < 6; omega), hc 1 (by show 1 < 6; omega), hc 2 (by show 2 < 6; omega), hc 3 (by show 3 < 6; omega), hc 4 (by show 4 < 6; omega), hc 5 (by show 5 < 6; omega)⟩) (by simp) (fun x hx => by cases hx) HM.out.row.lt HM.out.lt
      generalize l[k] = x at hbx HST
      obtain ⟨op, xa, xb, xc, xn, xs⟩ := x
      have d0 := hbx.c0
      have d1 := hbx.c1
      have d2 := hbx.c2
      have d3 := hbx.c3
      have d4 := hbx.c4
      have d5 := hbx.c5
      clear hbx hrow
      go_wp2_with fail
      refine (toIns_any op xa xb xc xn xs _).mono ?_
      rintro e w1 ⟨rfl, hb1⟩
      have HM1 : Hid (MadeG eltI w w1 w.heap.size l k bs) := HM.out.call hb1
      have hf := HM1.out.free
      obtain ⟨x0, hs0⟩ := Option.isSome_iff_exists.1 (HM1.out.some (k * 6) (by show k * 6 < l.length * 6; omega))
      obtain ⟨x1, hs1⟩ := Option.isSome_iff_exists.1 (HM1.out.some (k * 6 + 1) (by show k * 6 + 1 < l.length * 6; omega))
      obtain ⟨x2, hs2⟩ := Option.isSome_iff_exists.1 (HM1.out.some (k * 6 + 2) (by show k * 6 + 2 < l.length * 6; omega))
      obtain ⟨x3, hs3⟩ := Option.isSome_iff_exists.1 (HM1.out.some (k * 6 + 3) (by show k * 6 + 3 < l.length * 6; omega))
      obtain ⟨x4, hs4⟩ := Option.isSome_iff_exists.1 (HM1.out.some (k * 6 + 4) (by show k * 6 + 4 < l.length * 6; omega))
      obtain ⟨x5, hs5⟩ := Option.isSome_iff_exists.1 (HM1.out.some (k * 6 + 5) (by show k * 6 + 5 < l.length * 6; omega))
      clear hb1 d0 d1 d2 d3 d4 d5
      go_wp2_with fail
      have HM2 := HST.out w1 HM1.out
      go_roundw
      case rel => exact ⟨k + 1, _, by omega, by go_num, HM2⟩
      case measure => simp [intOf]; omega
    · go_wp2_with fail
      go_ret
      have hkl : k = l.length := by omega
      subst hkl
      obtain ⟨bs', h1, h2, h3⟩ := HM.out.done (Nat.le_refl _)
      exact ⟨⟨w.heap.size, bs', rfl, h1, h2, h3⟩, HM.out.below⟩

/-! ### A system -/
/-- All in it is within limits. -/
structure PlS (p : Pl) : Prop where
  c : p.code.length ≤ 1048576
  cs : SmI 1048576 p.code
  a : p.acts.length ≤ 1048576
  ax : ∀ x ∈ p.acts, AcT x
  o : p.out.length ≤ 1048576
  ox : ∀ x ∈ p.out, StS x.t
theorem four {a b c d a' b' c' d' : Value} (j : Nat) (h : ∀ o, o < 4 → o ≠ j → (#[a', b', c', d'] : Array Value)[o]? = (#[a, b, c, d] : Array Value)[o]?) : ∀ o, o ≠ j → (#[a', b', c', d'] : Array Value)[o]? = (#[a, b, c, d] : Array Value)[o]? := fun o ho => by
  by_cases h5 : o < 4
  · exact h o h5 ho
  · rw [Array.getElem?_eq_none (by simp; omega), Array.getElem?_eq_none (by simp; omega)]
theorem four0 {a b c d v : Value} : ∀ o, o ≠ 0 → (#[v, b, c, d] : Array Value)[o]? = (#[a, b, c, d] : Array Value)[o]? := four 0 fun o h5 ho => by
  match o, ho, h5 with
  | 0, h, _ => exact absurd rfl h
  | 1, _, _ => rfl
  | 2, _, _ => rfl
  | 3, _, _ => rfl
  | n + 4, _, h => omega
theorem four1 {a b c d v : Value} : ∀ o, o ≠ 1 → (#[a, v, c, d] : Array Value)[o]? = (#[a, b, c, d] : Array Value)[o]? := four 1 fun o h5 ho => by
  match o, ho, h5 with
  | 0, _, _ => rfl
  | 1, h, _ => exact absurd rfl h
  | 2, _, _ => rfl
  | 3, _, _ => rfl
  | n + 4, _, h => omega
theorem four2 {a b c d v : Value} : ∀ o, o ≠ 2 → (#[a, b, v, d] : Array Value)[o]? = (#[a, b, c, d] : Array Value)[o]? := four 2 fun o h5 ho => by
  match o, ho, h5 with
  | 0, _, _ => rfl
  | 1, _, _ => rfl
  | 2, h, _ => exact absurd rfl h
  | 3, _, _ => rfl
  | n + 4, _, h => omega
theorem nodup3 {b1 b2 b3 : List Nat} {x y z : Nat} (h1 : b1.Nodup) (h2 : b2.Nodup) (h3 : b3.Nodup) (k1 : ∀ b ∈ b1, b < x) (k2 : ∀ b ∈ b2, x ≤ b ∧ b < y) (k3 : ∀ b ∈ b3, y ≤ b) (hxy : x ≤ y) : (b1 ++ (b2 ++ b3)).Nodup := by
  rw [List.nodup_append]
  refine ⟨h1, List.nodup_append.2 ⟨h2, h3, fun p hp q hq e => ?_⟩, fun p hp q hq e => ?_⟩
  · have := k2 p hp; have := k3 q hq; omega
  · have := k1 p hp
    rcases List.mem_append.1 hq with hq | hq
    · have := k2 q hq; omega
    · have := k3 q hq; omega

end Go.Proofs.Ytdglefedbkgghaa
