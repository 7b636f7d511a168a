/-
  Lists of numbers that are read only: comparison, measure, copy.
  (Ahead of it, in this text: A new arena, the specification's and the program's: both are one free block. How the exact laws over rows of strings measure, copy, compare, mark and hold them.)
-/
import Derived.Test.YtabgfaafpgholaaArA
import Derived.Deep.OwnRows
import Derived.Test.YtabgfaafpgholaaSgA
import Derived.Deep.RegionWith
import Derived.Laws.IdiomStrings
import Derived.Deep.RegionLaw
namespace Go.Proofs.Ytabgfaafpgholaa
open Go.RowKit
set_option linter.unusedVariables false

theorem infoInt : (Try.prog.info? 3).map (fun i => (i.zero, i.size, i.bytes)) = some (some (.int .i64 0), 1, 8) := by kernel_rfl
theorem undInts : Try.prog.underlying 22 = some (.slice 3) := by kernel_rfl
theorem run_ints (n : Nat) (hn : n ≤ 1048576) (w : World) :
    (Instr.makeSlice 22 (.int .i64 (n : Int)) (.int .i64 (n : Int))).run Try.prog w = .ok (.slice (some ⟨w.heap.size, 0, none⟩) n n) (w.alloc (.cells (madeCells #[.int .i64 0] n) 3)) :=
  run_make_row' (P := Try.prog) 22 3 (.int .i64 0) 8 undInts infoInt rfl .i64 .i64 n (by omega) (by omega) w
theorem ints_made (w : World) (n : Nat) : Ints (w.alloc (.cells (madeCells #[.int .i64 0] n) 3)) w.heap.size 0 n (fun _ => 0) := by
  have h := World.rowIs_made w (.int .i64 0) n 3
  refine ⟨fun j hj => ?_, fun x => h.frozen x⟩
  rw [Nat.zero_add]
  exact h.cell hj

theorem three_first (w : World) (a : Array Value) (ta : TypeId) (B C : Obj) (o : Nat) :
    (((w.alloc (.cells a ta)).alloc B).alloc C).cell? ⟨w.heap.size, o, none⟩ = a[o]? ∧ (((w.alloc (.cells a ta)).alloc B).alloc C).frozen? ⟨w.heap.size, o, none⟩ = false := by
  have hb : Below (w.alloc (.cells a ta)).heap.size (w.alloc (.cells a ta)) (((w.alloc (.cells a ta)).alloc B).alloc C) := ((Below.refl _ _).alloc (Nat.le_refl _) B).alloc (by simp) C
  refine ⟨?_, ?_⟩
  · rw [hb.cell (p := ⟨w.heap.size, o, none⟩) (by simp)]; exact World.cell?_alloc_new w a ta o
  · rw [hb.frozen (p := ⟨w.heap.size, o, none⟩) (by simp)]; exact World.frozen?_alloc_new w a ta o

/-- What a new arena of n words holds. -/
def freshF (n : Nat) : Nat → Int := layF (fun _ => 0) 0 (n - 3) false

end Go.Proofs.Ytabgfaafpgholaa
namespace Go.Proofs.Ytabgfaafpgholaa
open Go.RowKit
set_option linter.unusedVariables false

/-- The N strings f stand in the block b from 0 on, and may be written. -/
structure Sts (w : World) (b N : Nat) (f : Nat → ByteArray) : Prop where
  cell : ∀ j, j < N → w.cell? ⟨b, j, none⟩ = some (.string (f j))
  free : ∀ x, w.frozen? ⟨b, x, none⟩ = false
def updS (f : Nat → ByteArray) (i : Nat) (x : ByteArray) : Nat → ByteArray := fun j => if j = i then x else f j
theorem Sts.congr {w : World} {b N : Nat} {f g : Nat → ByteArray} (h : Sts w b N f) (e : ∀ j, j < N → f j = g j) : Sts w b N g :=
  ⟨fun j hj => by rw [← e j hj]; exact h.cell j hj, h.free⟩
theorem Sts.set {w : World} {b N : Nat} {f : Nat → ByteArray} (h : Sts w b N f) (i : Nat) (hi : i < N) (x : ByteArray) : Sts (w.setCell ⟨b, i, none⟩ (.string x)) b N (updS f i x) := by
  refine ⟨fun j hj => ?_, fun y => by rw [World.frozen?_setCell]; exact h.free y⟩
  by_cases e : j = i
  · subst e
    rw [updS, if_pos rfl]
    exact World.cell?_setCell_same w _ _ (h.cell j hj)
  · rw [updS, if_neg e, World.cell?_setCell_other (h := fun q => by simp at q; try omega)]
    exact h.cell j hj
theorem Sts.below {w w' : World} {b N : Nat} {f : Nat → ByteArray} (h : Sts w b N f) (hb : Below w.heap.size w w') (hlt : b < w.heap.size) : Sts w' b N f :=
  ⟨fun j hj => by rw [hb.cell (p := ⟨b, j, none⟩) hlt]; exact h.cell j hj, fun x => by rw [hb.frozen (p := ⟨b, x, none⟩) hlt]; exact h.free x⟩
theorem Sts.turn {cb : Nat} {w w' : World} {b N : Nat} {f : Nat → ByteArray} (h : Sts w b N f) (t : Turn cb w w') (hn : b ≠ cb) (hlt : b < w.heap.size) : Sts w' b N f :=
  ⟨fun j hj => t.cell hn (h.cell j hj), fun x => by rw [t.frozen hn hlt]; exact h.free x⟩
def lf (L : List ByteArray) : Nat → ByteArray := fun j => L.getD j ByteArray.empty
theorem lf_at (L : List ByteArray) (j : Nat) (h : j < L.length) : lf L j = L[j] := by
  unfold lf; rw [List.getD_eq_getElem?_getD, List.getElem?_eq_getElem h]; rfl
theorem Sts.txt {w : World} {b : Nat} {L : List ByteArray} (h : Sts w b L.length (lf L)) : Txt w b 0 L := fun j hj => by
  rw [Nat.zero_add, ← lf_at L j hj]; exact h.cell j hj

/-- What a law is handed: L, wherever it lies; of nothing the place is open. -/
def RdT (w : World) (ao : Option Addr) (L : List ByteArray) : Prop := L.length ≠ 0 → ∃ b o, ao = some ⟨b, o, none⟩ ∧ Txt w b o L
theorem RdT.below {w w' : World} {ao : Option Addr} {L : List ByteArray} (h : RdT w ao L) (hb : Below w.heap.size w w') : RdT w' ao L := fun h0 => by
  obtain ⟨b, o, e, hc⟩ := h h0
  exact ⟨b, o, e, hc.below hb⟩
theorem Txt.rd {w : World} {b o : Nat} {L : List ByteArray} (h : Txt w b o L) : RdT w (some ⟨b, o, none⟩) L := fun _ => ⟨b, o, rfl, h⟩

set_option maxHeartbeats 1000000 in
theorem szStr_any (ao : Option Addr) (cap : Nat) (L : List ByteArray) (w : World) (hr : RdT w ao L) (hN : L.length ≤ maxLen) (hs : ∀ x ∈ L, x.size ≤ maxLen) :
    Calls Try.prog 7 #[.slice ao L.length cap, .int .i64 1048576] w fun e w' => ∃ y : Int, e = .returned (.int .i64 y) ∧ w' = w ∧ -1 ≤ y ∧ (0 ≤ y → L.length ≤ 1048576) := by
  have HR : Hid (RdT w ao L) := hr
  have HS : Hid (∀ x ∈ L, x.size ≤ maxLen) := hs
  clear hr hs
  unfold maxLen at hN
  by_cases hb : L.length ≤ 1048576
  · go_enter Try.func7, Try.ntmps7
    go_wp2_with fail
    go_loop [1, 5] (fun a i => ∃ (m : Nat) (c : Int), m ≤ L.length ∧ i = .int .i64 m ∧ a = .int .i64 c ∧ 0 ≤ c ∧ c ≤ 1048576) (fun _ i => L.length - (intOf i).toNat)
    case atStart => exact ⟨0, 1048576 - L.length, Nat.zero_le _, rfl, rfl, by omega, by omega⟩
    case round =>
      obtain ⟨m, c, hm, rfl, rfl, hc0, hc1⟩ := hrel
      by_cases hlt : m < L.length
      · obtain ⟨b, o, rfl, hc⟩ := HR.out (by omega)
        have q := hc m hlt
        have hsz := HS.out _ (List.getElem_mem hlt)
        unfold maxLen at hsz
        generalize L[m] = x at *
        clear hc
        by_cases hx : c - x.size < 0
        · go_wp2_with fail
          go_ret
          exact ⟨(-1 : Int), rfl, rfl, by omega⟩
        · go_wp2_with fail
          go_round
          case rel => exact ⟨m + 1, c - x.size, by omega, by go_num, rfl, by omega, by omega⟩
          case measure => simp [intOf]; omega
      · go_wp2_with fail
        go_ret
        exact ⟨c, rfl, rfl, by omega⟩
  · go_enter Try.func7, Try.ntmps7
    go_wp2_with fail
    go_ret
    exact ⟨_, rfl, rfl, by omega, fun h => absurd h (by omega)⟩

theorem infoStr : (Try.prog.info? 9).map (fun i => (i.zero, i.size, i.bytes)) = some (some (.string ByteArray.empty), 1, 16) := by kernel_rfl
theorem undStrs : Try.prog.underlying 25 = some (.slice 9) := by kernel_rfl
theorem run_strs (n : Nat) (hn : n ≤ 1048576) (w : World) :
    (Instr.makeSlice 25 (.int .i64 (n : Int)) (.int .i64 (n : Int))).run Try.prog w = .ok (.slice (some ⟨w.heap.size, 0, none⟩) n n) (w.alloc (.cells (madeCells #[.string ByteArray.empty] n) 9)) :=
  run_make_row' (P := Try.prog) 25 9 (.string ByteArray.empty) 16 undStrs infoStr rfl .i64 .i64 n (by omega) (by omega) w
theorem strs_made (w : World) (n : Nat) : Sts (w.alloc (.cells (madeCells #[.string ByteArray.empty] n) 9)) w.heap.size n (fun _ => ByteArray.empty) := by
  have h := World.rowIs_made w (.string ByteArray.empty) n 9
  exact ⟨fun j hj => h.cell hj, fun x => h.frozen x⟩

set_option maxHeartbeats 1000000 in
theorem toStr_any (ao : Option Addr) (cap : Nat) (L : List ByteArray) (w : World) (hr : RdT w ao L) (hN : L.length ≤ 1048576) :
    Calls Try.prog 11 #[.slice ao L.length cap] w fun e w' => e = .returned (.slice (some ⟨w.heap.size, 0, none⟩) L.length L.length) ∧ Sts w' w.heap.size L.length (lf L) ∧ w.heap.size < w'.heap.size ∧ Below w.heap.size w w' := by
  have HR : Hid (RdT w ao L) := hr
  clear hr
  have hmk := run_strs L.length hN
  go_enter Try.func11, Try.ntmps11
  go_wp2_with fail
  clear hmk
  have hst : Sts (w.alloc (.cells (madeCells #[.string ByteArray.empty] L.length) 9)) w.heap.size L.length (fun j => if j < 0 then lf L j else ByteArray.empty) := (strs_made w L.length).congr (fun j _ => by rw [if_neg (by omega)])
  have hb : Below w.heap.size w (w.alloc (.cells (madeCells #[.string ByteArray.empty] L.length) 9)) := (Below.refl _ _).alloc (Nat.le_refl _) _
  have hl : w.heap.size < (w.alloc (.cells (madeCells #[.string ByteArray.empty] L.length) 9)).heap.size := by simp
  have HS : Hid (Sts (w.alloc (.cells (madeCells #[.string ByteArray.empty] L.length) 9)) w.heap.size L.length (fun j => if j < 0 then lf L j else ByteArray.empty) ∧ Below w.heap.size w (w.alloc (.cells (madeCells #[.string ByteArray.empty] L.length) 9)) ∧ w.heap.size < (w.alloc (.cells (madeCells #[.string ByteArray.empty] L.length) 9)).heap.size) := ⟨hst, hb, hl⟩
  clear hst hb hl
  go_loopw [4] (fun i wr => ∃ m : Nat, m ≤ L.length ∧ i = .int .i64 m ∧ Sts wr w.heap.size L.length (fun j => if j < m then lf L j else ByteArray.empty) ∧ Below w.heap.size w wr ∧ w.heap.size < wr.heap.size) (fun i _ => L.length - (intOf i).toNat)
  case atStart => exact ⟨0, Nat.zero_le _, rfl, HS.out.1, HS.out.2.1, HS.out.2.2⟩
  case round =>
    obtain ⟨m, hm, rfl, hi, hb, hl⟩ := hrel
    have HI : Hid (Sts wr w.heap.size L.length (fun j => if j < m then lf L j else ByteArray.empty)) := hi
    have HB : Hid (Below w.heap.size w wr ∧ w.heap.size < wr.heap.size) := ⟨hb, hl⟩
    by_cases hlt : m < L.length
    · obtain ⟨b, o, rfl, hc⟩ := HR.out (by omega)
      have hbl : b < w.heap.size := World.block_lt_of_cell? w _ (hc m hlt)
      have cs := (hb.cell (p := ⟨b, o + m, none⟩) hbl).trans (hc m hlt)
      have cd := hi.cell m hlt
      have fr : ∀ x, wr.frozen? ⟨w.heap.size, x, none⟩ = false := hi.free
      have hne : ¬ b = w.heap.size := by omega
      have HX : Hid (lf L m = L[m]) := lf_at L m hlt
      generalize L[m] = x at *
      clear hi hb hl hc
      go_wp2_with fail
      go_roundw
      case rel =>
        have h := HI.out.set m hlt x
        refine ⟨m + 1, by omega, by go_num, h.congr fun j _ => ?_, HB.out.1.setCell (Nat.le_refl _) _, by rw [World.size_setCell]; exact HB.out.2⟩
        unfold updS
        by_cases e : j = m
        · subst e
          rw [if_pos rfl, if_pos (by omega)]; exact HX.out.symm
        · rw [if_neg e]
          dsimp only
          by_cases e2 : j < m
          · rw [if_pos e2, if_pos (by omega)]
          · rw [if_neg e2, if_neg (by omega)]
      case measure => simp [intOf]; omega
    · have hme : m = L.length := by omega
      subst hme
      clear hi hb hl
      go_wp2_with fail
      go_ret
      exact ⟨rfl, HI.out.congr (fun j hj => by rw [if_pos hj]), HB.out.2, HB.out.1⟩

set_option maxHeartbeats 1000000 in
theorem eqStr_same (ao bo : Option Addr) (ca cb : Nat) (L : List ByteArray) (w : World) (ha : RdT w ao L) (hb : RdT w bo L) (hN : L.length ≤ 1048577) :
    Calls Try.prog 15 #[.slice ao L.length ca, .slice bo L.length cb] w fun e w' => e = .returned (.bool true) ∧ Below w.heap.size w w' := by
  have HA : Hid (RdT w ao L) := ha
  have HB : Hid (RdT w bo L) := hb
  clear ha hb
  go_enter Try.func15, Try.ntmps15
  go_wp2_with fail
  go_loopw [5] (fun i w' => ∃ m : Nat, m ≤ L.length ∧ i = .int .i64 m ∧ Below w.heap.size w w') (fun i _ => L.length - (intOf i).toNat)
  case atStart => exact ⟨0, Nat.zero_le _, by simp, Below.refl _ _⟩
  case round =>
    obtain ⟨m, hm, rfl, hbl⟩ := hrel
    have HBL : Hid (Below w.heap.size w wr) := hbl
    by_cases hlt : m < L.length
    · obtain ⟨b1, o1, rfl, c1⟩ := HA.out.below hbl (by omega)
      obtain ⟨b2, o2, rfl, c2⟩ := HB.out.below hbl (by omega)
      have q1 := c1 m hlt
      have q2 := c2 m hlt
      clear c1 c2 hbl
      generalize L[m] = x at *
      go_wp2_with fail
      go_quiet (fail)
      go_wp2_with fail
      go_roundw
      case rel => exact ⟨m + 1, by omega, by go_num, by first | exact HBL.out.drew | exact below_drewN HBL.out _⟩
      case measure => simp [intOf]; omega
    · clear hbl
      go_wp2_with fail
      go_ret
      exact ⟨rfl, HBL.out⟩

/-- The text of a mark. -/
def mkGo (k : Nat) (out : ByteArray) : ByteArray := if h : k = 0 then out else mkGo (k / 10) (⟨#[UInt8.ofNat (48 + k % 10)]⟩ ++ out)
termination_by k
decreasing_by omega
def mkT (k : Nat) : ByteArray := ⟨#[109]⟩ ++ mkGo k ⟨#[]⟩

theorem conv1 (b : UInt8) (x : Int) (h : x = b.toNat) (W : World) (g : Nat) (hc : W.cell? ⟨g, 0, none⟩ = some (.int .u8 x)) :
    (convert 47 9 (.slice (some ⟨g, 0, none⟩) 1 1)).run Try.prog W = .ok (.string ⟨#[b]⟩) W := by
  have := run_convert_bytes_back (P := Try.prog) W 47 9 5 ⟨g, 0, none⟩ 1 [b] Try.underlying47 Try.underlying5 Try.underlying9 (fun j hj => by
    have : j = 0 := by simpa using hj
    subst this
    show W.cell? ((⟨g, 0, none⟩ : Addr).add 0) = some (.int .u8 (b.toNat : Int))
    rw [← h]
    simpa [Addr.add] using hc)
  exact this
theorem tm (u : Nat) : 48 + (u : Int) % 10 = ((UInt8.ofNat (48 + u % 10)).toNat : Int) := by
  simp; omega
theorem ret_str {a b : ByteArray} (h : a = b) : Ending.returned (.string a) = .returned (.string b) := by rw [h]
theorem pow_fit {m k u : Nat} (h : u * 10 ^ m ≤ k) (hk : k ≤ 4000000000) (hu : 1 ≤ u) : m ≤ 9 := by
  rcases Nat.lt_or_ge 9 m with h6 | h6
  · have h1 : 10 ^ 10 ≤ 10 ^ m := Nat.pow_le_pow_right (by omega) h6
    have h2 : 10 ^ m ≤ u * 10 ^ m := Nat.le_mul_of_pos_left _ hu
    have : (10 : Nat) ^ 10 = 10000000000 := by decide
    omega
  · exact h6
theorem size_cons (b : UInt8) (s : ByteArray) : ((⟨#[b]⟩ : ByteArray) ++ s).size = s.size + 1 := by
  rw [ByteArray.size_append]
  show 1 + s.size = s.size + 1
  omega
set_option maxHeartbeats 1000000 in
set_option maxRecDepth 100000 in
theorem markText_any (k : Nat) (hk : 1 ≤ k) (hm : k ≤ 4000000000) (w : World) :
    Calls Try.prog 49 #[.int .i64 k] w fun e w' => e = .returned (.string (mkT k)) ∧ Below w.heap.size w w' := by
  have HE : Hid (mkT k = ⟨#[109]⟩ ++ mkGo k ⟨#[]⟩) := by show _ = _; rfl
  go_enter Try.func49, Try.ntmps49
  go_wp2_with fail
  go_loopw [0, 3] (fun a o wr => ∃ (u : Nat) (s : ByteArray), a = .int .i64 u ∧ o = .string s ∧ u * 10 ^ s.size ≤ k ∧ mkGo u s = mkGo k ⟨#[]⟩ ∧ s.size ≤ 10 ∧ Below w.heap.size w wr) (fun a _ _ => (intOf a).toNat)
  case atStart => exact ⟨k, ⟨#[]⟩, rfl, rfl, by show k * 10 ^ 0 ≤ k; simp, rfl, by decide, Below.refl _ _⟩
  case round =>
    obtain ⟨u, s, rfl, rfl, hf, hg, hs, hb⟩ := hrel
    have HF : Hid (u * 10 ^ s.size ≤ k) := hf
    have HG : Hid (mkGo u s = mkGo k ⟨#[]⟩) := hg
    have HB : Hid (Below w.heap.size w wr) := hb
    have hul : u ≤ 4000000000 := Nat.le_trans (Nat.le_trans (Nat.le_mul_of_pos_right u (Nat.pow_pos (by omega))) hf) hm
    clear hf hg hb
    by_cases hu : u = 0
    · subst hu
      have HS : Hid (s = mkGo k ⟨#[]⟩) := by
        have h := HG.out
        rw [mkGo, dif_pos rfl] at h
        exact h
      go_wp2_with fail
      go_ret
      exact ⟨ret_str (by rw [HE.out, ← HS.out]), HB.out⟩
    · have h6 := pow_fit HF.out hm (by omega)
      obtain ⟨b, hbb⟩ : ∃ b, b = UInt8.ofNat (48 + u % 10) := ⟨_, rfl⟩
      have HBB : Hid (b = UInt8.ofNat (48 + u % 10)) := hbb
      have hcv := conv1 b (48 + (u : Int) % 10) (by rw [hbb]; exact tm u) (wr.alloc (.cells #[.int .u8 (48 + (u : Int) % 10)] 5)) wr.heap.size (by simp)
      clear hbb
      have hup : 0 < (u : Int) := by omega
      go_wp2_with fail
      go_roundw
      case rel =>
        refine ⟨u / 10, ⟨#[b]⟩ ++ s, ?_, rfl, ?_, ?_, ?_, HB.out.alloc HB.out.size _⟩
        · first | rfl | (congr 1; omega) | go_num
        · rw [size_cons, Nat.pow_succ]
          have e : u / 10 * (10 ^ s.size * 10) = u / 10 * 10 * 10 ^ s.size := by rw [Nat.mul_comm (10 ^ s.size) 10, Nat.mul_assoc]
          rw [e]
          exact Nat.le_trans (Nat.mul_le_mul_right _ (by omega)) HF.out
        · rw [← HG.out]
          conv => rhs; rw [mkGo, dif_neg hu]
          rw [HBB.out]
        · rw [size_cons]; omega
      case measure => simp [intOf]; omega
end Go.Proofs.Ytabgfaafpgholaa
namespace Go.Proofs.Ytabgfaafpgholaa
open Go.RowKit
set_option linter.unusedVariables false

theorem below_join {a b c : World} (h : Below a.heap.size a b) (k : Below b.heap.size b c) : Below a.heap.size a c := h.trans (k.mono h.size)
/-- N numbers that are read only. -/
def RdI (w : World) (ao : Option Addr) (N : Nat) (f : Nat → Int) : Prop :=
  N ≠ 0 → ∃ b o, ao = some ⟨b, o, none⟩ ∧ ∀ j, j < N → w.cell? ⟨b, o + j, none⟩ = some (.int .i64 (f j))
theorem Ints.rdI {w : World} {b o N : Nat} {f : Nat → Int} (h : Ints w b o N f) : RdI w (some ⟨b, o, none⟩) N f := fun _ => ⟨b, o, rfl, h.cell⟩
theorem RdI.nil (w : World) (f : Nat → Int) (ao : Option Addr) : RdI w ao 0 f := fun h => absurd rfl h
theorem RdI.below {w w' : World} {ao : Option Addr} {N : Nat} {f : Nat → Int} (h : RdI w ao N f) (hb : Below w.heap.size w w') : RdI w' ao N f := fun hn => by
  obtain ⟨b, o, e, hc⟩ := h hn
  exact ⟨b, o, e, fun j hj => by rw [hb.cell (p := ⟨b, o + j, none⟩) (World.block_lt_of_cell? w _ (hc j hj))]; exact hc j hj⟩

set_option maxHeartbeats 1000000 in
theorem eqIntS_same (ao bo : Option Addr) (N ca cb : Nat) (f g : Nat → Int) (w : World) (ha : RdI w ao N f) (hb : RdI w bo N g) (he : ∀ j, j < N → f j = g j) (hN : N ≤ 1048576) :
    Calls Try.prog 46 #[.slice ao N ca, .slice bo N cb] w fun e w' => e = .returned (.bool true) ∧ Below w.heap.size w w' := by
  have HA : Hid (RdI w ao N f) := ha
  have HB : Hid (RdI w bo N g) := hb
  have HE : Hid (∀ j, j < N → f j = g j) := he
  clear ha hb he
  go_enter Try.func46, Try.ntmps46
  go_wp2_with fail
  go_loopw [5] (fun i w' => ∃ m : Nat, m ≤ N ∧ i = .int .i64 m ∧ Below w.heap.size w w') (fun i _ => N - (intOf i).toNat)
  case atStart => exact ⟨0, Nat.zero_le _, by simp, Below.refl _ _⟩
  case round =>
    obtain ⟨m, hm, rfl, hbl⟩ := hrel
    have HBL : Hid (Below w.heap.size w wr) := hbl
    by_cases hlt : m < N
    · obtain ⟨b1, o1, rfl, c1⟩ := HA.out.below hbl (by omega)
      obtain ⟨b2, o2, rfl, c2⟩ := HB.out.below hbl (by omega)
      have q1 := c1 m hlt
      have q2 := c2 m hlt
      rw [HE.out m hlt] at q1
      clear c1 c2 hbl
      generalize g m = x at *
      go_wp2_with fail
      go_quiet (fail)
      go_wp2_with fail
      go_roundw
      case rel => exact ⟨m + 1, by omega, by go_num, by first | exact HBL.out.drew | exact below_drewN HBL.out _⟩
      case measure => simp [intOf]; omega
    · clear hbl
      go_wp2_with fail
      go_ret
      exact ⟨rfl, HBL.out⟩


/-- What is left of the purse: below 0, there is too much. -/
def szI (N : Nat) (left : Int) : Int := if left - N < 0 then -1 else left - N
theorem szIntS_any (ao : Option Addr) (N cap : Nat) (left : Int) (hN : N ≤ maxLen) (h0 : 0 ≤ left ∧ left ≤ 1048576) (w : World) :
    Calls Try.prog 37 #[.slice ao N cap, .int .i64 left] w fun e w' => e = .returned (.int .i64 (szI N left)) ∧ w' = w := by
  unfold maxLen at hN
  by_cases h : left - N < 0
  · go_enter Try.func37, Try.ntmps37
    go_wp2
    go_ret
    exact ⟨ret_int (by rw [szI, if_pos h]), rfl⟩
  · go_enter Try.func37, Try.ntmps37
    go_wp2
    go_ret
    exact ⟨ret_int (by rw [szI, if_neg (by omega)]), rfl⟩
theorem szI_ge (N : Nat) (left : Int) : -1 ≤ szI N left := by unfold szI; split <;> omega
set_option maxHeartbeats 1000000 in
theorem toIntS_any (ao : Option Addr) (N cap : Nat) (f : Nat → Int) (w : World) (hr : RdI w ao N f) (hN : N ≤ 1048576) :
    Calls Try.prog 43 #[.slice ao N cap] w fun e w' => e = .returned (.slice (some ⟨w.heap.size, 0, none⟩) N N) ∧ Ints w' w.heap.size 0 N f ∧ w.heap.size < w'.heap.size ∧ Below w.heap.size w w' := by
  have HR : Hid (RdI w ao N f) := hr
  clear hr
  have hmk := run_ints N hN
  go_enter Try.func43, Try.ntmps43
  go_wp2_with fail
  clear hmk
  have hst : Ints (w.alloc (.cells (madeCells #[.int .i64 0] N) 3)) w.heap.size 0 N (fun j => if j < 0 then f j else 0) := (ints_made w N).congr (fun j _ => by rw [if_neg (by omega)])
  have hb : Below w.heap.size w (w.alloc (.cells (madeCells #[.int .i64 0] N) 3)) := (Below.refl _ _).alloc (Nat.le_refl _) _
  have hl : w.heap.size < (w.alloc (.cells (madeCells #[.int .i64 0] N) 3)).heap.size := by simp
  have HS : Hid (Ints (w.alloc (.cells (madeCells #[.int .i64 0] N) 3)) w.heap.size 0 N (fun j => if j < 0 then f j else 0) ∧ Below w.heap.size w (w.alloc (.cells (madeCells #[.int .i64 0] N) 3)) ∧ w.heap.size < (w.alloc (.cells (madeCells #[.int .i64 0] N) 3)).heap.size) := ⟨hst, hb, hl⟩
  clear hst hb hl
  go_loopw [4] (fun i wr => ∃ m : Nat, m ≤ N ∧ i = .int .i64 m ∧ Ints wr w.heap.size 0 N (fun j => if j < m then f j else 0) ∧ Below w.heap.size w wr ∧ w.heap.size < wr.heap.size) (fun i _ => N - (intOf i).toNat)
  case atStart => exact ⟨0, Nat.zero_le _, rfl, HS.out.1, HS.out.2.1, HS.out.2.2⟩
  case round =>
    obtain ⟨m, hm, rfl, hi, hb, hl⟩ := hrel
    have HI : Hid (Ints wr w.heap.size 0 N (fun j => if j < m then f j else 0)) := hi
    have HB : Hid (Below w.heap.size w wr ∧ w.heap.size < wr.heap.size) := ⟨hb, hl⟩
    by_cases hlt : m < N
    · obtain ⟨b, o, rfl, hc⟩ := HR.out (by omega)
      have hbl : b < w.heap.size := World.block_lt_of_cell? w _ (hc m hlt)
      have cs := (hb.cell (p := ⟨b, o + m, none⟩) hbl).trans (hc m hlt)
      have cd := hi.cell m hlt
      rw [Nat.zero_add] at cd
      have fr : ∀ x, wr.frozen? ⟨w.heap.size, x, none⟩ = false := hi.free
      have hne : ¬ b = w.heap.size := by omega
      clear hi hb hl hc
      go_wp2_with fail
      go_roundw
      case rel =>
        have h := HI.out.set m hlt (f m)
        rw [Nat.zero_add] at h
        refine ⟨m + 1, by omega, by go_num, h.congr fun j _ => ?_, HB.out.1.setCell (Nat.le_refl _) _, by rw [World.size_setCell]; exact HB.out.2⟩
        unfold upd
        by_cases e : j = m
        · subst e
          rw [if_pos rfl, if_pos (by omega)]
        · rw [if_neg e]
          dsimp only
          by_cases e2 : j < m
          · rw [if_pos e2, if_pos (by omega)]
          · rw [if_neg e2, if_neg (by omega)]
      case measure => simp [intOf]; omega
    · have hme : m = N := by omega
      subst hme
      clear hi hb hl
      go_wp2_with fail
      go_ret
      exact ⟨rfl, HI.out.congr (fun j hj => by rw [if_pos hj]), HB.out.2, HB.out.1⟩

end Go.Proofs.Ytabgfaafpgholaa
