/-
  Words read as terms, one behind the other: the specification.
-/
import Derived.Test.YtjjmikfbongccaaSlK
import Derived.Deep.RegionWith
import Derived.Deep.RegionLaw
import Derived.Deep.CutRange
namespace Go.Proofs.Ytjjmikfbongccaa.Gn
open Go.RowKit
set_option linter.unusedVariables false

def tmO : Option Tm → Tm
  | some t => t
  | none => .mk 0 0 ⟨#[]⟩ []
/-- The terms of the words R. -/
def tms (H : Hp) (R : List Int) : List Tm := R.map fun x => tmO (readT H x)
theorem tms_len (H : Hp) (R : List Int) : (tms H R).length = R.length := by simp [tms]
theorem tms_take (H : Hp) (R : List Int) (m : Nat) (h : m < R.length) : tms H (R.take (m + 1)) = tms H (R.take m) ++ [tmO (readT H R[m])] := by
  unfold tms
  rw [List.take_add_one, List.getElem?_eq_getElem h, List.map_append]
  rfl
/-- A list of terms that grows in memory of its own. -/
structure GT (w wr : World) (l : List Tm) (u : Value) (xs : List Value) : Prop where
  be : Below w.heap.size w wr
  own : wr.ownsRow w.heap.size 64 4 u l.length xs
  row : Row (fun b => w.heap.size ≤ b ∧ b < wr.heap.size ∧ u.ownBlock ≠ some b) wr l xs
theorem GT.call {w wr w1 : World} {l : List Tm} {u : Value} {xs : List Value} (h : GT w wr l u xs) (hb : Below wr.heap.size wr w1) : GT w w1 l u xs := by
  refine ⟨h.be.trans (hb.mono h.be.size), ?_, h.row.1, fun i hi => (h.row.2 i hi).move fun b o v hS hc => ⟨⟨hS.1, Nat.lt_of_lt_of_le hS.2.1 hb.size, hS.2.2⟩, ?_⟩⟩
  · refine ⟨h.own.1, h.own.2.imp id ?_⟩
    rintro ⟨g, cap, cur, h1, h2, h3, h4⟩
    have hlt : g < wr.heap.size := by
      rcases Nat.lt_or_ge g wr.heap.size with h | h
      · exact h
      · rw [Array.getElem?_eq_none h] at h3; cases h3
    exact ⟨g, cap, cur, h1, h2, (hb.block g hlt).trans h3, h4⟩
  · rw [hb.cell (p := ⟨b, o, none⟩) (World.block_lt_of_cell? wr _ hc)]; exact hc
theorem GT.more {w wr w2 : World} {l : List Tm} {u v : Value} {xs : List Value} {B : Nat} (h : GT w wr l u xs) {t : Tm} {a b c d : Value} (hB : w.heap.size ≤ B) (hu : ∀ g, u.ownBlock = some g → g < B) (hv : RpV (fun x => B ≤ x) wr t (.agg #[a, b, c, d])) {o : Obj}
    (hown : w2.ownsRow w.heap.size 64 4 v (l.length + 1) (xs ++ [a, b, c, d])) (hgrow : (wr.alloc o).grownBy w2 u.ownBlock) (hat : v.ownBlock = u.ownBlock ∨ v.ownBlock = some (wr.alloc o).heap.size) :
    GT w w2 (l ++ [t]) v (xs ++ [a, b, c, d]) := by
  have hs1 : (wr.alloc o).heap.size = wr.heap.size + 1 := World.size_alloc _ _
  have hzg := hgrow.size
  have hbA : Below w.heap.size w (wr.alloc o) := h.be.alloc h.be.size _
  have hb2 : Below w.heap.size w w2 := hbA.grown hgrow hbA.size (fun k hk => (h.own.lt k hk).1)
  have hcell : ∀ p o' x, some p ≠ u.ownBlock → wr.cell? ⟨p, o', none⟩ = some x → w2.cell? ⟨p, o', none⟩ = some x := fun p o' x hp hc => by
    have hpl := World.block_lt_of_cell? wr _ hc
    rw [hgrow.cell_far ⟨p, o', none⟩ (by rw [hs1]; exact Nat.lt_succ_of_lt hpl) hp, World.cell?_alloc_lt (h := hpl)]; exact hc
  have hvo : ∀ p, p < wr.heap.size → u.ownBlock ≠ some p → v.ownBlock ≠ some p := fun p hp hn e => by
    rcases hat with hat | hat
    · exact hn (hat ▸ e)
    · rw [hat, hs1] at e; injection e with e; omega
  have mv : Moves (fun b => w.heap.size ≤ b ∧ b < wr.heap.size ∧ u.ownBlock ≠ some b) (fun b => w.heap.size ≤ b ∧ b < w2.heap.size ∧ v.ownBlock ≠ some b) wr w2 := fun p o' x hS hc =>
    ⟨⟨hS.1, by have := hS.2.1; omega, hvo p hS.2.1 hS.2.2⟩, hcell p o' x (fun e => hS.2.2 e.symm) hc⟩
  have mt : Moves (fun x => B ≤ x) (fun b => w.heap.size ≤ b ∧ b < w2.heap.size ∧ v.ownBlock ≠ some b) wr w2 := fun p o' x hS hc => by
    have hpl := World.block_lt_of_cell? wr _ hc
    have hpl' : p < wr.heap.size := hpl
    have hne : u.ownBlock ≠ some p := fun e => by have := hu p e; omega
    exact ⟨⟨by omega, by omega, hvo p hpl' hne⟩, hcell p o' x (fun e => hne e.symm) hc⟩
  exact ⟨hb2, by rw [List.length_append]; exact hown, Row.snoc mv h.row (mt.repV hv)⟩
theorem GT.list {w wr : World} {l : List Tm} {u : Value} {xs : List Value} (h : GT w wr l u xs) : ∃ ao cap, u = .slice ao l.length cap ∧ l.length ≤ cap ∧ cap ≤ maxLen ∧ RpL (fun b => w.heap.size ≤ b) wr l ao :=
  h.row.repL (fun b hb => hb.1) h.own (fun g hg => (h.own.lt g hg).1)
theorem GT.start (w W : World) (hb : Below w.heap.size w W) : GT w (W.alloc (.cells #[] 64)) [] (.slice (some ⟨W.heap.size, 0, none⟩) 0 0) [] := by
  have h := World.ownsRow_made (e := 64) (size := 4) W #[] 0 (Nat.le_refl _) (Nat.zero_le _) rfl
  refine ⟨hb.alloc hb.size _, ⟨h.1, h.2.imp id ?_⟩, Row.nil _ _⟩
  rintro ⟨g, cap, cur, h1, h2, h3⟩
  exact ⟨g, cap, cur, h1, Nat.le_trans hb.size h2, h3⟩
theorem GSrc.keep {G : GE} {w w' : World} (h : GSrc G w) (hb : Below w.heap.size w w') : GSrc G w' := h.below hb
theorem keep4z {wr w5 : World} {a b c d : Value} {t : TypeId} (hb : Below (wr.alloc (.cells #[a, b, c, d] t)).drew.heap.size (wr.alloc (.cells #[a, b, c, d] t)).drew w5) :
    (∀ o, w5.cell? ⟨wr.heap.size, o, none⟩ = (#[a, b, c, d] : Array Value)[o]?) ∧ (∀ o, w5.frozen? ⟨wr.heap.size, o, none⟩ = false) := by
  have hs : (wr.alloc (.cells #[a, b, c, d] t)).drew.heap.size = wr.heap.size + 1 := World.size_alloc _ _
  refine ⟨fun o => ?_, fun o => ?_⟩
  · rw [hb.cell (p := ⟨wr.heap.size, o, none⟩) (by show wr.heap.size < _; omega)]
    exact World.cell?_alloc_new wr _ _ o
  · rw [hb.frozen (p := ⟨wr.heap.size, o, none⟩) (by show wr.heap.size < _; omega)]
    exact World.frozen?_alloc_new wr _ _ o
abbrev zc4 : Array Value := #[.int .i64 0, .int .i64 0, .string ⟨#[]⟩, .slice none 0 0]
/-- A term that was read, in a box of its own, behind a list that grows. -/
structure Bx (W0 wr wx : World) (l : List Tm) (u : Value) (xs : List Value) (t : Tm) (k : Nat) (a b : Int) (c : ByteArray) (d : Option Addr) (e f : Nat) : Prop where
  gt : GT W0 wx l u xs
  bx : ∀ o, wx.cell? ⟨k, o, none⟩ = (#[.int .i64 a, .int .i64 b, .string c, .slice d e f] : Array Value)[o]?
  rp : RpV (fun x => wr.heap.size ≤ x) wx t (.agg #[.int .i64 a, .int .i64 b, .string c, .slice d e f])
theorem Bx.one {W0 wr w5 : World} {l : List Tm} {u : Value} {xs : List Value} {t : Tm} {a b : Int} {c : ByteArray} {d : Option Addr} {e f : Nat} (h : GT W0 wr l u xs) (hb : Below wr.drew.heap.size wr.drew w5) (hv : RpV (fun x => wr.drew.heap.size ≤ x) w5 t (.agg #[.int .i64 a, .int .i64 b, .string c, .slice d e f])) (ty : TypeId) :
    Bx W0 wr (w5.alloc (.cells #[.int .i64 a, .int .i64 b, .string c, .slice d e f] ty)) l u xs t w5.heap.size a b c d e f :=
  ⟨((h.call (Below.refl _ _).drew).call hb).call ((Below.refl _ _).alloc (Nat.le_refl _) _), fun o => World.cell?_alloc_new w5 _ _ o, (Moves.below ((Below.refl _ _).alloc (Nat.le_refl _) _)).repV hv⟩
theorem Bx.two {W0 wr w5 : World} {l : List Tm} {u : Value} {xs : List Value} {t : Tm} {a b : Int} {c : ByteArray} {d : Option Addr} {e f : Nat} {ty : TypeId} (h : GT W0 wr l u xs) (hb : Below (wr.alloc (.cells zc4 ty)).drew.heap.size (wr.alloc (.cells zc4 ty)).drew w5) (hv : RpV (fun x => (wr.alloc (.cells zc4 ty)).drew.heap.size ≤ x) w5 t (.agg #[.int .i64 a, .int .i64 b, .string c, .slice d e f])) :
    Bx W0 wr ((((w5.setCell ⟨wr.heap.size, 0, none⟩ (.int .i64 a)).setCell ⟨wr.heap.size, 1, none⟩ (.int .i64 b)).setCell ⟨wr.heap.size, 2, none⟩ (.string c)).setCell ⟨wr.heap.size, 3, none⟩ (.slice d e f)) l u xs t wr.heap.size a b c d e f := by
  have hs : (wr.alloc (.cells zc4 ty)).drew.heap.size = wr.heap.size + 1 := World.size_alloc _ _
  have q : ∀ o, w5.cell? ⟨wr.heap.size, o, none⟩ = zc4[o]? := fun o => by
    rw [hb.cell (p := ⟨wr.heap.size, o, none⟩) (by show wr.heap.size < _; omega)]
    exact World.cell?_alloc_new wr _ _ o
  have b5 : Below wr.heap.size wr w5 := ((Below.refl _ _).alloc (Nat.le_refl _) _).trans ⟨hb.os, hb.tape, hb.output, hb.size, fun k hk => hb.block k (by rw [hs]; omega)⟩
  have hin := set4_in (w := w5) (g := wr.heap.size) (o := 0) (a := .int .i64 a) (b := .int .i64 b) (c := .string c) (d := .slice d e f) (fun j hj => by
    rw [Nat.zero_add, q]
    match j, hj with
    | 0, _ => rfl
    | 1, _ => rfl
    | 2, _ => rfl
    | 3, _ => rfl)
  show Bx W0 wr (set4 w5 wr.heap.size 0 (.int .i64 a) (.int .i64 b) (.string c) (.slice d e f)) l u xs t wr.heap.size a b c d e f
  refine ⟨h.call ((((b5.setCell (p := ⟨wr.heap.size, 0, none⟩) (Nat.le_refl _) _).setCell (p := ⟨wr.heap.size, 1, none⟩) (Nat.le_refl _) _).setCell (p := ⟨wr.heap.size, 2, none⟩) (Nat.le_refl _) _).setCell (p := ⟨wr.heap.size, 3, none⟩) (Nat.le_refl _) _), fun o => ?_, ?_⟩
  · match o with
    | 0 => exact hin.1
    | 1 => exact hin.2.1
    | 2 => exact hin.2.2.1
    | 3 => exact hin.2.2.2
    | n + 4 => rw [set4_far (Or.inr (Or.inr (by show 0 + 3 < n + 4; omega))), q, Array.getElem?_eq_none (by simp), Array.getElem?_eq_none (by simp)]
  · refine Moves.repV (S := fun x => (wr.alloc (.cells zc4 ty)).drew.heap.size ≤ x) (fun p o v hp hc => ?_) hv
    have hp' : wr.heap.size + 1 ≤ p := by rw [← hs]; exact hp
    exact ⟨by show wr.heap.size ≤ p; omega, by rw [set4_far (Or.inl (by show p ≠ wr.heap.size; omega))]; exact hc⟩
/-- What both kinds of reading of a list answer. -/
def TermsP (G : GE) (R : List Int) (w : World) (e : Ending) (w' : World) : Prop :=
  Below w.heap.size w w' ∧ ((allB G.H R = true ∧ ∃ ao cap, e = .returned (.tuple #[.slice ao R.length cap, .bool true]) ∧ R.length ≤ cap ∧ cap ≤ maxLen ∧ RpL (fun b => w.heap.size ≤ b) w' (tms G.H R) ao) ∨
    (allB G.H R = false ∧ ∃ ao n cap, e = .returned (.tuple #[.slice ao n cap, .bool false])))

set_option maxHeartbeats 4000000 in
set_option maxRecDepth 100000 in
theorem l10Terms_any (G : GE) (R : List Int) (rv : Option Addr) (rcap : Nat) (w : World) (h : GSrc G w) (hr : Roots w rv R) (hR : R.length ≤ 1048576) (hb : ∀ x ∈ R, x ≤ 9223372036854775807) :
    Calls Try.prog 30 #[.slice rv R.length rcap, G.v, .slice G.av G.A.length G.acap] w (TermsP G R w) := by
  obtain ⟨i0, hi, hz0, hz1, hz2⟩ := infoParts info26
  have HI : Hid (Try.prog.info? 64 = some i0 ∧ i0.zero = some (.agg #[.int .i64 0, .int .i64 0, .string ⟨#[]⟩, .slice none 0 0]) ∧ i0.size = 4 ∧ i0.bytes = 56) := ⟨hi, hz0, hz1, hz2⟩
  clear hi hz0 hz1 hz2
  have HRD : Hid (∀ w', Below w.heap.size w w' → ∀ x, x ≤ 9223372036854775807 → Calls Try.prog 38 #[.agg #[.slice G.wv G.N G.cap, .slice G.yv G.M G.ycap, .int .i64 G.mark], .slice G.av G.A.length G.acap, .int .i64 x] w' (ReadP G w' x)) := fun w' hb' x hx => specGensRead_any G w' (h.below hb') x hx
  have HR : Hid (Roots w rv R) := hr
  have HBR : Hid (∀ x ∈ R, x ≤ 9223372036854775807) := hb
  clear h hr hb
  generalize G.A.length = AL at *
  obtain ⟨W0, hW0⟩ : ∃ W0, W0 = w.alloc (.cells #[.slice G.wv G.N G.cap, .slice G.yv G.M G.ycap, .int .i64 G.mark] 44) := ⟨_, rfl⟩
  have hb0 : Below w.heap.size w W0 := by rw [hW0]; exact (Below.refl _ _).alloc (Nat.le_refl _) _
  have hz0 : W0.heap.size = w.heap.size + 1 := by rw [hW0, World.size_alloc]
  have hq0 : ∀ o, W0.cell? ⟨w.heap.size, o, none⟩ = (#[.slice G.wv G.N G.cap, .slice G.yv G.M G.ycap, .int .i64 G.mark] : Array Value)[o]? := fun o => by rw [hW0]; exact World.cell?_alloc_new w _ _ o
  have HB0 : Hid (Below w.heap.size w W0) := hb0
  have HS0 : Hid (GT W0 (W0.alloc (.cells #[] 64)) [] (.slice (some ⟨W0.heap.size, 0, none⟩) 0 0) []) := GT.start W0 W0 (Below.refl _ _)
  have HQ : Hid (∀ w', Below W0.heap.size W0 w' → ∀ o, w'.cell? ⟨w.heap.size, o, none⟩ = (#[.slice G.wv G.N G.cap, .slice G.yv G.M G.ycap, .int .i64 G.mark] : Array Value)[o]?) := fun w' hb' o => by rw [hb'.cell (p := ⟨w.heap.size, o, none⟩) (by show w.heap.size < _; omega)]; exact hq0 o
  have HZ0 : Hid (W0.heap.size = w.heap.size + 1) := hz0
  clear hq0 hb0
  go_enter Try.func30, Try.ntmps30
  go_wp2_with fail
  rw [← hW0]
  clear hW0
  rw [← hz0]
  clear hz0
  go_loopw [8, 9] (fun a i wr => ∃ (m : Nat) (u : Value) (xs : List Value), m ≤ R.length ∧ i = .int .i64 m ∧ a = u ∧ (∀ x ∈ R.take m, (readT G.H x).isSome = true) ∧ GT W0 wr (tms G.H (R.take m)) u xs) (fun _ i _ => R.length - (intOf i).toNat)
  case atStart => exact ⟨0, _, _, Nat.zero_le _, rfl, rfl, by simp, HS0.out⟩
  case round =>
    obtain ⟨m, u, xs, hm, rfl, hu, hall, hgt⟩ := hrel
    obtain rfl := hu.symm
    have HALL : Hid (∀ x ∈ R.take m, (readT G.H x).isSome = true) := hall
    have HGT : Hid (GT W0 wr (tms G.H (R.take m)) u xs) := hgt
    have q0 := HQ.out wr hgt.be
    have HBW : Hid (Below w.heap.size w wr) := HB0.out.trans (hgt.be.mono HB0.out.size)
    clear hall hgt
    by_cases hlt : m < R.length
    · obtain ⟨b, o, rfl, hcs⟩ := (HR.out.below HBW.out) (by omega)
      have q := hcs m hlt
      have HX : Hid (R[m] ≤ 9223372036854775807) := HBR.out _ (List.getElem_mem hlt)
      have HM : Hid (R[m] ∈ R) := List.getElem_mem hlt
      have HT : Hid ((readT G.H R[m]).isSome = true → ∀ x ∈ R.take (m + 1), (readT G.H x).isSome = true) := fun h => take_in hlt HALL.out h
      have HTK : Hid (tms G.H (R.take (m + 1)) = tms G.H (R.take m) ++ [tmO (readT G.H R[m])]) := tms_take G.H R m hlt
      have HLEN : Hid ((tms G.H (R.take m)).length = m) := by show _ = _; rw [tms_len, List.length_take]; omega
      clear hcs
      generalize R[m] = x at *
      have e0 : wr.cell? ⟨w.heap.size, 0, none⟩ = some (.slice G.wv G.N G.cap) := q0 0
      have hXl : w.heap.size < wr.heap.size := World.block_lt_of_cell? _ _ e0
      have hGl : b < wr.heap.size := World.block_lt_of_cell? _ _ q
      have q0a : ∀ o, (wr.alloc (.cells #[.int .i64 0, .int .i64 0, .string ⟨#[]⟩, .slice none 0 0] 64)).cell? ⟨w.heap.size, o, none⟩ = (#[.slice G.wv G.N G.cap, .slice G.yv G.M G.ycap, .int .i64 G.mark] : Array Value)[o]? := fun o => by rw [World.cell?_alloc_lt (h := hXl)]; exact q0 o
      have qa : (wr.alloc (.cells #[.int .i64 0, .int .i64 0, .string ⟨#[]⟩, .slice none 0 0] 64)).cell? ⟨b, o + m, none⟩ = some (.int .i64 x) := by rw [World.cell?_alloc_lt (h := hGl)]; exact q
      have nX : ¬ w.heap.size = wr.heap.size := by omega
      have nG : ¬ b = wr.heap.size := by omega
      have KW : Hid (Below w.heap.size w wr.drew ∧ Below w.heap.size w (wr.alloc (.cells #[.int .i64 0, .int .i64 0, .string ⟨#[]⟩, .slice none 0 0] 64)).drew) := ⟨HBW.out.drew, (HBW.out.alloc HBW.out.size _).drew⟩
      clear e0 hXl hGl
      cases hrd : readT G.H x with
      | none =>
        have HRN : Hid (readT G.H x = none) := hrd
        have HE : Hid (allB G.H R = false) := allB_no HM.out hrd
        have HRJ : Hid (∀ w', Below w.heap.size w w' → Calls Try.prog 38 #[.agg #[.slice G.wv G.N G.cap, .slice G.yv G.M G.ycap, .int .i64 G.mark], .slice G.av AL G.acap, .int .i64 x] w' fun e w'' => ∃ a b c d' e' f, e = .returned (.tuple #[.agg #[.int .i64 a, .int .i64 b, .string c, .slice d' e' f], .bool false]) ∧ Below w'.heap.size w' w'') := fun w' hb' => by
          refine (HRD.out w' hb' x HX.out).mono ?_
          rintro e w'' ⟨a, b, c, d', e', f, rfl, hb, _⟩
          exact ⟨a, b, c, d', e', f, by rw [HRN.out]; rfl, hb⟩
        clear hrd
        go_wp2_with fail
        go_cut [10, 11] from 19 to 28 (fun v8 v9 wx => ∃ k : Nat, v8 = .pointer (some ⟨k, 0, none⟩) ∧ v9 = .bool false ∧ Below w.heap.size w wx)
        case first =>
          go_region_law (go_simp; go_wp2_with (
            (go_at_call 38; first
              | ((conv in (World.alloc wr (.cells #[.int .i64 0, .int .i64 0, .string ⟨#[]⟩, .slice none 0 0] 64)) => skip); refine (HRJ.out _ KW.out.2).mono ?_; rintro e w5 ⟨a5, b5, cc5, d5, e5, f5, rfl, hb5⟩; obtain ⟨q5, z5⟩ := keep4z hb5; have HB5 : Hid (Below w.heap.size w w5) := KW.out.2.trans (hb5.mono KW.out.2.size); clear hb5)
              | (refine (HRJ.out _ KW.out.1).mono ?_; rintro e w5 ⟨a5, b5, cc5, d5, e5, f5, rfl, hb5⟩; have HB5 : Hid (Below w.heap.size w w5) := KW.out.1.trans (hb5.mono KW.out.1.size); clear hb5))))
          all_goals
            go_wp2_with fail
            go_meet
            case rel =>
              refine ⟨_, rfl, rfl, ?_⟩
              first
                | exact HB5.out.alloc HB5.out.size _
                | exact (((HB5.out.setCell HBW.out.size _).setCell HBW.out.size _).setCell HBW.out.size _).setCell HBW.out.size _
        case rest =>
          obtain ⟨k, rfl, rfl, hwx⟩ := hcut
          have HWX : Hid (Below w.heap.size w wc) := hwx
          clear hwx q0 q0a q qa nX nG
          go_wp2_with fail
          exact bodyPost_ret (v := .tuple #[.slice (some ⟨wc.heap.size, 0, none⟩) 0 0, .bool false]) (by simp [results, Try.results30, go_sem]) rfl ⟨HWX.out.alloc HWX.out.size _, .inr ⟨HE.out, _, _, _, rfl⟩⟩
      | some t =>
        have HRN : Hid (readT G.H x = some t) := hrd
        have HE : Hid (∀ x ∈ R.take (m + 1), (readT G.H x).isSome = true) := HT.out (by rw [hrd]; rfl)
        have HTL : Hid (tms G.H (R.take (m + 1)) = tms G.H (R.take m) ++ [t]) := by rw [HTK.out, hrd]; rfl
        have HRJ : Hid (∀ w', Below w.heap.size w w' → Calls Try.prog 38 #[.agg #[.slice G.wv G.N G.cap, .slice G.yv G.M G.ycap, .int .i64 G.mark], .slice G.av AL G.acap, .int .i64 x] w' fun e w'' => ∃ a b c d' e' f, e = .returned (.tuple #[.agg #[.int .i64 a, .int .i64 b, .string c, .slice d' e' f], .bool true]) ∧ Below w'.heap.size w' w'' ∧ RpV (fun b => w'.heap.size ≤ b) w'' t (.agg #[.int .i64 a, .int .i64 b, .string c, .slice d' e' f])) := fun w' hb' => by
          refine (HRD.out w' hb' x HX.out).mono ?_
          rintro e w'' ⟨a, b, c, d', e', f, rfl, hb, ⟨t', h1, h2⟩ | ⟨h1, _⟩⟩
          · rw [HRN.out] at h1
            injection h1 with h1
            subst h1
            exact ⟨a, b, c, d', e', f, by rw [HRN.out]; rfl, hb, h2⟩
          · rw [HRN.out] at h1; cases h1
        clear hrd
        go_wp2_with fail
        go_cut [10, 11] from 19 to 28 (fun v8 v9 wx => ∃ (k : Nat) (a b : Int) (c : ByteArray) (d : Option Addr) (e f : Nat), v8 = .pointer (some ⟨k, 0, none⟩) ∧ v9 = .bool true ∧ Bx W0 wr wx (tms G.H (R.take m)) u xs t k a b c d e f)
        case first =>
          go_region_law (go_simp; go_wp2_with (
            (go_at_call 38; first
              | ((conv in (World.alloc wr (.cells #[.int .i64 0, .int .i64 0, .string ⟨#[]⟩, .slice none 0 0] 64)) => skip); refine (HRJ.out _ KW.out.2).mono ?_; rintro e w5 ⟨a5, b5, cc5, d5, e5, f5, rfl, hb5, hv5⟩; obtain ⟨q5, z5⟩ := keep4z hb5; have HBX : Hid (Bx W0 wr _ (tms G.H (R.take m)) u xs t wr.heap.size a5 b5 cc5 d5 e5 f5) := Bx.two HGT.out hb5 hv5; clear hb5 hv5)
              | (refine (HRJ.out _ KW.out.1).mono ?_; rintro e w5 ⟨a5, b5, cc5, d5, e5, f5, rfl, hb5, hv5⟩; have HBX : Hid (Bx W0 wr _ (tms G.H (R.take m)) u xs t w5.heap.size a5 b5 cc5 d5 e5 f5) := Bx.one HGT.out hb5 hv5 64; clear hb5 hv5))))
          all_goals
            go_wp2_with fail
            go_meet
            case rel => exact ⟨_, _, _, _, _, _, _, rfl, rfl, HBX.out⟩
        case rest =>
          obtain ⟨k, a5, b5, cc5, d5, e5, f5, rfl, rfl, hbx⟩ := hcut
          have HBX : Hid (Bx W0 wr wc (tms G.H (R.take m)) u xs t k a5 b5 cc5 d5 e5 f5) := hbx
          have qk := hbx.bx
          have HO : Hid (wc.ownsRow W0.heap.size 64 4 u m xs) := by
            have h := hbx.gt.own
            rw [HLEN.out] at h
            exact h
          have HUB : Hid (∀ g, u.ownBlock = some g → g < wr.heap.size) := fun g hg => (HGT.out.own.lt g hg).2
          have C3 : Hid (m + 1 ≤ maxLen) := by show _ ≤ _; unfold maxLen; omega
          have C4 : Hid ((m + 1) * 56 ≤ 140737488355328) := by show _ ≤ _; omega
          have C5 : Hid (W0.heap.size ≤ (wc.alloc (.cells #[.int .i64 a5, .int .i64 b5, .string cc5, .slice d5 e5 f5] 64)).heap.size) := by have := hbx.gt.be.size; show _ ≤ _; rw [World.size_alloc]; omega
          have HNW : Hid (∀ j v, ([.int .i64 a5, .int .i64 b5, .string cc5, .slice d5 e5 f5] : List Value)[j]? = some v → (wc.alloc (.cells #[.int .i64 a5, .int .i64 b5, .string cc5, .slice d5 e5 f5] 64)).cell? ((⟨wc.heap.size, 0, none⟩ : Addr).add j) = some v) := fun j v hv => by
            rw [Addr.add_lit, Nat.zero_add, World.cell?_alloc_new]
            simpa using hv
          have H1C : Hid (∀ v ∈ ([.int .i64 a5, .int .i64 b5, .string cc5, .slice d5 e5 f5] : List Value), v.oneCell' = true) := by
            intro v hv
            simp at hv
            rcases hv with rfl | rfl | rfl | rfl <;> rfl
          have HFIN : Hid (∀ v' w', w'.ownsRow W0.heap.size 64 4 v' (m + 1) (xs ++ [.int .i64 a5, .int .i64 b5, .string cc5, .slice d5 e5 f5]) → (wc.alloc (.cells #[.int .i64 a5, .int .i64 b5, .string cc5, .slice d5 e5 f5] 64)).grownBy w' u.ownBlock → (v'.ownBlock = u.ownBlock ∨ v'.ownBlock = some (wc.alloc (.cells #[.int .i64 a5, .int .i64 b5, .string cc5, .slice d5 e5 f5] 64)).heap.size) → GT W0 w' (tms G.H (R.take (m + 1))) v' (xs ++ [.int .i64 a5, .int .i64 b5, .string cc5, .slice d5 e5 f5])) := fun v' w' h1 h2 h3 => by
            rw [HTL.out]
            exact HBX.out.gt.more (B := wr.heap.size) HGT.out.be.size HUB.out HBX.out.rp (by rw [HLEN.out]; exact h1) h2 h3
          clear hbx q0 q0a q qa nX nG
          go_wp2_with (at_builtin; refine wpList_append_own_at _ rfl _ _ 39 rfl W0.heap.size 64 i0 (.agg #[.int .i64 0, .int .i64 0, .string ⟨#[]⟩, .slice none 0 0]) 4 56 underlying24 HI.out.1 HI.out.2.1 HI.out.2.2.1 HI.out.2.2.2 rfl (by decide) u m xs rfl (HO.out.alloc _) ⟨wc.heap.size, 0, none⟩ 1 1 [.int .i64 a5, .int .i64 b5, .string cc5, .slice d5 e5 f5] rfl rfl HNW.out H1C.out C3.out C4.out C5.out ?_; intro v2 w2 hown2 hgr2 hnn2 hat2; have HG2 : Hid (GT W0 w2 (tms G.H (R.take (m + 1))) v2 (xs ++ [.int .i64 a5, .int .i64 b5, .string cc5, .slice d5 e5 f5])) := HFIN.out v2 w2 hown2 hgr2 hat2; clear hown2 hgr2 hnn2 hat2)
          go_roundw
          case rel => exact ⟨m + 1, _, _, by omega, by go_num, rfl, HE.out, HG2.out⟩
          case measure => simp [intOf]; omega
    · have HE : Hid (allB G.H R = true) := by
        show _ = _
        unfold allB
        rw [List.all_eq_true]
        exact fun x hx => HALL.out x (by rw [List.take_of_length_le (by omega)]; exact hx)
      have em : m = R.length := by omega
      have hg := HGT.out
      rw [em, List.take_length] at hg
      obtain ⟨ao, cap, hv, h1, h2, h3⟩ := hg.list
      rw [tms_len] at h1 hv
      subst hv
      have HF : Hid (R.length ≤ cap ∧ cap ≤ maxLen ∧ RpL (fun b => w.heap.size ≤ b) wr (tms G.H R) ao) := ⟨h1, h2, (Moves.sub fun b hb => by have := HZ0.out; have hb' : W0.heap.size ≤ b := hb; show w.heap.size ≤ b; omega).repL _ _ h3⟩
      clear hg h1 h2 h3
      go_wp2_with fail
      exact bodyPost_ret (v := .tuple #[.slice ao R.length cap, .bool true]) (by simp [results, Try.results30, go_sem]) rfl ⟨HBW.out, .inl ⟨HE.out, ao, cap, rfl, HF.out⟩⟩
end Go.Proofs.Ytjjmikfbongccaa.Gn
